/- The reference's copied, become. -/
import Derived.Test.YtodepfgfgphkbaaV4
namespace Go.Proofs.Ytodepfgfgphkbaa
open Go.RowKit
theorem own_made {P : Program} {α : Type} (E : Enc P α) (w : World) : E.Own w.heap.size (w.alloc (.cells #[] E.el)) (.slice (some ⟨w.heap.size, 0, none⟩) 0 0) [] :=
  World.ownsRow_made w #[] 0 (Nat.le_refl _) (Nat.zero_le _) (by rw [Nat.zero_mul]; rfl)
theorem own_src {P : Program} {α : Type} {E : Enc P α} {B : Nat} {w : World} {A : Option Addr} {n c : Nat} {L : List α} (h : E.Own B w (.slice A n c) L) {g : Nat} (hA : A = some ⟨g, 0, none⟩) : ∀ j u, (E.cells L)[j]? = some u → w.cell? ((⟨g, 0, none⟩ : Addr).add j) = some u := fun j u hu => by
  subst hA
  have hn : n = L.length := by obtain ⟨_, _, e⟩ := h.form; injection e
  subst hn
  obtain ⟨rest, r1, _⟩ := own_row h rfl
  rw [addr_add, r1.cell, List.getElem?_append_left (List.getElem?_eq_some_iff.1 hu).1]; exact hu
/-- A copy. -/
def CopiedX (P : Int → Pg) (w : World) (e : Ending) (w' : World) : Prop := ∃ xb vb, e = .returned (.pointer (some ⟨xb, 0, none⟩)) ∧ Px w.heap.size w' xb vb P ∧ Below w.heap.size w w'
section
variable {w w' : World} {B D xa xb : Nat} {v vb : Value} {P Q : Int → Pg}
set_option maxRecDepth 100000 in
set_option maxHeartbeats 2000000 in
theorem copied_is (h : Px B w xa v P) : Calls Try.prog 52 #[.pointer (some ⟨xa, 0, none⟩)] w (CopiedX P w) := by
  obtain ⟨L, hl, ho, hp⟩ := h.own
  obtain ⟨A, c, rfl⟩ := ho.form
  obtain ⟨g, rfl, -, -, -, -⟩ := ho.some_ (by omega)
  obtain ⟨W1, hW1⟩ : ∃ W1, W1 = w.alloc (.cells #[] 40) := ⟨_, rfl⟩
  have hb1 : Below w.heap.size w W1 := by rw [hW1]; exact below_new _ _
  have hm : EPg.Own w.heap.size W1 (.slice (some ⟨w.heap.size, 0, none⟩) 0 0) [] := by rw [hW1]; exact own_made EPg w
  obtain ⟨A2, c2, W2, r2, o2, g2, -⟩ := hm.app hb1.size ⟨g, 0, none⟩ c L (own_src (ho.call hb1) rfl) (by rw [List.length_nil]; omega)
  have r2' := r2 _ rfl
  rw [List.nil_append] at o2
  simp only [List.length_nil, Nat.zero_add] at r2' o2
  rw [hl] at r2' o2
  change (Builtin.append_ #[41, 41] 41 _).run Try.prog W1 = _ at r2'
  have hb2 : Below w.heap.size w W2 := hb1.grown g2 hb1.size (fun k e => by injection e with e; change w.heap.size = k at e; omega)
  have hc0 : W1.cell? ⟨xa, 0, none⟩ = some (.slice (some ⟨g, 0, none⟩) 4096 c) := by
    have := (h.call hb1).c0
    rw [hl] at this; exact this
  have HEND : Hid (CopiedX P w (.returned (.pointer (some ⟨W2.heap.size, 0, none⟩))) (W2.alloc (.cells #[.slice A2 4096 c2] 43))) := by
    refine ⟨W2.heap.size, .slice A2 4096 c2, rfl, ⟨Lrow.new W2 _ _, ⟨L, hl, o2.call (below_new _ _), hp⟩, h.ok, hb2.size, Nat.le_trans hb2.size (below_new W2 (.cells #[.slice A2 4096 c2] 43)).size⟩, hb2.alloc hb2.size _⟩
  rw [hW1] at r2' hc0
  clear h ho hp hm r2 o2 g2 hb1 hb2 hW1 hl
  go_enter Try.func52, Try.ntmps52
  go_wp2_with (at_builtin; refine wpList_append_run rfl _ _ 41 rfl _ _ rfl rfl r2' ?_)
  go_ret
  exact HEND.out
/-- What a call of the reference has done. -/
def DidP (B : Nat) (w : World) (xa : Nat) (Q : Int → Pg) (w' : World) : Prop := ∃ v', Px B w' xa v' Q ∧ Foot (fun k => k = xa) w w'
theorem DidP.pre {W : World} (h : Below W.heap.size W w) (d : DidP B w xa Q w') : DidP B W xa Q w' := by
  obtain ⟨v', h1, h2⟩ := d
  exact ⟨v', h1, (Foot.of_below (X := fun k => k = xa) h).trans h2 (fun _ hb _ => hb)⟩
/-- What becoming comes to. -/
def Became (B : Nat) (w : World) (xa : Nat) (P Q : Int → Pg) (e : Ending) (w' : World) : Prop := e = .returned (.int .i64 (if fullB Q = true then 13 else 0)) ∧ DidP B w xa (if fullB Q = true then P else Q) w'
set_option maxHeartbeats 2000000 in
theorem become_is (ha : Px B w xa v P) (hb : Px D w xb vb Q) (hD : B ≤ D) : Calls Try.prog 53 #[.pointer (some ⟨xa, 0, none⟩), .pointer (some ⟨xb, 0, none⟩)] w (Became B w xa P Q) := by
  have hall := xall_is hb
  obtain ⟨n, hn⟩ : ∃ n, n = (allA Q).length := ⟨_, rfl⟩
  unfold ToldA at hall
  rw [← hn] at hall
  have HA := Lib.hid ha
  have HB := Lib.hid hb
  have HN := Lib.hid hn
  clear hn ha hb
  go_enter Try.func53, Try.ntmps53
  go_wp2_with fail
  refine hall.mono ?_
  rintro e w1 ⟨A1, c1, rfl, -, hb1⟩
  have HB1 := Lib.hid hb1
  have ha1 := HA.out.call hb1
  have hbb := HB.out.call hb1
  by_cases hf : 64 < n
  · have hf' : (64 : Int) < n := by omega
    have HF : Hid (fullB Q = true) := by
      show _ = _
      unfold fullB; rw [← HN.out]; exact decide_eq_true hf
    clear hall hb1
    have HA1 := Lib.hid ha1
    clear ha1 hbb
    go_wp2
    go_ret
    unfold Became
    rw [if_pos HF.out, if_pos HF.out]
    exact ⟨rfl, v, HA1.out, Foot.of_below HB1.out⟩
  · have hf' : ¬ (64 : Int) < n := by omega
    have HF : Hid (¬ fullB Q = true) := by
      show ¬ _
      unfold fullB; rw [← HN.out, decide_eq_false hf]; decide
    have k0 := ha1.c0
    have k1 := hbb.c0
    have kf := ha1.top.frozen 0
    have HEND : Hid (DidP B w xa Q (w1.setCell ⟨xa, 0, none⟩ vb)) := by
      obtain ⟨L, hl, ho, hp⟩ := hbb.own
      refine ⟨vb, ⟨ha1.top.set_ 0 vb, ⟨L, hl, ?_, hp⟩, hbb.ok, ha1.lo, by simpa [World.setCell] using ha1.lw⟩, (Foot.of_below (X := fun k => k = xa) HB1.out).trans (Foot.grown (X := fun k => k = xa) (grown_set w1 xa 0 _) rfl) (fun _ h _ => h)⟩
      refine (ho.base hD).heap fun g e => ?_
      obtain ⟨vs, r, _⟩ := ho.block e
      exact Below.heap_setCell w1 _ _ g (r.apart ha1.top (by decide))
    obtain ⟨g, c, hv, _⟩ := hbb.form
    subst hv
    clear hall hb1 ha1 hbb
    go_wp2
    go_ret
    unfold Became
    rw [if_neg HF.out, if_neg HF.out]
    exact ⟨rfl, HEND.out⟩
end
end Go.Proofs.Ytodepfgfgphkbaa
