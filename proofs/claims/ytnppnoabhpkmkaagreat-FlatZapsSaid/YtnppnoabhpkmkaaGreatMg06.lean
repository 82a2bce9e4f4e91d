/- The reference's copied, become. -/
import Derived.Test.YtnppnoabhpkmkaaGreatMg05
namespace Go.Proofs.YtnppnoabhpkmkaaGreat
open Go.RowKit
theorem own_made {P : Program} {α : Type} (E : Enc P α) (w : World) : E.Own w.heap.size (w.alloc (.cells #[] E.el)) (.slice (some ⟨w.heap.size, 0, none⟩) 0 0) [] :=
  World.ownsRow_made w #[] 0 (Nat.le_refl _) (Nat.zero_le _) (by rw [Nat.zero_mul]; rfl)
theorem own_src {P : Program} {α : Type} {E : Enc P α} {B : Nat} {w : World} {A : Option Addr} {n c : Nat} {L : List α} (h : E.Own B w (.slice A n c) L) {g : Nat} (hA : A = some ⟨g, 0, none⟩) : ∀ j u, (E.cells L)[j]? = some u → w.cell? ((⟨g, 0, none⟩ : Addr).add j) = some u := fun j u hu => by
  subst hA
  have hn : n = L.length := by obtain ⟨_, _, e⟩ := h.form; injection e
  subst hn
  obtain ⟨rest, r1, _⟩ := own_row h rfl
  rw [addr_add, r1.cell, List.getElem?_append_left (List.getElem?_eq_some_iff.1 hu).1]; exact hu
/-- A copy. -/
def CopiedX (P : Int → Pg) (w : World) (e : Ending) (w' : World) : Prop := ∃ xb vb, e = .returned (.pointer (some ⟨xb, 0, none⟩)) ∧ Px w.heap.size w' xb vb P ∧ Below w.heap.size w w'
section
variable {w w' : World} {B D xa xb : Nat} {v vb : Value} {P Q : Int → Pg}
set_option maxRecDepth 100000 in
set_option maxHeartbeats 2000000 in
theorem copied_is (h : Px B w xa v P) : Calls Tryz.prog 53 #[.pointer (some ⟨xa, 0, none⟩)] w (CopiedX P w) := by
  obtain ⟨L, hl, ho, hp⟩ := h.own
  obtain ⟨A, c, rfl⟩ := ho.form
  obtain ⟨g, rfl, -, -, -, -⟩ := ho.some_ (by omega)
  obtain ⟨W1, hW1⟩ : ∃ W1, W1 = w.alloc (.cells #[] 45) := ⟨_, rfl⟩
  have hb1 : Below w.heap.size w W1 := by rw [hW1]; exact below_new _ _
  have hm : EPg.Own w.heap.size W1 (.slice (some ⟨w.heap.size, 0, none⟩) 0 0) [] := by rw [hW1]; exact own_made EPg w
  obtain ⟨A2, c2, W2, r2, o2, g2, -⟩ := hm.app hb1.size ⟨g, 0, none⟩ c L (own_src (ho.call hb1) rfl) (by rw [List.length_nil]; omega)
  have r2' := r2 _ rfl
  rw [List.nil_append] at o2
  simp only [List.length_nil, Nat.zero_add] at r2' o2
  rw [hl] at r2' o2
  change (Builtin.append_ #[46, 46] 46 _).run Tryz.prog W1 = _ at r2'
  have hb2 : Below w.heap.size w W2 := hb1.grown g2 hb1.size (fun k e => by injection e with e; change w.heap.size = k at e; omega)
  have hc0 : W1.cell? ⟨xa, 0, none⟩ = some (.slice (some ⟨g, 0, none⟩) 4096 c) := by
    have := (h.call hb1).c0
    rw [hl] at this; exact this
  have HEND : Hid (CopiedX P w (.returned (.pointer (some ⟨W2.heap.size, 0, none⟩))) (W2.alloc (.cells #[.slice A2 4096 c2] 48))) := by
    refine ⟨W2.heap.size, .slice A2 4096 c2, rfl, ⟨Lrow.new W2 _ _, ⟨L, hl, o2.call (below_new _ _), hp⟩, h.ok, hb2.size, Nat.le_trans hb2.size (below_new W2 (.cells #[.slice A2 4096 c2] 48)).size⟩, hb2.alloc hb2.size _⟩
  rw [hW1] at r2' hc0
  clear h ho hp hm r2 o2 g2 hb1 hb2 hW1 hl
  go_enter Tryz.func53, Tryz.ntmps53
  go_wp2_with (at_builtin; refine wpList_append_run rfl _ _ 46 rfl _ _ rfl rfl r2' ?_)
  go_ret
  exact HEND.out
/-- What a call of the reference has done. -/
def DidP (B : Nat) (w : World) (xa : Nat) (Q : Int → Pg) (w' : World) : Prop := ∃ v', Px B w' xa v' Q ∧ Foot (fun k => k = xa) w w'
theorem DidP.pre {W : World} (h : Below W.heap.size W w) (d : DidP B w xa Q w') : DidP B W xa Q w' := by
  obtain ⟨v', h1, h2⟩ := d
  exact ⟨v', h1, (Foot.of_below (X := fun k => k = xa) h).trans h2 (fun _ hb _ => hb)⟩
/-- What becoming comes to. -/
def Became (B : Nat) (w : World) (xa : Nat) (P Q : Int → Pg) (e : Ending) (w' : World) : Prop := e = .returned (.int .i64 (if fullB Q = true then 13 else 0)) ∧ DidP B w xa (if fullB Q = true then P else Q) w'
set_option maxHeartbeats 2000000 in
theorem become_is (ha : Px B w xa v P) (hb : Px D w xb vb Q) (hD : B ≤ D) : Calls Tryz.prog 81 #[.pointer (some ⟨xa, 0, none⟩), .pointer (some ⟨xb, 0, none⟩)] w (Became B w xa P Q) := by
  have hall := xall_is hb
  obtain ⟨n, hn⟩ : ∃ n, n = (allA Q).length := ⟨_, rfl⟩
  unfold ToldA at hall
  rw [← hn] at hall
  have HA := Lib.hid ha
  have HB := Lib.hid hb
  have HN := Lib.hid hn
  clear hn ha hb
  go_enter Tryz.func81, Tryz.ntmps81
  go_wp2_with fail
  refine hall.mono ?_
  rintro e w1 ⟨A1, c1, rfl, -, hb1⟩
  have HB1 := Lib.hid hb1
  have ha1 := HA.out.call hb1
  have hbb := HB.out.call hb1
  by_cases hf : 64 < n
  · have hf' : (64 : Int) < n := by omega
    have HF : Hid (fullB Q = true) := by
      show _ = _
      unfold fullB; rw [← HN.out]; exact decide_eq_true hf
    clear hall hb1
    have HA1 := Lib.hid ha1
    clear ha1 hbb
    go_wp2
    go_ret
    unfold Became
    rw [if_pos HF.out, if_pos HF.out]
    exact ⟨rfl, v, HA1.out, Foot.of_below HB1.out⟩
  · have hf' : ¬ (64 : Int) < n := by omega
    have HF : Hid (¬ fullB Q = true) := by
      show ¬ _
      unfold fullB; rw [← HN.out, decide_eq_false hf]; decide
    have k0 := ha1.c0
    have k1 := hbb.c0
    have kf := ha1.top.frozen 0
    have HEND : Hid (DidP B w xa Q (w1.setCell ⟨xa, 0, none⟩ vb)) := by
      obtain ⟨L, hl, ho, hp⟩ := hbb.own
      refine ⟨vb, ⟨ha1.top.set_ 0 vb, ⟨L, hl, ?_, hp⟩, hbb.ok, ha1.lo, by simpa [World.setCell] using ha1.lw⟩, (Foot.of_below (X := fun k => k = xa) HB1.out).trans (Foot.grown (X := fun k => k = xa) (grown_set w1 xa 0 _) rfl) (fun _ h _ => h)⟩
      refine (ho.base hD).heap fun g e => ?_
      obtain ⟨vs, r, _⟩ := ho.block e
      exact Below.heap_setCell w1 _ _ g (r.apart ha1.top (by decide))
    obtain ⟨g, c, hv, _⟩ := hbb.form
    subst hv
    clear hall hb1 ha1 hbb
    go_wp2
    go_ret
    unfold Became
    rw [if_neg HF.out, if_neg HF.out]
    exact ⟨rfl, HEND.out⟩
end
end Go.Proofs.YtnppnoabhpkmkaaGreat
/- Areas: what is told of a stretch, what is laid in its place; a copy of a list. -/
namespace Go.Proofs.YtnppnoabhpkmkaaGreat
open Go.RowKit
/-- A list of areas as an answer. -/
def ToldL (R : List Ar) (w : World) (e : Ending) (w' : World) : Prop := ∃ A c, e = .returned (.slice A R.length c) ∧ EAr.Own w.heap.size w' (.slice A R.length c) R ∧ Below w.heap.size w w'
theorem putter_is (tb : Nat) (w : World) : Calls Tryz.prog 112 #[.pointer (some ⟨tb, 0, none⟩)] w fun e w' =>
    e = .returned (.func (.func 119) #[] #[.pointer (some ⟨w.heap.size, 0, none⟩)]) ∧ w' = w.alloc (.cells #[.pointer (some ⟨tb, 0, none⟩)] 138) := by
  have hmf : ∀ (fn : Fn) (first cap : Array Value) (w : World), (Instr.makeFunc fn first cap).run Tryz.prog w = .ok (.func fn first cap) w := fun _ _ _ _ => rfl
  go_enter Tryz.func112, Tryz.ntmps112
  go_wp2
  go_ret
  exact ⟨rfl, rfl⟩
theorem tdX_new (w : World) : TdX w.heap.size ((w.alloc (.cells #[.slice none 0 0] 60)).alloc (.cells #[.pointer (some ⟨w.heap.size, 0, none⟩)] 138)) w.heap.size (w.heap.size + 1) (.slice none 0 0) [] ∧ Below w.heap.size w ((w.alloc (.cells #[.slice none 0 0] 60)).alloc (.cells #[.pointer (some ⟨w.heap.size, 0, none⟩)] 138)) := by
  have h1 := Lrow.new w 60 [.slice none 0 0]
  have h2 := Lrow.new (w.alloc (.cells #[.slice none 0 0] 60)) 138 [.pointer (some ⟨w.heap.size, 0, none⟩)]
  rw [World.size_alloc] at h2
  exact ⟨⟨h1.alloc _, h2, ⟨rfl, Or.inl ⟨rfl, rfl⟩⟩, Nat.le_refl _, by simp; omega⟩, ((Below.refl _ _).alloc (Nat.le_refl _) _).alloc (by simp) _⟩
section
variable {B c : Nat} {w : World} {A : Option Addr} {l : List Ar}
set_option maxRecDepth 100000 in
theorem pieces_pr (h : EAr.Own B w (.slice A l.length c) l) (hl : ∀ x ∈ l, ArS x) (h4 : l.length ≤ 4096) {a n : Nat} (hn : a + n ≤ 4096) :
    Calls Tryz.prog 88 #[.slice A l.length c, .int .i64 a, .int .i64 n] w (ToldL (pieL l a n) w) := by
  obtain ⟨D, hD⟩ : ∃ D, D = w.heap.size := ⟨_, rfl⟩
  obtain ⟨W1, hW1⟩ : ∃ W1, W1 = w.alloc (.cells #[.slice none 0 0] 60) := ⟨_, rfl⟩
  obtain ⟨hx, hb⟩ := tdX_new w
  have hpt := putter_is D W1
  have hz : W1.heap.size = D + 1 := by rw [hW1, hD, World.size_alloc]
  rw [← hW1, ← hD] at hx hb
  have hs := (LsD.of h (D := D) (by omega)).below hb
  have hpu := putIt_is (c := c) (u := a) (t := a + n) hx hs hl (fun x hx => by cases hx) (by simp; omega) (by omega) (by omega) (by omega) (by omega)
  rw [hz] at hpt
  have hw1 : IntKind.i64.wrap ((a : Int) + n) = (a : Int) + n := IntWalk.i64_in _ (by omega)
  have HD := Lib.hid (And.intro hW1 hD)
  have HB := Lib.hid hb
  clear h hl hx hb hs hD hW1 hz
  go_enter Tryz.func88, Tryz.ntmps88
  go_wp2_with fail
  rw [← HD.out.1, ← HD.out.2]
  refine hpt.mono ?_
  rintro e w2 ⟨rfl, rfl⟩
  clear hpt
  go_wp2_with fail
  refine hpu.mono ?_
  rintro e w3 ⟨rfl, v', hx3, hb3⟩
  obtain ⟨A', c', rfl⟩ := hx3.own.form
  have t0 : w3.cell? ⟨D, 0, none⟩ = some (.slice A' (putL a (a + n) [] l).length c') := hx3.top.cell 0
  have HO := Lib.hid hx3.own
  have HB3 := Lib.hid (HB.out.trans hb3)
  clear hpu hx3 hb3
  go_wp2_with fail
  go_ret
  exact ⟨A', c', rfl, by rw [← HD.out.2]; exact HO.out, by rw [← HD.out.2]; exact HB3.out⟩
set_option maxRecDepth 100000 in
set_option maxHeartbeats 1000000 in
theorem laid_pr (h : EAr.Own B w (.slice A l.length c) l) (hl : ∀ x ∈ l, ArS x) (h4 : l.length ≤ 4096) {Ao : Option Addr} {co : Nat} {o : List Ar} (ho : LsD w.heap.size w Ao o) (hol : ∀ x ∈ o, ArS x) (ho4 : o.length ≤ 4096) {a n : Nat} (hn : a + n ≤ 4096) :
    Calls Tryz.prog 90 #[.slice A l.length c, .int .i64 a, .int .i64 n, .slice Ao o.length co] w (ToldL (laiL l a n o) w) := by
  obtain ⟨D, hD⟩ : ∃ D, D = w.heap.size := ⟨_, rfl⟩
  obtain ⟨W1, hW1⟩ : ∃ W1, W1 = w.alloc (.cells #[.slice none 0 0] 60) := ⟨_, rfl⟩
  obtain ⟨hx, hb⟩ := tdX_new w
  have hpt := putter_is D W1
  have hz : W1.heap.size = D + 1 := by rw [hW1, hD, World.size_alloc]
  rw [← hW1, ← hD] at hx hb
  rw [← hD] at ho
  have hs0 := LsD.of h (D := D) (by omega)
  have hs := hs0.below hb
  have hpu := putIt_is (c := c) (u := 0) (t := a) hx hs hl (fun x hx => by cases hx) (by simp; omega) (by omega) (by omega) (by omega) (by omega)
  obtain ⟨b1, m1⟩ := putL_b (u := 0) (t := a) (by omega) (by omega) (by omega) (by omega) l [] hl (fun x hx => by cases hx)
  obtain ⟨T1, hT1⟩ : ∃ T1, T1 = putL 0 a [] l := ⟨_, rfl⟩
  rw [← hT1] at hpu b1 m1
  obtain ⟨b2, m2⟩ := putL_b (u := a) (t := a + n) (by omega) (by omega) (by omega) (by omega) o T1 hol b1
  obtain ⟨T2, hT2⟩ : ∃ T2, T2 = putL a (a + n) T1 o := ⟨_, rfl⟩
  rw [← hT2] at b2 m2
  obtain ⟨R, hR⟩ : ∃ R, R = putL (a + n) 4096 T2 l := ⟨_, rfl⟩
  have hRl : laiL l a n o = R := by unfold laiL; rw [← hT1, ← hT2, ← hR]
  rw [hRl]
  simp only [List.length_nil, Nat.zero_add] at m1
  rw [hz] at hpt
  have hw1 : IntKind.i64.wrap ((a : Int) + n) = (a : Int) + n := IntWalk.i64_in _ (by omega)
  have HD := Lib.hid (And.intro hW1 hD)
  have HB := Lib.hid hb
  have H2 : Hid (∀ w2 v2, TdX D w2 D (D + 1) v2 T1 → Below D w w2 → Calls Tryz.prog 119 #[.slice Ao o.length co, .int .i64 a, .int .i64 ((a : Int) + n), .pointer (some ⟨D + 1, 0, none⟩)] w2 (Puts D w2 D (D + 1) T2)) := fun w2 v2 hx2 hb2 => by
    rw [hT2]
    exact putIt_is (c := co) (u := a) (t := a + n) hx2 (ho.below hb2) hol b1 (by omega) (by omega) (by omega) (by omega) (by omega)
  have H3 : Hid (∀ w2 v2, TdX D w2 D (D + 1) v2 T2 → Below D w w2 → Calls Tryz.prog 119 #[.slice A l.length c, .int .i64 ((a : Int) + n), .int .i64 4096, .pointer (some ⟨D + 1, 0, none⟩)] w2 (Puts D w2 D (D + 1) R)) := fun w2 v2 hx2 hb2 => by
    rw [hR]
    exact putIt_is (c := c) (u := a + n) (t := 4096) hx2 (hs0.below hb2) hl b2 (by omega) (by omega) (by omega) (by omega) (by omega)
  clear h hl hx hb hs hD hW1 hz hs0 hol b1 b2 m1 m2 hT1 hT2 hR hRl ho
  go_enter Tryz.func90, Tryz.ntmps90
  go_wp2_with fail
  rw [← HD.out.1, ← HD.out.2]
  refine hpt.mono ?_
  rintro e w2 ⟨rfl, rfl⟩
  clear hpt
  go_wp2_with fail
  refine hpu.mono ?_
  rintro e w3 ⟨rfl, v3, hx3, hb3⟩
  have hb3' := HB.out.trans hb3
  have h2 := H2.out w3 v3 hx3 hb3'
  have HB3 := Lib.hid hb3'
  clear hpu hx3 hb3 hb3'
  go_wp2_with fail
  refine h2.mono ?_
  rintro e w4 ⟨rfl, v4, hx4, hb4⟩
  have hb4' := HB3.out.trans hb4
  have h3 := H3.out w4 v4 hx4 hb4'
  have HB4 := Lib.hid hb4'
  clear h2 hx4 hb4 hb4'
  go_wp2_with fail
  refine h3.mono ?_
  rintro e w5 ⟨rfl, v5, hx5, hb5⟩
  obtain ⟨A', c', rfl⟩ := hx5.own.form
  have t0 : w5.cell? ⟨D, 0, none⟩ = some (.slice A' R.length c') := hx5.top.cell 0
  have HO := Lib.hid hx5.own
  have HB5 := Lib.hid (HB4.out.trans hb5)
  clear h3 hx5 hb5
  go_wp2_with fail
  go_ret
  exact ⟨A', c', rfl, by rw [← HD.out.2]; exact HO.out, by rw [← HD.out.2]; exact HB5.out⟩
set_option maxHeartbeats 1000000 in
theorem clone_is (h : EAr.Own B w (.slice A l.length c) l) (h4 : l.length ≤ 90000) : Calls Tryz.prog 62 #[.slice A l.length c] w (ToldL l w) := by
  have q := fun w a n c n' c' => Lib.run_eql_slice_nil (P := Tryz.prog) w 60 93 a n c n' c' EAr.und
  cases A with
  | none =>
    have h0 : l = [] := by
      rcases h.2 with ⟨h1, h2⟩ | ⟨g, cap, cur, h1, _⟩
      · exact List.eq_nil_of_length_eq_zero h2
      · cases h1
    subst h0
    clear h h4
    go_enter Tryz.func62, Tryz.ntmps62
    go_wp2
    go_ret
    exact ⟨none, 0, rfl, ⟨rfl, Or.inl ⟨rfl, rfl⟩⟩, Below.refl _ _⟩
  | some a =>
    obtain ⟨W1, hW1⟩ : ∃ W1, W1 = w.alloc (.cells #[] 93) := ⟨_, rfl⟩
    have hb1 : Below w.heap.size w W1 := by rw [hW1]; exact below_new _ _
    have hm : EAr.Own w.heap.size W1 (.slice (some ⟨w.heap.size, 0, none⟩) 0 0) [] := by rw [hW1]; exact own_made EAr w
    obtain ⟨g, hg⟩ : ∃ g, a = ⟨g, 0, none⟩ := by
      rcases h.2 with ⟨h1, h2⟩ | ⟨g, cap, cur, h1, _⟩
      · cases h1
      · injection h1 with h1; injection h1 with h1; exact ⟨g, h1⟩
    subst hg
    obtain ⟨A2, c2, W2, r2, o2, g2, -⟩ := hm.app hb1.size ⟨g, 0, none⟩ c l (own_src (h.call hb1) rfl) (by rw [List.length_nil]; omega)
    have r2' := r2 _ rfl
    rw [List.nil_append] at o2
    simp only [List.length_nil, Nat.zero_add] at r2' o2
    change (Builtin.append_ #[60, 60] 60 _).run Tryz.prog W1 = _ at r2'
    have hb2 : Below w.heap.size w W2 := hb1.grown g2 hb1.size (fun k e => by injection e with e; change w.heap.size = k at e; omega)
    have HB := Lib.hid hb2
    have HC := Lib.hid o2
    rw [hW1] at r2'
    clear hm hb1 hb2 o2 g2 r2 h h4 hW1
    go_enter Tryz.func62, Tryz.ntmps62
    go_wp2_with (at_builtin; refine wpList_append_run rfl _ _ 60 rfl (.slice (some ⟨w.heap.size, 0, none⟩) 0 0) (.slice (some ⟨g, 0, none⟩) l.length c) rfl rfl r2' ?_)
    go_ret
    exact ⟨A2, c2, rfl, HC.out, HB.out⟩
end
end Go.Proofs.YtnppnoabhpkmkaaGreat
