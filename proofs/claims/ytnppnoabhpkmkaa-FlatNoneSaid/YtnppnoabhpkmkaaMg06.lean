/- The reference's copied, become. -/
import Derived.Test.YtnppnoabhpkmkaaMg05
namespace Go.Proofs.Ytnppnoabhpkmkaa
open Go.RowKit
theorem own_made {P : Program} {α : Type} (E : Enc P α) (w : World) : E.Own w.heap.size (w.alloc (.cells #[] E.el)) (.slice (some ⟨w.heap.size, 0, none⟩) 0 0) [] :=
  World.ownsRow_made w #[] 0 (Nat.le_refl _) (Nat.zero_le _) (by rw [Nat.zero_mul]; rfl)
theorem own_src {P : Program} {α : Type} {E : Enc P α} {B : Nat} {w : World} {A : Option Addr} {n c : Nat} {L : List α} (h : E.Own B w (.slice A n c) L) {g : Nat} (hA : A = some ⟨g, 0, none⟩) : ∀ j u, (E.cells L)[j]? = some u → w.cell? ((⟨g, 0, none⟩ : Addr).add j) = some u := fun j u hu => by
  subst hA
  have hn : n = L.length := by obtain ⟨_, _, e⟩ := h.form; injection e
  subst hn
  obtain ⟨rest, r1, _⟩ := own_row h rfl
  rw [addr_add, r1.cell, List.getElem?_append_left (List.getElem?_eq_some_iff.1 hu).1]; exact hu
section
variable {w w' : World} {B D xa xb : Nat} {v vb : Value} {P Q : Int → Pg}
end
end Go.Proofs.Ytnppnoabhpkmkaa
/- Areas: what is told of a stretch, what is laid in its place; a copy of a list. -/
namespace Go.Proofs.Ytnppnoabhpkmkaa
open Go.RowKit
/-- A list of areas as an answer. -/
def ToldL (R : List Ar) (w : World) (e : Ending) (w' : World) : Prop := ∃ A c, e = .returned (.slice A R.length c) ∧ EAr.Own w.heap.size w' (.slice A R.length c) R ∧ Below w.heap.size w w'
theorem putter_is (tb : Nat) (w : World) : Calls Try.prog 70 #[.pointer (some ⟨tb, 0, none⟩)] w fun e w' =>
    e = .returned (.func (.func 77) #[] #[.pointer (some ⟨w.heap.size, 0, none⟩)]) ∧ w' = w.alloc (.cells #[.pointer (some ⟨tb, 0, none⟩)] 104) := by
  have hmf : ∀ (fn : Fn) (first cap : Array Value) (w : World), (Instr.makeFunc fn first cap).run Try.prog w = .ok (.func fn first cap) w := fun _ _ _ _ => rfl
  go_enter Try.func70, Try.ntmps70
  go_wp2
  go_ret
  exact ⟨rfl, rfl⟩
theorem tdX_new (w : World) : TdX w.heap.size ((w.alloc (.cells #[.slice none 0 0] 33)).alloc (.cells #[.pointer (some ⟨w.heap.size, 0, none⟩)] 104)) w.heap.size (w.heap.size + 1) (.slice none 0 0) [] ∧ Below w.heap.size w ((w.alloc (.cells #[.slice none 0 0] 33)).alloc (.cells #[.pointer (some ⟨w.heap.size, 0, none⟩)] 104)) := by
  have h1 := Lrow.new w 33 [.slice none 0 0]
  have h2 := Lrow.new (w.alloc (.cells #[.slice none 0 0] 33)) 104 [.pointer (some ⟨w.heap.size, 0, none⟩)]
  rw [World.size_alloc] at h2
  exact ⟨⟨h1.alloc _, h2, ⟨rfl, Or.inl ⟨rfl, rfl⟩⟩, Nat.le_refl _, by simp; omega⟩, ((Below.refl _ _).alloc (Nat.le_refl _) _).alloc (by simp) _⟩
section
variable {B c : Nat} {w : World} {A : Option Addr} {l : List Ar}
set_option maxRecDepth 100000 in
theorem pieces_pr (h : EAr.Own B w (.slice A l.length c) l) (hl : ∀ x ∈ l, ArS x) (h4 : l.length ≤ 4096) {a n : Nat} (hn : a + n ≤ 4096) :
    Calls Try.prog 49 #[.slice A l.length c, .int .i64 a, .int .i64 n] w (ToldL (pieL l a n) w) := by
  obtain ⟨D, hD⟩ : ∃ D, D = w.heap.size := ⟨_, rfl⟩
  obtain ⟨W1, hW1⟩ : ∃ W1, W1 = w.alloc (.cells #[.slice none 0 0] 33) := ⟨_, rfl⟩
  obtain ⟨hx, hb⟩ := tdX_new w
  have hpt := putter_is D W1
  have hz : W1.heap.size = D + 1 := by rw [hW1, hD, World.size_alloc]
  rw [← hW1, ← hD] at hx hb
  have hs := (LsD.of h (D := D) (by omega)).below hb
  have hpu := putIt_is (c := c) (u := a) (t := a + n) hx hs hl (fun x hx => by cases hx) (by simp; omega) (by omega) (by omega) (by omega) (by omega)
  rw [hz] at hpt
  have hw1 : IntKind.i64.wrap ((a : Int) + n) = (a : Int) + n := IntWalk.i64_in _ (by omega)
  have HD := Lib.hid (And.intro hW1 hD)
  have HB := Lib.hid hb
  clear h hl hx hb hs hD hW1 hz
  go_enter Try.func49, Try.ntmps49
  go_wp2_with fail
  rw [← HD.out.1, ← HD.out.2]
  refine hpt.mono ?_
  rintro e w2 ⟨rfl, rfl⟩
  clear hpt
  go_wp2_with fail
  refine hpu.mono ?_
  rintro e w3 ⟨rfl, v', hx3, hb3⟩
  obtain ⟨A', c', rfl⟩ := hx3.own.form
  have t0 : w3.cell? ⟨D, 0, none⟩ = some (.slice A' (putL a (a + n) [] l).length c') := hx3.top.cell 0
  have HO := Lib.hid hx3.own
  have HB3 := Lib.hid (HB.out.trans hb3)
  clear hpu hx3 hb3
  go_wp2_with fail
  go_ret
  exact ⟨A', c', rfl, by rw [← HD.out.2]; exact HO.out, by rw [← HD.out.2]; exact HB3.out⟩
set_option maxRecDepth 100000 in
set_option maxHeartbeats 1000000 in
theorem laid_pr (h : EAr.Own B w (.slice A l.length c) l) (hl : ∀ x ∈ l, ArS x) (h4 : l.length ≤ 4096) {Ao : Option Addr} {co : Nat} {o : List Ar} (ho : LsD w.heap.size w Ao o) (hol : ∀ x ∈ o, ArS x) (ho4 : o.length ≤ 4096) {a n : Nat} (hn : a + n ≤ 4096) :
    Calls Try.prog 51 #[.slice A l.length c, .int .i64 a, .int .i64 n, .slice Ao o.length co] w (ToldL (laiL l a n o) w) := by
  obtain ⟨D, hD⟩ : ∃ D, D = w.heap.size := ⟨_, rfl⟩
  obtain ⟨W1, hW1⟩ : ∃ W1, W1 = w.alloc (.cells #[.slice none 0 0] 33) := ⟨_, rfl⟩
  obtain ⟨hx, hb⟩ := tdX_new w
  have hpt := putter_is D W1
  have hz : W1.heap.size = D + 1 := by rw [hW1, hD, World.size_alloc]
  rw [← hW1, ← hD] at hx hb
  rw [← hD] at ho
  have hs0 := LsD.of h (D := D) (by omega)
  have hs := hs0.below hb
  have hpu := putIt_is (c := c) (u := 0) (t := a) hx hs hl (fun x hx => by cases hx) (by simp; omega) (by omega) (by omega) (by omega) (by omega)
  obtain ⟨b1, m1⟩ := putL_b (u := 0) (t := a) (by omega) (by omega) (by omega) (by omega) l [] hl (fun x hx => by cases hx)
  obtain ⟨T1, hT1⟩ : ∃ T1, T1 = putL 0 a [] l := ⟨_, rfl⟩
  rw [← hT1] at hpu b1 m1
  obtain ⟨b2, m2⟩ := putL_b (u := a) (t := a + n) (by omega) (by omega) (by omega) (by omega) o T1 hol b1
  obtain ⟨T2, hT2⟩ : ∃ T2, T2 = putL a (a + n) T1 o := ⟨_, rfl⟩
  rw [← hT2] at b2 m2
  obtain ⟨R, hR⟩ : ∃ R, R = putL (a + n) 4096 T2 l := ⟨_, rfl⟩
  have hRl : laiL l a n o = R := by unfold laiL; rw [← hT1, ← hT2, ← hR]
  rw [hRl]
  simp only [List.length_nil, Nat.zero_add] at m1
  rw [hz] at hpt
  have hw1 : IntKind.i64.wrap ((a : Int) + n) = (a : Int) + n := IntWalk.i64_in _ (by omega)
  have HD := Lib.hid (And.intro hW1 hD)
  have HB := Lib.hid hb
  have H2 : Hid (∀ w2 v2, TdX D w2 D (D + 1) v2 T1 → Below D w w2 → Calls Try.prog 77 #[.slice Ao o.length co, .int .i64 a, .int .i64 ((a : Int) + n), .pointer (some ⟨D + 1, 0, none⟩)] w2 (Puts D w2 D (D + 1) T2)) := fun w2 v2 hx2 hb2 => by
    rw [hT2]
    exact putIt_is (c := co) (u := a) (t := a + n) hx2 (ho.below hb2) hol b1 (by omega) (by omega) (by omega) (by omega) (by omega)
  have H3 : Hid (∀ w2 v2, TdX D w2 D (D + 1) v2 T2 → Below D w w2 → Calls Try.prog 77 #[.slice A l.length c, .int .i64 ((a : Int) + n), .int .i64 4096, .pointer (some ⟨D + 1, 0, none⟩)] w2 (Puts D w2 D (D + 1) R)) := fun w2 v2 hx2 hb2 => by
    rw [hR]
    exact putIt_is (c := c) (u := a + n) (t := 4096) hx2 (hs0.below hb2) hl b2 (by omega) (by omega) (by omega) (by omega) (by omega)
  clear h hl hx hb hs hD hW1 hz hs0 hol b1 b2 m1 m2 hT1 hT2 hR hRl ho
  go_enter Try.func51, Try.ntmps51
  go_wp2_with fail
  rw [← HD.out.1, ← HD.out.2]
  refine hpt.mono ?_
  rintro e w2 ⟨rfl, rfl⟩
  clear hpt
  go_wp2_with fail
  refine hpu.mono ?_
  rintro e w3 ⟨rfl, v3, hx3, hb3⟩
  have hb3' := HB.out.trans hb3
  have h2 := H2.out w3 v3 hx3 hb3'
  have HB3 := Lib.hid hb3'
  clear hpu hx3 hb3 hb3'
  go_wp2_with fail
  refine h2.mono ?_
  rintro e w4 ⟨rfl, v4, hx4, hb4⟩
  have hb4' := HB3.out.trans hb4
  have h3 := H3.out w4 v4 hx4 hb4'
  have HB4 := Lib.hid hb4'
  clear h2 hx4 hb4 hb4'
  go_wp2_with fail
  refine h3.mono ?_
  rintro e w5 ⟨rfl, v5, hx5, hb5⟩
  obtain ⟨A', c', rfl⟩ := hx5.own.form
  have t0 : w5.cell? ⟨D, 0, none⟩ = some (.slice A' R.length c') := hx5.top.cell 0
  have HO := Lib.hid hx5.own
  have HB5 := Lib.hid (HB4.out.trans hb5)
  clear h3 hx5 hb5
  go_wp2_with fail
  go_ret
  exact ⟨A', c', rfl, by rw [← HD.out.2]; exact HO.out, by rw [← HD.out.2]; exact HB5.out⟩
set_option maxHeartbeats 1000000 in
theorem clone_is (h : EAr.Own B w (.slice A l.length c) l) (h4 : l.length ≤ 90000) : Calls Try.prog 28 #[.slice A l.length c] w (ToldL l w) := by
  have q := fun w a n c n' c' => Lib.run_eql_slice_nil (P := Try.prog) w 33 60 a n c n' c' EAr.und
  cases A with
  | none =>
    have h0 : l = [] := by
      rcases h.2 with ⟨h1, h2⟩ | ⟨g, cap, cur, h1, _⟩
      · exact List.eq_nil_of_length_eq_zero h2
      · cases h1
    subst h0
    clear h h4
    go_enter Try.func28, Try.ntmps28
    go_wp2
    go_ret
    exact ⟨none, 0, rfl, ⟨rfl, Or.inl ⟨rfl, rfl⟩⟩, Below.refl _ _⟩
  | some a =>
    obtain ⟨W1, hW1⟩ : ∃ W1, W1 = w.alloc (.cells #[] 60) := ⟨_, rfl⟩
    have hb1 : Below w.heap.size w W1 := by rw [hW1]; exact below_new _ _
    have hm : EAr.Own w.heap.size W1 (.slice (some ⟨w.heap.size, 0, none⟩) 0 0) [] := by rw [hW1]; exact own_made EAr w
    obtain ⟨g, hg⟩ : ∃ g, a = ⟨g, 0, none⟩ := by
      rcases h.2 with ⟨h1, h2⟩ | ⟨g, cap, cur, h1, _⟩
      · cases h1
      · injection h1 with h1; injection h1 with h1; exact ⟨g, h1⟩
    subst hg
    obtain ⟨A2, c2, W2, r2, o2, g2, -⟩ := hm.app hb1.size ⟨g, 0, none⟩ c l (own_src (h.call hb1) rfl) (by rw [List.length_nil]; omega)
    have r2' := r2 _ rfl
    rw [List.nil_append] at o2
    simp only [List.length_nil, Nat.zero_add] at r2' o2
    change (Builtin.append_ #[33, 33] 33 _).run Try.prog W1 = _ at r2'
    have hb2 : Below w.heap.size w W2 := hb1.grown g2 hb1.size (fun k e => by injection e with e; change w.heap.size = k at e; omega)
    have HB := Lib.hid hb2
    have HC := Lib.hid o2
    rw [hW1] at r2'
    clear hm hb1 hb2 o2 g2 r2 h h4 hW1
    go_enter Try.func28, Try.ntmps28
    go_wp2_with (at_builtin; refine wpList_append_run rfl _ _ 33 rfl (.slice (some ⟨w.heap.size, 0, none⟩) 0 0) (.slice (some ⟨g, 0, none⟩) l.length c) rfl rfl r2' ?_)
    go_ret
    exact ⟨A2, c2, rfl, HC.out, HB.out⟩
end
end Go.Proofs.Ytnppnoabhpkmkaa
