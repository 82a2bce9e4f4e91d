/- The contracts of Walk, Path, and Mark without a memory. -/
import Derived.Test.YtpcpcgbejinlmaaMk15
import Derived.Test.YtpcpcgbejinlmaaMk13
import Derived.Test.YtpcpcgbejinlmaaMk01
import Derived.Test.YtpcpcgbejinlmaaProg
import Derived.Test.YtpcpcgbejinlmaaMk02
import Derived.Maps.AppendAt
import Derived.Deep.AppendLies
import Derived.OwnWalk
import Derived.Deep.OwnRows
namespace Go.Proofs.Ytpcpcgbejinlmaa
open Go.RowKit
section
variable {w : World} {a b n : Nat} {T : TypeId} {ws : List Int}
theorem follow_any (h : RamAt w a b T n ws) (root p : Int) : Calls Try.prog 23 #[.pointer (some ⟨a, 0, none⟩), .int .i64 root, .int .i64 p] w (Trail w (fol ws root p) p) := by
  unfold fol
  by_cases hi : inT n root 0 = true
  · by_cases hp : 0 ≤ p ∧ p ≤ 4095
    · rw [if_pos ⟨by rw [h.len]; exact hi, hp⟩]
      exact follow_in h root p hi hp
    · rw [if_neg (fun k => hp k.2)]
      exact follow_page h root p hi hp
  · simp only [Bool.not_eq_true] at hi
    rw [if_neg (fun k => by rw [h.len, hi] at k; cases k.1)]
    exact follow_root h root p hi
end
def leafE (r : Fd) (p : Int) : Value := .agg #[.int .i64 (lfF r), .bool (lfB r 0), .bool (lfB r 1), .bool (lfB r 7), .bool (lfB r 9), .bool (lfB r 5), .bool (lfB r 6), .int .i64 (lfV r), .int .i64 (lfP r p)]
theorem below_leaf {B g : Nat} {w w' : World} {x0 x1 x2 x3 x4 x5 x6 x7 x8 : Value} (h : Below B w w') (hg : B ≤ g) :
    Below B w (((((((((w'.setCell ⟨g, 0, none⟩ x0).setCell ⟨g, 1, none⟩ x1).setCell ⟨g, 2, none⟩ x2).setCell ⟨g, 3, none⟩ x3).setCell ⟨g, 4, none⟩ x4).setCell ⟨g, 5, none⟩ x5).setCell ⟨g, 6, none⟩ x6).setCell ⟨g, 7, none⟩ x7).setCell ⟨g, 8, none⟩ x8) :=
  ((((((((h.setCell hg _).setCell hg _).setCell hg _).setCell hg _).setCell hg _).setCell hg _).setCell hg _).setCell hg _).setCell hg _
def WalkAns (w : World) (r : Fd) (p : Int) (e : Ending) (w' : World) : Prop := e = .returned (.tuple #[leafE r p, .int .i64 r.er]) ∧ Below w.heap.size w w'
def PathNew (w : World) (r : Fd) (e : Ending) (w' : World) : Prop := ∃ A m c, e = .returned (.tuple #[.slice A m c, .int .i64 r.er]) ∧ IntsAt w' w'.heap.size A m r.ts ∧ Below w.heap.size w w' ∧ (∀ g, A = some g → w.heap.size ≤ g.block) ∧ m ≤ c
def PathAns (w : World) (r : Fd) (e : Ending) (w' : World) : Prop := ∃ A m c, e = .returned (.tuple #[.slice A m c, .int .i64 r.er]) ∧ IntsAt w' w'.heap.size A m r.ts ∧ Below w.heap.size w w'
set_option maxHeartbeats 1600000 in
theorem walk_of (w : World) (po : Option Addr) (root p : Int) (r : Fd) (hfol : ∀ w1, Below w.heap.size w w1 → Calls Try.prog 23 #[.pointer po, .int .i64 root, .int .i64 p] w1 (Trail w1 r p)) :
    Calls Try.prog 9 #[.pointer po, .int .i64 root, .int .i64 p] w (WalkAns w r p) := by
  have HF := Lib.hid hfol
  clear hfol
  go_enter Try.func9, Try.ntmps9
  go_wp2_with fail
  refine (HF.out _ ((Below.refl _ _).alloc (Nat.le_refl _) _)).mono ?_
  rintro e w2 ⟨A, m, c, rfl, -, hb, -⟩
  have r2 := (Row.new w 30 [.int .i64 0, .bool false, .bool false, .bool false, .bool false, .bool false, .bool false, .int .i64 0, .int .i64 0]).below hb (by simp)
  have B2 := (below_new w 30 [.int .i64 0, .bool false, .bool false, .bool false, .bool false, .bool false, .bool false, .int .i64 0, .int .i64 0]).trans (hb.mono (by simp))
  obtain ⟨f, ef⟩ : ∃ y, y = lfF r := ⟨_, rfl⟩
  obtain ⟨y0, ey0⟩ : ∃ y, y = lfB r 0 := ⟨_, rfl⟩
  obtain ⟨y1, ey1⟩ : ∃ y, y = lfB r 1 := ⟨_, rfl⟩
  obtain ⟨y7, ey7⟩ : ∃ y, y = lfB r 7 := ⟨_, rfl⟩
  obtain ⟨y9, ey9⟩ : ∃ y, y = lfB r 9 := ⟨_, rfl⟩
  obtain ⟨y5, ey5⟩ : ∃ y, y = lfB r 5 := ⟨_, rfl⟩
  obtain ⟨y6, ey6⟩ : ∃ y, y = lfB r 6 := ⟨_, rfl⟩
  obtain ⟨lv, elv⟩ : ∃ y, y = lfV r := ⟨_, rfl⟩
  obtain ⟨fr, efr⟩ : ∃ y, y = lfP r p := ⟨_, rfl⟩
  rw [← ef, ← ey0, ← ey1, ← ey7, ← ey9, ← ey5, ← ey6, ← elv, ← efr]
  have HE : Hid (leafE r p = .agg #[.int .i64 f, .bool y0, .bool y1, .bool y7, .bool y9, .bool y5, .bool y6, .int .i64 lv, .int .i64 fr]) := by
    show _ = _
    rw [ef, ey0, ey1, ey7, ey9, ey5, ey6, elv, efr]; rfl
  obtain ⟨w3, hw3⟩ : ∃ w3, w3 = w2.alloc (.cells #[.slice A m c, .int .i64 r.sl, .int .i64 f, .bool y0, .bool y1, .bool y7, .bool y9, .bool y5, .bool y6, .int .i64 lv, .int .i64 fr] 70) := ⟨_, rfl⟩
  have r3 : Row w3 w.heap.size 30 [.int .i64 0, .bool false, .bool false, .bool false, .bool false, .bool false, .bool false, .int .i64 0, .int .i64 0] := hw3 ▸ r2.alloc _
  have q3 : Row w3 w2.heap.size 70 [.slice A m c, .int .i64 r.sl, .int .i64 f, .bool y0, .bool y1, .bool y7, .bool y9, .bool y5, .bool y6, .int .i64 lv, .int .i64 fr] := hw3 ▸ Row.new w2 _ _
  have B3 : Hid (Below w.heap.size w w3) := hw3 ▸ B2.alloc B2.size _
  have hne : ¬ w.heap.size = w2.heap.size := Nat.ne_of_lt r2.lt
  have hne2 : ¬ w2.heap.size = w.heap.size := fun e => hne e.symm
  have HW := Lib.hid hw3
  have c0 : w3.cell? ⟨w.heap.size, 0, none⟩ = some (.int .i64 0) := r3.cell 0
  have c1 : w3.cell? ⟨w.heap.size, 1, none⟩ = some (.bool false) := r3.cell 1
  have c2 : w3.cell? ⟨w.heap.size, 2, none⟩ = some (.bool false) := r3.cell 2
  have c3 : w3.cell? ⟨w.heap.size, 3, none⟩ = some (.bool false) := r3.cell 3
  have c4 : w3.cell? ⟨w.heap.size, 4, none⟩ = some (.bool false) := r3.cell 4
  have c5 : w3.cell? ⟨w.heap.size, 5, none⟩ = some (.bool false) := r3.cell 5
  have c6 : w3.cell? ⟨w.heap.size, 6, none⟩ = some (.bool false) := r3.cell 6
  have c7 : w3.cell? ⟨w.heap.size, 7, none⟩ = some (.int .i64 0) := r3.cell 7
  have c8 : w3.cell? ⟨w.heap.size, 8, none⟩ = some (.int .i64 0) := r3.cell 8
  have cf : ∀ o, w3.frozen? ⟨w.heap.size, o, none⟩ = false := fun o => r3.frozen o
  have d2 : w3.cell? ⟨w2.heap.size, 2, none⟩ = some (.int .i64 f) := q3.cell 2
  have d3 : w3.cell? ⟨w2.heap.size, 3, none⟩ = some (.bool y0) := q3.cell 3
  have d4 : w3.cell? ⟨w2.heap.size, 4, none⟩ = some (.bool y1) := q3.cell 4
  have d5 : w3.cell? ⟨w2.heap.size, 5, none⟩ = some (.bool y7) := q3.cell 5
  have d6 : w3.cell? ⟨w2.heap.size, 6, none⟩ = some (.bool y9) := q3.cell 6
  have d7 : w3.cell? ⟨w2.heap.size, 7, none⟩ = some (.bool y5) := q3.cell 7
  have d8 : w3.cell? ⟨w2.heap.size, 8, none⟩ = some (.bool y6) := q3.cell 8
  have d9 : w3.cell? ⟨w2.heap.size, 9, none⟩ = some (.int .i64 lv) := q3.cell 9
  have d10 : w3.cell? ⟨w2.heap.size, 10, none⟩ = some (.int .i64 fr) := q3.cell 10
  clear hb B2 r2 hw3 r3 q3 HF ef ey0 ey1 ey7 ey9 ey5 ey6 elv efr
  go_upto_region 2 with (fail)
  rw [← HW.out]
  go_wp2_with fail
  exact bodyPost_ret (v := .tuple #[.agg #[.int .i64 f, .bool y0, .bool y1, .bool y7, .bool y9, .bool y5, .bool y6, .int .i64 lv, .int .i64 fr], .int .i64 r.er]) (by simp [results, Try.results9, go_sem, *]) rfl ⟨by rw [HE.out], below_leaf B3.out (Nat.le_refl _)⟩
theorem path_of (w : World) (po : Option Addr) (root p : Int) (r : Fd) (hfol : ∀ w1, Below w.heap.size w w1 → Calls Try.prog 23 #[.pointer po, .int .i64 root, .int .i64 p] w1 (Trail w1 r p)) :
    Calls Try.prog 47 #[.pointer po, .int .i64 root, .int .i64 p] w (PathNew w r) := by
  have HF := Lib.hid hfol
  clear hfol
  go_enter Try.func47, Try.ntmps47
  go_wp2_with fail
  refine (HF.out _ (Below.refl _ _)).mono ?_
  rintro e w2 ⟨A, m, c, rfl, hi, hb, hn⟩
  have HNW := Lib.hid hn
  clear hn
  have HI := Lib.hid hi
  have HB := Lib.hid hb
  clear hi hb HF
  go_wp2_with fail
  go_ret2
  exact ⟨A, m, c, rfl, HI.out.call (below_new _ _ _), HB.out.alloc HB.out.size _, HNW.out⟩
section
variable {w : World} {a b n : Nat} {T : TypeId} {ws : List Int}
theorem walk_any (h : RamAt w a b T n ws) (root p : Int) : Calls Try.prog 9 #[.pointer (some ⟨a, 0, none⟩), .int .i64 root, .int .i64 p] w (WalkAns w (fol ws root p) p) :=
  walk_of w _ root p _ fun _ hb => follow_any (h.below hb h.top.lt h.row.lt) root p
theorem path_new (h : RamAt w a b T n ws) (root p : Int) : Calls Try.prog 47 #[.pointer (some ⟨a, 0, none⟩), .int .i64 root, .int .i64 p] w (PathNew w (fol ws root p)) :=
  path_of w _ root p _ fun _ hb => follow_any (h.below hb h.top.lt h.row.lt) root p
end
end Go.Proofs.Ytpcpcgbejinlmaa
/- Leaves that are mapped, as the reference of package table lists them: plain facts, and how they lie in memory. -/
namespace Go.Proofs.Ytpcpcgbejinlmaa
open Go.RowKit
structure Mp where
  g : Int
  o : Int
  f : Int
  p : Bool
  w : Bool
  h : Bool
  k : Bool
  u : Bool
  d : Bool
def szO (o : Int) : Int := if o = 3 then 8 else if o = 6 then 64 else 1
structure MOk (m : Mp) : Prop where
  g0 : 0 ≤ m.g
  g1 : m.g ≤ 4095
  o : m.o = 0 ∨ m.o = 3 ∨ m.o = 6
  even : m.g % szO m.o = 0
  f0 : 0 ≤ m.f
  f1 : m.f + szO m.o ≤ 512
theorem szO_pos (o : Int) : 1 ≤ szO o ∧ szO o ≤ 64 := by unfold szO; split <;> (try split) <;> omega
def mcell (m : Mp) : List Value := [.int .i64 m.g, .int .i64 m.o, .int .i64 m.f, .bool m.p, .bool m.w, .bool m.h, .bool m.k, .bool m.u, .bool m.d]
def mcells : List Mp → List Value
  | [] => []
  | m :: r => mcell m ++ mcells r
theorem mcells_length (L : List Mp) : (mcells L).length = L.length * 9 := by
  induction L with
  | nil => rfl
  | cons m r ih => simp only [mcells, List.length_append, ih, List.length_cons, mcell, List.length_nil]; omega
theorem mcells_append (L M : List Mp) : mcells (L ++ M) = mcells L ++ mcells M := by
  induction L with
  | nil => rfl
  | cons m r ih => simp only [mcells, List.cons_append, ih, List.append_assoc]
theorem mcells_snoc (L : List Mp) (m : Mp) : mcells (L ++ [m]) = mcells L ++ mcell m := by rw [mcells_append]; simp [mcells]
theorem mcell_one (m : Mp) : ∀ u ∈ mcell m, u.oneCell' = true := by
  intro u hu; simp [mcell] at hu; rcases hu with rfl | rfl | rfl | rfl | rfl | rfl | rfl | rfl | rfl <;> rfl
theorem mcells_one (L : List Mp) : ∀ u ∈ mcells L, u.oneCell' = true := by
  induction L with
  | nil => intro u hu; cases hu
  | cons m r ih =>
    intro u hu
    simp only [mcells, List.mem_append] at hu
    rcases hu with hu | hu
    · exact mcell_one m u hu
    · exact ih u hu
theorem mcells_at : ∀ (L : List Mp) (j : Nat) (hj : j < L.length) (i : Nat), i < 9 → (mcells L)[j * 9 + i]? = (mcell L[j])[i]?
  | [], _, hj, _, _ => absurd hj (Nat.not_lt_zero _)
  | m :: r, 0, _, i, hi => by
    simp only [mcells, Nat.zero_mul, Nat.zero_add]
    rw [List.getElem?_append_left (by simp [mcell]; omega)]; rfl
  | m :: r, j + 1, hj, i, hi => by
    simp only [mcells]
    rw [List.getElem?_append_right (by simp [mcell]; omega), show (j + 1) * 9 + i - (mcell m).length = j * 9 + i by simp [mcell]; omega]
    have := mcells_at r j (by simpa using hj) i hi
    simpa using this
structure MpAt (w : World) (p : Addr) (m : Mp) : Prop where
  c0 : w.cell? p = some (.int .i64 m.g)
  c1 : w.cell? ⟨p.block, p.off + 1, none⟩ = some (.int .i64 m.o)
  c2 : w.cell? ⟨p.block, p.off + 2, none⟩ = some (.int .i64 m.f)
  c3 : w.cell? ⟨p.block, p.off + 3, none⟩ = some (.bool m.p)
  c4 : w.cell? ⟨p.block, p.off + 4, none⟩ = some (.bool m.w)
  c5 : w.cell? ⟨p.block, p.off + 5, none⟩ = some (.bool m.h)
  c6 : w.cell? ⟨p.block, p.off + 6, none⟩ = some (.bool m.k)
  c7 : w.cell? ⟨p.block, p.off + 7, none⟩ = some (.bool m.u)
  c8 : w.cell? ⟨p.block, p.off + 8, none⟩ = some (.bool m.d)
theorem add_offs (g j : Nat) (h : 0 < j) : (⟨g, 0, none⟩ : Addr).add j = ⟨g, j, none⟩ := by unfold Addr.add; rw [if_neg (by omega)]; simp
def Ms (w : World) (C : Nat) (v : Value) (L : List Mp) : Prop := w.ownsRow C 94 9 v L.length (mcells L)
theorem info_mapped : (Try.prog.info? 94).map (fun i => (i.zero, i.size, i.bytes)) = some (some (.agg #[.int .i64 0, .int .i64 0, .int .i64 0, .bool false, .bool false, .bool false, .bool false, .bool false, .bool false]), 9, 32) := by kernel_rfl
section
variable {w w' : World} {C : Nat} {v : Value} {L : List Mp}
theorem Ms.nil (w : World) (C : Nat) : Ms w C (.slice none 0 0) [] := World.ownsRow_nil _ _ _ _
theorem Ms.form (h : Ms w C v L) : ∃ A c, v = .slice A L.length c := own_form h
theorem Ms.call (h : Ms w C v L) (hb : Below w.heap.size w w') : Ms w' C v L := own_call h hb
theorem Ms.base {D : Nat} (h : Ms w C v L) (hD : D ≤ C) : Ms w D v L := ⟨h.1, by
  rcases h.2 with hn | ⟨g, cap, cur, e, hb, r⟩
  · exact Or.inl hn
  · exact Or.inr ⟨g, cap, cur, e, Nat.le_trans hD hb, r⟩⟩
theorem Ms.at_ {A : Option Addr} {c : Nat} (h : Ms w C (.slice A L.length c) L) (j : Nat) (hj : j < L.length) : ∃ a, A = some a ∧ a.block < w.heap.size ∧ C ≤ a.block ∧ MpAt w (a.add (j * 9)) L[j] := by
  obtain ⟨g, rfl⟩ : ∃ g, A = some ⟨g, 0, none⟩ := by
    rcases h.2 with ⟨_, h2⟩ | ⟨g, cap, cur, h1, _⟩
    · omega
    · injection h1 with h1; exact ⟨g, h1⟩
  have hlt := h.lt g rfl
  have k : ∀ i, i < 9 → w.cell? ⟨g, j * 9 + i, none⟩ = (mcell L[j])[i]? := fun i hi => by
    rw [← mcells_at L j hj i hi, ← h.cellAt (j * 9 + i) (by omega)]
  refine ⟨_, rfl, hlt.2, hlt.1, ?_⟩
  by_cases h0 : j = 0
  · subst h0
    exact ⟨k 0 (by omega), k 1 (by omega), k 2 (by omega), k 3 (by omega), k 4 (by omega), k 5 (by omega), k 6 (by omega), k 7 (by omega), k 8 (by omega)⟩
  · rw [add_offs g (j * 9) (by omega)]
    exact ⟨k 0 (by omega), k 1 (by omega), k 2 (by omega), k 3 (by omega), k 4 (by omega), k 5 (by omega), k 6 (by omega), k 7 (by omega), k 8 (by omega)⟩
theorem Ms.app (h : Ms w C v L) (hC : C ≤ w.heap.size) (hL : L.length ≤ 100000) (m : Mp) : ∃ A c w3,
    (Builtin.append_ #[53, 53] 53 #[v, .slice (some ⟨w.heap.size, 0, none⟩) 1 1]).run Try.prog (w.alloc (.cells (mcell m).toArray 94)) = .ok (.slice A (L.length + 1) c) w3 ∧
    Ms w3 C (.slice A (L.length + 1) c) (L ++ [m]) ∧ w.grownBy w3 v.ownBlock := by
  obtain ⟨i0, hi0, hz0, hz1, hz2⟩ := info_parts info_mapped
  have ho : (w.alloc (.cells (mcell m).toArray 94)).ownsRow C _ 9 v L.length (mcells L) := World.ownsRow.alloc h (.cells (mcell m).toArray 94)
  have hnew : ∀ (i : Nat) (u : Value), (mcell m)[i]? = some u → (w.alloc (.cells (mcell m).toArray 94)).cell? ((⟨w.heap.size, 0, none⟩ : Addr).add i) = some u := fun i u hu => by
    rw [add_zero_off, (Row.new w _ (mcell m)).cell]; exact hu
  obtain ⟨v1, W1, r1, o1, g1, -, t1⟩ := run_append_own_at (P := Try.prog) (w := w.alloc (.cells (mcell m).toArray 94)) C 53 53 94 i0 _ 9 32 Try.underlying53 hi0 hz0 hz1 hz2 rfl (by decide) v L.length _ ho ⟨w.heap.size, 0, none⟩ 1 1 (mcell m) rfl hnew (mcell_one m) (by unfold maxLen; omega) (by omega) (by simp; omega)
  obtain ⟨A, c, hv⟩ := own_form o1
  subst hv
  refine ⟨A, c, W1, r1, ?_, ?_⟩
  · unfold Ms
    rw [List.length_append, mcells_snoc]
    exact o1
  · have : w.grownBy (w.alloc (.cells (mcell m).toArray 94)) v.ownBlock := ⟨rfl, rfl, rfl, by simp, fun i hi _ => Below.heap_alloc w _ i hi⟩
    exact this.trans g1
end
end Go.Proofs.Ytpcpcgbejinlmaa
