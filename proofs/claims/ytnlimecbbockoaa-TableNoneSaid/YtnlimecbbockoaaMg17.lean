/- The contracts of Walk, Path, and Mark without a memory. -/
import Derived.Test.YtnlimecbbockoaaMg16
namespace Go.Proofs.Ytnlimecbbockoaa
open Go.RowKit
section
variable {w : World} {a b n : Nat} {T : TypeId} {ws : List Int}
theorem follow_any (h : RamAt w a b T n ws) (root p : Int) : Calls Try.prog 25 #[.pointer (some ⟨a, 0, none⟩), .int .i64 root, .int .i64 p] w (Trail w (fol ws root p) p) := by
  unfold fol
  by_cases hi : inT n root 0 = true
  · by_cases hp : 0 ≤ p ∧ p ≤ 4095
    · rw [if_pos ⟨by rw [h.len]; exact hi, hp⟩]
      exact follow_in h root p hi hp
    · rw [if_neg (fun k => hp k.2)]
      exact follow_page h root p hi hp
  · simp only [Bool.not_eq_true] at hi
    rw [if_neg (fun k => by rw [h.len, hi] at k; cases k.1)]
    exact follow_root h root p hi
end
/-- The leaf as a value. -/
def leafE (r : Fd) (p : Int) : Value := .agg #[.int .i64 (lfF r), .bool (lfB r 0), .bool (lfB r 1), .bool (lfB r 7), .bool (lfB r 9), .bool (lfB r 5), .bool (lfB r 6), .int .i64 (lfV r), .int .i64 (lfP r p)]
theorem below_leaf {B g : Nat} {w w' : World} {x0 x1 x2 x3 x4 x5 x6 x7 x8 : Value} (h : Below B w w') (hg : B ≤ g) :
    Below B w (((((((((w'.setCell ⟨g, 0, none⟩ x0).setCell ⟨g, 1, none⟩ x1).setCell ⟨g, 2, none⟩ x2).setCell ⟨g, 3, none⟩ x3).setCell ⟨g, 4, none⟩ x4).setCell ⟨g, 5, none⟩ x5).setCell ⟨g, 6, none⟩ x6).setCell ⟨g, 7, none⟩ x7).setCell ⟨g, 8, none⟩ x8) :=
  ((((((((h.setCell hg _).setCell hg _).setCell hg _).setCell hg _).setCell hg _).setCell hg _).setCell hg _).setCell hg _).setCell hg _
def WalkAns (w : World) (r : Fd) (p : Int) (e : Ending) (w' : World) : Prop := e = .returned (.tuple #[leafE r p, .int .i64 r.er]) ∧ Below w.heap.size w w'
def PathNew (w : World) (r : Fd) (e : Ending) (w' : World) : Prop := ∃ A m c, e = .returned (.tuple #[.slice A m c, .int .i64 r.er]) ∧ IntsAt w' w'.heap.size A m r.ts ∧ Below w.heap.size w w' ∧ (∀ g, A = some g → w.heap.size ≤ g.block) ∧ m ≤ c
def PathAns (w : World) (r : Fd) (e : Ending) (w' : World) : Prop := ∃ A m c, e = .returned (.tuple #[.slice A m c, .int .i64 r.er]) ∧ IntsAt w' w'.heap.size A m r.ts ∧ Below w.heap.size w w'
set_option maxHeartbeats 1600000 in
theorem walk_of (w : World) (po : Option Addr) (root p : Int) (r : Fd) (hfol : ∀ w1, Below w.heap.size w w1 → Calls Try.prog 25 #[.pointer po, .int .i64 root, .int .i64 p] w1 (Trail w1 r p)) :
    Calls Try.prog 10 #[.pointer po, .int .i64 root, .int .i64 p] w (WalkAns w r p) := by
  have HF := Lib.hid hfol
  clear hfol
  go_enter Try.func10, Try.ntmps10
  go_wp2_with fail
  refine (HF.out _ ((Below.refl _ _).alloc (Nat.le_refl _) _)).mono ?_
  rintro e w2 ⟨A, m, c, rfl, -, hb, -⟩
  have r2 := (Row.new w 30 [.int .i64 0, .bool false, .bool false, .bool false, .bool false, .bool false, .bool false, .int .i64 0, .int .i64 0]).below hb (by simp)
  have B2 := (below_new w 30 [.int .i64 0, .bool false, .bool false, .bool false, .bool false, .bool false, .bool false, .int .i64 0, .int .i64 0]).trans (hb.mono (by simp))
  obtain ⟨f, ef⟩ : ∃ y, y = lfF r := ⟨_, rfl⟩
  obtain ⟨y0, ey0⟩ : ∃ y, y = lfB r 0 := ⟨_, rfl⟩
  obtain ⟨y1, ey1⟩ : ∃ y, y = lfB r 1 := ⟨_, rfl⟩
  obtain ⟨y7, ey7⟩ : ∃ y, y = lfB r 7 := ⟨_, rfl⟩
  obtain ⟨y9, ey9⟩ : ∃ y, y = lfB r 9 := ⟨_, rfl⟩
  obtain ⟨y5, ey5⟩ : ∃ y, y = lfB r 5 := ⟨_, rfl⟩
  obtain ⟨y6, ey6⟩ : ∃ y, y = lfB r 6 := ⟨_, rfl⟩
  obtain ⟨lv, elv⟩ : ∃ y, y = lfV r := ⟨_, rfl⟩
  obtain ⟨fr, efr⟩ : ∃ y, y = lfP r p := ⟨_, rfl⟩
  rw [← ef, ← ey0, ← ey1, ← ey7, ← ey9, ← ey5, ← ey6, ← elv, ← efr]
  have HE : Hid (leafE r p = .agg #[.int .i64 f, .bool y0, .bool y1, .bool y7, .bool y9, .bool y5, .bool y6, .int .i64 lv, .int .i64 fr]) := by
    show _ = _
    rw [ef, ey0, ey1, ey7, ey9, ey5, ey6, elv, efr]; rfl
  obtain ⟨w3, hw3⟩ : ∃ w3, w3 = w2.alloc (.cells #[.slice A m c, .int .i64 r.sl, .int .i64 f, .bool y0, .bool y1, .bool y7, .bool y9, .bool y5, .bool y6, .int .i64 lv, .int .i64 fr] 71) := ⟨_, rfl⟩
  have r3 : Row w3 w.heap.size 30 [.int .i64 0, .bool false, .bool false, .bool false, .bool false, .bool false, .bool false, .int .i64 0, .int .i64 0] := hw3 ▸ r2.alloc _
  have q3 : Row w3 w2.heap.size 71 [.slice A m c, .int .i64 r.sl, .int .i64 f, .bool y0, .bool y1, .bool y7, .bool y9, .bool y5, .bool y6, .int .i64 lv, .int .i64 fr] := hw3 ▸ Row.new w2 _ _
  have B3 : Hid (Below w.heap.size w w3) := hw3 ▸ B2.alloc B2.size _
  have hne : ¬ w.heap.size = w2.heap.size := Nat.ne_of_lt r2.lt
  have hne2 : ¬ w2.heap.size = w.heap.size := fun e => hne e.symm
  have HW := Lib.hid hw3
  have c0 : w3.cell? ⟨w.heap.size, 0, none⟩ = some (.int .i64 0) := r3.cell 0
  have c1 : w3.cell? ⟨w.heap.size, 1, none⟩ = some (.bool false) := r3.cell 1
  have c2 : w3.cell? ⟨w.heap.size, 2, none⟩ = some (.bool false) := r3.cell 2
  have c3 : w3.cell? ⟨w.heap.size, 3, none⟩ = some (.bool false) := r3.cell 3
  have c4 : w3.cell? ⟨w.heap.size, 4, none⟩ = some (.bool false) := r3.cell 4
  have c5 : w3.cell? ⟨w.heap.size, 5, none⟩ = some (.bool false) := r3.cell 5
  have c6 : w3.cell? ⟨w.heap.size, 6, none⟩ = some (.bool false) := r3.cell 6
  have c7 : w3.cell? ⟨w.heap.size, 7, none⟩ = some (.int .i64 0) := r3.cell 7
  have c8 : w3.cell? ⟨w.heap.size, 8, none⟩ = some (.int .i64 0) := r3.cell 8
  have cf : ∀ o, w3.frozen? ⟨w.heap.size, o, none⟩ = false := fun o => r3.frozen o
  have d2 : w3.cell? ⟨w2.heap.size, 2, none⟩ = some (.int .i64 f) := q3.cell 2
  have d3 : w3.cell? ⟨w2.heap.size, 3, none⟩ = some (.bool y0) := q3.cell 3
  have d4 : w3.cell? ⟨w2.heap.size, 4, none⟩ = some (.bool y1) := q3.cell 4
  have d5 : w3.cell? ⟨w2.heap.size, 5, none⟩ = some (.bool y7) := q3.cell 5
  have d6 : w3.cell? ⟨w2.heap.size, 6, none⟩ = some (.bool y9) := q3.cell 6
  have d7 : w3.cell? ⟨w2.heap.size, 7, none⟩ = some (.bool y5) := q3.cell 7
  have d8 : w3.cell? ⟨w2.heap.size, 8, none⟩ = some (.bool y6) := q3.cell 8
  have d9 : w3.cell? ⟨w2.heap.size, 9, none⟩ = some (.int .i64 lv) := q3.cell 9
  have d10 : w3.cell? ⟨w2.heap.size, 10, none⟩ = some (.int .i64 fr) := q3.cell 10
  clear hb B2 r2 hw3 r3 q3 HF ef ey0 ey1 ey7 ey9 ey5 ey6 elv efr
  go_upto_region 2 with (fail)
  rw [← HW.out]
  go_wp2_with fail
  exact bodyPost_ret (v := .tuple #[.agg #[.int .i64 f, .bool y0, .bool y1, .bool y7, .bool y9, .bool y5, .bool y6, .int .i64 lv, .int .i64 fr], .int .i64 r.er]) (by simp [results, Try.results10, go_sem, *]) rfl ⟨by rw [HE.out], below_leaf B3.out (Nat.le_refl _)⟩
theorem path_of (w : World) (po : Option Addr) (root p : Int) (r : Fd) (hfol : ∀ w1, Below w.heap.size w w1 → Calls Try.prog 25 #[.pointer po, .int .i64 root, .int .i64 p] w1 (Trail w1 r p)) :
    Calls Try.prog 49 #[.pointer po, .int .i64 root, .int .i64 p] w (PathNew w r) := by
  have HF := Lib.hid hfol
  clear hfol
  go_enter Try.func49, Try.ntmps49
  go_wp2_with fail
  refine (HF.out _ (Below.refl _ _)).mono ?_
  rintro e w2 ⟨A, m, c, rfl, hi, hb, hn⟩
  have HNW := Lib.hid hn
  clear hn
  have HI := Lib.hid hi
  have HB := Lib.hid hb
  clear hi hb HF
  go_wp2_with fail
  go_ret2
  exact ⟨A, m, c, rfl, HI.out.call (below_new _ _ _), HB.out.alloc HB.out.size _, HNW.out⟩
theorem PathNew.weak {w : World} {r : Fd} (e : Ending) (w' : World) (h : PathNew w r e w') : PathAns w r e w' := by
  obtain ⟨A, n, c, h1, h2, h3, -⟩ := h
  exact ⟨A, n, c, h1, h2, h3⟩
section
variable {w : World} {a b n : Nat} {T : TypeId} {ws : List Int}
theorem walk_any (h : RamAt w a b T n ws) (root p : Int) : Calls Try.prog 10 #[.pointer (some ⟨a, 0, none⟩), .int .i64 root, .int .i64 p] w (WalkAns w (fol ws root p) p) :=
  walk_of w _ root p _ fun _ hb => follow_any (h.below hb h.top.lt h.row.lt) root p
theorem path_any (h : RamAt w a b T n ws) (root p : Int) : Calls Try.prog 49 #[.pointer (some ⟨a, 0, none⟩), .int .i64 root, .int .i64 p] w (PathAns w (fol ws root p)) :=
  (path_of w _ root p _ fun _ hb => follow_any (h.below hb h.top.lt h.row.lt) root p).mono PathNew.weak
theorem path_new (h : RamAt w a b T n ws) (root p : Int) : Calls Try.prog 49 #[.pointer (some ⟨a, 0, none⟩), .int .i64 root, .int .i64 p] w (PathNew w (fol ws root p)) :=
  path_of w _ root p _ fun _ hb => follow_any (h.below hb h.top.lt h.row.lt) root p
theorem walk_nil (root p : Int) (w : World) : Calls Try.prog 10 #[.pointer none, .int .i64 root, .int .i64 p] w (WalkAns w ⟨1, 0, 0, [], 0⟩ p) := walk_of w _ root p _ fun _ _ => follow_nil root p _
theorem path_nil (root p : Int) (w : World) : Calls Try.prog 49 #[.pointer none, .int .i64 root, .int .i64 p] w (PathAns w ⟨1, 0, 0, [], 0⟩) := (path_of w _ root p _ fun _ _ => follow_nil root p _).mono PathNew.weak
end
end Go.Proofs.Ytnlimecbbockoaa
