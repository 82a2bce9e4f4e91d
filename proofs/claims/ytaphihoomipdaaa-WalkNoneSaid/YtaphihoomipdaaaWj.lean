/- The walks of the laws WalkNone and WalkWords. -/
import Derived.Test.YtaphihoomipdaaaWi
namespace Go.Proofs.Ytaphihoomipdaaa
open Go.RowKit
theorem walk_nil0 (root p : Int) (w : World) : Calls Try.prog 11 #[.pointer none, .int .i64 root, .int .i64 p] w fun e w' => e = .returned (.tuple #[.agg #[.int .i64 0, .bool false, .bool false, .bool false, .bool false, .bool false, .bool false, .int .i64 0, .int .i64 0], .int .i64 1]) ∧ Below w.heap.size w w' :=
  (walk_nil root p w).mono fun _ _ h => h
theorem path_nil0 (root p : Int) (w : World) : Calls Try.prog 12 #[.pointer none, .int .i64 root, .int .i64 p] w fun e w' => ∃ A c, e = .returned (.tuple #[.slice A 0 c, .int .i64 1]) ∧ Below w.heap.size w w' :=
  (path_nil root p w).mono fun _ _ ⟨A, m, c, he, hi, hb⟩ => by
    obtain rfl : m = 0 := hi.len.symm
    exact ⟨A, c, he, hb⟩
theorem below_chain {B : Nat} {W w w' : World} (h : Below B W w) (k : Below w.heap.size w w') (hB : B ≤ w.heap.size) : Below B W w' := h.trans (k.mono hB)
set_option maxRecDepth 100000 in
set_option maxHeartbeats 2000000 in
theorem none_walk (l : Ld) (wr : Bool) (W : World) : Calls Try.prog 5 #[.agg (ldCells l).toArray, .bool wr] W fun e W' => e = .returned (.bool true) ∧ Below W.heap.size W W' := by
  obtain ⟨g, hg⟩ : ∃ g, g = W.heap.size := ⟨_, rfl⟩
  have HG := Lib.hid hg
  have r0 : Row (W.alloc (.cells #[.int .i64 l.t, .int .i64 l.i, .int .i64 l.f, .bool l.p, .bool l.w, .bool l.h, .bool l.k, .bool l.u, .bool l.d, .bool l.raw, .int .u64 l.v] 27)) g 27 (ldCells l) := by rw [hg]; exact Row.new W _ _
  have B0 : Below g W (W.alloc (.cells #[.int .i64 l.t, .int .i64 l.i, .int .i64 l.f, .bool l.p, .bool l.w, .bool l.h, .bool l.k, .bool l.u, .bool l.d, .bool l.raw, .int .u64 l.v] 27)) := by rw [hg]; exact below_new W _ (ldCells l)
  unfold ldCells
  rw [← hg]
  clear hg
  go_enter Try.func5, Try.ntmps5
  go_wp2_with fail
  refine (word_nil l.t l.i _).mono ?_
  rintro e w1 ⟨rfl, k1⟩
  unfold agg0
  have r1 := (r0.below k1 r0.lt).alloc (.cells #[.int .i64 0, .bool false, .bool false, .bool false, .bool false, .bool false, .bool false] 24)
  have e1 := Row.new w1 24 [.int .i64 0, .bool false, .bool false, .bool false, .bool false, .bool false, .bool false]
  have B1 := below_chain (below_chain B0 k1 (Nat.le_of_lt r0.lt)) (below_new w1 24 [.int .i64 0, .bool false, .bool false, .bool false, .bool false, .bool false, .bool false]) (Nat.le_trans (Nat.le_of_lt r0.lt) k1.size)
  obtain ⟨w2, hw2⟩ : ∃ w2, w2 = w1.alloc (.cells #[.int .i64 0, .bool false, .bool false, .bool false, .bool false, .bool false, .bool false] 24) := ⟨_, rfl⟩
  obtain ⟨q1, hq1⟩ : ∃ q, q = w1.heap.size := ⟨_, rfl⟩
  have r2 : Row w2 g 27 (ldCells l) := hw2 ▸ r1
  have e2 : Row w2 q1 24 [.int .i64 0, .bool false, .bool false, .bool false, .bool false, .bool false, .bool false] := by rw [hw2, hq1]; exact e1
  have B2 : Below g W w2 := hw2 ▸ B1
  have HW2 := Lib.hid hw2
  have HQ1 := Lib.hid hq1
  clear r1 e1 B1 k1 r0 B0 hw2 hq1
  go_upto_region 2 with (fail)
  rw [← HW2.out, ← HQ1.out, ← HG.out]
  clear HW2 HQ1
  obtain ⟨c0, c1, -⟩ := r2.nine
  go_wp2_with fail
  refine (walk_nil0 l.t l.i _).mono ?_
  rintro e w3 ⟨rfl, k3⟩
  obtain ⟨w4, hw4⟩ : ∃ w4, w4 = w3.alloc (.cells #[.int .i64 0, .bool false, .bool false, .bool false, .bool false, .bool false, .bool false, .int .i64 0, .int .i64 0] 41) := ⟨_, rfl⟩
  obtain ⟨q3, hq3⟩ : ∃ q, q = w3.heap.size := ⟨_, rfl⟩
  have k4 : Below w2.heap.size w2 w4 := by rw [hw4]; exact k3.alloc k3.size _
  have r4 := r2.below k4 r2.lt
  have e4 := e2.below k4 e2.lt
  have l4 : Row w4 q3 41 [.int .i64 0, .bool false, .bool false, .bool false, .bool false, .bool false, .bool false, .int .i64 0, .int .i64 0] := by rw [hw4, hq3]; exact Row.new w3 _ _
  have B4 := below_chain B2 k4 (Nat.le_of_lt r2.lt)
  have HW4 := Lib.hid hw4
  have HQ3 := Lib.hid hq3
  clear c0 c1 k3 k4 hw4 hq3 r2 e2 B2
  go_upto_region 3 with (fail)
  rw [← HW4.out, ← HQ3.out]
  clear HW4 HQ3
  obtain ⟨c0, c1, -⟩ := r4.nine
  go_wp2_with fail
  refine (path_nil0 l.t l.i _).mono ?_
  rintro e w5 ⟨A, c, rfl, k5⟩
  have r5 := r4.below k5 r4.lt
  have e5 := e4.below k5 e4.lt
  have l5 := l4.below k5 l4.lt
  have B5 := below_chain B4 k5 (Nat.le_of_lt r4.lt)
  clear c0 c1 k5 r4 e4 l4 B4
  go_wp2_with fail
  refine (awake_any _).mono ?_
  rintro e w6 ⟨rfl, k6⟩
  have r6 := r5.below k6 r5.lt
  have e6 := e5.below k6 e5.lt
  have l6 := l5.below k6 l5.lt
  have B6 := below_chain B5 k6 (Nat.le_of_lt r5.lt)
  obtain ⟨c0, c1, c2, c3, c4, c5, c6, c7, c8⟩ := r6.nine
  obtain ⟨⟨x0, x1, x2, x3, x4, x5, x6⟩, -⟩ := e6.seven
  have y0 : w6.cell? ⟨q3, 0, none⟩ = some (.int .i64 0) := l6.cell 0
  have y1 : w6.cell? ⟨q3, 1, none⟩ = some (.bool false) := l6.cell 1
  have y2 : w6.cell? ⟨q3, 2, none⟩ = some (.bool false) := l6.cell 2
  have y3 : w6.cell? ⟨q3, 3, none⟩ = some (.bool false) := l6.cell 3
  have y4 : w6.cell? ⟨q3, 4, none⟩ = some (.bool false) := l6.cell 4
  have y5 : w6.cell? ⟨q3, 5, none⟩ = some (.bool false) := l6.cell 5
  have y6 : w6.cell? ⟨q3, 6, none⟩ = some (.bool false) := l6.cell 6
  have y7 : w6.cell? ⟨q3, 7, none⟩ = some (.int .i64 0) := l6.cell 7
  have y8 : w6.cell? ⟨q3, 8, none⟩ = some (.int .i64 0) := l6.cell 8
  clear k6 r5 e5 l5 B5
  go_wp2_with fail
  refine (put_nil l.t l.i l.f l.p l.w l.h l.k l.u l.d _).mono ?_
  rintro e w7 ⟨rfl, k7⟩
  have r7 := r6.below k7 r6.lt
  have B7 := below_chain B6 k7 (Nat.le_of_lt r6.lt)
  clear c0 c1 c2 c3 c4 c5 c6 c7 c8 x0 x1 x2 x3 x4 x5 x6 y0 y1 y2 y3 y4 y5 y6 y7 y8 e6 l6 B6 k7 r6
  obtain ⟨c0, c1, -⟩ := r7.nine
  go_wp2_with fail
  refine (mark_nil l.t l.i wr _).mono ?_
  rintro e w8 ⟨rfl, k8⟩
  have B8 := Lib.hid (below_chain B7 k8 (Nat.le_of_lt r7.lt))
  clear c0 c1 r7 B7 k8
  go_wp2_with fail
  go_ret
  exact ⟨rfl, HG.out ▸ B8.out⟩
end Go.Proofs.Ytaphihoomipdaaa
