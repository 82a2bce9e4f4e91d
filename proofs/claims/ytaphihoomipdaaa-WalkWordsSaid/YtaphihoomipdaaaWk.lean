/- The walk of the law WalkWords: tables' entries are read as they were laid. -/
import Derived.Test.YtaphihoomipdaaaWj
namespace Go.Proofs.Ytaphihoomipdaaa
open Go.RowKit
theorem Lds.call {w w' : World} {n : Nat} {A : Option Addr} (h : Lds w w.heap.size A n) (hb : Below w.heap.size w w') : Lds w' w'.heap.size A n := fun hn => by
  obtain ⟨a, e, hlt, hc⟩ := h.below hb hn
  exact ⟨a, e, Nat.lt_of_lt_of_le hlt hb.size, hc⟩
set_option maxRecDepth 100000 in
set_option maxHeartbeats 2000000 in
theorem words_bad (f : Int) (ap : Option Addr) (n c : Nat) (l : Ld) (W : World) (hf : f < 8 ∨ 1024 < f) : Calls Try.prog 3 #[.int .i64 f, .slice ap n c, .agg (ldCells l).toArray] W fun e W' => e = .returned (.bool true) ∧ Below W.heap.size W W' := by
  have b0 := Lib.hid (below_new W 27 (ldCells l))
  have HF := Lib.hid hf
  unfold ldCells at b0 ⊢
  clear hf
  go_enter Try.func3, Try.ntmps3
  go_wp2_with fail
  refine (made_bad f ap n c _ HF.out).mono ?_
  rintro e w1 ⟨rfl, k1⟩
  have B1 := Lib.hid (below_chain b0.out k1 b0.out.size)
  clear k1
  go_wp2_with fail
  refine (awake_any _).mono ?_
  rintro e w2 ⟨rfl, k2⟩
  have B2 := Lib.hid (below_chain B1.out k2 B1.out.size)
  clear k2 B1
  go_wp2_with fail
  refine (awake_any _).mono ?_
  rintro e w3 ⟨rfl, k3⟩
  have B3 := Lib.hid (below_chain B2.out k3 B2.out.size)
  clear k3 B2
  go_wp2_with fail
  go_ret
  exact ⟨rfl, B3.out⟩
set_option maxRecDepth 100000 in
set_option maxHeartbeats 2000000 in
theorem words_ok (F : Nat) (ap : Option Addr) (n c : Nat) (l : Ld) (W : World) (h8 : 8 ≤ F) (h1024 : F ≤ 1024) (hl : Lds W W.heap.size ap n) : Calls Try.prog 3 #[.int .i64 F, .slice ap n c, .agg (ldCells l).toArray] W fun e W' => e = .returned (.bool true) ∧ Below W.heap.size W W' := by
  obtain ⟨g, hg⟩ : ∃ g, g = W.heap.size := ⟨_, rfl⟩
  have HG := Lib.hid hg
  obtain ⟨w0, hw0⟩ : ∃ w0, w0 = W.alloc (.cells #[.int .i64 l.t, .int .i64 l.i, .int .i64 l.f, .bool l.p, .bool l.w, .bool l.h, .bool l.k, .bool l.u, .bool l.d, .bool l.raw, .int .u64 l.v] 27) := ⟨_, rfl⟩
  have r0 : Row w0 g 27 (ldCells l) := by rw [hw0, hg]; exact Row.new W _ _
  have B0 : Below W.heap.size W w0 := by rw [hw0]; exact below_new W _ (ldCells l)
  have HL := Lib.hid (hl.call B0)
  have HW := Lib.hid hw0
  unfold ldCells
  clear hg hw0 hl
  go_enter Try.func3, Try.ntmps3
  go_upto_region 1 with (fail)
  rw [← HW.out, ← HG.out]
  go_wp2_with fail
  refine (made_ok F ap n c _ h8 h1024 HL.out).mono ?_
  rintro e w1 ⟨ra, rb, xa, xb, ws, rfl, S1⟩
  have r1 := r0.below S1.bel r0.lt
  have B1 := below_chain B0 S1.bel B0.size
  clear HL r0 B0
  go_wp2_with fail
  refine (awake_any _).mono ?_
  rintro e w2 ⟨rfl, k2⟩
  have r2 := r1.below k2 r1.lt
  have B2 := below_chain B1 k2 B1.size
  have S2 := S1.call k2
  obtain ⟨c0, c1, -⟩ := r2.nine
  clear k2 r1 B1 S1
  go_wp2_with fail
  refine (word_any S2.r l.t l.i).mono ?_
  obtain ⟨er, her⟩ : ∃ er, er = wdE (F * 8) (wd ws l.t l.i) l.t l.i := ⟨_, rfl⟩
  obtain ⟨f, p, wr, hu, k, u, d, hE⟩ : ∃ f p wr hu k u d, unE (wd ws l.t l.i) = .agg #[.int .i64 f, .bool p, .bool wr, .bool hu, .bool k, .bool u, .bool d] := ⟨_, _, _, _, _, _, _, rfl⟩
  have HER := Lib.hid her
  have HE := Lib.hid hE
  rw [← her, hE]
  rintro e w3 ⟨rfl, k3⟩
  obtain ⟨w4, hw4⟩ : ∃ w4, w4 = w3.alloc (.cells #[.int .i64 f, .bool p, .bool wr, .bool hu, .bool k, .bool u, .bool d] 24) := ⟨_, rfl⟩
  obtain ⟨q3, hq3⟩ : ∃ q, q = w3.heap.size := ⟨_, rfl⟩
  have k4 : Below w2.heap.size w2 w4 := by rw [hw4]; exact k3.alloc k3.size _
  have r4 := r2.below k4 r2.lt
  have e4 : Row w4 q3 24 [.int .i64 f, .bool p, .bool wr, .bool hu, .bool k, .bool u, .bool d] := by rw [hw4, hq3]; exact Row.new w3 _ _
  have B4 := below_chain B2 k4 B2.size
  have S4 := S2.call k4
  have HW4 := Lib.hid hw4
  have HQ3 := Lib.hid hq3
  clear c0 c1 k3 k4 hw4 hq3 r2 B2 S2 her hE
  go_upto_region 5 with (fail)
  rw [← HW4.out, ← HQ3.out]
  clear HW4 HQ3
  obtain ⟨c0, c1, -⟩ := r4.nine
  go_wp2_with fail
  refine (refWord_any S4.x l.t l.i).mono ?_
  rw [← HER.out, HE.out]
  rintro e w5 ⟨rfl, k5⟩
  obtain ⟨w6, hw6⟩ : ∃ w6, w6 = w5.alloc (.cells #[.int .i64 f, .bool p, .bool wr, .bool hu, .bool k, .bool u, .bool d] 24) := ⟨_, rfl⟩
  obtain ⟨q5, hq5⟩ : ∃ q, q = w5.heap.size := ⟨_, rfl⟩
  have k6 : Below w4.heap.size w4 w6 := by rw [hw6]; exact k5.alloc k5.size _
  have e6 := e4.below k6 e4.lt
  have f6 : Row w6 q5 24 [.int .i64 f, .bool p, .bool wr, .bool hu, .bool k, .bool u, .bool d] := by rw [hw6, hq5]; exact Row.new w5 _ _
  have B6 := Lib.hid (below_chain B4 k6 B4.size)
  have HW6 := Lib.hid hw6
  have HQ5 := Lib.hid hq5
  clear c0 c1 k5 k6 hw6 hq5 r4 B4 S4 e4
  go_upto_region 6 with (fail)
  rw [← HW6.out, ← HQ5.out]
  clear HW6 HQ5
  obtain ⟨⟨x0, x1, x2, x3, x4, x5, x6⟩, -⟩ := e6.seven
  obtain ⟨⟨y0, y1, y2, y3, y4, y5, y6⟩, -⟩ := f6.seven
  clear e6 f6
  go_wp2_with fail
  all_goals
    go_ret
    exact ⟨rfl, B6.out⟩
theorem words7_walk (f : Int) (ap : Option Addr) (n c : Nat) (l : Ld) (W : World) (hl : Lds W W.heap.size ap n) : Calls Try.prog 3 #[.int .i64 f, .slice ap n c, .agg (ldCells l).toArray] W fun e W' => e = .returned (.bool true) ∧ Below W.heap.size W W' := by
  by_cases hf : f < 8 ∨ 1024 < f
  · exact words_bad f ap n c l W hf
  · obtain ⟨F, rfl⟩ : ∃ F : Nat, f = F := ⟨f.toNat, by omega⟩
    exact words_ok F ap n c l W (by omega) (by omega) hl
end Go.Proofs.Ytaphihoomipdaaa
