/- Frames: FramesNone, walked. -/
import Derived.Test.YtnbphpkcpipbkaaFrJ
namespace Go.Proofs.Ytnbphpkcpipbkaa
open Go.RowKit
set_option maxHeartbeats 16000000 in
set_option maxRecDepth 100000 in
theorem none_walk (a : Ac) (ha : IsAc a) (w : World) : Calls Try.prog 7 #[.agg (acCells a).toArray] w fun e w' => e = .returned (.bool true) ∧ Below w.heap.size w w' := by
  obtain ⟨W0, hW0⟩ : ∃ W0, W0 = w.alloc (.cells (acCells a).toArray 39) := ⟨_, rfl⟩
  obtain ⟨q, hq⟩ : ∃ q, q = w.heap.size := ⟨_, rfl⟩
  have g0 : Below w.heap.size w W0 := by rw [hW0]; exact below_new _ _
  have rs : Lrow W0 q 39 (acCells a) := by rw [hW0, hq]; exact Lrow.new w _ (acCells a)
  have HG0 := Lib.hid (And.intro g0 (And.intro rs ha))
  have HW := Lib.hid (And.intro hW0 hq)
  clear hW0 hq g0 rs ha
  obtain ⟨Fr, Nn, Fm, To⟩ := a
  dsimp only [acCells] at HG0 HW ⊢
  have hF : Fits Fr := HG0.out.2.2.f
  go_enter Try.func7, Try.ntmps7
  go_upto_region 1 with (fail)
  rw [← HW.out.1, ← HW.out.2]
  go_wp2_with fail
  refine (awake_any _).mono ?_
  rintro e w1 ⟨rfl, hb⟩
  have HB1 := Lib.hid (HG0.out.1.trans (hb.mono HG0.out.1.size))
  have hrs := HG0.out.2.1.call hb
  have q0 := hrs.cell 0
  have q1 := hrs.cell 1
  have q2 := hrs.cell 2
  have q3 := hrs.cell 3
  clear hb hrs
  go_wp2_with fail
  refine (turn_nil _ _ _ _ _).mono ?_
  rintro e w2 ⟨rfl, rfl⟩
  go_wp2_with fail
  refine (is_nil _ _).mono ?_
  rintro e w2 ⟨rfl, rfl⟩
  go_wp2_with fail
  refine (count_nil _ _).mono ?_
  rintro e w2 ⟨rfl, rfl⟩
  go_wp2_with fail
  refine (next_nil hF _ _).mono ?_
  rintro e w2 ⟨rfl, rfl⟩
  go_wp2_with fail
  refine (len_nil _).mono ?_
  rintro e w2 ⟨rfl, rfl⟩
  go_wp2_with fail
  go_ret
  exact ⟨rfl, HB1.out⟩
end Go.Proofs.Ytnbphpkcpipbkaa
