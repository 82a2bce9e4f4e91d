/- The law TLBNone, walked. -/
import Derived.Test.YtbnnfgdlkldafaaAs
namespace Go.Proofs.Ytbnnfgdlkldafaa
open Go.RowKit
set_option maxHeartbeats 4000000 in
set_option maxRecDepth 100000 in
theorem none9_walk (l : Kl) (w : World) : Calls Try.prog 7 #[.agg (klCells l).toArray] w fun e w' => e = .returned (.bool true) ∧ Below w.heap.size w w' := by
  obtain ⟨W0, hW0⟩ : ∃ W0, W0 = w.alloc (.cells (klCells l).toArray 44) := ⟨_, rfl⟩
  obtain ⟨s, hs⟩ : ∃ s, s = w.heap.size := ⟨_, rfl⟩
  have g0 : Below w.heap.size w W0 := hW0 ▸ below_1 _
  have rs : Lrow W0 s 44 (klCells l) := by rw [hW0, hs]; exact Lrow.new w _ (klCells l)
  have HW := Lib.hid (And.intro hW0 hs)
  have HG0 := Lib.hid g0
  have HRS := Lib.hid rs
  obtain ⟨K, S, P, N, ⟨sp, p, o, f, b⟩⟩ := l
  dsimp only [klCells] at HW HRS rs ⊢
  have d1 : W0.cell? ⟨s, 1, none⟩ = some (.int .i64 S) := rs.cell 1
  have d2 : W0.cell? ⟨s, 2, none⟩ = some (.int .i64 P) := rs.cell 2
  clear hW0 hs g0 rs
  go_enter Try.func7, Try.ntmps7
  go_upto_region 1 with (fail)
  rw [← HW.out.1, ← HW.out.2]
  go_wp2_with fail
  refine (look_nil _ _ _).mono ?_
  rintro e W1 ⟨rfl, hb1⟩
  obtain ⟨s4, hs4⟩ : ∃ s4, s4 = W1.heap.size := ⟨_, rfl⟩
  obtain ⟨W2, hW2⟩ : ∃ W2, W2 = W1.alloc (.cells #[.int .i64 0, .int .i64 0, .int .i64 0, .int .i64 0, .bool false] 31) := ⟨_, rfl⟩
  have HRA : Hid (Lrow W2.drew s 44 [.int .i64 K, .int .i64 S, .int .i64 P, .int .i64 N, .int .i64 sp, .int .i64 p, .int .i64 o, .int .i64 f, .bool b]) := by
    show Lrow _ _ _ _
    rw [hW2]; exact ((HRS.out.call hb1).alloc _).drewN 1
  have HRC : Hid (Lrow W2.drew s4 31 [.int .i64 0, .int .i64 0, .int .i64 0, .int .i64 0, .bool false]) := by
    show Lrow _ _ _ _
    rw [hW2, hs4]; exact (Lrow.new W1 _ _).drewN 1
  have HB2 : Hid (Below w.heap.size w W2.drew) := by
    show Below _ _ _
    rw [hW2]
    exact below_dN ((HG0.out.trans (hb1.mono HG0.out.size)).alloc (Nat.le_trans HG0.out.size hb1.size) _) 1
  have HW2 := Lib.hid (And.intro hW2 hs4)
  clear hb1 hW2 hs4 d1 d2
  go_upto_region 3 with (fail)
  rw [← HW2.out.1, ← HW2.out.2]
  have HS0 : W2.drew.cell? ⟨s, 1, none⟩ = some (.int .i64 S) ∧ W2.drew.cell? ⟨s, 2, none⟩ = some (.int .i64 P) ∧ W2.drew.cell? ⟨s, 3, none⟩ = some (.int .i64 N) ∧ W2.drew.cell? ⟨s, 4, none⟩ = some (.int .i64 sp) ∧ W2.drew.cell? ⟨s, 5, none⟩ = some (.int .i64 p) ∧ W2.drew.cell? ⟨s, 6, none⟩ = some (.int .i64 o) ∧ W2.drew.cell? ⟨s, 7, none⟩ = some (.int .i64 f) ∧ W2.drew.cell? ⟨s, 8, none⟩ = some (.bool b) ∧ W2.drew.cell? ⟨s4, 0, none⟩ = some (.int .i64 0) ∧ W2.drew.cell? ⟨s4, 1, none⟩ = some (.int .i64 0) ∧ W2.drew.cell? ⟨s4, 2, none⟩ = some (.int .i64 0) ∧ W2.drew.cell? ⟨s4, 3, none⟩ = some (.int .i64 0) ∧ W2.drew.cell? ⟨s4, 4, none⟩ = some (.bool false) := ⟨HRA.out.cell 1, HRA.out.cell 2, HRA.out.cell 3, HRA.out.cell 4, HRA.out.cell 5, HRA.out.cell 6, HRA.out.cell 7, HRA.out.cell 8, HRC.out.cell 0, HRC.out.cell 1, HRC.out.cell 2, HRC.out.cell 3, HRC.out.cell 4⟩
  go_region_held3 (fun v => v.cell? ⟨s, 1, none⟩ = some (.int .i64 S) ∧ v.cell? ⟨s, 2, none⟩ = some (.int .i64 P) ∧ v.cell? ⟨s, 3, none⟩ = some (.int .i64 N) ∧ v.cell? ⟨s, 4, none⟩ = some (.int .i64 sp) ∧ v.cell? ⟨s, 5, none⟩ = some (.int .i64 p) ∧ v.cell? ⟨s, 6, none⟩ = some (.int .i64 o) ∧ v.cell? ⟨s, 7, none⟩ = some (.int .i64 f) ∧ v.cell? ⟨s, 8, none⟩ = some (.bool b) ∧ v.cell? ⟨s4, 0, none⟩ = some (.int .i64 0) ∧ v.cell? ⟨s4, 1, none⟩ = some (.int .i64 0) ∧ v.cell? ⟨s4, 2, none⟩ = some (.int .i64 0) ∧ v.cell? ⟨s4, 3, none⟩ = some (.int .i64 0) ∧ v.cell? ⟨s4, 4, none⟩ = some (.bool false))
    (first | exact HS0 | exact HS1 | exact HS2 | exact HS4 | exact HS5)
    (first | (go_at_call 10; refine (awake_any _).mono ?_; rintro e w1 ⟨rfl, hb1⟩; have ra1 := HRA.out.call hb1; have rc1 := HRC.out.call hb1; have HS1 : w1.cell? ⟨s, 1, none⟩ = some (.int .i64 S) ∧ w1.cell? ⟨s, 2, none⟩ = some (.int .i64 P) ∧ w1.cell? ⟨s, 3, none⟩ = some (.int .i64 N) ∧ w1.cell? ⟨s, 4, none⟩ = some (.int .i64 sp) ∧ w1.cell? ⟨s, 5, none⟩ = some (.int .i64 p) ∧ w1.cell? ⟨s, 6, none⟩ = some (.int .i64 o) ∧ w1.cell? ⟨s, 7, none⟩ = some (.int .i64 f) ∧ w1.cell? ⟨s, 8, none⟩ = some (.bool b) ∧ w1.cell? ⟨s4, 0, none⟩ = some (.int .i64 0) ∧ w1.cell? ⟨s4, 1, none⟩ = some (.int .i64 0) ∧ w1.cell? ⟨s4, 2, none⟩ = some (.int .i64 0) ∧ w1.cell? ⟨s4, 3, none⟩ = some (.int .i64 0) ∧ w1.cell? ⟨s4, 4, none⟩ = some (.bool false) := ⟨ra1.cell 1, ra1.cell 2, ra1.cell 3, ra1.cell 4, ra1.cell 5, ra1.cell 6, ra1.cell 7, ra1.cell 8, rc1.cell 0, rc1.cell 1, rc1.cell 2, rc1.cell 3, rc1.cell 4⟩) | (go_at_call 19; refine (put_nil ⟨sp, p, o, f, b⟩ _).mono ?_; rintro e w2 ⟨rfl, hb2⟩; have ra2 := ra1.call hb2; have rc2 := rc1.call hb2; have HS2 : w2.cell? ⟨s, 1, none⟩ = some (.int .i64 S) ∧ w2.cell? ⟨s, 2, none⟩ = some (.int .i64 P) ∧ w2.cell? ⟨s, 3, none⟩ = some (.int .i64 N) ∧ w2.cell? ⟨s, 4, none⟩ = some (.int .i64 sp) ∧ w2.cell? ⟨s, 5, none⟩ = some (.int .i64 p) ∧ w2.cell? ⟨s, 6, none⟩ = some (.int .i64 o) ∧ w2.cell? ⟨s, 7, none⟩ = some (.int .i64 f) ∧ w2.cell? ⟨s, 8, none⟩ = some (.bool b) ∧ w2.cell? ⟨s4, 0, none⟩ = some (.int .i64 0) ∧ w2.cell? ⟨s4, 1, none⟩ = some (.int .i64 0) ∧ w2.cell? ⟨s4, 2, none⟩ = some (.int .i64 0) ∧ w2.cell? ⟨s4, 3, none⟩ = some (.int .i64 0) ∧ w2.cell? ⟨s4, 4, none⟩ = some (.bool false) := ⟨ra2.cell 1, ra2.cell 2, ra2.cell 3, ra2.cell 4, ra2.cell 5, ra2.cell 6, ra2.cell 7, ra2.cell 8, rc2.cell 0, rc2.cell 1, rc2.cell 2, rc2.cell 3, rc2.cell 4⟩) | (go_at_call 20; refine (drop_nil _ _).mono ?_; rintro e w' ⟨rfl, rfl⟩) | (go_at_call 17; refine (flush_nil _ _ _ _).mono ?_; rintro e w4 ⟨rfl, hb4⟩; have ra4 := ra2.call hb4; have rc4 := rc2.call hb4; have HS4 : w4.cell? ⟨s, 1, none⟩ = some (.int .i64 S) ∧ w4.cell? ⟨s, 2, none⟩ = some (.int .i64 P) ∧ w4.cell? ⟨s, 3, none⟩ = some (.int .i64 N) ∧ w4.cell? ⟨s, 4, none⟩ = some (.int .i64 sp) ∧ w4.cell? ⟨s, 5, none⟩ = some (.int .i64 p) ∧ w4.cell? ⟨s, 6, none⟩ = some (.int .i64 o) ∧ w4.cell? ⟨s, 7, none⟩ = some (.int .i64 f) ∧ w4.cell? ⟨s, 8, none⟩ = some (.bool b) ∧ w4.cell? ⟨s4, 0, none⟩ = some (.int .i64 0) ∧ w4.cell? ⟨s4, 1, none⟩ = some (.int .i64 0) ∧ w4.cell? ⟨s4, 2, none⟩ = some (.int .i64 0) ∧ w4.cell? ⟨s4, 3, none⟩ = some (.int .i64 0) ∧ w4.cell? ⟨s4, 4, none⟩ = some (.bool false) := ⟨ra4.cell 1, ra4.cell 2, ra4.cell 3, ra4.cell 4, ra4.cell 5, ra4.cell 6, ra4.cell 7, ra4.cell 8, rc4.cell 0, rc4.cell 1, rc4.cell 2, rc4.cell 3, rc4.cell 4⟩) | (go_at_call 21; refine (flushSpace_nil _ _).mono ?_; rintro e w5 ⟨rfl, hb5⟩; have ra5 := ra4.call hb5; have rc5 := rc4.call hb5; have HS5 : w5.cell? ⟨s, 1, none⟩ = some (.int .i64 S) ∧ w5.cell? ⟨s, 2, none⟩ = some (.int .i64 P) ∧ w5.cell? ⟨s, 3, none⟩ = some (.int .i64 N) ∧ w5.cell? ⟨s, 4, none⟩ = some (.int .i64 sp) ∧ w5.cell? ⟨s, 5, none⟩ = some (.int .i64 p) ∧ w5.cell? ⟨s, 6, none⟩ = some (.int .i64 o) ∧ w5.cell? ⟨s, 7, none⟩ = some (.int .i64 f) ∧ w5.cell? ⟨s, 8, none⟩ = some (.bool b) ∧ w5.cell? ⟨s4, 0, none⟩ = some (.int .i64 0) ∧ w5.cell? ⟨s4, 1, none⟩ = some (.int .i64 0) ∧ w5.cell? ⟨s4, 2, none⟩ = some (.int .i64 0) ∧ w5.cell? ⟨s4, 3, none⟩ = some (.int .i64 0) ∧ w5.cell? ⟨s4, 4, none⟩ = some (.bool false) := ⟨ra5.cell 1, ra5.cell 2, ra5.cell 3, ra5.cell 4, ra5.cell 5, ra5.cell 6, ra5.cell 7, ra5.cell 8, rc5.cell 0, rc5.cell 1, rc5.cell 2, rc5.cell 3, rc5.cell 4⟩) | (go_at_call 14; refine (lines_nil _).mono ?_; rintro e w' ⟨rfl, rfl⟩))
  go_wp2
  go_ret
  have t1 := HB2.out.trans (hb1.mono HB2.out.size)
  have t2 := t1.trans (hb2.mono t1.size)
  have t4 := t2.trans (hb4.mono t2.size)
  exact ⟨rfl, t4.trans (hb5.mono t4.size)⟩
end Go.Proofs.Ytbnnfgdlkldafaa
