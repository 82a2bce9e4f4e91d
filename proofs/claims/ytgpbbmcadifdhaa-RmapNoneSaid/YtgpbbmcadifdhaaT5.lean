/- RmapNone, walked. -/
import Derived.Test.YtgpbbmcadifdhaaT4
namespace Go.Proofs.Ytgpbbmcadifdhaa
open Go.RowKit
set_option maxHeartbeats 8000000 in
set_option maxRecDepth 100000 in
theorem none_walk (l : Ac) (w : World) : Calls Try.prog 6 #[.agg #[.int .i64 l.k, .int .i64 l.f, .int .i64 l.t, .int .i64 l.s, .int .i64 l.p]] w fun e w' => e = .returned (.bool true) ∧ Below w.heap.size w w' := by
  obtain ⟨W0, hW0⟩ : ∃ W0, W0 = w.alloc (.cells #[.int .i64 l.k, .int .i64 l.f, .int .i64 l.t, .int .i64 l.s, .int .i64 l.p] 29) := ⟨_, rfl⟩
  obtain ⟨s, hs⟩ : ∃ s, s = w.heap.size := ⟨_, rfl⟩
  have g0 : Below w.heap.size w W0 := by rw [hW0]; exact below_new _ _
  have rs : Lrow W0 s 29 (acCells l) := by rw [hW0, hs]; exact Lrow.new w _ (acCells l)
  have HG0 := Lib.hid g0
  have HRS := Lib.hid rs
  have HW := Lib.hid (And.intro hW0 hs)
  clear hW0 hs g0 rs
  obtain ⟨K, F, To, S, P⟩ := l
  dsimp only [acCells] at HRS HW
  have HS : Hid (∀ w', Below W0.heap.size W0 w' → w'.cell? ⟨s, 1, none⟩ = some (.int .i64 F) ∧ w'.cell? ⟨s, 2, none⟩ = some (.int .i64 To) ∧ w'.cell? ⟨s, 3, none⟩ = some (.int .i64 S) ∧ w'.cell? ⟨s, 4, none⟩ = some (.int .i64 P)) := fun w' hb => ⟨(HRS.out.call hb).cell 1, (HRS.out.call hb).cell 2, (HRS.out.call hb).cell 3, (HRS.out.call hb).cell 4⟩
  have hB0 : Below W0.heap.size W0 W0.drew := below_dN (Below.refl _ _) 1
  have hs0 := HS.out W0.drew hB0
  go_enter Try.func6, Try.ntmps6
  go_upto_region 1 with (fail)
  rw [← HW.out.1, ← HW.out.2]
  go_wp2_with fail
  go_region_held3 (fun v => v.cell? ⟨s, 1, none⟩ = some (.int .i64 F) ∧ v.cell? ⟨s, 2, none⟩ = some (.int .i64 To) ∧ v.cell? ⟨s, 3, none⟩ = some (.int .i64 S) ∧ v.cell? ⟨s, 4, none⟩ = some (.int .i64 P))
    (first | exact hs0 | exact hs1 | exact hs2 | exact hs3)
    (first | (go_at_call 8; refine (awake_any _).mono ?_; rintro e w1 ⟨rfl, hb1⟩; have hB1 := hB0.trans (hb1.mono hB0.size); have hs1 := HS.out w1 hB1) | (go_at_call 9; refine (add_nil _ _ _ _).mono ?_; rintro e w2 ⟨rfl, hb2⟩; have hB2 := hB1.trans (hb2.mono hB1.size); have hs2 := HS.out w2 hB2) | (go_at_call 10; refine (del_nil _ _ _ _).mono ?_; rintro e w3 ⟨rfl, hb3⟩; have hB3 := hB2.trans (hb3.mono hB2.size); have hs3 := HS.out w3 hB3) | (go_at_call 11; refine (move_nil _ _ _).mono ?_; rintro e w4 ⟨rfl, rfl⟩) | (go_at_call 14; refine (spots_nil _ _).mono ?_; rintro e w4 ⟨rfl, rfl⟩) | (go_at_call 13; refine (count_nil _ _).mono ?_; rintro e w4 ⟨rfl, rfl⟩) | (go_at_call 12; refine (frames_nil _).mono ?_; rintro e w4 ⟨rfl, rfl⟩))
  all_goals
    go_wp2
    go_ret
    exact ⟨rfl, HG0.out.trans (hB3.mono HG0.out.size)⟩
end Go.Proofs.Ytgpbbmcadifdhaa
