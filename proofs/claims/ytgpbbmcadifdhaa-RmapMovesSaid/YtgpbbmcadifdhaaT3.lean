/- A call of both. -/
import Derived.Test.YtgpbbmcadifdhaaT2
namespace Go.Proofs.Ytgpbbmcadifdhaa
open Go.RowKit
section
variable {w w' : World} {B xa : Nat} {T : Rm} {xv : Value} {L : List On}
theorem do_add {L : List On} {l : Ac} (h : l.k = 0 ∨ l.k = 1 ∨ l.k = 2) : doL L l = adL L l.f (l.s, l.p) := if_pos h
theorem do_del {L : List On} {l : Ac} (h : l.k = 3) : doL L l = deL L l.f (l.s, l.p) := by unfold doL; rw [if_neg (by omega), if_pos h]
theorem do_mov {L : List On} {l : Ac} (h1 : ¬ (l.k = 0 ∨ l.k = 1 ∨ l.k = 2)) (h : ¬ l.k = 3) : doL L l = moL L l.f l.t := by unfold doL; rw [if_neg h1, if_neg h]
set_option maxHeartbeats 4000000 in
set_option maxRecDepth 100000 in
theorem do_any (h : St B w T xa xv L) (hL : L.length ≤ 200) {l : Ac} (hl : IsAc l) : Calls Try.prog 20 #[.pointer (some ⟨T.s, 0, none⟩), .pointer (some ⟨xa, 0, none⟩), .agg #[.int .i64 l.k, .int .i64 l.f, .int .i64 l.t, .int .i64 l.s, .int .i64 l.p]] w fun e w' => e = .returned (.bool true) ∧ ∃ T' xv', T'.s = T.s ∧ St B w' T' xa xv' (doL L l) ∧ Below B w w' := by
  obtain ⟨W0, hW0⟩ : ∃ W0, W0 = w.alloc (.cells #[.int .i64 l.k, .int .i64 l.f, .int .i64 l.t, .int .i64 l.s, .int .i64 l.p] 29) := ⟨_, rfl⟩
  obtain ⟨s, hs⟩ : ∃ s, s = w.heap.size := ⟨_, rfl⟩
  have g0 : Below w.heap.size w W0.drew := by rw [hW0]; exact below_dN (below_new _ _) 1
  have rs : Lrow W0.drew s 29 (acCells l) := by rw [hW0, hs]; exact (Lrow.new w _ (acCells l)).drewN 1
  have HST := Lib.hid (h.call g0)
  have HB0 : Hid (Below B w W0.drew) := g0.mono h.r.lw
  have hlw := (h.call g0).r.lw
  have HRS := Lib.hid rs
  have HW := Lib.hid (And.intro hW0 hs)
  have d0 : W0.cell? ⟨s, 0, none⟩ = some (.int .i64 l.k) := rs.cell 0
  have hff := hl.f
  have hft := hl.t
  have hfs := hl.s
  clear hW0 hs g0 rs h hl
  have HA := @do_add L l
  have HD := @do_del L l
  have HM := @do_mov L l
  have HA := Lib.hid HA
  have HD := Lib.hid HD
  have HM := Lib.hid HM
  obtain ⟨K, F, To, S, P⟩ := l
  dsimp only [acCells] at HRS HW d0 hff hft hfs
  dsimp only at HA HD HM
  by_cases h3 : K = 0 ∨ K = 1 ∨ K = 2
  · have HL := Lib.hid (HA.out h3)
    clear HA HD HM
    rcases h3 with rfl | rfl | rfl
    all_goals
      go_enter Try.func20, Try.ntmps20
      go_upto_region 1 with (fail)
      rw [← HW.out.1, ← HW.out.2]
      go_wp2_with fail
      have HS0 : W0.drew.cell? ⟨s, 1, none⟩ = some (.int .i64 F) ∧ W0.drew.cell? ⟨s, 3, none⟩ = some (.int .i64 S) ∧ W0.drew.cell? ⟨s, 4, none⟩ = some (.int .i64 P) := ⟨HRS.out.cell 1, HRS.out.cell 3, HRS.out.cell 4⟩
      have hrs := HRS.out
      go_region_held3 (fun v => v.cell? ⟨s, 1, none⟩ = some (.int .i64 F) ∧ v.cell? ⟨s, 3, none⟩ = some (.int .i64 S) ∧ v.cell? ⟨s, 4, none⟩ = some (.int .i64 P))
        (first | exact HS0 | exact HS1 | exact HS2)
        (first | (go_at_call 9; refine (add_any HST.out.t hlw hL hfs).mono ?_; rintro e w1 ⟨rfl, T1, hcg⟩; obtain ⟨hT1, hR1, hb1, hk1⟩ := HST.out.half hcg; have hTs := hcg.s; have r1 := hk1 hrs (by decide) (by decide); have HS1 : w1.cell? ⟨s, 1, none⟩ = some (.int .i64 F) ∧ w1.cell? ⟨s, 3, none⟩ = some (.int .i64 S) ∧ w1.cell? ⟨s, 4, none⟩ = some (.int .i64 P) := ⟨r1.cell 1, r1.cell 3, r1.cell 4⟩) | (go_at_call 30; refine (xadd_any hR1 HST.out.t.good.up hL _ _ _).mono ?_; intro e w2 hd2; obtain ⟨rfl, xv2, hst, hb2, hk2⟩ := St.whole hT1 hR1 hd2; have r2 := hk2 r1 (by decide); have HS2 : w2.cell? ⟨s, 1, none⟩ = some (.int .i64 F) ∧ w2.cell? ⟨s, 3, none⟩ = some (.int .i64 S) ∧ w2.cell? ⟨s, 4, none⟩ = some (.int .i64 P) := ⟨r2.cell 1, r2.cell 3, r2.cell 4⟩))
      all_goals
        go_wp2
        go_ret
        exact ⟨ret_bool (by simp), T1, xv2, hTs, by rw [HL.out]; exact hst, HB0.out.trans (hb1.trans hb2)⟩
  · have k0 : (K == 0) = false := by simpa using (by omega : ¬ K = 0)
    have k1 : (K == 1) = false := by simpa using (by omega : ¬ K = 1)
    have k2 : (K == 2) = false := by simpa using (by omega : ¬ K = 2)
    by_cases h4 : K = 3
    · have HL := Lib.hid (HD.out h4)
      clear k0 k1 k2 h3 HA HD HM
      subst h4
      go_enter Try.func20, Try.ntmps20
      go_upto_region 1 with (fail)
      rw [← HW.out.1, ← HW.out.2]
      go_wp2_with fail
      have HS0 : W0.drew.cell? ⟨s, 1, none⟩ = some (.int .i64 F) ∧ W0.drew.cell? ⟨s, 3, none⟩ = some (.int .i64 S) ∧ W0.drew.cell? ⟨s, 4, none⟩ = some (.int .i64 P) := ⟨HRS.out.cell 1, HRS.out.cell 3, HRS.out.cell 4⟩
      have hrs := HRS.out
      go_region_held3 (fun v => v.cell? ⟨s, 1, none⟩ = some (.int .i64 F) ∧ v.cell? ⟨s, 3, none⟩ = some (.int .i64 S) ∧ v.cell? ⟨s, 4, none⟩ = some (.int .i64 P))
        (first | exact HS0 | exact HS1 | exact HS2)
        (first | (go_at_call 10; refine (del_any HST.out.t hL hff).mono ?_; rintro e w1 ⟨rfl, T1, hcg⟩; obtain ⟨hT1, hR1, hb1, hk1⟩ := HST.out.half hcg; have hTs := hcg.s; have r1 := hk1 hrs (by decide) (by decide); have HS1 : w1.cell? ⟨s, 1, none⟩ = some (.int .i64 F) ∧ w1.cell? ⟨s, 3, none⟩ = some (.int .i64 S) ∧ w1.cell? ⟨s, 4, none⟩ = some (.int .i64 P) := ⟨r1.cell 1, r1.cell 3, r1.cell 4⟩) | (go_at_call 31; refine (xdel_any hR1 HST.out.t.good.up hL _ _ _).mono ?_; intro e w2 hd2; obtain ⟨rfl, xv2, hst, hb2, hk2⟩ := St.whole hT1 hR1 hd2; have r2 := hk2 r1 (by decide); have HS2 : w2.cell? ⟨s, 1, none⟩ = some (.int .i64 F) ∧ w2.cell? ⟨s, 3, none⟩ = some (.int .i64 S) ∧ w2.cell? ⟨s, 4, none⟩ = some (.int .i64 P) := ⟨r2.cell 1, r2.cell 3, r2.cell 4⟩))
      all_goals
        go_wp2
        go_ret
        exact ⟨ret_bool (by simp), T1, xv2, hTs, by rw [HL.out]; exact hst, HB0.out.trans (hb1.trans hb2)⟩
    · have k3 : (K == 3) = false := by simpa using h4
      have HL := Lib.hid (HM.out h3 h4)
      clear h3 h4 HA HD HM
      go_enter Try.func20, Try.ntmps20
      go_upto_region 1 with (fail)
      rw [← HW.out.1, ← HW.out.2]
      go_wp2_with fail
      have HS0 : W0.drew.cell? ⟨s, 1, none⟩ = some (.int .i64 F) ∧ W0.drew.cell? ⟨s, 2, none⟩ = some (.int .i64 To) := ⟨HRS.out.cell 1, HRS.out.cell 2⟩
      have hrs := HRS.out
      go_region_held3 (fun v => v.cell? ⟨s, 1, none⟩ = some (.int .i64 F) ∧ v.cell? ⟨s, 2, none⟩ = some (.int .i64 To))
        (first | exact HS0 | exact HS1 | exact HS2)
        (first | (go_at_call 11; refine (mov_any HST.out.t hL hff hft).mono ?_; rintro e w1 ⟨rfl, T1, hcg⟩; obtain ⟨hT1, hR1, hb1, hk1⟩ := HST.out.half hcg; have hTs := hcg.s; have r1 := hk1 hrs (by decide) (by decide); have HS1 : w1.cell? ⟨s, 1, none⟩ = some (.int .i64 F) ∧ w1.cell? ⟨s, 2, none⟩ = some (.int .i64 To) := ⟨r1.cell 1, r1.cell 2⟩) | (go_at_call 32; refine (xmove_any hR1 HST.out.t.good hL _ _).mono ?_; intro e w2 hd2; obtain ⟨rfl, xv2, hst, hb2, hk2⟩ := St.whole hT1 hR1 hd2; have r2 := hk2 r1 (by decide); have HS2 : w2.cell? ⟨s, 1, none⟩ = some (.int .i64 F) ∧ w2.cell? ⟨s, 2, none⟩ = some (.int .i64 To) := ⟨r2.cell 1, r2.cell 2⟩))
      all_goals
        go_wp2
        go_ret
        exact ⟨ret_bool (by simp), T1, xv2, hTs, by rw [HL.out]; exact hst, HB0.out.trans (hb1.trans hb2)⟩
end
end Go.Proofs.Ytgpbbmcadifdhaa
