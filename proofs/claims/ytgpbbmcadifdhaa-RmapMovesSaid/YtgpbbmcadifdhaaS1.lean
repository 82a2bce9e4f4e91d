/- Move. -/
import Derived.Test.YtgpbbmcadifdhaaS0
import Derived.StillTailTactics
namespace Go.Proofs.Ytgpbbmcadifdhaa
open Go.RowKit

section
variable {B : Nat} {w : World} {T : Rm} {L : List On} {a b : Int}
set_option maxRecDepth 100000 in
set_option maxHeartbeats 2000000 in
theorem mov_any (h : RmIs B w T L) (hL : L.length ≤ 200) (ha : Fits a) (hb : Fits b) :
    Calls Try.prog 11 #[.pointer (some ⟨T.s, 0, none⟩), .int .i64 a, .int .i64 b] w (Changed B T (moE L a b) (moL L a b) w) := by
  have HE : Hid (∀ e : Int, e ≠ 0 → moE L a b = e → Changed B T (moE L a b) (moL L a b) w (.returned (.int .i64 e)) w) := fun e k1 k2 => by
    refine ⟨by rw [k2], T, ?_⟩
    unfold moL
    rw [if_neg (by rw [k2]; exact k1)]
    exact h.same (Below.refl _ _)
  have hca := count_any h ha
  have hcb := count_any h hb
  obtain ⟨na, hna⟩ : ∃ n, n = (sps L a).length := ⟨_, rfl⟩
  obtain ⟨nb, hnb⟩ : ∃ n, n = (sps L b).length := ⟨_, rfl⟩
  rw [← hna] at hca
  rw [← hnb] at hcb
  by_cases h1 : okF b
  · have hd : decide (okF b) = true := by simpa using h1
    by_cases h2 : na = 0
    · subst h2
      have h20 : sps L a = [] := List.eq_nil_of_length_eq_zero hna.symm
      have H2 : Hid (moE L a b = 6) := by unfold moE; rw [if_neg (by simpa using h1), if_pos h20]; exact rfl
      clear h h1 h20 hna hnb
      go_enter Try.func11, Try.ntmps11
      go_wp2_with (first | (go_at_call 22; refine (isFrame_any _ _).mono ?_; rintro e w1 ⟨rfl, rfl⟩; rw [hd]) | (go_at_call 13; refine hca.mono ?_; rintro e w1 ⟨rfl, rfl⟩))
      go_ret
      exact HE.out 6 (by decide) H2.out
    · have h20 : sps L a ≠ [] := fun e => h2 (by rw [hna, e]; rfl)
      have h2' : ¬ (na : Int) = 0 := by omega
      by_cases h3 : nb = 0
      · subst h3
        have h30 : sps L b = [] := List.eq_nil_of_length_eq_zero hnb.symm
        have he : moE L a b = 0 := by unfold moE; rw [if_neg (by simpa using h1), if_neg h20, if_neg (by simpa using h30)]
        have hab : a ≠ b := (mo_zero he).2.2.2
        obtain ⟨w4, hr4, hg4, hm4⟩ := ((h.drewN 1).map).put (by omega) (T.row a) hb
        obtain ⟨w5, hr5, hg5, hm5⟩ := hm4.drop ha
        have hg : w.grownBy w5 (some T.b) := grown_trans1 (grown_trans1 (grown_drewN w 1 _) hg4) hg5
        have hend := h.went (N := moL L a b) (h.good.move a b).1 ha hb hab h20 h30 (by rw [sps_move h.good he, if_pos rfl]) (by rw [sps_move h.good he, if_neg hab, if_pos rfl]) (fun g g1 g2 => by rw [sps_move h.good he, if_neg g2, if_neg g1]) hm5 hg
        have HEND : Hid (Changed B T (moE L a b) (moL L a b) w (.returned (.int .i64 0)) w5) := ⟨by rw [he], _, hend⟩
        have hc0 : w.drew.cell? ⟨T.s, 0, none⟩ = some (.map (some T.b)) := h.c0
        have hc4 : w4.cell? ⟨T.s, 0, none⟩ = some (.map (some T.b)) := ((Lrow.drewN h.top 1).grown hg4 (fun e => h.sb (by injection e))).cell 0
        have hl1 : (Instr.lookup 49 (.map (some T.b)) (.int .i64 a) false).run Try.prog w.drew = .ok (T.row a) w.drew := (h.drewN 1).look ha
        have hr4' : (Instr.mapUpdate 49 (.map (some T.b)) (.int .i64 b) (T.row a)).run Try.prog w.drew = .ok () w4 := hr4
        obtain ⟨u, hu⟩ : ∃ u, u = T.row a := ⟨_, rfl⟩
        have hfo := own_form (h.row a ha)
        rw [← hu] at hl1 hr4' hfo
        obtain ⟨A, c, rfl⟩ := hfo
        clear h h1 h20 hna hnb h30 he hab hg4 hm4 hg5 hm5 hg hend hr4 hu
        go_enter Try.func11, Try.ntmps11
        go_wp2_with (first | (go_at_call 22; refine (isFrame_any _ _).mono ?_; rintro e w1 ⟨rfl, rfl⟩; rw [hd]) | (go_at_call 13; first | ((with_reducible refine hca.mono ?_); rintro e w1 ⟨rfl, rfl⟩) | ((with_reducible refine hcb.mono ?_); rintro e w1 ⟨rfl, rfl⟩)))
        go_region
        all_goals
          go_wp2
          go_ret
          exact HEND.out
      · have h30 : sps L b ≠ [] := fun e => h3 (by rw [hnb, e]; rfl)
        have h3' : (0 : Int) < nb := by omega
        have H2 : Hid (moE L a b = 7) := by unfold moE; rw [if_neg (by simpa using h1), if_neg h20, if_pos h30]; exact rfl
        clear h h1 h20 hna hnb h30
        go_enter Try.func11, Try.ntmps11
        go_wp2_with (first | (go_at_call 22; refine (isFrame_any _ _).mono ?_; rintro e w1 ⟨rfl, rfl⟩; rw [hd]) | (go_at_call 13; first | ((with_reducible refine hca.mono ?_); rintro e w1 ⟨rfl, rfl⟩) | ((with_reducible refine hcb.mono ?_); rintro e w1 ⟨rfl, rfl⟩)))
        go_ret
        exact HE.out 7 (by decide) H2.out
  · have hd : decide (okF b) = false := by simpa using h1
    have H2 : Hid (moE L a b = 3) := by unfold moE; rw [if_pos (by simpa using h1)]; exact rfl
    clear h h1 hna hnb
    go_enter Try.func11, Try.ntmps11
    go_wp2_with (go_at_call 22; refine (isFrame_any _ _).mono ?_; rintro e w1 ⟨rfl, rfl⟩; rw [hd])
    go_ret
    exact HE.out 3 (by decide) H2.out
end
end Go.Proofs.Ytgpbbmcadifdhaa
