/- Spaces: what FlatZaps wants, without the program. -/
import Derived.Test.YtnppnoabhpkmkaaGreatFs5
namespace Go.Proofs.YtnppnoabhpkmkaaGreat
section
variable {F G : Fl} {s a n h p t c v : Int}
theorem stF_zap : stF F ⟨5, s, a, n, h, p, t, c, v⟩ = if isS F s = false then noF F 11 else if zapE (sp F s).P a n ≠ 0 then noF F (zapE (sp F s).P a n) else (0, 0, put F s { sp F s with W := clr (sp F s).W a n }) := by
  unfold stF
  dsimp only
  rw [if_neg (by decide), if_neg (by decide)]
  split
  · rfl
  · rw [if_neg (by decide), if_neg (by decide), if_neg (by decide)]
    rfl
theorem stF_unmap : stF F ⟨3, s, a, n, h, p, t, c, v⟩ = if isS F s = false then noF F 11 else if unE (sp F s).P a n ≠ 0 then noF F (unE (sp F s).P a n) else (0, 0, put F s { sp F s with P := unP (sp F s).P a n, W := clr (sp F s).W a n }) := by
  unfold stF
  dsimp only
  rw [if_neg (by decide), if_neg (by decide)]
  split
  · rfl
  · rw [if_neg (by decide), if_neg (by decide), if_neg (by decide)]
    rfl
theorem isS_put {S : Sp} (c3 : isS F s = true) (hg : S.g = false) : isS (put F s S) s = true ∧ sp (put F s S) s = S := by
  obtain ⟨s0, sl, sg⟩ := isS_get c3
  have h1 : sp (put F s S) s = S := by rw [sp_put s0 sl s0, if_pos rfl]
  exact ⟨by rw [isS_lt s0 (by show s < ((F.L.set _ _).length : Int); rw [List.length_set]; exact sl), h1, hg]; rfl, h1⟩
/-- What is zapped reads 0, but in objects. -/
theorem zap_reads (e : (stF F ⟨5, s, a, n, h, p, t, c, v⟩).1 = 0) : isS F s = true ∧ 1 ≤ a ∧ 1 ≤ n ∧ a + n ≤ 4096 ∧ ∀ i, 0 ≤ i → i < n →
    wdE (stF F ⟨5, s, a, n, h, p, t, c, v⟩).2.2 s ((a + i) * 64 + 8 * (i % 8)) = 0 ∧ wdE F s ((a + i) * 64 + 8 * (i % 8)) = 0 ∧
    (¬ shr ((sp F s).P (a + i)).h → wdV (stF F ⟨5, s, a, n, h, p, t, c, v⟩).2.2 s ((a + i) * 64 + 8 * (i % 8)) = 0) ∧
    (shr ((sp F s).P (a + i)).h → wdV (stF F ⟨5, s, a, n, h, p, t, c, v⟩).2.2 s ((a + i) * 64 + 8 * (i % 8)) = wdV F s ((a + i) * 64 + 8 * (i % 8))) := by
  rw [stF_zap] at e ⊢
  cases c3 : isS F s with
  | false => rw [if_pos c3] at e; exact absurd e (by show ¬ (11 : Int) = 0; decide)
  | true =>
    rw [if_neg (by rw [c3]; decide)] at e
    rw [if_neg (show ¬ (true = false) by decide)]
    by_cases m0 : zapE (sp F s).P a n ≠ 0
    · rw [if_pos m0] at e; exact absurd e m0
    · rw [if_neg m0]
      have m1 := Classical.not_not.1 m0
      unfold zapE at m1
      by_cases r0 : rtI a n 0 ≠ 0
      · rw [if_pos r0] at m1; exact absurd m1 r0
      · rw [if_neg r0] at m1
        obtain ⟨a1, n1, an⟩ := rt_in (Classical.not_not.1 r0)
        by_cases cv : covB (sp F s).P a n.toNat = false
        · rw [if_pos cv] at m1; cases m1
        · have cv : covB (sp F s).P a n.toNat = true := by simpa using cv
          obtain ⟨hi, hs⟩ := isS_put (S := { sp F s with W := clr (sp F s).W a n }) c3 (isS_get c3).2.2
          refine ⟨rfl, a1, n1, an, fun i i0 i1 => ?_⟩
          generalize hG : put F s { sp F s with W := clr (sp F s).W a n } = G at *
          have hGO : G.O = F.O := by rw [← hG]; rfl
          have hpg : ((a + i) * 64 + 8 * (i % 8)) / 64 = a + i := by omega
          have hw8 : ((a + i) * 64 + 8 * (i % 8)) / 8 = (a + i) * 8 + i % 8 := by omega
          have hh : ((sp F s).P (a + i)).h ≠ 0 := cov_in cv (a + i) ⟨by omega, by omega⟩
          have ceF : celE 10 4 (sp F s) ((a + i) * 64 + 8 * (i % 8)) = 0 := by
            unfold celE
            rw [if_neg (by omega), if_neg (by omega), hpg, if_neg hh]
          have ceG : celE 10 4 (sp G s) ((a + i) * 64 + 8 * (i % 8)) = 0 := by
            rw [← ceF]
            refine celE_P (by rw [hs]) _ _ _
          unfold wdE wdV
          dsimp only
          rw [if_pos hi, if_pos c3, if_pos ⟨hi, ceG⟩, if_pos ⟨c3, ceF⟩]
          refine ⟨ceG, ceF, fun hn => ?_, fun hy => ?_⟩
          · unfold celV
            rw [hs, hpg]
            dsimp only
            rw [if_neg hn, hw8]
            exact clr_own ⟨by omega, by omega⟩
          · unfold celV
            rw [hs, hpg]
            dsimp only
            rw [if_pos hy, if_pos hy, hGO]
theorem stF_map1 (ha : a ≠ 0) (c3 : isS G s = true) : stF G ⟨2, s, a, n, 1, 3, 0, 0, 0⟩ = mapAt G ⟨2, s, a, n, 1, 3, 0, 0, 0⟩ a 0 := by
  unfold stF
  dsimp only
  rw [if_neg (by decide), if_neg (by decide), if_neg (by rw [c3]; decide), if_neg (by decide), if_neg (by decide), if_pos rfl]
  unfold mapR
  rw [if_neg ha]
/-- What is unmapped is not there, and mapped anew reads 0. -/
theorem unmap_then (e : (stF F ⟨3, s, a, n, h, p, t, c, v⟩).1 = 0) : 1 ≤ a ∧ 1 ≤ n ∧ a + n ≤ 4096 ∧
    wdE (stF F ⟨3, s, a, n, h, p, t, c, v⟩).2.2 s (a * 64) = 10 ∧
    ((stF (stF F ⟨3, s, a, n, h, p, t, c, v⟩).2.2 ⟨2, s, a, n, 1, 3, 0, 0, 0⟩).1 = 0 → wdE (stF (stF F ⟨3, s, a, n, h, p, t, c, v⟩).2.2 ⟨2, s, a, n, 1, 3, 0, 0, 0⟩).2.2 s (a * 64) = 0 ∧ wdV (stF (stF F ⟨3, s, a, n, h, p, t, c, v⟩).2.2 ⟨2, s, a, n, 1, 3, 0, 0, 0⟩).2.2 s (a * 64) = 0) ∧
    ((stF (stF F ⟨3, s, a, n, h, p, t, c, v⟩).2.2 ⟨2, s, a, n, 1, 3, 0, 0, 0⟩).1 ≠ 0 → 63 ≤ (arsF (stF (stF F ⟨3, s, a, n, h, p, t, c, v⟩).2.2 ⟨2, s, a, n, 1, 3, 0, 0, 0⟩).2.2 s).length) := by
  rw [stF_unmap] at e ⊢
  cases c3 : isS F s with
  | false => rw [if_pos c3] at e; exact absurd e (by show ¬ (11 : Int) = 0; decide)
  | true =>
    rw [if_neg (by rw [c3]; decide)] at e
    rw [if_neg (show ¬ (true = false) by decide)]
    by_cases m0 : unE (sp F s).P a n ≠ 0
    · rw [if_pos m0] at e; exact absurd e m0
    · rw [if_neg m0]
      have m1 := Classical.not_not.1 m0
      unfold unE at m1
      by_cases r0 : rtI a n 0 ≠ 0
      · rw [if_pos r0] at m1; exact absurd m1 r0
      · have r1 := Classical.not_not.1 r0
        obtain ⟨a1, n1, an⟩ := rt_in r1
        obtain ⟨hi, hs⟩ := isS_put (S := { sp F s with P := unP (sp F s).P a n, W := clr (sp F s).W a n }) c3 (isS_get c3).2.2
        dsimp only
        generalize hG : put F s { sp F s with P := unP (sp F s).P a n, W := clr (sp F s).W a n } = G at *
        have hun : ∀ i, inS a n i → (unP (sp F s).P a n i).h = 0 := fun i hi => by unfold unP; rw [if_pos hi]; rfl
        have hin : inS a n a := ⟨Int.le_refl _, by omega⟩
        have h64 : a * 64 / 64 = a := by omega
        refine ⟨a1, n1, an, ?_, ?_⟩
        · unfold wdE celE
          rw [if_pos hi, if_neg (by omega), if_neg (by omega), hs, h64]
          exact if_pos (hun a hin)
        · rw [stF_map1 (by omega) hi]
          have hsz : ordO 1 = 0 := rfl
          have hob : objI G 1 = 0 := if_neg (by unfold shr; omega)
          have hoF : objF G 1 = G := if_neg (by unfold shr; omega)
          have hus : usedB (unP (sp F s).P a n) a n.toNat = false := by
            unfold usedB
            rw [anyB_false]
            intro k hk
            rw [decide_eq_false_iff_not]
            intro q
            exact q (hun _ ⟨by omega, by omega⟩)
          unfold mapAt
          dsimp only
          rw [hs, hob, hoF]
          dsimp only
          refine ⟨fun e => ?_, fun e => ?_⟩
          · by_cases m2 : mapE (unP (sp F s).P a n) a n 1 3 0 ≠ 0
            · rw [if_pos m2] at e; exact absurd e m2
            · rw [if_neg m2]
              dsimp only
              obtain ⟨hi3, hs3⟩ := isS_put (S := { P := mapP (unP (sp F s).P a n) a n 1 3 0, W := clr (sp F s).W a n, g := (sp F s).g }) hi (isS_get c3).2.2
              have hpm : (mapP (unP (sp F s).P a n) a n 1 3 0 a).h = 1 := by unfold mapP; rw [if_pos hin]
              have ce : celE 10 4 (sp (put G s { P := mapP (unP (sp F s).P a n) a n 1 3 0, W := clr (sp F s).W a n, g := (sp F s).g }) s) (a * 64) = 0 := by
                unfold celE
                rw [if_neg (by omega), if_neg (by omega), hs3, h64]
                dsimp only
                rw [hpm]; rfl
              unfold wdE wdV
              rw [if_pos hi3, if_pos ⟨hi3, ce⟩]
              refine ⟨ce, ?_⟩
              unfold celV
              rw [hs3, h64]
              dsimp only
              rw [hpm, if_neg (by unfold shr; omega)]
              exact clr_own ⟨by omega, by omega⟩
          · by_cases m2 : mapE (unP (sp F s).P a n) a n 1 3 0 ≠ 0
            · rw [if_pos m2]
              have h13 : mapE (unP (sp F s).P a n) a n 1 3 0 = 13 := by
                unfold mapE at m2 ⊢
                rw [if_neg (by decide), hsz, if_neg r0, if_neg (by rw [hus]; decide)] at m2 ⊢
                by_cases f : fullB (mapP (unP (sp F s).P a n) a n 1 3 0) = true
                · rw [if_pos f]
                · rw [if_neg f] at m2; exact absurd rfl m2
              have := map_full h13 (by rw [hsz, r1]; decide)
              unfold noF arsF
              dsimp only
              rw [if_pos hi, hs]
              exact Nat.le_trans (by decide) this
            · rw [if_neg m2] at e; exact absurd rfl e
end
end Go.Proofs.YtnppnoabhpkmkaaGreat
