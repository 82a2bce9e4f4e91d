/- Spaces: what FlatPlaces wants, without the program. -/
import Derived.Test.YtnppnoabhpkmkaaGreatFs5
namespace Go.Proofs.YtnppnoabhpkmkaaGreat
section
variable {F : Fl} {s n h p t c v : Int}
theorem place_ok (hF : FlOk F) (e : (stF F ⟨2, s, 0, n, h, p, t, c, v⟩).1 = 0) : ∃ b : Int, isS F s = true ∧ (stF F ⟨2, s, 0, n, h, p, t, c, v⟩).2.1 = b ∧ 1 ≤ b ∧ b % szO h = 0 ∧ 1 ≤ n ∧ b + n ≤ 4096 ∧
    (∀ i, b ≤ i → i < b + n → ((sp F s).P i).h = 0) ∧ (b = szO h ∨ szO h < b ∧ ∃ i, b - szO h ≤ i ∧ i < b - szO h + n ∧ ((sp F s).P i).h ≠ 0) ∧
    wdE (stF F ⟨2, s, 0, n, h, p, t, c, v⟩).2.2 s (b * 64) = 0 ∧ wdV (stF F ⟨2, s, 0, n, h, p, t, c, v⟩).2.2 s (b * 64) = 0 := by
  have hst : stF F ⟨2, s, 0, n, h, p, t, c, v⟩ = if isS F s = false then noF F 11 else mapR F ⟨2, s, 0, n, h, p, t, c, v⟩ := by
    unfold stF
    dsimp only
    rw [if_neg (by decide), if_neg (by decide)]
    split
    · rfl
    · rw [if_neg (by decide), if_neg (by decide), if_pos rfl]
  rw [hst] at e ⊢
  cases c3 : isS F s with
  | false => rw [if_pos c3] at e; exact absurd e (by show ¬ (11 : Int) = 0; decide)
  | true =>
    rw [if_neg (by rw [c3]; decide)] at e
    rw [if_neg (show ¬ (true = false) by decide)]
    unfold mapR at e ⊢
    dsimp only at e ⊢
    rw [if_pos rfl] at e ⊢
    by_cases m0 : mapE (fun _ => zP) (szO h) n h p (objI F h) ≠ 0
    · rw [if_pos m0] at e; exact absurd e m0
    · rw [if_neg m0] at e ⊢
      obtain ⟨-, q2, -, -⟩ := mapE_ok (Classical.not_not.1 m0)
      obtain ⟨-, n1, -⟩ := rt_in q2
      by_cases m1 : roomP (sp F s).P n (szO h) = 0
      · rw [if_pos m1] at e; exact absurd e (by show ¬ (13 : Int) = 0; decide)
      · rw [if_neg m1] at e ⊢
        rcases room_spec (P := (sp F s).P) (sz := szO h) (show 0 ≤ n by omega) with ⟨r0, -⟩ | ⟨r1, r2, ⟨r3, r4, r5⟩, r6⟩
        · exact absurd r0 m1
        generalize roomP (sp F s).P n (szO h) = b at *
        unfold mapAt at e ⊢
        dsimp only at e ⊢
        by_cases m2 : mapE (sp F s).P b n h p (objI F h) ≠ 0
        · rw [if_pos m2] at e; exact absurd e m2
        · rw [if_neg m2]
          obtain ⟨k1, -, -, -⟩ := mapE_ok (Classical.not_not.1 m2)
          have hh := mapA_h k1
          obtain ⟨s0, sl, sg⟩ := isS_get c3
          refine ⟨b, rfl, rfl, r1, r3, n1, r4, r5, ?_, ?_⟩
          · by_cases hb : b = szO h
            · exact Or.inl hb
            · have hsz : szO h < b := by
                rcases szO_pos h with z | z | z <;> rw [z] at r3 hb ⊢ <;> omega
              refine Or.inr ⟨hsz, ?_⟩
              refine Classical.byContradiction fun hc => r6 (b - szO h) (by omega) (by rcases szO_pos h with z | z | z <;> rw [z] <;> omega) ⟨?_, by rcases szO_pos h with z | z | z <;> rw [z] <;> omega, fun i i1 i2 => ?_⟩
              · rcases szO_pos h with z | z | z <;> rw [z] at r3 ⊢ <;> omega
              · exact Classical.byContradiction fun hn => hc ⟨i, i1, i2, hn⟩
          · generalize hG : put (objF F h) s { sp F s with P := mapP (sp F s).P b n h p (objI F h) } = G
            have hl : s < (objF F h).L.length := by rw [objF_L]; exact sl
            have hspG : sp G s = { sp F s with P := mapP (sp F s).P b n h p (objI F h) } := by
              rw [← hG, sp_put s0 hl s0, if_pos rfl]
            have hGl : G.L.length = F.L.length := by rw [← hG]; show ((objF F h).L.set _ _).length = _; rw [List.length_set, objF_L]
            have hGO : G.O = (objF F h).O := by rw [← hG]; rfl
            have hiG : isS G s = true := by rw [isS_lt s0 (by omega), hspG]; show (!(sp F s).g) = true; rw [sg]; rfl
            have hin : mapP (sp F s).P b n h p (objI F h) b = ⟨h, p, objI F h, if shr h then b - b else 0⟩ := if_pos ⟨Int.le_refl _, by omega⟩
            have hb64 : b * 64 / 64 = b := by omega
            have hce : celE 10 4 (sp G s) (b * 64) = 0 := by
              unfold celE
              rw [if_neg (by omega), if_neg (by omega), hspG, hb64]
              show (if (mapP (sp F s).P b n h p (objI F h) b).h = 0 then (10 : Int) else 0) = 0
              rw [hin]
              exact if_neg (show ¬ h = 0 by omega)
            unfold wdE wdV
            rw [if_pos hiG, if_pos ⟨hiG, hce⟩]
            refine ⟨hce, ?_⟩
            unfold celV
            rw [hspG, hb64]
            show (if shr (mapP (sp F s).P b n h p (objI F h) b).h then G.O.getD (mapP (sp F s).P b n h p (objI F h) b).o.toNat (fun _ => 0) _ else (sp F s).W (b * 64 / 8)) = 0
            rw [hin, hGO]
            dsimp only
            by_cases hs : shr h
            · rw [if_pos hs]
              unfold objF objI
              rw [if_pos hs, if_pos hs, List.getD_eq_getElem?_getD, Int.toNat_natCast]
              show ((F.O ++ [fun _ => 0])[F.O.length]?).getD (fun _ => 0) _ = 0
              rw [List.getElem?_append_right (Nat.le_refl _), Nat.sub_self]
              rfl
            · rw [if_neg hs]
              refine own_none (hF.sp s) ?_
              rw [show b * 64 / 8 / 8 = b by omega]
              exact r5 b (Int.le_refl _) (by omega)
end
end Go.Proofs.YtnppnoabhpkmkaaGreat
