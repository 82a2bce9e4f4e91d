/- Spaces: what FlatStores wants, without the program. -/
import Derived.Test.YtnppnoabhpkmkaaGreatMg45
namespace Go.Proofs.YtnppnoabhpkmkaaGreat
section
variable {F G : Fl} {r : Rq}
/-- A store that has no error. -/
theorem st10 (hk : r.k = 10) (e : (stF F r).1 = 0) : isS F r.s = true ∧ celE 10 4 (sp F r.s) r.a = 0 ∧ ((sp F r.s).P (r.a / 64)).p = 3 ∧ stF F r = (0, 0, celS F r.s r.a r.v) := by
  have hst : stF F r = if isS F r.s = false then noF F 11 else accR F r := by
    unfold stF
    rw [if_neg (by omega), if_neg (by omega)]
    split
    · rfl
    · rw [if_neg (by omega), if_pos (Or.inr hk)]
  cases c3 : isS F r.s with
  | false =>
    rw [hst, if_pos c3] at e
    exact absurd e (by show ¬ (11 : Int) = 0; decide)
  | true =>
    rw [hst, if_neg (by rw [c3]; decide)] at e
    rw [hst, if_neg (by rw [c3]; decide)]
    unfold accR at e ⊢
    by_cases c : celE 10 4 (sp F r.s) r.a ≠ 0
    · rw [if_pos c] at e; exact absurd e c
    · rw [if_neg c] at e ⊢
      by_cases d : ((sp F r.s).P (r.a / 64)).p = 0 ∨ (r.k = 10 ∧ ((sp F r.s).P (r.a / 64)).p ≠ 3)
      · rw [if_pos d] at e; exact absurd e (by show ¬ (10 : Int) = 0; decide)
      · rw [if_neg d, if_pos hk]
        exact ⟨rfl, by omega, by omega, rfl⟩
/-- A load. -/
theorem ld9 (hk : r.k = 9) (c3 : isS G r.s = true) (e : celE 10 4 (sp G r.s) r.a = 0) (hp : ((sp G r.s).P (r.a / 64)).p ≠ 0) : stF G r = (0, celV G (sp G r.s) r.a, G) := by
  unfold stF
  rw [if_neg (by omega), if_neg (by omega), if_neg (by rw [c3]; decide), if_neg (by omega), if_pos (Or.inl hk)]
  unfold accR
  rw [if_neg (by omega), if_neg (by omega), if_neg (by omega)]
theorem isS_lt {i : Int} (h0 : 0 ≤ i) (hl : i < F.L.length) : isS F i = !(sp F i).g := by
  unfold isS sp
  rw [decide_eq_true h0, decide_eq_true hl]; rfl
theorem celE_P {S S' : Sp} (h : S.P = S'.P) (eF eA a : Int) : celE eF eA S a = celE eF eA S' a := by unfold celE; rw [h]
theorem store_is {i j a v : Int} (c3 : isS F i = true) : isS (celS F i a v) j = isS F j ∧ (0 ≤ j → (sp (celS F i a v) j).P = (sp F j).P) := by
  obtain ⟨h0, hl, hg⟩ := isS_get c3
  refine ⟨?_, fun hj => (celS_P h0 hl hj).1⟩
  by_cases hj : 0 ≤ j
  · obtain ⟨_, q2, q3⟩ := celS_P (a := a) (v := v) h0 hl hj
    by_cases hjl : j < F.L.length
    · rw [isS_lt hj hjl, isS_lt hj (by omega), q2]
    · unfold isS
      rw [decide_eq_false hjl, decide_eq_false (show ¬ j < ((celS F i a v).L.length : Int) by omega)]
      simp
  · unfold isS
    rw [decide_eq_false hj]; rfl
theorem store_err {i j a b v : Int} (c3 : isS F i = true) : wdE (celS F i a v) j b = wdE F j b := by
  obtain ⟨h1, h2⟩ := store_is (j := j) (a := a) (v := v) c3
  unfold wdE
  rw [h1]
  split
  · rename_i c
    exact celE_P (h2 (isS_get c).1) _ _ _
  · rfl
/-- What is stored is loaded. -/
theorem store_load (hF : FlOk F) (hk : r.k = 10) (e : (stF F r).1 = 0) : stF (stF F r).2.2 { r with k := 9 } = (0, r.v, (stF F r).2.2) := by
  obtain ⟨c3, ce, cp, hst⟩ := st10 hk e
  obtain ⟨h0, hl, hg⟩ := isS_get c3
  rw [hst]
  show stF (celS F r.s r.a r.v) { r with k := 9 } = (0, r.v, celS F r.s r.a r.v)
  obtain ⟨h1, h2⟩ := store_is (j := r.s) (a := r.a) (v := r.v) c3
  have hP := h2 h0
  have := ld9 (G := celS F r.s r.a r.v) (r := { r with k := 9 }) rfl (by show isS _ r.s = true; rw [h1]; exact c3) (by show celE 10 4 (sp _ r.s) r.a = 0; rw [celE_P hP]; exact ce) (by show ((sp _ r.s).P (r.a / 64)).p ≠ 0; rw [hP, cp]; decide)
  rw [this]
  have hv : celV (celS F r.s r.a r.v) (sp (celS F r.s r.a r.v) r.s) r.a = r.v := by
    refine (celV_store hF (i := r.s) (j := r.s) (a := r.a) (b := r.a) r.v h0 hl h0).1 ?_
    unfold sameC
    by_cases c : shr ((sp F r.s).P (r.a / 64)).h
    · exact Or.inl ⟨c, c, rfl, rfl⟩
    · exact Or.inr ⟨c, c, rfl, rfl⟩
  show (0, celV (celS F r.s r.a r.v) (sp (celS F r.s r.a r.v) r.s) r.a, _) = _
  rw [hv]
/-- And no other word of the space's has changed. -/
theorem store_other (hF : FlOk F) (hk : r.k = 10) (e : (stF F r).1 = 0) {b : Int} (hb : celE 10 4 (sp F r.s) b = 0) (hne : b ≠ r.a)
    (hn : ¬ (shr ((sp F r.s).P (r.a / 64)).h ∧ shr ((sp F r.s).P (b / 64)).h ∧ ((sp F r.s).P (r.a / 64)).o = ((sp F r.s).P (b / 64)).o ∧ ((sp F r.s).P (r.a / 64)).x = ((sp F r.s).P (b / 64)).x ∧ r.a % 64 = b % 64)) :
    wdV (stF F r).2.2 r.s b = wdV F r.s b := by
  obtain ⟨c3, ce, cp, hst⟩ := st10 hk e
  obtain ⟨h0, hl, hg⟩ := isS_get c3
  rw [hst]
  show wdV (celS F r.s r.a r.v) r.s b = _
  obtain ⟨h1, h2⟩ := store_is (j := r.s) (a := r.a) (v := r.v) c3
  unfold wdV
  rw [h1, celE_P (h2 h0), if_pos ⟨c3, hb⟩, if_pos ⟨c3, hb⟩]
  refine (celV_store hF (i := r.s) (j := r.s) (a := r.a) (b := b) r.v h0 hl h0).2 fun q => ?_
  obtain ⟨a1, a2, a3, a4⟩ := celE_ok ce
  obtain ⟨b1, b2, b3, b4⟩ := celE_ok hb
  unfold sameC at q
  rcases q with ⟨q1, q2, q3, q4⟩ | ⟨q1, q2, -, q4⟩
  · exact hn ⟨q1, q2, q3, by omega, by omega⟩
  · exact hne (by omega)
end
end Go.Proofs.YtnppnoabhpkmkaaGreat
