/- Spaces whose pages are just there, without the program: what is done in one space leaves the others; a space and its copy. -/
import Derived.Test.YtnppnoabhpkmkaaGreatMg11
namespace Go.Proofs.YtnppnoabhpkmkaaGreat
section
variable {F : Fl}
theorem sp_app {O : List (Int → Int)} {S : Sp} {j : Int} (hj : 0 ≤ j) (hl : j < F.L.length) : sp ⟨F.L ++ [S], O⟩ j = sp F j := by
  unfold sp
  dsimp only
  rw [List.getD_eq_getElem?_getD, List.getD_eq_getElem?_getD, List.getElem?_append_left (by omega)]
theorem sp_new {O : List (Int → Int)} {S : Sp} : sp ⟨F.L ++ [S], O⟩ (F.L.length : Int) = S := by
  unfold sp
  dsimp only
  rw [List.getD_eq_getElem?_getD, Int.toNat_natCast, List.getElem?_append_right (Nat.le_refl _), Nat.sub_self]
  rfl
theorem addF_sp {S : Sp} {j : Int} (hj : 0 ≤ j) (hl : j < F.L.length) : sp (addF F S).2.2 j = sp F j ∧ F.L.length ≤ (addF F S).2.2.L.length := by
  unfold addF
  split
  · exact ⟨rfl, Nat.le_refl _⟩
  · exact ⟨sp_app hj hl, by show _ ≤ (F.L ++ [S]).length; rw [List.length_append]; omega⟩
theorem sp_objF {how j : Int} : sp (objF F how) j = sp F j := by unfold sp; rw [objF_L]
theorem put_len {i : Int} {S : Sp} : (put F i S).L.length = F.L.length := by show (F.L.set _ _).length = _; rw [List.length_set]
theorem sp_put_ne {i j : Int} {S : Sp} (hi : 0 ≤ i) (hj : 0 ≤ j) (e : j ≠ i) : sp (put F i S) j = sp F j := by
  unfold sp put
  dsimp only
  rw [List.getD_eq_getElem?_getD, List.getD_eq_getElem?_getD, List.getElem?_set_ne (by omega)]
theorem mapAt_sp {r : Rq} {a v j : Int} (hi : 0 ≤ r.s) (hj : 0 ≤ j) (e : j ≠ r.s) : sp (mapAt F r a v).2.2 j = sp F j ∧ (mapAt F r a v).2.2.L.length = F.L.length := by
  unfold mapAt
  split
  · exact ⟨rfl, rfl⟩
  · exact ⟨(sp_put_ne hi hj e).trans sp_objF, by show (put _ _ _).L.length = _; rw [put_len, objF_L]⟩
/-- What is done in one space leaves every other as it is. -/
theorem stF_other {r : Rq} {j : Int} (hj : 0 ≤ j) (hl : j < F.L.length) (e : j ≠ r.s) : sp (stF F r).2.2 j = sp F j ∧ F.L.length ≤ (stF F r).2.2.L.length := by
  unfold stF
  split
  · exact ⟨rfl, Nat.le_refl _⟩
  · split
    · exact addF_sp hj hl
    · split
      · exact ⟨rfl, Nat.le_refl _⟩
      · rename_i hs
        have hi := (isS_get (by simpa using hs)).1
        split
        · exact addF_sp hj hl
        · split
          · unfold accR
            split
            · exact ⟨rfl, Nat.le_refl _⟩
            · split
              · exact ⟨rfl, Nat.le_refl _⟩
              · split
                · show sp (celS F r.s r.a r.v) j = _ ∧ _ ≤ (celS F r.s r.a r.v).L.length
                  unfold celS
                  dsimp only
                  split
                  · exact ⟨rfl, Nat.le_refl _⟩
                  · exact ⟨sp_put_ne hi hj e, by rw [put_len]; exact Nat.le_refl _⟩
                · exact ⟨rfl, Nat.le_refl _⟩
          · split
            · unfold mapR
              split
              · split
                · exact ⟨rfl, Nat.le_refl _⟩
                · split
                  · exact ⟨rfl, Nat.le_refl _⟩
                  · have := mapAt_sp (F := F) (r := r) (a := roomP (sp F r.s).P r.n (szO r.h)) (v := roomP (sp F r.s).P r.n (szO r.h)) hi hj e
                    exact ⟨this.1, by rw [this.2]; exact Nat.le_refl _⟩
              · have := mapAt_sp (F := F) (r := r) (a := r.a) (v := 0) hi hj e
                exact ⟨this.1, by rw [this.2]; exact Nat.le_refl _⟩
            · split
              · exact ⟨rfl, Nat.le_refl _⟩
              · exact ⟨sp_put_ne hi hj e, by show _ ≤ (put _ _ _).L.length; rw [put_len]; exact Nat.le_refl _⟩
/-- An own word is known by its space. -/
theorem celV_own {G : Fl} {S : Sp} {a : Int} (h : ¬ shr (S.P (a / 64)).h) : celV G S a = S.W (a / 8) := by unfold celV; rw [if_neg h]
/-- A space and its copy read the same at first, wherever the copy has the page. -/
theorem copy_reads {G : Fl} {S : Sp} {a : Int} (e : celE 10 4 (cpS S) a = 0) (hO : G.O = F.O) : celE 10 4 S a = 0 ∧ celV G (cpS S) a = celV F S a := by
  have e' := celE_ok e
  have hp : cpP S.P (a / 64) = S.P (a / 64) := by
    rcases cpP_or S.P (a / 64) with q | q
    · exact q
    · exact absurd (show (cpP S.P (a / 64)).h = 0 by rw [q]; rfl) e'.2.2.2
  have h4 : (cpP S.P (a / 64)).h ≠ 0 := e'.2.2.2
  constructor
  · unfold celE
    rw [if_neg (by omega), if_neg (by omega), if_neg (by rw [← hp]; exact h4)]
  · unfold celV
    rw [hO]
    show (if shr (cpP S.P (a / 64)).h then F.O.getD (cpP S.P (a / 64)).o.toNat (fun _ => 0) ((cpP S.P (a / 64)).x * 8 + a / 8 % 8) else cpW (cpP S.P) S.W (a / 8)) = _
    rw [hp]
    split
    · rfl
    · unfold cpW
      rw [if_neg]
      rintro ⟨_, _, q⟩
      rw [show a / 8 / 8 = a / 64 by omega] at q
      exact h4 q
/-- What is zapped or unmapped reads 0 where it is its own; what has not been touched stays. -/
theorem clr_own {W : Int → Int} {a n i : Int} (h : a * 8 ≤ i ∧ i < (a + n) * 8) : clr W a n i = 0 := if_pos h
theorem clr_out {W : Int → Int} {a n i : Int} (h : ¬ (a * 8 ≤ i ∧ i < (a + n) * 8)) : clr W a n i = W i := if_neg h
/-- What is in no area, and what has just come into one, has words 0. -/
theorem own_none {m : Nat} {S : Sp} (h : SpOk m S) {i : Int} (e : (S.P (i / 8)).h = 0) : S.W i = 0 := Classical.byContradiction fun q => (h.own i q).2.2.1 e
end
end Go.Proofs.YtnppnoabhpkmkaaGreat
/- Areas, without the program: a mapping where nothing is makes at most one area more. -/
namespace Go.Proofs.YtnppnoabhpkmkaaGreat
/-- Does an area begin at the k-th page? -/
def begB (P : Int → Pg) (k : Nat) : Nat := if (P (0 + (k : Int))).h = 0 then 0 else if 0 < k ∧ (P (0 + (k : Int) - 1)).h ≠ 0 ∧ nxt (P (0 + (k : Int) - 1)) (P (0 + (k : Int))) = true then 0 else 1
theorem pcs_step (P : Int → Pg) (k : Nat) : (pcs P 0 (k + 1)).length = (pcs P 0 k).length + begB P k := by
  unfold begB
  show (if (P (0 + (k : Int))).h = 0 then pcs P 0 k else if 0 < k ∧ (P (0 + (k : Int) - 1)).h ≠ 0 ∧ nxt (P (0 + (k : Int) - 1)) (P (0 + (k : Int))) = true then setTo (pcs P 0 k) (0 + (k : Int) + 1) else pcs P 0 k ++ [newA (P (0 + (k : Int))) (0 + (k : Int))]).length = _
  by_cases c : (P (0 + (k : Int))).h = 0
  · rw [if_pos c, if_pos c]; rfl
  · rw [if_neg c, if_neg c]
    by_cases d : 0 < k ∧ (P (0 + (k : Int) - 1)).h ≠ 0 ∧ nxt (P (0 + (k : Int) - 1)) (P (0 + (k : Int))) = true
    · rw [if_pos d, if_pos d, setTo_length]; rfl
    · rw [if_neg d, if_neg d, List.length_append]; rfl
theorem begB_le (P : Int → Pg) (k : Nat) : begB P k ≤ 1 := by
  unfold begB
  split
  · omega
  · split <;> omega
theorem map_len {P : Int → Pg} {a n how p o : Int} (ha : 1 ≤ a) (hn : 1 ≤ n) (hf : ∀ i, inS a n i → (P i).h = 0) (k : Nat) :
    (pcs (mapP P a n how p o) 0 k).length ≤ (pcs P 0 k).length + if a < (k : Int) then 1 else 0 := by
  have hin : ∀ i, inS a n i → mapP P a n how p o i = ⟨how, p, o, if shr how then i - a else 0⟩ := fun i h => if_pos h
  have hout : ∀ i, ¬ inS a n i → mapP P a n how p o i = P i := fun i h => if_neg h
  induction k with
  | zero => exact Nat.zero_le _
  | succ k ih =>
    rw [pcs_step, pcs_step]
    have l1 := begB_le (mapP P a n how p o) k
    by_cases c1 : (k : Int) < a
    · have e : begB (mapP P a n how p o) k = begB P k := by
        unfold begB
        rw [hout (0 + (k : Int)) (by unfold inS; omega), hout (0 + (k : Int) - 1) (by unfold inS; omega)]
      rw [e, if_neg (by omega)]
      rw [if_neg (by omega)] at ih
      omega
    · by_cases c2 : (k : Int) = a
      · rw [if_pos (by omega)]
        rw [if_neg (by omega)] at ih
        omega
      · rw [if_pos (by omega)] at ih ⊢
        by_cases c3 : (k : Int) < a + n
        · have e : begB (mapP P a n how p o) k = 0 := by
            unfold begB
            rw [hin (0 + (k : Int)) (by unfold inS; omega), hin (0 + (k : Int) - 1) (by unfold inS; omega)]
            by_cases c : how = 0
            · rw [if_pos c]
            · rw [if_neg c, if_pos]
              refine ⟨by omega, c, ?_⟩
              unfold nxt
              rw [decide_eq_true_eq]
              refine ⟨rfl, rfl, rfl, ?_⟩
              by_cases s : shr how
              · right
                show (if shr how then 0 + (k : Int) - a else 0) = (if shr how then 0 + (k : Int) - 1 - a else 0) + 1
                rw [if_pos s, if_pos s]; omega
              · exact Or.inl s
          omega
        · have e : begB (mapP P a n how p o) k ≤ begB P k := by
            by_cases c4 : (k : Int) = a + n
            · have h0 := hf (0 + (k : Int) - 1) (by unfold inS; omega)
              unfold begB
              rw [hout (0 + (k : Int)) (by unfold inS; omega)]
              by_cases c : (P (0 + (k : Int))).h = 0
              · rw [if_pos c, if_pos c]; exact Nat.le_refl _
              · rw [if_neg c, if_neg c, if_neg (c := 0 < k ∧ (P (0 + (k : Int) - 1)).h ≠ 0 ∧ nxt (P (0 + (k : Int) - 1)) (P (0 + (k : Int))) = true) (fun q => q.2.1 h0)]
                split <;> omega
            · unfold begB
              rw [hout (0 + (k : Int)) (by unfold inS; omega), hout (0 + (k : Int) - 1) (by unfold inS; omega)]
              exact Nat.le_refl _
          omega
/-- A mapping that lacks room for its area: there were 64 already. -/
theorem map_full {P : Int → Pg} {a n how p o : Int} (e : mapE P a n how p o = 13) (hr : rtI a n (ordO how) ≠ 13) : 64 ≤ (allA P).length := by
  unfold mapE at e
  split at e
  · cases e
  · split at e
    · exact absurd e hr
    · rename_i h2
      split at e
      · cases e
      · rename_i h3
        split at e
        · rename_i h4
          have r := rt_in (Classical.byContradiction h2)
          have := map_len (P := P) (how := how) (p := p) (o := o) r.1 r.2.1 (fun i hi => used_no (by simpa using h3) hi) 4096
          unfold fullB allA at h4
          have h4 := of_decide_eq_true h4
          unfold allA
          split at this <;> omega
        · cases e
end Go.Proofs.YtnppnoabhpkmkaaGreat
