/- The pieces put down by kinds, and the best of each kind: plain mathematics. -/
import Derived.Test.YtfjphlickpgbnaaKg
namespace Go.Proofs.Ytfjphlickpgbnaa

def putL (S : List Nat) (o : Nat) (M : Nat → List (Nat × Nat)) (l : List (Nat × Nat)) : Nat → List (Nat × Nat) := l.foldl (putM S o) M
theorem putL_append (S : List Nat) (o : Nat) (M : Nat → List (Nat × Nat)) (l m : List (Nat × Nat)) : putL S o M (l ++ m) = putL S o (putL S o M l) m := by unfold putL; rw [List.foldl_append]
theorem putL_snoc (S : List Nat) (o : Nat) (M : Nat → List (Nat × Nat)) (l : List (Nat × Nat)) (x : Nat × Nat) : putL S o M (l ++ [x]) = putM S o (putL S o M l) x := by rw [putL_append]; rfl
/-- The pieces of a kind that have the order. -/
def selB (S : List Nat) (o kd : Nat) (x : Nat × Nat) : Bool := decide (o ≤ x.2) && knd S x.1 == kd
theorem putL_at (S : List Nat) (o kd : Nat) (l : List (Nat × Nat)) : putL S o (fun _ => []) l kd = l.filter (selB S o kd) := by
  induction l using rev_ind with
  | h0 => rfl
  | h1 l x ih =>
    rw [putL_snoc, List.filter_append, ← ih]
    unfold putM
    by_cases ho : o ≤ x.2
    · rw [if_pos ho]
      by_cases hk : kd = knd S x.1
      · subst hk
        rw [updF_same]
        simp [selB, ho]
      · rw [updF_other _ _ hk]
        have hk' : ¬ knd S x.1 = kd := fun e => hk e.symm
        simp [selB, hk']
    · rw [if_neg ho]
      simp [selB, ho]
theorem putL_len (S : List Nat) (o kd : Nat) (l : List (Nat × Nat)) : (putL S o (fun _ => []) l kd).length ≤ l.length := by
  rw [putL_at]; exact List.length_filter_le _ _
/-- The best of those that are selected is what the search finds. -/
theorem fnd_bst (S : List Nat) (o kd : Nat) (great : Bool) (l : List (Nat × Nat)) : fnd S o kd great l = bstB great (l.filter (selB S o kd)) := by
  induction l using rev_ind with
  | h0 => rfl
  | h1 l x ih =>
    rw [fnd_snoc, List.filter_append, ih]
    unfold fnd1
    by_cases hc : x.2 < o ∨ knd S x.1 ≠ kd
    · rw [if_pos hc]
      have : selB S o kd x = false := by
        unfold selB
        rcases hc with h | h
        · rw [decide_eq_false (by omega)]; rfl
        · simp [h]
      simp [this]
    · rw [if_neg hc]
      have h1 : o ≤ x.2 := by omega
      have h2 : knd S x.1 = kd := Decidable.byContradiction fun h => hc (Or.inr h)
      have : selB S o kd x = true := by simp [selB, h1, h2]
      rw [show List.filter (selB S o kd) [x] = [x] by simp [this], bstB_snoc]
      rfl
/-- As many blocks that lie one behind the other as there are frames, at the most. -/
theorem rise_len : ∀ (l : List (Nat × Nat)) (N a : Nat), Rise l → (∀ x ∈ l, a ≤ x.1 ∧ x.1 + 2 ^ x.2 ≤ N) → a ≤ N → a + l.length ≤ N := by
  intro l
  induction l with
  | nil => intro N a _ _ h; simpa using h
  | cons x r ih =>
    intro N a hR h _
    obtain ⟨h1, h2⟩ := List.pairwise_cons.1 hR
    have hx := h x List.mem_cons_self
    have hp := two_pos x.2
    have := ih N (x.1 + 2 ^ x.2) h2 (fun y hy => ⟨h1 y hy, (h y (List.mem_cons_of_mem _ hy)).2⟩) hx.2
    simp only [List.length_cons]
    omega
theorem pcs_len (F : List Bool) (S : List Nat) : (pcs F S).length ≤ F.length := by
  have := rise_len (pcs F S) F.length 0 (pcs_rise F S) (fun x hx => ⟨Nat.zero_le _, (pcs_fre hx).2.2⟩) (Nat.zero_le _)
  omega
/-- The pieces of some blocks. -/
def pcsL (S : List Nat) (l : List (Nat × Nat)) : List (Nat × Nat) := l.flatMap (pcs1 S)
theorem pcsL_snoc (S : List Nat) (l : List (Nat × Nat)) (x : Nat × Nat) : pcsL S (l ++ [x]) = pcsL S l ++ pcs1 S x := by simp [pcsL]
theorem pcsL_all (F : List Bool) (S : List Nat) : pcsL S (bk F) = pcs F S := rfl
theorem pcsL_take_len {F : List Bool} (S : List Nat) (j : Nat) : (pcsL S ((bk F).take j)).length ≤ F.length := by
  have h : pcs F S = pcsL S ((bk F).take j) ++ pcsL S ((bk F).drop j) := by
    unfold pcs pcsL
    rw [← List.flatMap_append, List.take_append_drop]
  have := congrArg List.length h
  rw [List.length_append] at this
  have := pcs_len F S
  omega
/-- Does a section under a block have the kind 3? -/
theorem iso_any (S : List Nat) (f k : Nat) : iso S (f, k) = (List.range (upr f k - f / 8)).any fun j => ((S.getD (f / 8 + j) 0 : Nat) : Int) == 3 := by
  have hp := two_pos k
  unfold iso
  rw [Bool.eq_iff_iff, List.any_eq_true, List.any_eq_true]
  constructor
  · rintro ⟨i, hi, h⟩
    have hi' := List.mem_range.1 hi
    refine ⟨(f + i) / 8 - f / 8, List.mem_range.2 (by unfold upr; simp only at hi'; omega), ?_⟩
    have e : f / 8 + ((f + i) / 8 - f / 8) = (f + i) / 8 := by omega
    have h3 : knd S (f + i) = 3 := by simpa using h
    unfold knd at h3
    rw [e, h3]; rfl
  · rintro ⟨j, hj, h⟩
    have hj' := List.mem_range.1 hj
    unfold upr at hj'
    refine ⟨(f / 8 + j) * 8 - f, List.mem_range.2 (by simp only; omega), ?_⟩
    have h3 : S.getD (f / 8 + j) 0 = 3 := by
      have := eq_of_beq h
      omega
    have e : (f + ((f / 8 + j) * 8 - f)) / 8 = f / 8 + j := by omega
    unfold knd
    simp only
    rw [e, h3]; rfl
theorem upr_even {f k : Nat} (hf : f % 2 ^ k = 0) (hk : 3 < k) : upr f k - f / 8 = 2 ^ (k - 3) := by
  obtain ⟨d, rfl⟩ : ∃ d, k = d + 3 := ⟨k - 3, by omega⟩
  have hp : 2 ^ (d + 3) = 2 ^ d * 8 := by rw [Nat.pow_add]
  have := two_pos d
  rw [hp] at hf
  have h8 : f % 8 = 0 := Nat.mod_eq_zero_of_dvd (Nat.dvd_trans (Nat.dvd_mul_left 8 (2 ^ d)) (Nat.dvd_of_mod_eq_zero hf))
  unfold upr
  rw [hp, Nat.add_sub_cancel]
  omega
theorem pcs1_one {S : List Nat} {f k : Nat} (h : k ≤ 3 ∨ iso S (f, k) = false) : pcs1 S (f, k) = [(f, k)] := by unfold pcs1; rw [if_pos h]
theorem pcs1_many {S : List Nat} {f k : Nat} (h1 : 3 < k) (h2 : iso S (f, k) = true) : pcs1 S (f, k) = (List.range (2 ^ (k - 3))).map fun i => (f + i * 8, 3) := by
  unfold pcs1
  rw [if_neg (by rintro (h | h); simp only at h; omega; rw [h2] at h; cases h)]
end Go.Proofs.Ytfjphlickpgbnaa
