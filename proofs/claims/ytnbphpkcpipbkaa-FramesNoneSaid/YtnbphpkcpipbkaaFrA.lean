/- What frames are, without the program: what each call answers, and what it makes of them. -/
import Derived.WalkKit
import Derived.Lib.Hide
import Derived.Test.YtnbphpkcpipbkaaK0
namespace Go.Proofs.Ytnbphpkcpipbkaa
def isF (x : Int) : Bool := decide (0 ≤ x ∧ x ≤ 5)
def mayF (a b : Int) : Bool := decide (a ≠ b ∧ (a = 0 ∨ b = 0 ∨ (a = 2 ∧ (b = 4 ∨ b = 5)) ∨ (b = 2 ∧ (a = 4 ∨ a = 5))))
def areF (I : List Int) (f n : Nat) (a : Int) : Bool := decide (∀ i, i < n → I[f + i]? = some a)
def tuE (I : List Int) (f n a b : Int) : Int :=
  if n < 1 ∨ isF a = false ∨ isF b = false then 2 else if f < 0 ∨ (I.length : Int) ≤ f ∨ (I.length : Int) - f < n then 3
  else if mayF a b = false then 5 else if areF I f.toNat n.toNat a = false then 12 else 0
def putF (I : List Int) (f n : Nat) (b : Int) : List Int := splice I f (List.replicate n b)
def tuL (I : List Int) (f n a b : Int) : List Int := if tuE I f n a b = 0 then putF I f.toNat n.toNat b else I
structure OkF (I : List Int) : Prop where
  l0 : 8 ≤ I.length
  l1 : I.length ≤ 1024
  is : ∀ x, x ∈ I → 0 ≤ x ∧ x ≤ 5
/-- Which is the next one. -/
def NxIs (I : List Int) (f x r : Int) : Prop :=
  (r = -1 ∧ ∀ i : Nat, f ≤ i → I[i]? ≠ some x) ∨ (∃ k : Nat, r = k ∧ f ≤ k ∧ I[k]? = some x ∧ ∀ i : Nat, f ≤ i → i < k → I[i]? ≠ some x)
/-- How many of the first j are so. -/
def cnF (I : List Int) (x : Int) (j : Nat) : Nat := (I.take j).count x
section
variable {I : List Int} {f n a b x r r' : Int} {j k : Nat}
theorem cnF_succ (I : List Int) (x : Int) (j : Nat) : cnF I x (j + 1) = if I[j]? = some x then cnF I x j + 1 else cnF I x j := by
  unfold cnF
  rw [List.take_add_one, List.count_append]
  cases e : I[j]? with
  | none => simp
  | some y =>
    by_cases c : y = x
    · subst c; simp
    · rw [if_neg (by simpa using c)]
      simp [c]
theorem cnF_all (I : List Int) (x : Int) : cnF I x I.length = I.count x := by unfold cnF; rw [List.take_length]
theorem cnF_le (I : List Int) (x : Int) (j : Nat) : cnF I x j ≤ j := by
  unfold cnF
  exact Nat.le_trans List.count_le_length (by rw [List.length_take]; omega)
theorem cnF_len (I : List Int) (x : Int) (j : Nat) : cnF I x j ≤ I.length := by
  unfold cnF
  exact Nat.le_trans List.count_le_length (by rw [List.length_take]; omega)
theorem count_len (I : List Int) (x : Int) : I.count x ≤ I.length := List.count_le_length
/-- Between j and k none is so. -/
theorem cnF_gap (I : List Int) (x : Int) (j : Nat) : ∀ k, (∀ i : Nat, j ≤ i → i < j + k → I[i]? ≠ some x) → cnF I x (j + k) = cnF I x j
  | 0, _ => rfl
  | k + 1, h => by
    rw [show j + (k + 1) = (j + k) + 1 by omega, cnF_succ, if_neg (h (j + k) (by omega) (by omega))]
    exact cnF_gap I x j k fun i h1 h2 => h i h1 (by omega)
theorem nx_one (h : NxIs I f x r) (h' : NxIs I f x r') : r = r' := by
  rcases h with ⟨rfl, h⟩ | ⟨k, rfl, a1, a2, a3⟩ <;> rcases h' with ⟨rfl, h'⟩ | ⟨k', rfl, b1, b2, b3⟩
  · rfl
  · exact absurd b2 (h k' b1)
  · exact absurd a2 (h' k a1)
  · rcases Nat.lt_trichotomy k k' with c | c | c
    · exact absurd a2 (b3 k a1 c)
    · rw [c]
    · exact absurd b2 (a3 k' b1 c)
theorem nx_ex (I : List Int) (f x : Int) : ∃ r, NxIs I f x r := by
  by_cases h : ∃ k : Nat, f ≤ k ∧ I[k]? = some x
  · obtain ⟨k, hk⟩ := h
    have : ∀ m : Nat, (∃ k : Nat, k < m ∧ f ≤ k ∧ I[k]? = some x) → ∃ r, NxIs I f x r := by
      intro m
      induction m with
      | zero => rintro ⟨k, h, _⟩; omega
      | succ m ih =>
        intro hm
        by_cases c : ∃ k : Nat, k < m ∧ f ≤ k ∧ I[k]? = some x
        · exact ih c
        · obtain ⟨k, h1, h2, h3⟩ := hm
          exact ⟨k, Or.inr ⟨k, rfl, h2, h3, fun i h4 h5 h6 => c ⟨i, by omega, h4, h6⟩⟩⟩
    exact this (k + 1) ⟨k, by omega, hk⟩
  · exact ⟨-1, Or.inl ⟨rfl, fun i h1 h2 => h ⟨i, h1, h2⟩⟩⟩
theorem are_split {f n : Nat} (h : areF I f n a = true) : I = I.take f ++ List.replicate n a ++ I.drop (f + n) := by
  unfold areF at h
  have h := of_decide_eq_true h
  have e : (I.drop f).take n = List.replicate n a := by
    apply List.ext_getElem?
    intro i
    rw [List.getElem?_replicate, List.getElem?_take]
    by_cases c : i < n
    · rw [if_pos c, if_pos c, List.getElem?_drop, h i c]
    · rw [if_neg c, if_neg c]
  rw [← e, List.append_assoc, ← List.drop_drop, List.take_append_drop, List.take_append_drop]
theorem put_is (I : List Int) (f n : Nat) (b : Int) : putF I f n b = I.take f ++ List.replicate n b ++ I.drop (f + n) := by
  unfold putF splice
  rw [List.length_replicate, List.append_assoc]
theorem put_len {f n : Nat} (hl : f + n ≤ I.length) (b : Int) : (putF I f n b).length = I.length := by
  rw [put_is]
  simp only [List.length_append, List.length_take, List.length_replicate, List.length_drop]; omega
theorem put_get {f n : Nat} (hl : f + n ≤ I.length) (b : Int) (i : Nat) : (putF I f n b)[i]? = if f ≤ i ∧ i < f + n then some b else I[i]? := by
  unfold putF
  rw [splice_get _ _ _ (by rw [List.length_replicate]; exact hl), List.length_replicate, List.getElem?_replicate]
  by_cases c1 : i < f
  · rw [if_pos c1, if_neg (by omega)]
  · rw [if_neg c1]
    by_cases c2 : i < f + n
    · rw [if_pos c2, if_pos (by omega), if_pos (by omega)]
    · rw [if_neg c2, if_neg (by omega)]
theorem put_zero (I : List Int) (f : Nat) (b : Int) : putF I f 0 b = I := by unfold putF; exact splice_nil I f
theorem put_next {f m : Nat} (hl : f + m < I.length) (b : Int) : (putF I f m b).set (f + m) b = putF I f (m + 1) b := by
  apply List.ext_getElem?
  intro i
  rw [List.getElem?_set, put_len (by omega), put_get (by omega), put_get (by omega)]
  by_cases c : f + m = i
  · subst c
    rw [if_pos rfl, if_pos (by omega), if_pos (by omega)]
  · rw [if_neg c]
    by_cases d : f ≤ i ∧ i < f + m
    · rw [if_pos d, if_pos (by omega)]
    · rw [if_neg d, if_neg (by omega)]
theorem put_count {f n : Nat} (h : areF I f n a = true) (hab : a ≠ b) (x : Int) :
    ((putF I f n b).count x : Int) = (I.count x : Int) - (if x = a then (n : Int) else 0) + (if x = b then (n : Int) else 0) := by
  have e := congrArg (List.count x) (are_split h)
  rw [put_is]
  simp only [List.count_append, List.count_replicate, beq_iff_eq] at e ⊢
  by_cases c1 : x = a
  · subst c1
    rw [if_pos rfl] at e
    simp only [if_neg (fun e : b = x => hab e.symm), if_neg hab, if_pos] at e ⊢
    omega
  · by_cases c2 : x = b
    · subst c2
      simp only [if_neg (fun e : a = x => c1 e.symm), if_neg c1, if_pos] at e ⊢
      omega
    · simp only [if_neg (fun e : a = x => c1 e.symm), if_neg (fun e : b = x => c2 e.symm), if_neg c1, if_neg c2] at e ⊢
      omega
theorem tuE_ok (h : tuE I f n a b = 0) : ∃ f' n' : Nat, f = f' ∧ n = n' ∧ 1 ≤ n' ∧ f' + n' ≤ I.length ∧ isF a = true ∧ isF b = true ∧ mayF a b = true ∧ areF I f' n' a = true ∧ a ≠ b := by
  unfold tuE at h
  split at h
  · omega
  · rename_i c1
    split at h
    · omega
    · rename_i c2
      split at h
      · omega
      · rename_i c3
        split at h
        · omega
        · rename_i c4
          refine ⟨f.toNat, n.toNat, by omega, by omega, by omega, by omega, ?_, ?_, ?_, ?_, ?_⟩
          · cases e : isF a <;> simp_all
          · cases e : isF b <;> simp_all
          · cases e : mayF a b <;> simp_all
          · cases e : areF I f.toNat n.toNat a <;> simp_all
          · rintro rfl
            apply c3
            unfold mayF; simp
theorem isF_iff : isF x = true ↔ 0 ≤ x ∧ x ≤ 5 := by unfold isF; exact decide_eq_true_iff
theorem OkF.turn (h : OkF I) (f n a b : Int) : OkF (tuL I f n a b) := by
  unfold tuL
  split
  · rename_i c
    obtain ⟨f', n', rfl, rfl, -, h2, -, h4, -, -, -⟩ := tuE_ok c
    rw [Int.toNat_natCast, Int.toNat_natCast]
    refine ⟨by rw [put_len h2]; exact h.l0, by rw [put_len h2]; exact h.l1, fun x hx => ?_⟩
    rw [put_is] at hx
    simp only [List.mem_append, List.mem_replicate] at hx
    rcases hx with (hx | ⟨_, rfl⟩) | hx
    · exact h.is x (List.mem_of_mem_take hx)
    · exact isF_iff.1 h4
    · exact h.is x (List.mem_of_mem_drop hx)
  · exact h
theorem turn_len (I : List Int) (f n a b : Int) : (tuL I f n a b).length = I.length := by
  unfold tuL
  split
  · rename_i c
    obtain ⟨f', n', rfl, rfl, -, h2, -⟩ := tuE_ok c
    rw [Int.toNat_natCast, Int.toNat_natCast, put_len h2]
  · rfl
theorem OkF.none (h : OkF I) (hx : isF x = false) : I.count x = 0 := by
  rw [List.count_eq_zero]
  intro c
  have := h.is x c
  rw [isF_iff.2 this] at hx
  cases hx
theorem OkF.all (h : ∀ x, x ∈ I → 0 ≤ x ∧ x ≤ 5) : I.count 0 + I.count 1 + I.count 2 + I.count 3 + I.count 4 + I.count 5 = I.length := by
  induction I with
  | nil => rfl
  | cons y r ih =>
    have := ih fun x hx => h x (List.mem_cons_of_mem _ hx)
    obtain ⟨h0, h1⟩ := h y List.mem_cons_self
    simp only [List.count_cons, List.length_cons]
    rcases (show y = 0 ∨ y = 1 ∨ y = 2 ∨ y = 3 ∨ y = 4 ∨ y = 5 by omega) with rfl | rfl | rfl | rfl | rfl | rfl <;> simp <;> omega
/-- The counts, in a row. -/
def ctF (I : List Int) : List Int := [(I.count 0 : Nat), (I.count 1 : Nat), (I.count 2 : Nat), (I.count 3 : Nat), (I.count 4 : Nat), (I.count 5 : Nat)]
theorem ct_get (I : List Int) {k : Nat} (hk : k < 6) : (ctF I)[k]? = some ((I.count (k : Int) : Nat) : Int) := by
  match k, hk with
  | 0, _ => rfl
  | 1, _ => rfl
  | 2, _ => rfl
  | 3, _ => rfl
  | 4, _ => rfl
  | 5, _ => rfl
theorem ct_len (I : List Int) : (ctF I).length = 6 := rfl
theorem ct_turn {f n a b : Nat} (h : areF I f n a = true) (hab : a ≠ b) (ha : a < 6) (hb : b < 6) :
    ((ctF I).set a ((I.count (a : Int) : Nat) - n : Int)).set b ((I.count (b : Int) : Nat) + n : Int) = ctF (putF I f n b) := by
  apply List.ext_getElem?
  intro k
  have hab' : ((a : Nat) : Int) ≠ ((b : Nat) : Int) := by omega
  by_cases hk : k < 6
  · rw [ct_get _ hk, put_count h hab', List.getElem?_set, List.getElem?_set, List.length_set, ct_len]
    by_cases c1 : b = k
    · subst c1
      rw [if_pos rfl, if_pos hb, if_neg (fun e => hab' e.symm), if_pos rfl]
      congr 1 <;> omega
    · rw [if_neg c1, if_neg (c := (k : Int) = (b : Nat)) (by omega)]
      by_cases c2 : a = k
      · subst c2
        rw [if_pos rfl, if_pos ha, if_pos rfl]
        congr 1 <;> omega
      · rw [if_neg c2, if_neg (c := (k : Int) = (a : Nat)) (by omega), ct_get _ hk]
        congr 1 <;> omega
  · rw [List.getElem?_eq_none (by rw [List.length_set, List.length_set, ct_len]; omega), List.getElem?_eq_none (by rw [ct_len]; omega)]
end
end Go.Proofs.Ytnbphpkcpipbkaa
