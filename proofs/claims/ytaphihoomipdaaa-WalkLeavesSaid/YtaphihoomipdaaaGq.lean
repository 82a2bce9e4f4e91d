/- The greedy cut of a stretch, and that it is the cut from the middle. -/
import Derived.Test.YtaphihoomipdaaaGp
namespace Go.Proofs.Ytaphihoomipdaaa

/-- The order of the greatest block that begins at a and has no more than n pages. -/
def gk (a n o : Nat) : Nat := if 6 ≤ o ∧ a % 64 = 0 ∧ 64 ≤ n then 6 else if 3 ≤ o ∧ a % 8 = 0 ∧ 8 ≤ n then 3 else 0
def grF : Nat → Nat → Nat → Nat → List (Nat × Nat)
  | 0, _, _, _ => []
  | f + 1, a, n, o => if n = 0 then [] else (a, gk a n o) :: grF f (a + 2 ^ gk a n o) (n - 2 ^ gk a n o) o
/-- The greedy cut of the n pages from a on. -/
def gr (a n o : Nat) : List (Nat × Nat) := grF n a n o
theorem gk_pos (a n o : Nat) : 1 ≤ 2 ^ gk a n o := Nat.one_le_two_pow
theorem gk_le {a n o : Nat} (h : 0 < n) : 2 ^ gk a n o ≤ n := by
  unfold gk
  split
  · show 64 ≤ n; omega
  · split
    · show 8 ≤ n; omega
    · show 1 ≤ n; omega
theorem grF_more : ∀ (n f a o : Nat), n ≤ f → grF f a n o = grF n a n o := by
  intro n
  induction n using Nat.strongRecOn with
  | ind n ih =>
    intro f a o h
    match n, f with
    | 0, 0 => rfl
    | 0, f + 1 => simp [grF]
    | n + 1, 0 => omega
    | n + 1, f + 1 =>
      simp only [grF, Nat.succ_ne_zero, if_false]
      have hp := gk_pos a (n + 1) o
      congr 1
      rw [ih _ (by omega) f _ _ (by omega), ih _ (by omega) n _ _ (by omega)]
theorem gr_zero (a o : Nat) : gr a 0 o = [] := rfl
theorem gr_step (a n o : Nat) (h : 0 < n) : gr a n o = (a, gk a n o) :: gr (a + 2 ^ gk a n o) (n - 2 ^ gk a n o) o := by
  obtain ⟨m, rfl⟩ : ∃ m, n = m + 1 := ⟨n - 1, by omega⟩
  have hp := gk_pos a (m + 1) o
  show grF (m + 1) a (m + 1) o = _
  simp only [grF, Nat.succ_ne_zero, if_false]
  congr 1
  exact grF_more _ _ _ _ (by omega)

/-- m blocks of order k, one behind the other, from a on. -/
def rowL (a m k : Nat) : List (Nat × Nat) := (List.range m).map fun i => (a + i * 2 ^ k, k)
theorem rowL_zero (a k : Nat) : rowL a 0 k = [] := rfl
theorem rowL_length (a m k : Nat) : (rowL a m k).length = m := by simp [rowL]
theorem rowL_snoc (a m k : Nat) : rowL a (m + 1) k = rowL a m k ++ [(a + m * 2 ^ k, k)] := by simp [rowL, List.range_succ]
theorem rowL_cons (a m k : Nat) : rowL a (m + 1) k = (a, k) :: rowL (a + 2 ^ k) m k := by
  simp only [rowL, List.range_succ_eq_map, List.map_cons, List.map_map, Nat.zero_mul, Nat.add_zero]
  congr 1
  apply List.map_congr_left
  intro i _
  simp only [Function.comp, Nat.succ_mul, Prod.mk.injEq, and_true]
  omega
theorem gk0 (a n : Nat) : gk a n 0 = 0 := by simp [gk]
theorem gr_row : ∀ (n a : Nat), gr a n 0 = rowL a n 0 := by
  intro n
  induction n with
  | zero => intro a; rfl
  | succ n ih => intro a; rw [gr_step a _ 0 (by omega), gk0, rowL_cons]; exact congrArg _ (ih _)
theorem gk0_cases (a n : Nat) : gk a n 0 = 0 := gk0 a n

theorem gk3_yes {a n : Nat} (h : a % 8 = 0) (hn : 8 ≤ n) : gk a n 3 = 3 := by
  unfold gk; rw [if_neg (by omega), if_pos (by omega)]
theorem gk3_no {a n : Nat} (h : ¬ (a % 8 = 0 ∧ 8 ≤ n)) : gk a n 3 = gk a n 0 := by
  unfold gk; repeat' split
  all_goals omega
/-- Where no block of the order lies, the next lesser order cuts alike. -/
theorem gr3_low : ∀ (f a n : Nat), n ≤ f → (a + n) / 8 * 8 ≤ (a + 7) / 8 * 8 → gr a n 3 = gr a n 0 := by
  intro f
  induction f with
  | zero => intro a n hf _; obtain rfl : n = 0 := (by omega); rfl
  | succ f ih =>
    intro a n hf h
    by_cases hn : n = 0
    · subst hn; rfl
    · rw [gr_step a n 3 (by omega), gr_step a n 0 (by omega), gk3_no (by omega)]
      congr 1
      have hp := gk_pos a n 0
      exact ih _ _ (by omega) (by omega)
theorem gr3_mid : ∀ (m a n : Nat), a % 8 = 0 → n / 8 = m → gr a n 3 = rowL a m 3 ++ gr (a + 8 * m) (n - 8 * m) 0 := by
  intro m
  induction m with
  | zero => intro a n ha hm; rw [rowL_zero, List.nil_append, Nat.mul_zero, Nat.add_zero, Nat.sub_zero]; exact gr3_low n a n (Nat.le_refl _) (by omega)
  | succ m ih =>
    intro a n ha hm
    rw [gr_step a n 3 (by omega), gk3_yes ha (by omega), rowL_cons, List.cons_append, show (2 : Nat) ^ 3 = 8 from rfl, ih (a + 8) (n - 8) (by omega) (by omega)]
    rw [show a + 8 + 8 * m = a + 8 * (m + 1) by omega, show n - 8 - 8 * m = n - 8 * (m + 1) by omega]
/-- Where one lies: what is ahead of the first, the row of them, what is behind the last. -/
theorem gr3_cut : ∀ (f a n : Nat), n ≤ f → (a + 7) / 8 * 8 < (a + n) / 8 * 8 →
    gr a n 3 = gr a ((a + 7) / 8 * 8 - a) 0 ++ (rowL ((a + 7) / 8 * 8) ((a + n) / 8 - (a + 7) / 8) 3 ++ gr ((a + n) / 8 * 8) (a + n - (a + n) / 8 * 8) 0) := by
  intro f
  induction f with
  | zero => intro a n hf h; omega
  | succ f ih =>
    intro a n hf h
    by_cases ha : a % 8 = 0
    · have e : (a + 7) / 8 * 8 = a := by omega
      have e2 : (a + 7) / 8 = a / 8 := by omega
      rw [e, e2, Nat.sub_self, show gr a 0 0 = [] from rfl, List.nil_append]
      rw [gr3_mid _ a n ha rfl, show n / 8 = (a + n) / 8 - a / 8 by omega]
      congr 2
      · omega
      · omega
    · rw [gr_step a n 3 (by omega), gk3_no (by omega), gr_step a ((a + 7) / 8 * 8 - a) 0 (by omega)]
      have hk : gk a n 0 = gk a ((a + 7) / 8 * 8 - a) 0 := by simp [gk]
      have hc := gk0_cases a n
      have hp := gk_pos a n 0
      rw [← hk]
      have hle : a + 2 ^ gk a n 0 ≤ (a + 7) / 8 * 8 := by
        rw [hc]; omega
      obtain ⟨z, hz⟩ : ∃ z, z = 2 ^ gk a n 0 := ⟨_, rfl⟩
      rw [← hz] at hp hle ⊢
      have e : (a + z + 7) / 8 = (a + 7) / 8 := by omega
      have e3 : a + z + (n - z) = a + n := by omega
      have i := ih (a + z) (n - z) (by omega) (by rw [e, e3]; omega)
      rw [e, e3] at i
      rw [i, List.cons_append, show (a + 7) / 8 * 8 - a - z = (a + 7) / 8 * 8 - (a + z) by omega]

theorem gk3_cases (a n : Nat) : gk a n 3 = 0 ∨ (gk a n 3 = 3 ∧ a % 8 = 0 ∧ 8 ≤ n) := by
  by_cases h : a % 8 = 0 ∧ 8 ≤ n
  · exact Or.inr ⟨gk3_yes h.1 h.2, h⟩
  · rw [gk3_no h, gk0]; exact Or.inl rfl

theorem gk6_yes {a n : Nat} (h : a % 64 = 0) (hn : 64 ≤ n) : gk a n 6 = 6 := by
  unfold gk; rw [if_pos (by omega)]
theorem gk6_no {a n : Nat} (h : ¬ (a % 64 = 0 ∧ 64 ≤ n)) : gk a n 6 = gk a n 3 := by
  unfold gk; repeat' split
  all_goals omega
/-- Where no block of the order lies, the next lesser order cuts alike. -/
theorem gr6_low : ∀ (f a n : Nat), n ≤ f → (a + n) / 64 * 64 ≤ (a + 63) / 64 * 64 → gr a n 6 = gr a n 3 := by
  intro f
  induction f with
  | zero => intro a n hf _; obtain rfl : n = 0 := (by omega); rfl
  | succ f ih =>
    intro a n hf h
    by_cases hn : n = 0
    · subst hn; rfl
    · rw [gr_step a n 6 (by omega), gr_step a n 3 (by omega), gk6_no (by omega)]
      congr 1
      have hp := gk_pos a n 3
      exact ih _ _ (by omega) (by omega)
theorem gr6_mid : ∀ (m a n : Nat), a % 64 = 0 → n / 64 = m → gr a n 6 = rowL a m 6 ++ gr (a + 64 * m) (n - 64 * m) 3 := by
  intro m
  induction m with
  | zero => intro a n ha hm; rw [rowL_zero, List.nil_append, Nat.mul_zero, Nat.add_zero, Nat.sub_zero]; exact gr6_low n a n (Nat.le_refl _) (by omega)
  | succ m ih =>
    intro a n ha hm
    rw [gr_step a n 6 (by omega), gk6_yes ha (by omega), rowL_cons, List.cons_append, show (2 : Nat) ^ 6 = 64 from rfl, ih (a + 64) (n - 64) (by omega) (by omega)]
    rw [show a + 64 + 64 * m = a + 64 * (m + 1) by omega, show n - 64 - 64 * m = n - 64 * (m + 1) by omega]
/-- Where one lies: what is ahead of the first, the row of them, what is behind the last. -/
theorem gr6_cut : ∀ (f a n : Nat), n ≤ f → (a + 63) / 64 * 64 < (a + n) / 64 * 64 →
    gr a n 6 = gr a ((a + 63) / 64 * 64 - a) 3 ++ (rowL ((a + 63) / 64 * 64) ((a + n) / 64 - (a + 63) / 64) 6 ++ gr ((a + n) / 64 * 64) (a + n - (a + n) / 64 * 64) 3) := by
  intro f
  induction f with
  | zero => intro a n hf h; omega
  | succ f ih =>
    intro a n hf h
    by_cases ha : a % 64 = 0
    · have e : (a + 63) / 64 * 64 = a := by omega
      have e2 : (a + 63) / 64 = a / 64 := by omega
      rw [e, e2, Nat.sub_self, show gr a 0 3 = [] from rfl, List.nil_append]
      rw [gr6_mid _ a n ha rfl, show n / 64 = (a + n) / 64 - a / 64 by omega]
      congr 2
      · omega
      · omega
    · rw [gr_step a n 6 (by omega), gk6_no (by omega), gr_step a ((a + 63) / 64 * 64 - a) 3 (by omega)]
      have hk : gk a n 3 = gk a ((a + 63) / 64 * 64 - a) 3 := by
        unfold gk; repeat' split
        all_goals omega
      have hc := gk3_cases a n
      have hp := gk_pos a n 3
      rw [← hk]
      have hle : a + 2 ^ gk a n 3 ≤ (a + 63) / 64 * 64 := by
        rcases hc with hc | ⟨hc, h8, _⟩ <;> rw [hc] <;> omega
      obtain ⟨z, hz⟩ : ∃ z, z = 2 ^ gk a n 3 := ⟨_, rfl⟩
      rw [← hz] at hp hle ⊢
      have e : (a + z + 63) / 64 = (a + 63) / 64 := by omega
      have e3 : a + z + (n - z) = a + n := by omega
      have i := ih (a + z) (n - z) (by omega) (by rw [e, e3]; omega)
      rw [e, e3] at i
      rw [i, List.cons_append, show (a + 63) / 64 * 64 - a - z = (a + 63) / 64 * 64 - (a + z) by omega]

/-- The order of a cut that an order comes to. -/
def lowO (o : Nat) : Nat := o - o % 3
theorem gk_low (a n o : Nat) (h : o ≤ 8) : gk a n (lowO o) = gk a n o := by
  unfold gk lowO
  have : o = 0 ∨ o = 1 ∨ o = 2 ∨ o = 3 ∨ o = 4 ∨ o = 5 ∨ o = 6 ∨ o = 7 ∨ o = 8 := by omega
  rcases this with rfl | rfl | rfl | rfl | rfl | rfl | rfl | rfl | rfl <;> simp
theorem gr_low : ∀ (f a n o : Nat), n ≤ f → o ≤ 8 → gr a n (lowO o) = gr a n o := by
  intro f
  induction f with
  | zero => intro a n o hf _; obtain rfl : n = 0 := (by omega); rfl
  | succ f ih =>
    intro a n o hf h
    by_cases hn : n = 0
    · subst hn; rfl
    · rw [gr_step a n _ (by omega), gr_step a n o (by omega), gk_low a n o h]
      have hp := gk_pos a n o
      congr 1
      exact ih _ _ _ (by omega) h
theorem gr_len : ∀ (f a n o : Nat), n ≤ f → (gr a n o).length ≤ n := by
  intro f
  induction f with
  | zero => intro a n o hf; obtain rfl : n = 0 := (by omega); exact Nat.le_refl _
  | succ f ih =>
    intro a n o hf
    by_cases hn : n = 0
    · subst hn; exact Nat.le_refl _
    · rw [gr_step a n o (by omega), List.length_cons]
      have hp := gk_pos a n o
      have hq := gk_le (a := a) (o := o) (by omega : 0 < n)
      have := ih (a + 2 ^ gk a n o) (n - 2 ^ gk a n o) o (by omega)
      omega
/-- What stands at a place of the cut, and what is left behind it. -/
theorem gr_at : ∀ (i a n o : Nat) (x : Nat × Nat), (gr a n o)[i]? = some x → ∃ m, 0 < m ∧ x.1 + m = a + n ∧ a ≤ x.1 ∧ x.2 = gk x.1 m o ∧ (gr a n o).drop (i + 1) = gr (x.1 + 2 ^ x.2) (m - 2 ^ x.2) o := by
  intro i
  induction i with
  | zero =>
    intro a n o x h
    by_cases hn : n = 0
    · subst hn; simp [gr_zero] at h
    · rw [gr_step a n o (by omega)] at h ⊢
      simp only [List.getElem?_cons_zero, Option.some.injEq] at h
      subst h
      exact ⟨n, by omega, rfl, Nat.le_refl _, rfl, by simp⟩
  | succ i ih =>
    intro a n o x h
    by_cases hn : n = 0
    · subst hn; simp [gr_zero] at h
    · rw [gr_step a n o (by omega)] at h ⊢
      simp only [List.getElem?_cons_succ] at h
      have hq := gk_le (a := a) (o := o) (by omega : 0 < n)
      obtain ⟨m, h1, h2, h3, h4, h5⟩ := ih _ _ _ _ h
      exact ⟨m, h1, by omega, by have := gk_pos a n o; omega, h4, by simpa using h5⟩
theorem gr_next {i a n o : Nat} {x y : Nat × Nat} (h : (gr a n o)[i]? = some x) (g : (gr a n o)[i + 1]? = some y) : y.1 = x.1 + 2 ^ x.2 := by
  obtain ⟨m, h1, h2, h3, h4, h5⟩ := gr_at i a n o x h
  have e : ((gr a n o).drop (i + 1))[0]? = some y := by rw [List.getElem?_drop]; exact g
  rw [h5] at e
  by_cases hz : m - 2 ^ x.2 = 0
  · rw [hz] at e; simp [gr_zero] at e
  · rw [gr_step _ _ o (by omega)] at e
    simp only [List.getElem?_cons_zero, Option.some.injEq] at e
    rw [← e]
theorem gr_last {i a n o : Nat} {x : Nat × Nat} (h : (gr a n o)[i]? = some x) (g : (gr a n o).length = i + 1) : x.1 + 2 ^ x.2 = a + n := by
  obtain ⟨m, h1, h2, h3, h4, h5⟩ := gr_at i a n o x h
  have e : (gr (x.1 + 2 ^ x.2) (m - 2 ^ x.2) o).length = 0 := by rw [← h5, List.length_drop]; omega
  have hq := gk_le (a := x.1) (o := o) h1
  rw [← h4] at hq
  by_cases hz : m - 2 ^ x.2 = 0
  · omega
  · rw [gr_step _ _ o (by omega)] at e; simp at e
theorem gr_fits {i a n o : Nat} {x : Nat × Nat} (h : (gr a n o)[i]? = some x) : x.1 + 2 ^ x.2 ≤ a + n ∧ a ≤ x.1 := by
  obtain ⟨m, h1, h2, h3, h4, h5⟩ := gr_at i a n o x h
  have hq := gk_le (a := x.1) (o := o) h1
  rw [← h4] at hq
  omega
theorem gr_head {a n o : Nat} (h : 0 < n) : ∃ k, (gr a n o)[0]? = some (a, k) := ⟨gk a n o, by rw [gr_step a n o h]; rfl⟩
theorem gr_nil {a n o : Nat} (h : (gr a n o).length = 0) : n = 0 := by
  by_cases hn : n = 0
  · exact hn
  · rw [gr_step a n o (by omega)] at h; simp at h
/-- The block at a place is even, of an order of the cut, no greater than asked; and if there were room and evenness for a greater one, it would be there. -/
theorem gr_block {i a n o : Nat} {x : Nat × Nat} (h : (gr a n o)[i]? = some x) : (x.2 = 0 ∨ x.2 = 3 ∨ x.2 = 6) ∧ x.2 ≤ o ∧ x.1 % 2 ^ x.2 = 0 := by
  obtain ⟨m, h1, h2, h3, h4, h5⟩ := gr_at i a n o x h
  rw [h4]
  unfold gk
  split
  · exact ⟨by omega, by omega, by show x.1 % 64 = 0; omega⟩
  · split
    · exact ⟨by omega, by omega, by show x.1 % 8 = 0; omega⟩
    · exact ⟨by omega, by omega, by show x.1 % 1 = 0; omega⟩
theorem gr_great {i a n o : Nat} {x : Nat × Nat} (h : (gr a n o)[i]? = some x) (h3 : x.2 + 3 ≤ o) (ho : o ≤ 8) (he : x.1 % 2 ^ (x.2 + 3) = 0) : a + n < x.1 + 8 * 2 ^ x.2 := by
  obtain ⟨m, h1, h2, h3', h4, h5⟩ := gr_at i a n o x h
  have hb := gr_block h
  obtain ⟨f, k⟩ := x
  simp only at *
  rcases hb.1 with rfl | rfl | rfl
  · have e : f % 8 = 0 := he
    by_cases hm : 8 ≤ m
    · exfalso
      unfold gk at h4
      split at h4
      · omega
      · rw [if_pos (by omega)] at h4; omega
    · show a + n < f + 8 * 1; omega
  · have e : f % 64 = 0 := he
    by_cases hm : 64 ≤ m
    · exfalso
      unfold gk at h4
      rw [if_pos (by omega)] at h4; omega
    · show a + n < f + 8 * 8; omega
  · omega
end Go.Proofs.Ytaphihoomipdaaa
