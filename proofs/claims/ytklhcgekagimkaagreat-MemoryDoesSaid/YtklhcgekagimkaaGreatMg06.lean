/- The greedy cut of a stretch, and that it is the cut from the middle. -/
import Derived.Test.YtklhcgekagimkaaGreatMg05
namespace Go.Proofs.YtklhcgekagimkaaGreat

/-- The order of the greatest block that begins at a and has no more than n pages. -/
def gk (a n o : Nat) : Nat := if 6 ≤ o ∧ a % 64 = 0 ∧ 64 ≤ n then 6 else if 3 ≤ o ∧ a % 8 = 0 ∧ 8 ≤ n then 3 else 0
def grF : Nat → Nat → Nat → Nat → List (Nat × Nat)
  | 0, _, _, _ => []
  | f + 1, a, n, o => if n = 0 then [] else (a, gk a n o) :: grF f (a + 2 ^ gk a n o) (n - 2 ^ gk a n o) o
/-- The greedy cut of the n pages from a on. -/
def gr (a n o : Nat) : List (Nat × Nat) := grF n a n o
theorem gk_pos (a n o : Nat) : 1 ≤ 2 ^ gk a n o := Nat.one_le_two_pow
theorem gk_le {a n o : Nat} (h : 0 < n) : 2 ^ gk a n o ≤ n := by
  unfold gk
  split
  · show 64 ≤ n; omega
  · split
    · show 8 ≤ n; omega
    · show 1 ≤ n; omega
theorem grF_more : ∀ (n f a o : Nat), n ≤ f → grF f a n o = grF n a n o := by
  intro n
  induction n using Nat.strongRecOn with
  | ind n ih =>
    intro f a o h
    match n, f with
    | 0, 0 => rfl
    | 0, f + 1 => simp [grF]
    | n + 1, 0 => omega
    | n + 1, f + 1 =>
      simp only [grF, Nat.succ_ne_zero, if_false]
      have hp := gk_pos a (n + 1) o
      congr 1
      rw [ih _ (by omega) f _ _ (by omega), ih _ (by omega) n _ _ (by omega)]
theorem gr_zero (a o : Nat) : gr a 0 o = [] := rfl
theorem gr_step (a n o : Nat) (h : 0 < n) : gr a n o = (a, gk a n o) :: gr (a + 2 ^ gk a n o) (n - 2 ^ gk a n o) o := by
  obtain ⟨m, rfl⟩ : ∃ m, n = m + 1 := ⟨n - 1, by omega⟩
  have hp := gk_pos a (m + 1) o
  show grF (m + 1) a (m + 1) o = _
  simp only [grF, Nat.succ_ne_zero, if_false]
  congr 1
  exact grF_more _ _ _ _ (by omega)

/-- m blocks of order k, one behind the other, from a on. -/
def rowL (a m k : Nat) : List (Nat × Nat) := (List.range m).map fun i => (a + i * 2 ^ k, k)
theorem rowL_zero (a k : Nat) : rowL a 0 k = [] := rfl
theorem rowL_length (a m k : Nat) : (rowL a m k).length = m := by simp [rowL]
theorem rowL_snoc (a m k : Nat) : rowL a (m + 1) k = rowL a m k ++ [(a + m * 2 ^ k, k)] := by simp [rowL, List.range_succ]
theorem rowL_cons (a m k : Nat) : rowL a (m + 1) k = (a, k) :: rowL (a + 2 ^ k) m k := by
  simp only [rowL, List.range_succ_eq_map, List.map_cons, List.map_map, Nat.zero_mul, Nat.add_zero]
  congr 1
  apply List.map_congr_left
  intro i _
  simp only [Function.comp, Nat.succ_mul, Prod.mk.injEq, and_true]
  omega
theorem gk0 (a n : Nat) : gk a n 0 = 0 := by simp [gk]
theorem gr_row : ∀ (n a : Nat), gr a n 0 = rowL a n 0 := by
  intro n
  induction n with
  | zero => intro a; rfl
  | succ n ih => intro a; rw [gr_step a _ 0 (by omega), gk0, rowL_cons]; exact congrArg _ (ih _)
theorem gk0_cases (a n : Nat) : gk a n 0 = 0 := gk0 a n

theorem gk3_yes {a n : Nat} (h : a % 8 = 0) (hn : 8 ≤ n) : gk a n 3 = 3 := by
  unfold gk; rw [if_neg (by omega), if_pos (by omega)]
theorem gk3_no {a n : Nat} (h : ¬ (a % 8 = 0 ∧ 8 ≤ n)) : gk a n 3 = gk a n 0 := by
  unfold gk; repeat' split
  all_goals omega
/-- Where no block of the order lies, the next lesser order cuts alike. -/
theorem gr3_low : ∀ (f a n : Nat), n ≤ f → (a + n) / 8 * 8 ≤ (a + 7) / 8 * 8 → gr a n 3 = gr a n 0 := by
  intro f
  induction f with
  | zero => intro a n hf _; obtain rfl : n = 0 := (by omega); rfl
  | succ f ih =>
    intro a n hf h
    by_cases hn : n = 0
    · subst hn; rfl
    · rw [gr_step a n 3 (by omega), gr_step a n 0 (by omega), gk3_no (by omega)]
      congr 1
      have hp := gk_pos a n 0
      exact ih _ _ (by omega) (by omega)
theorem gr3_mid : ∀ (m a n : Nat), a % 8 = 0 → n / 8 = m → gr a n 3 = rowL a m 3 ++ gr (a + 8 * m) (n - 8 * m) 0 := by
  intro m
  induction m with
  | zero => intro a n ha hm; rw [rowL_zero, List.nil_append, Nat.mul_zero, Nat.add_zero, Nat.sub_zero]; exact gr3_low n a n (Nat.le_refl _) (by omega)
  | succ m ih =>
    intro a n ha hm
    rw [gr_step a n 3 (by omega), gk3_yes ha (by omega), rowL_cons, List.cons_append, show (2 : Nat) ^ 3 = 8 from rfl, ih (a + 8) (n - 8) (by omega) (by omega)]
    rw [show a + 8 + 8 * m = a + 8 * (m + 1) by omega, show n - 8 - 8 * m = n - 8 * (m + 1) by omega]
/-- Where one lies: what is ahead of the first, the row of them, what is behind the last. -/
theorem gr3_cut : ∀ (f a n : Nat), n ≤ f → (a + 7) / 8 * 8 < (a + n) / 8 * 8 →
    gr a n 3 = gr a ((a + 7) / 8 * 8 - a) 0 ++ (rowL ((a + 7) / 8 * 8) ((a + n) / 8 - (a + 7) / 8) 3 ++ gr ((a + n) / 8 * 8) (a + n - (a + n) / 8 * 8) 0) := by
  intro f
  induction f with
  | zero => intro a n hf h; omega
  | succ f ih =>
    intro a n hf h
    by_cases ha : a % 8 = 0
    · have e : (a + 7) / 8 * 8 = a := by omega
      have e2 : (a + 7) / 8 = a / 8 := by omega
      rw [e, e2, Nat.sub_self, show gr a 0 0 = [] from rfl, List.nil_append]
      rw [gr3_mid _ a n ha rfl, show n / 8 = (a + n) / 8 - a / 8 by omega]
      congr 2
      · omega
      · omega
    · rw [gr_step a n 3 (by omega), gk3_no (by omega), gr_step a ((a + 7) / 8 * 8 - a) 0 (by omega)]
      have hk : gk a n 0 = gk a ((a + 7) / 8 * 8 - a) 0 := by simp [gk]
      have hc := gk0_cases a n
      have hp := gk_pos a n 0
      rw [← hk]
      have hle : a + 2 ^ gk a n 0 ≤ (a + 7) / 8 * 8 := by
        rw [hc]; omega
      obtain ⟨z, hz⟩ : ∃ z, z = 2 ^ gk a n 0 := ⟨_, rfl⟩
      rw [← hz] at hp hle ⊢
      have e : (a + z + 7) / 8 = (a + 7) / 8 := by omega
      have e3 : a + z + (n - z) = a + n := by omega
      have i := ih (a + z) (n - z) (by omega) (by rw [e, e3]; omega)
      rw [e, e3] at i
      rw [i, List.cons_append, show (a + 7) / 8 * 8 - a - z = (a + 7) / 8 * 8 - (a + z) by omega]

theorem gk3_cases (a n : Nat) : gk a n 3 = 0 ∨ (gk a n 3 = 3 ∧ a % 8 = 0 ∧ 8 ≤ n) := by
  by_cases h : a % 8 = 0 ∧ 8 ≤ n
  · exact Or.inr ⟨gk3_yes h.1 h.2, h⟩
  · rw [gk3_no h, gk0]; exact Or.inl rfl

theorem gk6_yes {a n : Nat} (h : a % 64 = 0) (hn : 64 ≤ n) : gk a n 6 = 6 := by
  unfold gk; rw [if_pos (by omega)]
theorem gk6_no {a n : Nat} (h : ¬ (a % 64 = 0 ∧ 64 ≤ n)) : gk a n 6 = gk a n 3 := by
  unfold gk; repeat' split
  all_goals omega
/-- Where no block of the order lies, the next lesser order cuts alike. -/
theorem gr6_low : ∀ (f a n : Nat), n ≤ f → (a + n) / 64 * 64 ≤ (a + 63) / 64 * 64 → gr a n 6 = gr a n 3 := by
  intro f
  induction f with
  | zero => intro a n hf _; obtain rfl : n = 0 := (by omega); rfl
  | succ f ih =>
    intro a n hf h
    by_cases hn : n = 0
    · subst hn; rfl
    · rw [gr_step a n 6 (by omega), gr_step a n 3 (by omega), gk6_no (by omega)]
      congr 1
      have hp := gk_pos a n 3
      exact ih _ _ (by omega) (by omega)
theorem gr6_mid : ∀ (m a n : Nat), a % 64 = 0 → n / 64 = m → gr a n 6 = rowL a m 6 ++ gr (a + 64 * m) (n - 64 * m) 3 := by
  intro m
  induction m with
  | zero => intro a n ha hm; rw [rowL_zero, List.nil_append, Nat.mul_zero, Nat.add_zero, Nat.sub_zero]; exact gr6_low n a n (Nat.le_refl _) (by omega)
  | succ m ih =>
    intro a n ha hm
    rw [gr_step a n 6 (by omega), gk6_yes ha (by omega), rowL_cons, List.cons_append, show (2 : Nat) ^ 6 = 64 from rfl, ih (a + 64) (n - 64) (by omega) (by omega)]
    rw [show a + 64 + 64 * m = a + 64 * (m + 1) by omega, show n - 64 - 64 * m = n - 64 * (m + 1) by omega]
/-- Where one lies: what is ahead of the first, the row of them, what is behind the last. -/
theorem gr6_cut : ∀ (f a n : Nat), n ≤ f → (a + 63) / 64 * 64 < (a + n) / 64 * 64 →
    gr a n 6 = gr a ((a + 63) / 64 * 64 - a) 3 ++ (rowL ((a + 63) / 64 * 64) ((a + n) / 64 - (a + 63) / 64) 6 ++ gr ((a + n) / 64 * 64) (a + n - (a + n) / 64 * 64) 3) := by
  intro f
  induction f with
  | zero => intro a n hf h; omega
  | succ f ih =>
    intro a n hf h
    by_cases ha : a % 64 = 0
    · have e : (a + 63) / 64 * 64 = a := by omega
      have e2 : (a + 63) / 64 = a / 64 := by omega
      rw [e, e2, Nat.sub_self, show gr a 0 3 = [] from rfl, List.nil_append]
      rw [gr6_mid _ a n ha rfl, show n / 64 = (a + n) / 64 - a / 64 by omega]
      congr 2
      · omega
      · omega
    · rw [gr_step a n 6 (by omega), gk6_no (by omega), gr_step a ((a + 63) / 64 * 64 - a) 3 (by omega)]
      have hk : gk a n 3 = gk a ((a + 63) / 64 * 64 - a) 3 := by
        unfold gk; repeat' split
        all_goals omega
      have hc := gk3_cases a n
      have hp := gk_pos a n 3
      rw [← hk]
      have hle : a + 2 ^ gk a n 3 ≤ (a + 63) / 64 * 64 := by
        rcases hc with hc | ⟨hc, h8, _⟩ <;> rw [hc] <;> omega
      obtain ⟨z, hz⟩ : ∃ z, z = 2 ^ gk a n 3 := ⟨_, rfl⟩
      rw [← hz] at hp hle ⊢
      have e : (a + z + 63) / 64 = (a + 63) / 64 := by omega
      have e3 : a + z + (n - z) = a + n := by omega
      have i := ih (a + z) (n - z) (by omega) (by rw [e, e3]; omega)
      rw [e, e3] at i
      rw [i, List.cons_append, show (a + 63) / 64 * 64 - a - z = (a + 63) / 64 * 64 - (a + z) by omega]

/-- The order of a cut that an order comes to. -/
def lowO (o : Nat) : Nat := o - o % 3
theorem gk_low (a n o : Nat) (h : o ≤ 8) : gk a n (lowO o) = gk a n o := by
  unfold gk lowO
  have : o = 0 ∨ o = 1 ∨ o = 2 ∨ o = 3 ∨ o = 4 ∨ o = 5 ∨ o = 6 ∨ o = 7 ∨ o = 8 := by omega
  rcases this with rfl | rfl | rfl | rfl | rfl | rfl | rfl | rfl | rfl <;> simp
theorem gr_low : ∀ (f a n o : Nat), n ≤ f → o ≤ 8 → gr a n (lowO o) = gr a n o := by
  intro f
  induction f with
  | zero => intro a n o hf _; obtain rfl : n = 0 := (by omega); rfl
  | succ f ih =>
    intro a n o hf h
    by_cases hn : n = 0
    · subst hn; rfl
    · rw [gr_step a n _ (by omega), gr_step a n o (by omega), gk_low a n o h]
      have hp := gk_pos a n o
      congr 1
      exact ih _ _ _ (by omega) h
theorem gr_len : ∀ (f a n o : Nat), n ≤ f → (gr a n o).length ≤ n := by
  intro f
  induction f with
  | zero => intro a n o hf; obtain rfl : n = 0 := (by omega); exact Nat.le_refl _
  | succ f ih =>
    intro a n o hf
    by_cases hn : n = 0
    · subst hn; exact Nat.le_refl _
    · rw [gr_step a n o (by omega), List.length_cons]
      have hp := gk_pos a n o
      have hq := gk_le (a := a) (o := o) (by omega : 0 < n)
      have := ih (a + 2 ^ gk a n o) (n - 2 ^ gk a n o) o (by omega)
      omega
/-- What stands at a place of the cut, and what is left behind it. -/
theorem gr_at : ∀ (i a n o : Nat) (x : Nat × Nat), (gr a n o)[i]? = some x → ∃ m, 0 < m ∧ x.1 + m = a + n ∧ a ≤ x.1 ∧ x.2 = gk x.1 m o ∧ (gr a n o).drop (i + 1) = gr (x.1 + 2 ^ x.2) (m - 2 ^ x.2) o := by
  intro i
  induction i with
  | zero =>
    intro a n o x h
    by_cases hn : n = 0
    · subst hn; simp [gr_zero] at h
    · rw [gr_step a n o (by omega)] at h ⊢
      simp only [List.getElem?_cons_zero, Option.some.injEq] at h
      subst h
      exact ⟨n, by omega, rfl, Nat.le_refl _, rfl, by simp⟩
  | succ i ih =>
    intro a n o x h
    by_cases hn : n = 0
    · subst hn; simp [gr_zero] at h
    · rw [gr_step a n o (by omega)] at h ⊢
      simp only [List.getElem?_cons_succ] at h
      have hq := gk_le (a := a) (o := o) (by omega : 0 < n)
      obtain ⟨m, h1, h2, h3, h4, h5⟩ := ih _ _ _ _ h
      exact ⟨m, h1, by omega, by have := gk_pos a n o; omega, h4, by simpa using h5⟩
theorem gr_next {i a n o : Nat} {x y : Nat × Nat} (h : (gr a n o)[i]? = some x) (g : (gr a n o)[i + 1]? = some y) : y.1 = x.1 + 2 ^ x.2 := by
  obtain ⟨m, h1, h2, h3, h4, h5⟩ := gr_at i a n o x h
  have e : ((gr a n o).drop (i + 1))[0]? = some y := by rw [List.getElem?_drop]; exact g
  rw [h5] at e
  by_cases hz : m - 2 ^ x.2 = 0
  · rw [hz] at e; simp [gr_zero] at e
  · rw [gr_step _ _ o (by omega)] at e
    simp only [List.getElem?_cons_zero, Option.some.injEq] at e
    rw [← e]
theorem gr_last {i a n o : Nat} {x : Nat × Nat} (h : (gr a n o)[i]? = some x) (g : (gr a n o).length = i + 1) : x.1 + 2 ^ x.2 = a + n := by
  obtain ⟨m, h1, h2, h3, h4, h5⟩ := gr_at i a n o x h
  have e : (gr (x.1 + 2 ^ x.2) (m - 2 ^ x.2) o).length = 0 := by rw [← h5, List.length_drop]; omega
  have hq := gk_le (a := x.1) (o := o) h1
  rw [← h4] at hq
  by_cases hz : m - 2 ^ x.2 = 0
  · omega
  · rw [gr_step _ _ o (by omega)] at e; simp at e
theorem gr_fits {i a n o : Nat} {x : Nat × Nat} (h : (gr a n o)[i]? = some x) : x.1 + 2 ^ x.2 ≤ a + n ∧ a ≤ x.1 := by
  obtain ⟨m, h1, h2, h3, h4, h5⟩ := gr_at i a n o x h
  have hq := gk_le (a := x.1) (o := o) h1
  rw [← h4] at hq
  omega
theorem gr_head {a n o : Nat} (h : 0 < n) : ∃ k, (gr a n o)[0]? = some (a, k) := ⟨gk a n o, by rw [gr_step a n o h]; rfl⟩
theorem gr_nil {a n o : Nat} (h : (gr a n o).length = 0) : n = 0 := by
  by_cases hn : n = 0
  · exact hn
  · rw [gr_step a n o (by omega)] at h; simp at h
/-- The block at a place is even, of an order of the cut, no greater than asked; and if there were room and evenness for a greater one, it would be there. -/
theorem gr_block {i a n o : Nat} {x : Nat × Nat} (h : (gr a n o)[i]? = some x) : (x.2 = 0 ∨ x.2 = 3 ∨ x.2 = 6) ∧ x.2 ≤ o ∧ x.1 % 2 ^ x.2 = 0 := by
  obtain ⟨m, h1, h2, h3, h4, h5⟩ := gr_at i a n o x h
  rw [h4]
  unfold gk
  split
  · exact ⟨by omega, by omega, by show x.1 % 64 = 0; omega⟩
  · split
    · exact ⟨by omega, by omega, by show x.1 % 8 = 0; omega⟩
    · exact ⟨by omega, by omega, by show x.1 % 1 = 0; omega⟩
theorem gr_great {i a n o : Nat} {x : Nat × Nat} (h : (gr a n o)[i]? = some x) (h3 : x.2 + 3 ≤ o) (ho : o ≤ 8) (he : x.1 % 2 ^ (x.2 + 3) = 0) : a + n < x.1 + 8 * 2 ^ x.2 := by
  obtain ⟨m, h1, h2, h3', h4, h5⟩ := gr_at i a n o x h
  have hb := gr_block h
  obtain ⟨f, k⟩ := x
  simp only at *
  rcases hb.1 with rfl | rfl | rfl
  · have e : f % 8 = 0 := he
    by_cases hm : 8 ≤ m
    · exfalso
      unfold gk at h4
      split at h4
      · omega
      · rw [if_pos (by omega)] at h4; omega
    · show a + n < f + 8 * 1; omega
  · have e : f % 64 = 0 := he
    by_cases hm : 64 ≤ m
    · exfalso
      unfold gk at h4
      rw [if_pos (by omega)] at h4; omega
    · show a + n < f + 8 * 8; omega
  · omega
end Go.Proofs.YtklhcgekagimkaaGreat
/- Lists of numbers and of blocks as they lie in memory. -/
namespace Go.Proofs.YtklhcgekagimkaaGreat
open Go.RowKit

theorem add_block (a : Addr) (n : Nat) : (a.add n).block = a.block := by unfold Addr.add; split <;> rfl
theorem add_zero_off (g j : Nat) : (⟨g, 0, none⟩ : Addr).add j = ⟨g, j, none⟩ := by unfold Addr.add; split <;> simp_all
theorem getD_of {α : Type} (l : List α) (d : α) (j : Nat) (h : j < l.length) : l[j]? = some (l.getD j d) := by
  rw [List.getD_eq_getElem?_getD, List.getElem?_eq_getElem h]; rfl
theorem getD_mem {α : Type} (l : List α) (d : α) (j : Nat) (h : j < l.length) : l.getD j d ∈ l := by
  rw [List.getD_eq_getElem?_getD, List.getElem?_eq_getElem h]; exact List.getElem_mem h
theorem take_snoc {α : Type} (l : List α) (d : α) (j : Nat) (h : j < l.length) : l.take (j + 1) = l.take j ++ [l.getD j d] := by
  rw [List.take_succ_eq_append_getElem h, List.getD_eq_getElem?_getD, List.getElem?_eq_getElem h]; rfl

/-- A slice of numbers that reads as a list, below block B. -/
structure IntsAt (w : World) (B : Nat) (A : Option Addr) (n : Nat) (l : List Int) : Prop where
  len : l.length = n
  at_ : 0 < n → ∃ a, A = some a ∧ a.block < B ∧ ∀ j, j < n → w.cell? (a.add j) = some (.int .i64 (l.getD j 0))
section
variable {w w' : World} {B B' n : Nat} {A : Option Addr} {l : List Int}
theorem IntsAt.nil (w : World) (B : Nat) (A : Option Addr) : IntsAt w B A 0 [] := ⟨rfl, fun h => absurd h (by omega)⟩
theorem IntsAt.keep (h : IntsAt w B A n l) (hB : B ≤ B') (hk : ∀ p : Addr, p.block < B → w'.cell? p = w.cell? p) : IntsAt w' B' A n l :=
  ⟨h.len, fun hn => by
    obtain ⟨a, e, hb, hc⟩ := h.at_ hn
    exact ⟨a, e, by omega, fun j hj => (hk _ (by rw [add_block]; exact hb)).trans (hc j hj)⟩⟩
theorem IntsAt.below (h : IntsAt w B A n l) (hb : Below B w w') : IntsAt w' B A n l := h.keep (Nat.le_refl _) fun _ hp => hb.cell hp
theorem IntsAt.call (h : IntsAt w w.heap.size A n l) (hb : Below w.heap.size w w') : IntsAt w' w'.heap.size A n l := h.keep hb.size fun _ hp => hb.cell hp
theorem IntsAt.drewN (h : IntsAt w B A n l) (k : Nat) : IntsAt (w.drewN k) B A n l := h.keep (Nat.le_refl _) fun _ _ => rfl
theorem IntsAt.cell (h : IntsAt w B A n l) {j : Nat} (hj : j < n) : ∃ a, A = some a ∧ a.block < B ∧ w.cell? (a.add j) = some (.int .i64 (l.getD j 0)) := by
  obtain ⟨a, e, hb, hc⟩ := h.at_ (by omega)
  exact ⟨a, e, hb, hc j hj⟩
end
/-- A block that is known whole. -/
def RowA (w : World) (g : Nat) (t : TypeId) (cs : Array Value) : Prop := w.heap[g]? = some (.cells cs t (0, 0))
section
variable {w w' : World} {g : Nat} {t : TypeId} {cs : Array Value}
theorem RowA.lt (h : RowA w g t cs) : g < w.heap.size := by
  rcases Nat.lt_or_ge g w.heap.size with hl | hl
  · exact hl
  · unfold RowA at h; rw [Array.getElem?_eq_none hl] at h; cases h
theorem RowA.cell (h : RowA w g t cs) (i : Nat) : w.cell? ⟨g, i, none⟩ = cs[i]? := cell_of_row w g i cs t (0, 0) h
theorem RowA.frozen (h : RowA w g t cs) (i : Nat) : w.frozen? ⟨g, i, none⟩ = false := by
  unfold RowA at h
  simp [World.frozen?, h]
theorem RowA.new (w : World) (t : TypeId) (cs : Array Value) : RowA (w.alloc (.cells cs t)) w.heap.size t cs := heap_alloc_new w _
theorem RowA.set_ (h : RowA w g t cs) (i : Nat) (u : Value) : RowA (w.setCell ⟨g, i, none⟩ u) g t (cs.setIfInBounds i u) := by
  unfold RowA at h ⊢
  simp [World.setCell, Array.getElem?_modify, h]
theorem RowA.below {B : Nat} (h : RowA w g t cs) (hb : Below B w w') (hg : g < B) : RowA w' g t cs := (hb.block g hg).trans h
theorem RowA.ints (h : RowA w g t cs) (l : List Int) (n : Nat) (hn : l.length = n) (hc : ∀ j, j < n → cs[j]? = some (.int .i64 (l.getD j 0))) : IntsAt w w.heap.size (some ⟨g, 0, none⟩) n l :=
  ⟨hn, fun _ => ⟨_, rfl, h.lt, fun j hj => by rw [add_zero_off, h.cell]; exact hc j hj⟩⟩
end
/-- What is returned: a list of numbers in memory, and an error. -/
def SomeInts (w : World) (l : List Int) (er : Int) (e : Ending) (w' : World) : Prop :=
  ∃ A n c, e = .returned (.tuple #[.slice A n c, .int .i64 er]) ∧ IntsAt w' w'.heap.size A n l ∧ Below w.heap.size w w'
/-- The same, and the list lies in new memory. -/
def NewInts (w : World) (l : List Int) (er : Int) (e : Ending) (w' : World) : Prop :=
  ∃ A n c, e = .returned (.tuple #[.slice A n c, .int .i64 er]) ∧ IntsAt w' w'.heap.size A n l ∧ Below w.heap.size w w' ∧ ∀ g, A = some g → w.heap.size ≤ g.block
theorem NewInts.weak {w : World} {l : List Int} {er : Int} (e : Ending) (w' : World) (h : NewInts w l er e w') : SomeInts w l er e w' := by
  obtain ⟨A, n, c, h1, h2, h3, -⟩ := h
  exact ⟨A, n, c, h1, h2, h3⟩
/-- Reading alone. -/
def Drawn (r : Value) (w : World) (e : Ending) (w' : World) : Prop := e = .returned r ∧ ∃ n, w' = w.drewN n
theorem drewN_add (w : World) (a b : Nat) : (w.drewN a).drewN b = w.drewN (a + b) := by simp
theorem below_drewN {B : Nat} (w : World) (n : Nat) : Below B w (w.drewN n) := by
  induction n with
  | zero => exact Below.refl _ _
  | succ n ih => exact ih.drew

/-! Digits, and the page that has them. -/
def dgL (p : Int) : List Int := if 0 ≤ p ∧ p ≤ 4095 then [p / 512, p / 64 % 8, p / 8 % 8, p % 8] else []
def dgE (p : Int) : Int := if 0 ≤ p ∧ p ≤ 4095 then 0 else 3
def okD (d : Int) : Bool := decide (0 ≤ d ∧ d ≤ 7)
def pgOk (l : List Int) : Bool := decide (l.length = 4) && l.all okD
def hor (l : List Int) : Int := l.foldl (fun p d => p * 8 + d) 0
def pgI (l : List Int) : Int := if pgOk l = true then hor l else 0
def pgE (l : List Int) : Int := if pgOk l = true then 0 else 2
theorem hor_snoc (l : List Int) (d : Int) : hor (l ++ [d]) = hor l * 8 + d := by simp [hor]
theorem hor_bound : ∀ (n : Nat) (l : List Int), l.length = n → l.all okD = true → 0 ≤ hor l ∧ hor l < 8 ^ n := by
  intro n
  induction n with
  | zero => intro l h _; rw [List.length_eq_zero_iff.1 h]; decide
  | succ n ih =>
    intro l h ha
    rcases List.eq_nil_or_concat l with rfl | ⟨r, d, rfl⟩
    · simp at h
    · rw [List.concat_eq_append] at h ha ⊢
      rw [List.all_append, Bool.and_eq_true] at ha
      obtain ⟨h0, h1⟩ := ih r (by simpa using h) ha.1
      have hd : 0 ≤ d ∧ d ≤ 7 := by simpa [okD] using ha.2
      rw [hor_snoc, Int.pow_succ]
      omega
theorem pg_len {l : List Int} (h : l.length ≠ 4) : pgI l = 0 ∧ pgE l = 2 := by simp [pgI, pgE, pgOk, h]
theorem pg_bad {l : List Int} (j : Nat) (hj : j < l.length) (h : okD (l.getD j 0) = false) : pgI l = 0 ∧ pgE l = 2 := by
  have : l.all okD = false := by
    rw [List.all_eq_false]
    exact ⟨_, getD_mem l 0 j hj, by rw [h]; simp⟩
  simp [pgI, pgE, pgOk, this]
theorem pg_good {l : List Int} (hl : l.length = 4) (h : l.all okD = true) : pgI l = hor l ∧ pgE l = 0 := by simp [pgI, pgE, pgOk, hl, h]
theorem all_snoc {l : List Int} {j : Nat} (hj : j < l.length) (h : (l.take j).all okD = true) (g : okD (l.getD j 0) = true) : (l.take (j + 1)).all okD = true := by
  rw [take_snoc l 0 j hj, List.all_append, h]; simpa using g
theorem dg_back {p : Int} (h : 0 ≤ p ∧ p ≤ 4095) : pgI (dgL p) = p ∧ pgE (dgL p) = 0 := by
  have e : dgL p = [p / 512, p / 64 % 8, p / 8 % 8, p % 8] := by simp [dgL, h]
  rw [e]
  have ok : [p / 512, p / 64 % 8, p / 8 % 8, p % 8].all okD = true := by
    simp [okD]; omega
  obtain ⟨h1, h2⟩ := pg_good rfl ok
  rw [h1, h2]
  refine ⟨?_, rfl⟩
  simp only [hor, List.foldl]
  omega

/-! Blocks. -/
def bcells : List (Nat × Nat) → List Value
  | [] => []
  | x :: r => .int .i64 x.1 :: .int .i64 x.2 :: bcells r
theorem bcells_length (L : List (Nat × Nat)) : (bcells L).length = L.length * 2 := by
  induction L with
  | nil => rfl
  | cons x r ih => simp only [bcells, List.length_cons, ih]; omega
theorem bcells_append (L M : List (Nat × Nat)) : bcells (L ++ M) = bcells L ++ bcells M := by
  induction L with
  | nil => rfl
  | cons x r ih => simp [bcells, ih]
theorem bcells_one (L : List (Nat × Nat)) : ∀ u ∈ bcells L, u.oneCell' = true := by
  induction L with
  | nil => intro u h; simp [bcells] at h
  | cons x r ih =>
    intro u h
    simp only [bcells, List.mem_cons] at h
    rcases h with rfl | rfl | h
    · rfl
    · rfl
    · exact ih u h
theorem bcells_at : ∀ (L : List (Nat × Nat)) (j : Nat), j < L.length → (bcells L)[j * 2]? = some (.int .i64 (L.getD j (0, 0)).1) ∧ (bcells L)[j * 2 + 1]? = some (.int .i64 (L.getD j (0, 0)).2) := by
  intro L
  induction L with
  | nil => intro j h; simp at h
  | cons x r ih =>
    intro j h
    match j with
    | 0 => exact ⟨rfl, rfl⟩
    | j + 1 =>
      have := ih j (by simpa using h)
      simp only [bcells, show (j + 1) * 2 = j * 2 + 1 + 1 by omega, List.getElem?_cons_succ, List.getD_cons_succ]
      exact this
/-- A slice of blocks that reads as a list, below block B. -/
def BlksAt (w : World) (B : Nat) (A : Option Addr) (L : List (Nat × Nat)) : Prop :=
  0 < L.length → ∃ g, A = some ⟨g, 0, none⟩ ∧ g < B ∧ ∀ j, j < L.length → w.cell? ⟨g, j * 2, none⟩ = some (.int .i64 (L.getD j (0, 0)).1) ∧ w.cell? ⟨g, j * 2 + 1, none⟩ = some (.int .i64 (L.getD j (0, 0)).2)
theorem BlksAt.keep {w w' : World} {B B' : Nat} {A : Option Addr} {L : List (Nat × Nat)} (h : BlksAt w B A L) (hB : B ≤ B') (hk : ∀ p : Addr, p.block < B → w'.cell? p = w.cell? p) : BlksAt w' B' A L := fun hn => by
  obtain ⟨g, e, hb, hc⟩ := h hn
  exact ⟨g, e, by omega, fun j hj => ⟨(hk ⟨g, _, none⟩ hb).trans (hc j hj).1, (hk ⟨g, _, none⟩ hb).trans (hc j hj).2⟩⟩
theorem BlksAt.below {w w' : World} {B : Nat} {A : Option Addr} {L : List (Nat × Nat)} (h : BlksAt w B A L) (hb : Below B w w') : BlksAt w' B A L := h.keep (Nat.le_refl _) fun _ hp => hb.cell hp
theorem BlksAt.call {w w' : World} {A : Option Addr} {L : List (Nat × Nat)} (h : BlksAt w w.heap.size A L) (hb : Below w.heap.size w w') : BlksAt w' w'.heap.size A L := h.keep hb.size fun _ hp => hb.cell hp
theorem BlksAt.drewN {w : World} {B : Nat} {A : Option Addr} {L : List (Nat × Nat)} (h : BlksAt w B A L) (k : Nat) : BlksAt (w.drewN k) B A L := h.keep (Nat.le_refl _) fun _ _ => rfl
theorem BlksAt.own {w : World} {base n c : Nat} {t : TypeId} {A : Option Addr} {L : List (Nat × Nat)} (h : w.ownsRow base t 2 (.slice A n c) n (bcells L)) : n = L.length ∧ BlksAt w w.heap.size A L := by
  have hl : n = L.length := by have := h.1; rw [bcells_length] at this; omega
  refine ⟨hl, fun hn => ?_⟩
  obtain ⟨g, cap, hv, _, hlt⟩ := h.form (by omega)
  injection hv with hA _ hc
  subst hA
  refine ⟨g, rfl, hlt, fun j hj => ?_⟩
  have h1 := h.cellAt (j * 2) (by omega)
  have h2 := h.cellAt (j * 2 + 1) (by omega)
  obtain ⟨b1, b2⟩ := bcells_at L j hj
  exact ⟨h1.trans b1, h2.trans b2⟩
end Go.Proofs.YtklhcgekagimkaaGreat
