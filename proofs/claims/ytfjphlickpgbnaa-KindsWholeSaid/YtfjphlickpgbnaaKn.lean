/- How many frames of a kind are free: plain mathematics. -/
import Derived.Test.YtfjphlickpgbnaaKh
namespace Go.Proofs.Ytfjphlickpgbnaa

/-- How many of m places from a on are as said. -/
def cnR (p : Nat → Bool) (a m : Nat) : Nat := (List.range m).countP fun i => p (a + i)
theorem cnR_succ (p : Nat → Bool) (a m : Nat) : cnR p a (m + 1) = cnR p a m + if p (a + m) = true then 1 else 0 := by
  unfold cnR
  rw [List.range_succ, List.countP_append]
  simp [List.countP_cons]
theorem cnR_add (p : Nat → Bool) (a m m' : Nat) : cnR p a (m + m') = cnR p a m + cnR p (a + m) m' := by
  induction m' with
  | zero => simp [cnR]
  | succ k ih => rw [← Nat.add_assoc, cnR_succ, cnR_succ, ih, Nat.add_assoc, Nat.add_assoc]
theorem cnR_congr {p q : Nat → Bool} {a m : Nat} (h : ∀ i, i < m → p (a + i) = q (a + i)) : cnR p a m = cnR q a m := by
  induction m with
  | zero => rfl
  | succ m ih => rw [cnR_succ, cnR_succ, ih (fun i hi => h i (by omega)), h m (by omega)]
theorem cnR_le (p : Nat → Bool) (a m : Nat) : cnR p a m ≤ m := by
  unfold cnR
  have := List.countP_le_length (p := fun i => p (a + i)) (l := List.range m)
  rwa [List.length_range] at this
theorem cnR_const {p : Nat → Bool} {a m : Nat} {v : Bool} (h : ∀ i, i < m → p (a + i) = v) : cnR p a m = if v = true then m else 0 := by
  induction m with
  | zero => simp [cnR]
  | succ m ih =>
    rw [cnR_succ, ih (fun i hi => h i (by omega)), h m (by omega)]
    cases v <;> simp
/-- Is a frame of a kind? Is it free too? -/
def kdP (S : List Nat) (kd : Int) (i : Nat) : Bool := ((knd S i : Nat) : Int) == kd
def frP (F : List Bool) (S : List Nat) (kd : Int) (i : Nat) : Bool := (F[i]? == some true) && kdP S kd i
/-- How many frames of a kind are free. -/
def frO (F : List Bool) (S : List Nat) (kd : Int) : Nat := cnR (frP F S kd) 0 F.length
theorem frO_le (F : List Bool) (S : List Nat) (kd : Int) : frO F S kd ≤ F.length := cnR_le _ _ _
/-- The frames of a kind in some blocks. -/
def smB (S : List Nat) (kd : Int) (l : List (Nat × Nat)) : Nat := (l.map fun x => cnR (kdP S kd) x.1 (2 ^ x.2)).sum
theorem smB_snoc (S : List Nat) (kd : Int) (l : List (Nat × Nat)) (x : Nat × Nat) : smB S kd (l ++ [x]) = smB S kd l + cnR (kdP S kd) x.1 (2 ^ x.2) := by simp [smB]
theorem smB_app (S : List Nat) (kd : Int) (l m : List (Nat × Nat)) : smB S kd (l ++ m) = smB S kd l + smB S kd m := by simp [smB]
theorem blF_sum (F : List Bool) (S : List Nat) (kd : Int) : ∀ (f a : Nat), F.length ≤ a + f → a ≤ F.length → cnR (frP F S kd) a (F.length - a) = smB S kd (blF F f a) := by
  intro f
  induction f with
  | zero =>
    intro a h1 h2
    rw [show F.length - a = 0 by omega]
    rfl
  | succ f ih =>
    intro a h1 h2
    simp only [blF]
    by_cases ha : a < F.length
    · rw [if_pos ha]
      cases hk : kb F a 9 with
      | none =>
        have h0 := kb_none hk 0 (by omega)
        have hf : frP F S kd a = false := by
          unfold frP
          cases hb : F[a]? == some true with
          | false => rfl
          | true =>
            exact absurd ⟨Nat.mod_one _, fun i g1 g2 => by
              rw [Nat.pow_zero] at g2
              obtain rfl : i = a := by omega
              exact eq_of_beq hb⟩ h0
        simp only
        rw [← ih (a + 1) (by omega) (by omega), show F.length - a = 1 + (F.length - (a + 1)) by omega, cnR_add, cnR_const (v := false) (m := 1) (fun i hi => by rw [show a + i = a by omega]; exact hf)]
        simp
      | some k =>
        obtain ⟨_, h3, _⟩ := kb_some hk
        have hp := two_pos k
        have h4 : a + 2 ^ k ≤ F.length := by
          have := h3.2 (a + 2 ^ k - 1) (by omega) (by omega)
          have := (List.getElem?_eq_some_iff.1 this).1
          omega
        simp only
        have e : smB S kd ((a, k) :: blF F f (a + 2 ^ k)) = cnR (kdP S kd) a (2 ^ k) + smB S kd (blF F f (a + 2 ^ k)) := by simp [smB]
        rw [e, ← ih (a + 2 ^ k) (by omega) h4, show F.length - a = 2 ^ k + (F.length - (a + 2 ^ k)) by omega, cnR_add]
        congr 1
        refine cnR_congr fun i hi => ?_
        unfold frP
        rw [h3.2 (a + i) (by omega) (by omega)]
        rfl
    · rw [if_neg ha, show F.length - a = 0 by omega]
      rfl
theorem frO_bk (F : List Bool) (S : List Nat) (kd : Int) : frO F S kd = smB S kd (bk F) := by
  have := blF_sum F S kd F.length 0 (by omega) (Nat.zero_le _)
  rw [Nat.sub_zero] at this
  exact this
/-- How many of some sections are of a kind. -/
def secN (S : List Nat) (kd : Int) (s c : Nat) : Nat := (List.range c).countP fun j => ((S.getD (s + j) 0 : Nat) : Int) == kd
theorem secN_succ (S : List Nat) (kd : Int) (s c : Nat) : secN S kd s (c + 1) = secN S kd s c + if ((S.getD (s + c) 0 : Nat) : Int) = kd then 1 else 0 := by
  unfold secN
  rw [List.range_succ, List.countP_append]
  simp [List.countP_cons]
theorem secN_eight (S : List Nat) (kd : Int) (s c : Nat) : cnR (kdP S kd) (s * 8) (c * 8) = secN S kd s c * 8 := by
  induction c with
  | zero => simp [cnR, secN]
  | succ c ih =>
    rw [Nat.succ_mul, cnR_add, ih, secN_succ, Nat.add_mul]
    congr 1
    have h : ∀ i, i < 8 → kdP S kd (s * 8 + c * 8 + i) = (((S.getD (s + c) 0 : Nat) : Int) == kd) := fun i hi => by
      unfold kdP knd
      rw [show (s * 8 + c * 8 + i) / 8 = s + c by omega]
    rw [cnR_const h]
    by_cases e : ((S.getD (s + c) 0 : Nat) : Int) = kd
    · rw [if_pos e, if_pos (beq_iff_eq.2 e)]
    · rw [if_neg e, if_neg (fun h => e (beq_iff_eq.1 h))]
/-- The frames of a kind in a block, by its sections. -/
theorem block_secs (S : List Nat) (kd : Int) {f k : Nat} (hf : f % 2 ^ k = 0) : cnR (kdP S kd) f (2 ^ k) = secN S kd (f / 8) (upr f k - f / 8) * 2 ^ (min k 3) := by
  by_cases hk : k ≤ 3
  · rw [Nat.min_eq_left hk]
    have hp := two_pos k
    have h1 : upr f k - f / 8 = 1 := by
      have := same_section hk hf (f := f + 2 ^ k - 1) (by omega) (by omega)
      unfold upr
      omega
    have h : ∀ i, i < 2 ^ k → kdP S kd (f + i) = (((S.getD (f / 8) 0 : Nat) : Int) == kd) := fun i hi => by
      unfold kdP knd
      rw [same_section hk hf (f := f + i) (by omega) (by omega)]
    rw [h1, cnR_const h, secN_succ]
    simp only [Nat.add_zero]
    by_cases e : ((S.getD (f / 8) 0 : Nat) : Int) = kd
    · rw [if_pos e, if_pos (beq_iff_eq.2 e)]; simp [secN]
    · rw [if_neg e, if_neg (fun h => e (beq_iff_eq.1 h))]; simp [secN]
  · rw [Nat.min_eq_right (by omega), upr_even hf (by omega)]
    obtain ⟨d, rfl⟩ : ∃ d, k = d + 3 := ⟨k - 3, by omega⟩
    have hp : 2 ^ (d + 3) = 2 ^ d * 8 := by rw [Nat.pow_add]
    rw [hp] at hf ⊢
    have h8 : f % 8 = 0 := Nat.mod_eq_zero_of_dvd (Nat.dvd_trans (Nat.dvd_mul_left 8 (2 ^ d)) (Nat.dvd_of_mod_eq_zero hf))
    rw [Nat.add_sub_cancel]
    have := secN_eight S kd (f / 8) (2 ^ d)
    rw [show f / 8 * 8 = f by omega] at this
    exact this
theorem secN_mono (S : List Nat) (kd : Int) (s : Nat) {i c : Nat} (h : i ≤ c) : secN S kd s i ≤ secN S kd s c := by
  obtain ⟨d, rfl⟩ : ∃ d, c = i + d := ⟨c - i, by omega⟩
  induction d with
  | zero => exact Nat.le_refl _
  | succ d ih => rw [← Nat.add_assoc, secN_succ]; have := ih (by omega); omega
theorem smB_take_le {F : List Bool} (S : List Nat) (kd : Int) (j : Nat) : smB S kd ((bk F).take j) ≤ F.length := by
  have h := frO_bk F S kd
  rw [← List.take_append_drop j (bk F), smB_app] at h
  have := frO_le F S kd
  omega
end Go.Proofs.Ytfjphlickpgbnaa
