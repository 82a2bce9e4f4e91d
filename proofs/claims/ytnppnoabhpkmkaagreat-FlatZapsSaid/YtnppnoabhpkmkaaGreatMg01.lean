/- Plain facts of package geo, without the program: what each call answers, the greedy cut of a stretch and the cut from the middle, and a slice that reads as a list. -/
import Derived.Test.YtnppnoabhpkmkaaGreatMg00
import Derived.WalkKit
import Derived.WalkSpells
import Derived.Below
import Derived.Laws.OwnMore
import Derived.Laws.Rows
import Derived.Laws.BitsAllLaws
import Derived.Deep.AppendLies
import Derived.Deep.Draws
import Derived.IntWalk
import Derived.Lib.Hide
namespace Go.Proofs.YtnppnoabhpkmkaaGreat
open Go.RowKit

theorem ret2_int {k l : IntKind} {a b c d : Int} (h : a = b) (g : c = d) : Ending.returned (.tuple #[.int k a, .int l c]) = .returned (.tuple #[.int k b, .int l d]) := by rw [h, g]

/-! Orders, where blocks begin, and what is wrong with a stretch. -/
def ordB (o : Int) : Bool := decide (0 ≤ o ∧ o ≤ 8)
def szI (o : Int) : Int := if ordB o = true then 2 ^ o.toNat else 0
def dnI (p o : Int) : Int := if ordB o = true then p - p % 2 ^ o.toNat else p
def evB (p o : Int) : Bool := ordB o && decide (p % 2 ^ o.toNat = 0)
def rtI (a n o : Int) : Int := if n < 1 then 2 else if evB a o = false then 2 else if evB n o = false then 2 else if a < 1 ∨ 4096 < a + n then 3 else 0

theorem ord_cases {o : Int} (h : ordB o = true) : o = 0 ∨ o = 1 ∨ o = 2 ∨ o = 3 ∨ o = 4 ∨ o = 5 ∨ o = 6 ∨ o = 7 ∨ o = 8 := by
  simp only [ordB, decide_eq_true_eq] at h; omega
theorem ord_nat {o : Int} (h : ordB o = true) : ∃ k : Nat, o = k ∧ k ≤ 8 := by
  simp only [ordB, decide_eq_true_eq] at h; exact ⟨o.toNat, by omega, by omega⟩
theorem ord_not {o : Int} (h : ordB o = false) : o < 0 ∨ 8 < o := by
  simp only [ordB, decide_eq_false_iff_not] at h; omega
theorem pow_pos8 (k : Nat) (h : k ≤ 8) : (1 : Int) ≤ 2 ^ k ∧ (2 : Int) ^ k ≤ 256 := by
  have : k = 0 ∨ k = 1 ∨ k = 2 ∨ k = 3 ∨ k = 4 ∨ k = 5 ∨ k = 6 ∨ k = 7 ∨ k = 8 := by omega
  rcases this with rfl | rfl | rfl | rfl | rfl | rfl | rfl | rfl | rfl <;> decide

theorem andNot_of (p : Int) (m M : Nat) (r : Int) (hl : -9223372036854775808 ≤ p) (hh : p ≤ 9223372036854775807) (hM : (~~~BitVec.ofInt 64 (m : Int)).toNat = M)
    (hx : ∀ x : Nat, x &&& M = x % 18446744073709551616 / (m + 1) * (m + 1)) (hr : ((m + 1 : Nat) : Int) * r = 9223372036854775808) : bits .andNot .i64 p m = p - p % ((m + 1 : Nat) : Int) := by
  have e : bits .andNot .i64 p m = IntKind.i64.wrap ((BitVec.ofInt 64 p &&& ~~~BitVec.ofInt 64 (m : Int)).toNat : Int) := rfl
  have hu : ((BitVec.ofInt 64 p).toNat : Int) = p % 18446744073709551616 := by
    rw [BitVec.toNat_ofInt]; omega
  have hul : (BitVec.ofInt 64 p).toNat < 18446744073709551616 := (BitVec.ofInt 64 p).isLt
  rw [e, BitVec.toNat_and, hM, hx, Nat.mod_eq_of_lt hul]
  obtain ⟨u, hu0⟩ : ∃ u, u = (BitVec.ofInt 64 p).toNat := ⟨_, rfl⟩
  rw [← hu0] at hu hul ⊢
  clear hM hx hu0 e
  have hdiv : u / (m + 1) * (m + 1) = u - u % (m + 1) := by
    have := Nat.div_add_mod u (m + 1); rw [Nat.mul_comm]; omega
  have hrem : ((u % (m + 1) : Nat) : Int) = p % ((m + 1 : Nat) : Int) := by
    rw [Int.natCast_emod, hu]
    apply Int.emod_emod_of_dvd
    exact ⟨2 * r, by rw [← Int.mul_assoc, Int.mul_comm _ 2, Int.mul_assoc, hr]; rfl⟩
  have hle : u % (m + 1) ≤ u := Nat.mod_le _ _
  rw [hdiv, Int.ofNat_sub hle, hrem]
  obtain ⟨k, hk⟩ : ∃ k : Int, k = ((m + 1 : Nat) : Int) := ⟨_, rfl⟩
  have hk0 : 0 < k := by omega
  rw [← hk] at hr hrem ⊢
  have hmod0 : 0 ≤ p % k := Int.emod_nonneg _ (by omega)
  have hlow : -9223372036854775808 ≤ p - p % k := by
    have hfl : k * (p / k) = p - p % k := by have := Int.mul_ediv_add_emod p k; omega
    have h1 : -r ≤ p / k := by
      rw [Int.le_ediv_iff_mul_le hk0, Int.neg_mul, Int.mul_comm, hr]; exact hl
    have h2 : k * (-r) ≤ k * (p / k) := Int.mul_le_mul_of_nonneg_left h1 (by omega)
    rw [Int.mul_neg, hr, hfl] at h2
    exact h2
  have hzu : p % k ≤ u := by omega
  obtain ⟨z, hz⟩ : ∃ z, z = p % k := ⟨_, rfl⟩
  rw [← hz] at hmod0 hlow hzu ⊢
  clear hz hrem hdiv hr hk
  rw [IntKind.wrap_i64]
  omega
theorem down_bits (p : Int) (k : Nat) (hk : k ≤ 8) (hl : -9223372036854775808 ≤ p) (hh : p ≤ 9223372036854775807) : bits .andNot .i64 p (2 ^ k - 1) = p - p % 2 ^ k := by
  have : k = 0 ∨ k = 1 ∨ k = 2 ∨ k = 3 ∨ k = 4 ∨ k = 5 ∨ k = 6 ∨ k = 7 ∨ k = 8 := by omega
  rcases this with rfl | rfl | rfl | rfl | rfl | rfl | rfl | rfl | rfl
  · exact andNot_of p 0 18446744073709551615 9223372036854775808 hl hh (by decide) (fun x => by have := nat_midmask 64 0 x (by decide); simpa using this) (by decide)
  · exact andNot_of p 1 18446744073709551614 4611686018427387904 hl hh (by decide) nat_hi64_1 (by decide)
  · exact andNot_of p 3 18446744073709551612 2305843009213693952 hl hh (by decide) nat_hi64_2 (by decide)
  · exact andNot_of p 7 18446744073709551608 1152921504606846976 hl hh (by decide) nat_hi64_3 (by decide)
  · exact andNot_of p 15 18446744073709551600 576460752303423488 hl hh (by decide) nat_hi64_4 (by decide)
  · exact andNot_of p 31 18446744073709551584 288230376151711744 hl hh (by decide) nat_hi64_5 (by decide)
  · exact andNot_of p 63 18446744073709551552 144115188075855872 hl hh (by decide) nat_hi64_6 (by decide)
  · exact andNot_of p 127 18446744073709551488 72057594037927936 hl hh (by decide) nat_hi64_7 (by decide)
  · exact andNot_of p 255 18446744073709551360 36028797018963968 hl hh (by decide) nat_hi64_8 (by decide)
end Go.Proofs.YtnppnoabhpkmkaaGreat
/- What each call on areas answers over pages, and what becomes of them (plain). -/
namespace Go.Proofs.YtnppnoabhpkmkaaGreat

/-- Some of the first n. -/
def anyB (n : Nat) (f : Nat → Bool) : Bool := (List.range n).any f
theorem anyB_zero (f : Nat → Bool) : anyB 0 f = false := rfl
theorem anyB_succ (n : Nat) (f : Nat → Bool) : anyB (n + 1) f = (anyB n f || f n) := by
  unfold anyB; rw [List.range_succ, List.any_append]; simp
theorem anyB_true {n : Nat} {f : Nat → Bool} : anyB n f = true ↔ ∃ k, k < n ∧ f k = true := by
  unfold anyB; rw [List.any_eq_true]; simp only [List.mem_range]
theorem anyB_false {n : Nat} {f : Nat → Bool} : anyB n f = false ↔ ∀ k, k < n → f k = false := by
  unfold anyB; rw [List.any_eq_false]; simp only [List.mem_range]
  constructor
  · intro h k hk; simpa using h k hk
  · intro h k hk; simpa using h k hk
/-- How many pages a page of some making is, with its neighbours. -/
def szO (h : Int) : Int := if h = 3 ∨ h = 5 ∨ h = 6 then 8 else if h = 4 then 64 else 1
def ordO (h : Int) : Int := if h = 3 ∨ h = 5 ∨ h = 6 then 3 else if h = 4 then 6 else 0
def prB (p : Int) : Bool := decide (p = 0 ∨ p = 1 ∨ p = 3)
theorem szO_pos (h : Int) : szO h = 1 ∨ szO h = 8 ∨ szO h = 64 := by unfold szO; split; exact Or.inr (Or.inl rfl); split; exact Or.inr (Or.inr rfl); exact Or.inl rfl
theorem szO_one {h : Int} : 1 < szO h ↔ szO h ≠ 1 := by rcases szO_pos h with e | e | e <;> rw [e] <;> omega
/-- Pages of a space, as they may be. -/
structure PsOk (P : Int → Pg) : Prop where
  ok : ∀ i, PgOk (P i)
  far : ∀ i, ¬ (0 ≤ i ∧ i < 4096) → P i = zP
  sm : ∀ i, 0 ≤ (P i).x ∧ (P i).x ≤ 4096
def inS (a n i : Int) : Prop := a ≤ i ∧ i < a + n
instance (a n i : Int) : Decidable (inS a n i) := by unfold inS; infer_instance
def mapP (P : Int → Pg) (a n how p o : Int) : Int → Pg := fun i => if inS a n i then ⟨how, p, o, if shr how then i - a else 0⟩ else P i
def unP (P : Int → Pg) (a n : Int) : Int → Pg := fun i => if inS a n i then zP else P i
def prP (P : Int → Pg) (a n p : Int) : Int → Pg := fun i => if inS a n i then { P i with p := p } else P i
def mvP (P : Int → Pg) (a n t : Int) : Int → Pg := fun i => if inS t n i then P (i - t + a) else if inS a n i then zP else P i
/-- All areas. -/
def allA (P : Int → Pg) : List Ar := pcs P 0 4096
def fullB (P : Int → Pg) : Bool := decide (64 < (allA P).length)
def usedB (P : Int → Pg) (a : Int) (n : Nat) : Bool := anyB n fun k => decide ((P (a + k)).h ≠ 0)
def covB (P : Int → Pg) (a : Int) (n : Nat) : Bool := !anyB n fun k => decide ((P (a + k)).h = 0)
def hugeB (P : Int → Pg) (a : Int) (n : Nat) : Bool := anyB n fun k => decide (1 < szO (P (a + k)).h)
def cutsB (P : Int → Pg) (a n : Int) : Bool := decide (a % szO (P a).h ≠ 0) || (decide (a + n < 4096) && decide ((a + n) % szO (P (a + n)).h ≠ 0))
def mapA (how p o : Int) : Bool := decide (how < 1) || decide (6 < how) || !prB p || (decide (p = 0) && decide (1 < szO how)) || decide (o < 0) || (decide (0 < o) && !decide (shr how))
def mapE (P : Int → Pg) (a n how p o : Int) : Int :=
  if mapA how p o = true then 2 else if rtI a n (ordO how) ≠ 0 then rtI a n (ordO how) else if usedB P a n.toNat = true then 7 else if fullB (mapP P a n how p o) = true then 13 else 0
def unE (P : Int → Pg) (a n : Int) : Int :=
  if rtI a n 0 ≠ 0 then rtI a n 0 else if cutsB P a n = true then 2 else if fullB (unP P a n) = true then 13 else 0
def prE (P : Int → Pg) (a n p : Int) : Int :=
  if rtI a n 0 ≠ 0 then rtI a n 0 else if prB p = false then 2 else if covB P a n.toNat = false then 6 else if cutsB P a n = true then 2 else if p = 0 ∧ hugeB P a n.toNat = true then 2 else if fullB (prP P a n p) = true then 13 else 0
def mvE (P : Int → Pg) (a n t : Int) : Int :=
  if rtI a n 0 ≠ 0 then rtI a n 0 else if rtI t n 0 ≠ 0 then rtI t n 0 else if t < a + n ∧ a < t + n then 2 else if covB P a n.toNat = false then 6 else if hugeB P a n.toNat = true then 2 else if usedB P t n.toNat = true then 7 else if fullB (mvP P a n t) = true then 13 else 0
/-- What becomes of the pages. -/
def nextP (e : Int) (P Q : Int → Pg) : Int → Pg := if e = 0 then Q else P
theorem rt_in {a n k : Int} (h : rtI a n k = 0) : 1 ≤ a ∧ 1 ≤ n ∧ a + n ≤ 4096 := by
  unfold rtI at h
  split at h
  · cases h
  · split at h
    · cases h
    · split at h
      · cases h
      · split at h
        · cases h
        · omega
theorem PsOk.map {P : Int → Pg} (h : PsOk P) {a n how p o : Int} (hh : how ≠ 0) (ha : 0 ≤ a) (hn : a + n ≤ 4096) : PsOk (mapP P a n how p o) := by
  refine ⟨fun i => ?_, fun i hi => ?_, fun i => ?_⟩
  · unfold mapP
    split
    · refine ⟨fun e => absurd e hh, fun hs => if_neg hs⟩
    · exact h.ok i
  · unfold mapP; rw [if_neg (show ¬ inS a n i by unfold inS; omega)]; exact h.far i hi
  · unfold mapP
    split
    · rename_i hs
      unfold inS at hs
      show 0 ≤ (if shr how then i - a else 0) ∧ (if shr how then i - a else 0) ≤ 4096
      split <;> omega
    · exact h.sm i
theorem PsOk.un {P : Int → Pg} (h : PsOk P) (a n : Int) : PsOk (unP P a n) := by
  refine ⟨fun i => ?_, fun i hi => ?_, fun i => ?_⟩
  · unfold unP
    split
    · exact zP_ok
    · exact h.ok i
  · unfold unP
    split
    · rfl
    · exact h.far i hi
  · unfold unP
    split
    · show (0 : Int) ≤ 0 ∧ (0 : Int) ≤ 4096; omega
    · exact h.sm i
theorem PsOk.pr {P : Int → Pg} (h : PsOk P) {a n p : Int} (hc : ∀ i, inS a n i → (P i).h ≠ 0) : PsOk (prP P a n p) := by
  refine ⟨fun i => ?_, fun i hi => ?_, fun i => ?_⟩
  · unfold prP
    split
    · rename_i hs
      exact ⟨fun e => absurd e (hc i hs), (h.ok i).2⟩
    · exact h.ok i
  · have hz := h.far i hi
    unfold prP
    rw [if_neg (fun hs => hc i hs (by rw [hz]; rfl)), hz]
  · unfold prP
    split
    · exact h.sm i
    · exact h.sm i
theorem PsOk.mv {P : Int → Pg} (h : PsOk P) {a n t : Int} (ht : 0 ≤ t) (hn : t + n ≤ 4096) : PsOk (mvP P a n t) := by
  refine ⟨fun i => ?_, fun i hi => ?_, fun i => ?_⟩
  · unfold mvP
    split
    · exact h.ok _
    · split
      · exact zP_ok
      · exact h.ok i
  · unfold mvP
    rw [if_neg (by unfold inS; omega)]
    split
    · rfl
    · exact h.far i hi
  · unfold mvP
    split
    · exact h.sm _
    · split
      · show (0 : Int) ≤ 0 ∧ (0 : Int) ≤ 4096; omega
      · exact h.sm i
theorem cov_in {P : Int → Pg} {a n : Int} (h : covB P a n.toNat = true) (i : Int) (hi : inS a n i) : (P i).h ≠ 0 := by
  unfold covB at h
  rw [Bool.not_eq_true', anyB_false] at h
  unfold inS at hi
  have := h (i - a).toNat (by omega)
  rw [show a + (((i - a).toNat : Nat) : Int) = i by omega] at this
  simpa using this
end Go.Proofs.YtnppnoabhpkmkaaGreat
