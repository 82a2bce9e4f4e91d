/- Plain facts of package geo, without the program: what each call answers, the greedy cut of a stretch and the cut from the middle, and a slice that reads as a list. -/
import Derived.Test.YtekfkglielmfaaaK0
import Derived.WalkKit
import Derived.WalkSpells
import Derived.Below
import Derived.Laws.OwnMore
import Derived.Laws.Rows
import Derived.Laws.BitsAllLaws
import Derived.Deep.AppendLies
import Derived.Deep.Draws
import Derived.IntWalk
import Derived.Lib.Hide
namespace Go.Proofs.Ytekfkglielmfaaa
open Go.RowKit

theorem ret2_int {k l : IntKind} {a b c d : Int} (h : a = b) (g : c = d) : Ending.returned (.tuple #[.int k a, .int l c]) = .returned (.tuple #[.int k b, .int l d]) := by rw [h, g]

/-! Orders, where blocks begin, and what is wrong with a stretch. -/
def ordB (o : Int) : Bool := decide (0 ≤ o ∧ o ≤ 8)
def szI (o : Int) : Int := if ordB o = true then 2 ^ o.toNat else 0
def dnI (p o : Int) : Int := if ordB o = true then p - p % 2 ^ o.toNat else p
def evB (p o : Int) : Bool := ordB o && decide (p % 2 ^ o.toNat = 0)
def rtI (a n o : Int) : Int := if n < 1 then 2 else if evB a o = false then 2 else if evB n o = false then 2 else if a < 1 ∨ 4096 < a + n then 3 else 0

theorem ord_cases {o : Int} (h : ordB o = true) : o = 0 ∨ o = 1 ∨ o = 2 ∨ o = 3 ∨ o = 4 ∨ o = 5 ∨ o = 6 ∨ o = 7 ∨ o = 8 := by
  simp only [ordB, decide_eq_true_eq] at h; omega
theorem ord_nat {o : Int} (h : ordB o = true) : ∃ k : Nat, o = k ∧ k ≤ 8 := by
  simp only [ordB, decide_eq_true_eq] at h; exact ⟨o.toNat, by omega, by omega⟩
theorem ord_not {o : Int} (h : ordB o = false) : o < 0 ∨ 8 < o := by
  simp only [ordB, decide_eq_false_iff_not] at h; omega
theorem pow_pos8 (k : Nat) (h : k ≤ 8) : (1 : Int) ≤ 2 ^ k ∧ (2 : Int) ^ k ≤ 256 := by
  have : k = 0 ∨ k = 1 ∨ k = 2 ∨ k = 3 ∨ k = 4 ∨ k = 5 ∨ k = 6 ∨ k = 7 ∨ k = 8 := by omega
  rcases this with rfl | rfl | rfl | rfl | rfl | rfl | rfl | rfl | rfl <;> decide

theorem andNot_of (p : Int) (m M : Nat) (r : Int) (hl : -9223372036854775808 ≤ p) (hh : p ≤ 9223372036854775807) (hM : (~~~BitVec.ofInt 64 (m : Int)).toNat = M)
    (hx : ∀ x : Nat, x &&& M = x % 18446744073709551616 / (m + 1) * (m + 1)) (hr : ((m + 1 : Nat) : Int) * r = 9223372036854775808) : bits .andNot .i64 p m = p - p % ((m + 1 : Nat) : Int) := by
  have e : bits .andNot .i64 p m = IntKind.i64.wrap ((BitVec.ofInt 64 p &&& ~~~BitVec.ofInt 64 (m : Int)).toNat : Int) := rfl
  have hu : ((BitVec.ofInt 64 p).toNat : Int) = p % 18446744073709551616 := by
    rw [BitVec.toNat_ofInt]; omega
  have hul : (BitVec.ofInt 64 p).toNat < 18446744073709551616 := (BitVec.ofInt 64 p).isLt
  rw [e, BitVec.toNat_and, hM, hx, Nat.mod_eq_of_lt hul]
  obtain ⟨u, hu0⟩ : ∃ u, u = (BitVec.ofInt 64 p).toNat := ⟨_, rfl⟩
  rw [← hu0] at hu hul ⊢
  clear hM hx hu0 e
  have hdiv : u / (m + 1) * (m + 1) = u - u % (m + 1) := by
    have := Nat.div_add_mod u (m + 1); rw [Nat.mul_comm]; omega
  have hrem : ((u % (m + 1) : Nat) : Int) = p % ((m + 1 : Nat) : Int) := by
    rw [Int.natCast_emod, hu]
    apply Int.emod_emod_of_dvd
    exact ⟨2 * r, by rw [← Int.mul_assoc, Int.mul_comm _ 2, Int.mul_assoc, hr]; rfl⟩
  have hle : u % (m + 1) ≤ u := Nat.mod_le _ _
  rw [hdiv, Int.ofNat_sub hle, hrem]
  obtain ⟨k, hk⟩ : ∃ k : Int, k = ((m + 1 : Nat) : Int) := ⟨_, rfl⟩
  have hk0 : 0 < k := by omega
  rw [← hk] at hr hrem ⊢
  have hmod0 : 0 ≤ p % k := Int.emod_nonneg _ (by omega)
  have hlow : -9223372036854775808 ≤ p - p % k := by
    have hfl : k * (p / k) = p - p % k := by have := Int.mul_ediv_add_emod p k; omega
    have h1 : -r ≤ p / k := by
      rw [Int.le_ediv_iff_mul_le hk0, Int.neg_mul, Int.mul_comm, hr]; exact hl
    have h2 : k * (-r) ≤ k * (p / k) := Int.mul_le_mul_of_nonneg_left h1 (by omega)
    rw [Int.mul_neg, hr, hfl] at h2
    exact h2
  have hzu : p % k ≤ u := by omega
  obtain ⟨z, hz⟩ : ∃ z, z = p % k := ⟨_, rfl⟩
  rw [← hz] at hmod0 hlow hzu ⊢
  clear hz hrem hdiv hr hk
  rw [IntKind.wrap_i64]
  omega
theorem down_bits (p : Int) (k : Nat) (hk : k ≤ 8) (hl : -9223372036854775808 ≤ p) (hh : p ≤ 9223372036854775807) : bits .andNot .i64 p (2 ^ k - 1) = p - p % 2 ^ k := by
  have : k = 0 ∨ k = 1 ∨ k = 2 ∨ k = 3 ∨ k = 4 ∨ k = 5 ∨ k = 6 ∨ k = 7 ∨ k = 8 := by omega
  rcases this with rfl | rfl | rfl | rfl | rfl | rfl | rfl | rfl | rfl
  · exact andNot_of p 0 18446744073709551615 9223372036854775808 hl hh (by decide) (fun x => by have := nat_midmask 64 0 x (by decide); simpa using this) (by decide)
  · exact andNot_of p 1 18446744073709551614 4611686018427387904 hl hh (by decide) nat_hi64_1 (by decide)
  · exact andNot_of p 3 18446744073709551612 2305843009213693952 hl hh (by decide) nat_hi64_2 (by decide)
  · exact andNot_of p 7 18446744073709551608 1152921504606846976 hl hh (by decide) nat_hi64_3 (by decide)
  · exact andNot_of p 15 18446744073709551600 576460752303423488 hl hh (by decide) nat_hi64_4 (by decide)
  · exact andNot_of p 31 18446744073709551584 288230376151711744 hl hh (by decide) nat_hi64_5 (by decide)
  · exact andNot_of p 63 18446744073709551552 144115188075855872 hl hh (by decide) nat_hi64_6 (by decide)
  · exact andNot_of p 127 18446744073709551488 72057594037927936 hl hh (by decide) nat_hi64_7 (by decide)
  · exact andNot_of p 255 18446744073709551360 36028797018963968 hl hh (by decide) nat_hi64_8 (by decide)
end Go.Proofs.Ytekfkglielmfaaa
