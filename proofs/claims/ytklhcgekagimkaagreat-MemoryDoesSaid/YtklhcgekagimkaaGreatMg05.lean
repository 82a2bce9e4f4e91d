/- Plain facts of package geo, without the program: what each call answers, the greedy cut of a stretch and the cut from the middle, and a slice that reads as a list. -/
import Derived.Test.YtklhcgekagimkaaGreatMg00
import Derived.WalkKit
import Derived.WalkSpells
import Derived.Below
import Derived.Laws.OwnMore
import Derived.Laws.Rows
import Derived.Laws.BitsAllLaws
import Derived.Deep.AppendLies
import Derived.Deep.Draws
import Derived.IntWalk
import Derived.Lib.Hide
import Derived.Test.YtklhcgekagimkaaGreatProg
import Derived.Test.YtklhcgekagimkaaGreatMg04
import Derived.WalkLawsBesides
import Derived.Deep.QuietTactic
import Derived.BigQuiet
import Derived.StillTailTactics
import Derived.Deep.RegionHeld3
namespace Go.Proofs.YtklhcgekagimkaaGreat
open Go.RowKit


/-! Orders, where blocks begin, and what is wrong with a stretch. -/
def ordB (o : Int) : Bool := decide (0 ≤ o ∧ o ≤ 8)
def szI (o : Int) : Int := if ordB o = true then 2 ^ o.toNat else 0
def dnI (p o : Int) : Int := if ordB o = true then p - p % 2 ^ o.toNat else p
def evB (p o : Int) : Bool := ordB o && decide (p % 2 ^ o.toNat = 0)
def rtI (a n o : Int) : Int := if n < 1 then 2 else if evB a o = false then 2 else if evB n o = false then 2 else if a < 1 ∨ 4096 < a + n then 3 else 0

theorem ord_cases {o : Int} (h : ordB o = true) : o = 0 ∨ o = 1 ∨ o = 2 ∨ o = 3 ∨ o = 4 ∨ o = 5 ∨ o = 6 ∨ o = 7 ∨ o = 8 := by
  simp only [ordB, decide_eq_true_eq] at h; omega
theorem ord_nat {o : Int} (h : ordB o = true) : ∃ k : Nat, o = k ∧ k ≤ 8 := by
  simp only [ordB, decide_eq_true_eq] at h; exact ⟨o.toNat, by omega, by omega⟩
theorem ord_not {o : Int} (h : ordB o = false) : o < 0 ∨ 8 < o := by
  simp only [ordB, decide_eq_false_iff_not] at h; omega
theorem pow_pos8 (k : Nat) (h : k ≤ 8) : (1 : Int) ≤ 2 ^ k ∧ (2 : Int) ^ k ≤ 256 := by
  have : k = 0 ∨ k = 1 ∨ k = 2 ∨ k = 3 ∨ k = 4 ∨ k = 5 ∨ k = 6 ∨ k = 7 ∨ k = 8 := by omega
  rcases this with rfl | rfl | rfl | rfl | rfl | rfl | rfl | rfl | rfl <;> decide

theorem andNot_of (p : Int) (m M : Nat) (r : Int) (hl : -9223372036854775808 ≤ p) (hh : p ≤ 9223372036854775807) (hM : (~~~BitVec.ofInt 64 (m : Int)).toNat = M)
    (hx : ∀ x : Nat, x &&& M = x % 18446744073709551616 / (m + 1) * (m + 1)) (hr : ((m + 1 : Nat) : Int) * r = 9223372036854775808) : bits .andNot .i64 p m = p - p % ((m + 1 : Nat) : Int) := by
  have e : bits .andNot .i64 p m = IntKind.i64.wrap ((BitVec.ofInt 64 p &&& ~~~BitVec.ofInt 64 (m : Int)).toNat : Int) := rfl
  have hu : ((BitVec.ofInt 64 p).toNat : Int) = p % 18446744073709551616 := by
    rw [BitVec.toNat_ofInt]; omega
  have hul : (BitVec.ofInt 64 p).toNat < 18446744073709551616 := (BitVec.ofInt 64 p).isLt
  rw [e, BitVec.toNat_and, hM, hx, Nat.mod_eq_of_lt hul]
  obtain ⟨u, hu0⟩ : ∃ u, u = (BitVec.ofInt 64 p).toNat := ⟨_, rfl⟩
  rw [← hu0] at hu hul ⊢
  clear hM hx hu0 e
  have hdiv : u / (m + 1) * (m + 1) = u - u % (m + 1) := by
    have := Nat.div_add_mod u (m + 1); rw [Nat.mul_comm]; omega
  have hrem : ((u % (m + 1) : Nat) : Int) = p % ((m + 1 : Nat) : Int) := by
    rw [Int.natCast_emod, hu]
    apply Int.emod_emod_of_dvd
    exact ⟨2 * r, by rw [← Int.mul_assoc, Int.mul_comm _ 2, Int.mul_assoc, hr]; rfl⟩
  have hle : u % (m + 1) ≤ u := Nat.mod_le _ _
  rw [hdiv, Int.ofNat_sub hle, hrem]
  obtain ⟨k, hk⟩ : ∃ k : Int, k = ((m + 1 : Nat) : Int) := ⟨_, rfl⟩
  have hk0 : 0 < k := by omega
  rw [← hk] at hr hrem ⊢
  have hmod0 : 0 ≤ p % k := Int.emod_nonneg _ (by omega)
  have hlow : -9223372036854775808 ≤ p - p % k := by
    have hfl : k * (p / k) = p - p % k := by have := Int.mul_ediv_add_emod p k; omega
    have h1 : -r ≤ p / k := by
      rw [Int.le_ediv_iff_mul_le hk0, Int.neg_mul, Int.mul_comm, hr]; exact hl
    have h2 : k * (-r) ≤ k * (p / k) := Int.mul_le_mul_of_nonneg_left h1 (by omega)
    rw [Int.mul_neg, hr, hfl] at h2
    exact h2
  have hzu : p % k ≤ u := by omega
  obtain ⟨z, hz⟩ : ∃ z, z = p % k := ⟨_, rfl⟩
  rw [← hz] at hmod0 hlow hzu ⊢
  clear hz hrem hdiv hr hk
  rw [IntKind.wrap_i64]
  omega
theorem down_bits (p : Int) (k : Nat) (hk : k ≤ 8) (hl : -9223372036854775808 ≤ p) (hh : p ≤ 9223372036854775807) : bits .andNot .i64 p (2 ^ k - 1) = p - p % 2 ^ k := by
  have : k = 0 ∨ k = 1 ∨ k = 2 ∨ k = 3 ∨ k = 4 ∨ k = 5 ∨ k = 6 ∨ k = 7 ∨ k = 8 := by omega
  rcases this with rfl | rfl | rfl | rfl | rfl | rfl | rfl | rfl | rfl
  · exact andNot_of p 0 18446744073709551615 9223372036854775808 hl hh (by decide) (fun x => by have := nat_midmask 64 0 x (by decide); simpa using this) (by decide)
  · exact andNot_of p 1 18446744073709551614 4611686018427387904 hl hh (by decide) nat_hi64_1 (by decide)
  · exact andNot_of p 3 18446744073709551612 2305843009213693952 hl hh (by decide) nat_hi64_2 (by decide)
  · exact andNot_of p 7 18446744073709551608 1152921504606846976 hl hh (by decide) nat_hi64_3 (by decide)
  · exact andNot_of p 15 18446744073709551600 576460752303423488 hl hh (by decide) nat_hi64_4 (by decide)
  · exact andNot_of p 31 18446744073709551584 288230376151711744 hl hh (by decide) nat_hi64_5 (by decide)
  · exact andNot_of p 63 18446744073709551552 144115188075855872 hl hh (by decide) nat_hi64_6 (by decide)
  · exact andNot_of p 127 18446744073709551488 72057594037927936 hl hh (by decide) nat_hi64_7 (by decide)
  · exact andNot_of p 255 18446744073709551360 36028797018963968 hl hh (by decide) nat_hi64_8 (by decide)
end Go.Proofs.YtklhcgekagimkaaGreat
/- The contracts of package buddy's small calls: orders, where a block begins, the block beside it. -/
namespace Go.Proofs.YtklhcgekagimkaaGreat
open Go.RowKit

/-- Where the block of order k begins that holds f, of whatever number. -/
def dnZ (f : Int) (k : Nat) : Int := f - f % 2 ^ k
theorem dnZ_nat (a k : Nat) : dnZ a k = (dn a k : Nat) := by
  unfold dnZ dn
  have e : ((a : Int) % 2 ^ k) = ((a % 2 ^ k : Nat) : Int) := by simp
  have h := Nat.div_add_mod a (2 ^ k)
  rw [Nat.mul_comm] at h
  rw [e]; omega
theorem pow9 {k : Nat} (hk : k ≤ 8) : k = 0 ∨ k = 1 ∨ k = 2 ∨ k = 3 ∨ k = 4 ∨ k = 5 ∨ k = 6 ∨ k = 7 ∨ k = 8 := by omega

theorem isOrder_yes {o : Int} (h : orB o = true) (w : World) : Calls Tryz.prog 128 #[.int .i64 o] w fun e w' => e = .returned (.bool true) ∧ w = w' := by
  have h1 : 0 ≤ o ∧ o ≤ 8 := by simpa [orB] using h
  obtain ⟨h1, h2⟩ := h1
  clear h
  go_enter Tryz.func128, Tryz.ntmps128
  go_wp2
  go_ret
  exact ⟨ret_bool (by simp <;> omega), rfl⟩
theorem isOrder_no {o : Int} (h : orB o = false) (w : World) : Calls Tryz.prog 128 #[.int .i64 o] w fun e w' => e = .returned (.bool false) ∧ w = w' := by
  have h0 : ¬ (0 ≤ o ∧ o ≤ 8) := by simpa [orB] using h
  have h1 : o < 0 ∨ 8 < o := by omega
  clear h h0
  rcases h1 with h1 | h1
  · go_enter Tryz.func128, Tryz.ntmps128
    go_wp2
    go_ret
    exact ⟨rfl, rfl⟩
  · have h0 : 0 ≤ o := by omega
    go_enter Tryz.func128, Tryz.ntmps128
    go_wp2
    go_ret
    exact ⟨ret_bool (by simp <;> omega), rfl⟩
theorem down_any (f : Int) (k : Nat) (hk : k ≤ 8) (hl : -9223372036854775808 ≤ f) (hh : f ≤ 9223372036854775807) (w : World) : Calls Tryz.prog 123 #[.int .i64 f, .int .i64 k] w fun e w' => e = .returned (.int .i64 (dnZ f k)) ∧ w = w' := by
  have H := down_bits f k hk hl hh
  rcases pow9 hk with rfl | rfl | rfl | rfl | rfl | rfl | rfl | rfl | rfl
  · have H2 := Lib.hid H
    clear H hl hh hk
    go_enter Tryz.func123, Tryz.ntmps123
    go_wp2
    go_ret
    exact ⟨ret_int H2.out, rfl⟩
  · have H2 := Lib.hid H
    clear H hl hh hk
    go_enter Tryz.func123, Tryz.ntmps123
    go_wp2
    go_ret
    exact ⟨ret_int H2.out, rfl⟩
  · have H2 := Lib.hid H
    clear H hl hh hk
    go_enter Tryz.func123, Tryz.ntmps123
    go_wp2
    go_ret
    exact ⟨ret_int H2.out, rfl⟩
  · have H2 := Lib.hid H
    clear H hl hh hk
    go_enter Tryz.func123, Tryz.ntmps123
    go_wp2
    go_ret
    exact ⟨ret_int H2.out, rfl⟩
  · have H2 := Lib.hid H
    clear H hl hh hk
    go_enter Tryz.func123, Tryz.ntmps123
    go_wp2
    go_ret
    exact ⟨ret_int H2.out, rfl⟩
  · have H2 := Lib.hid H
    clear H hl hh hk
    go_enter Tryz.func123, Tryz.ntmps123
    go_wp2
    go_ret
    exact ⟨ret_int H2.out, rfl⟩
  · have H2 := Lib.hid H
    clear H hl hh hk
    go_enter Tryz.func123, Tryz.ntmps123
    go_wp2
    go_ret
    exact ⟨ret_int H2.out, rfl⟩
  · have H2 := Lib.hid H
    clear H hl hh hk
    go_enter Tryz.func123, Tryz.ntmps123
    go_wp2
    go_ret
    exact ⟨ret_int H2.out, rfl⟩
  · have H2 := Lib.hid H
    clear H hl hh hk
    go_enter Tryz.func123, Tryz.ntmps123
    go_wp2
    go_ret
    exact ⟨ret_int H2.out, rfl⟩
theorem nat_or_bit (b x : Nat) (hx : x / 2 ^ b % 2 = 0) : x ||| 2 ^ b = x + 2 ^ b := by
  have h1 : x = 2 ^ (b + 1) * (x / 2 ^ (b + 1)) + x % 2 ^ b := by
    have e1 := Nat.div_add_mod x (2 ^ b)
    have e2 := Nat.div_add_mod (x / 2 ^ b) 2
    have e3 : x / 2 ^ (b + 1) = x / 2 ^ b / 2 := by rw [Nat.pow_succ, Nat.div_div_eq_div_mul]
    rw [hx, Nat.add_zero] at e2
    rw [e3, Nat.pow_succ, Nat.mul_assoc, e2, e1]
  have hp : 0 < 2 ^ b := Nat.pow_pos (by omega)
  have hr : x % 2 ^ b < 2 ^ b := Nat.mod_lt _ hp
  have hs : 2 ^ (b + 1) = 2 ^ b + 2 ^ b := by rw [Nat.pow_succ]; omega
  generalize x % 2 ^ b = r at h1 hr
  generalize x / 2 ^ (b + 1) = q at h1
  have a1 : 2 ^ (b + 1) * q ||| r = 2 ^ (b + 1) * q + r := (Nat.two_pow_add_eq_or_of_lt (by omega) q).symm
  have a2 : 2 ^ b ||| r = 2 ^ b + r := by
    have := (Nat.two_pow_add_eq_or_of_lt hr 1).symm
    simpa using this
  have a3 : 2 ^ (b + 1) * q ||| (2 ^ b + r) = 2 ^ (b + 1) * q + (2 ^ b + r) := (Nat.two_pow_add_eq_or_of_lt (by omega) q).symm
  rw [h1, ← a1, Nat.or_assoc, Nat.or_comm r, a2, a3, a1]
  omega

theorem nat_xor_bit (b x : Nat) : x ^^^ 2 ^ b = if x / 2 ^ b % 2 = 0 then x + 2 ^ b else x - 2 ^ b := by
  have off : ∀ y : Nat, y / 2 ^ b % 2 = 0 → y ^^^ 2 ^ b = y + 2 ^ b := fun y hy => by
    rw [← nat_or_bit b y hy]
    apply Nat.eq_of_testBit_eq
    intro i
    rw [Nat.testBit_xor, Nat.testBit_or, Nat.testBit_two_pow]
    by_cases hi : b = i
    · subst hi
      have : y.testBit b = false := by rw [Nat.testBit_eq_decide_div_mod_eq]; simp [hy]
      rw [this]; simp
    · simp [hi]
  by_cases h : x / 2 ^ b % 2 = 0
  · rw [if_pos h, off x h]
  · rw [if_neg h]
    have hp := two_pos b
    have hd := Nat.div_add_mod x (2 ^ b)
    have hge : 2 ^ b ≤ x := by
      rcases Nat.lt_or_ge x (2 ^ b) with g | g
      · rw [Nat.div_eq_of_lt g] at h; simp at h
      · exact g
    obtain ⟨y, rfl⟩ : ∃ y, x = y + 2 ^ b := ⟨x - 2 ^ b, by omega⟩
    rw [Nat.add_div_right _ hp] at h
    rw [Nat.add_sub_cancel, ← off y (by omega), Nat.xor_assoc, Nat.xor_self, Nat.xor_zero]
theorem xor_sib {a k : Nat} (hk : k ≤ 8) (ha : a ≤ 4611686018427387904) : bits .xor .i64 a (2 ^ k) = (sib a k : Nat) := by
  have e : bits .xor .i64 a (2 ^ k) = IntKind.i64.wrap ((BitVec.ofInt 64 (a : Int) ^^^ BitVec.ofInt 64 (2 ^ k)).toNat : Int) := rfl
  have hp : (2 : Nat) ^ k ≤ 256 := Nat.pow_le_pow_right (by omega) hk
  have e1 : (BitVec.ofInt 64 (a : Int)).toNat = a := by rw [BitVec.toNat_ofInt]; omega
  have e2 : (BitVec.ofInt 64 (2 ^ k : Int)).toNat = 2 ^ k := by
    have ec : ((2 : Int) ^ k) = ((2 ^ k : Nat) : Int) := by simp
    have := two_pos k
    rw [ec, BitVec.toNat_ofInt]; omega
  rw [e, BitVec.toNat_xor, e1, e2, nat_xor_bit]
  have hs : (if a / 2 ^ k % 2 = 0 then a + 2 ^ k else a - 2 ^ k) = sib a k := rfl
  rw [hs]
  have hb : sib a k ≤ a + 256 := by unfold sib; split <;> omega
  rw [IntKind.wrap_i64]
  omega
theorem beside0 (a : Nat) (ha : a ≤ 4611686018427387904) (w : World) : Calls Tryz.prog 121 #[.agg #[.int .i64 a, .int .i64 0]] w fun e w' => e = .returned (.agg #[.int .i64 (sib a 0 : Nat), .int .i64 0]) ∧ Below w.heap.size w w' := by
  have HX := Lib.hid (show bits .xor .i64 a 1 = (sib a 0 : Nat) from xor_sib (k := 0) (by omega) ha)
  clear ha
  go_enter Tryz.func121, Tryz.ntmps121
  go_wp2_with fail
  go_region
  all_goals go_wp2
  exact bodyPost_ret (v := .agg #[.int .i64 (bits .xor .i64 a 1), .int .i64 0]) (by simp [results, Tryz.results121, go_sem]) rfl ⟨by rw [HX.out], (((Below.refl _ _).alloc (Nat.le_refl _) _).alloc (by simp) _).drew⟩
theorem beside1 (a : Nat) (ha : a ≤ 4611686018427387904) (w : World) : Calls Tryz.prog 121 #[.agg #[.int .i64 a, .int .i64 1]] w fun e w' => e = .returned (.agg #[.int .i64 (sib a 1 : Nat), .int .i64 1]) ∧ Below w.heap.size w w' := by
  have HX := Lib.hid (show bits .xor .i64 a 2 = (sib a 1 : Nat) from xor_sib (k := 1) (by omega) ha)
  clear ha
  go_enter Tryz.func121, Tryz.ntmps121
  go_wp2_with fail
  go_region
  all_goals go_wp2
  exact bodyPost_ret (v := .agg #[.int .i64 (bits .xor .i64 a 2), .int .i64 1]) (by simp [results, Tryz.results121, go_sem]) rfl ⟨by rw [HX.out], (((Below.refl _ _).alloc (Nat.le_refl _) _).alloc (by simp) _).drew⟩
theorem beside2 (a : Nat) (ha : a ≤ 4611686018427387904) (w : World) : Calls Tryz.prog 121 #[.agg #[.int .i64 a, .int .i64 2]] w fun e w' => e = .returned (.agg #[.int .i64 (sib a 2 : Nat), .int .i64 2]) ∧ Below w.heap.size w w' := by
  have HX := Lib.hid (show bits .xor .i64 a 4 = (sib a 2 : Nat) from xor_sib (k := 2) (by omega) ha)
  clear ha
  go_enter Tryz.func121, Tryz.ntmps121
  go_wp2_with fail
  go_region
  all_goals go_wp2
  exact bodyPost_ret (v := .agg #[.int .i64 (bits .xor .i64 a 4), .int .i64 2]) (by simp [results, Tryz.results121, go_sem]) rfl ⟨by rw [HX.out], (((Below.refl _ _).alloc (Nat.le_refl _) _).alloc (by simp) _).drew⟩
theorem beside3 (a : Nat) (ha : a ≤ 4611686018427387904) (w : World) : Calls Tryz.prog 121 #[.agg #[.int .i64 a, .int .i64 3]] w fun e w' => e = .returned (.agg #[.int .i64 (sib a 3 : Nat), .int .i64 3]) ∧ Below w.heap.size w w' := by
  have HX := Lib.hid (show bits .xor .i64 a 8 = (sib a 3 : Nat) from xor_sib (k := 3) (by omega) ha)
  clear ha
  go_enter Tryz.func121, Tryz.ntmps121
  go_wp2_with fail
  go_region
  all_goals go_wp2
  exact bodyPost_ret (v := .agg #[.int .i64 (bits .xor .i64 a 8), .int .i64 3]) (by simp [results, Tryz.results121, go_sem]) rfl ⟨by rw [HX.out], (((Below.refl _ _).alloc (Nat.le_refl _) _).alloc (by simp) _).drew⟩
theorem beside4 (a : Nat) (ha : a ≤ 4611686018427387904) (w : World) : Calls Tryz.prog 121 #[.agg #[.int .i64 a, .int .i64 4]] w fun e w' => e = .returned (.agg #[.int .i64 (sib a 4 : Nat), .int .i64 4]) ∧ Below w.heap.size w w' := by
  have HX := Lib.hid (show bits .xor .i64 a 16 = (sib a 4 : Nat) from xor_sib (k := 4) (by omega) ha)
  clear ha
  go_enter Tryz.func121, Tryz.ntmps121
  go_wp2_with fail
  go_region
  all_goals go_wp2
  exact bodyPost_ret (v := .agg #[.int .i64 (bits .xor .i64 a 16), .int .i64 4]) (by simp [results, Tryz.results121, go_sem]) rfl ⟨by rw [HX.out], (((Below.refl _ _).alloc (Nat.le_refl _) _).alloc (by simp) _).drew⟩
theorem beside5 (a : Nat) (ha : a ≤ 4611686018427387904) (w : World) : Calls Tryz.prog 121 #[.agg #[.int .i64 a, .int .i64 5]] w fun e w' => e = .returned (.agg #[.int .i64 (sib a 5 : Nat), .int .i64 5]) ∧ Below w.heap.size w w' := by
  have HX := Lib.hid (show bits .xor .i64 a 32 = (sib a 5 : Nat) from xor_sib (k := 5) (by omega) ha)
  clear ha
  go_enter Tryz.func121, Tryz.ntmps121
  go_wp2_with fail
  go_region
  all_goals go_wp2
  exact bodyPost_ret (v := .agg #[.int .i64 (bits .xor .i64 a 32), .int .i64 5]) (by simp [results, Tryz.results121, go_sem]) rfl ⟨by rw [HX.out], (((Below.refl _ _).alloc (Nat.le_refl _) _).alloc (by simp) _).drew⟩
theorem beside6 (a : Nat) (ha : a ≤ 4611686018427387904) (w : World) : Calls Tryz.prog 121 #[.agg #[.int .i64 a, .int .i64 6]] w fun e w' => e = .returned (.agg #[.int .i64 (sib a 6 : Nat), .int .i64 6]) ∧ Below w.heap.size w w' := by
  have HX := Lib.hid (show bits .xor .i64 a 64 = (sib a 6 : Nat) from xor_sib (k := 6) (by omega) ha)
  clear ha
  go_enter Tryz.func121, Tryz.ntmps121
  go_wp2_with fail
  go_region
  all_goals go_wp2
  exact bodyPost_ret (v := .agg #[.int .i64 (bits .xor .i64 a 64), .int .i64 6]) (by simp [results, Tryz.results121, go_sem]) rfl ⟨by rw [HX.out], (((Below.refl _ _).alloc (Nat.le_refl _) _).alloc (by simp) _).drew⟩
theorem beside7 (a : Nat) (ha : a ≤ 4611686018427387904) (w : World) : Calls Tryz.prog 121 #[.agg #[.int .i64 a, .int .i64 7]] w fun e w' => e = .returned (.agg #[.int .i64 (sib a 7 : Nat), .int .i64 7]) ∧ Below w.heap.size w w' := by
  have HX := Lib.hid (show bits .xor .i64 a 128 = (sib a 7 : Nat) from xor_sib (k := 7) (by omega) ha)
  clear ha
  go_enter Tryz.func121, Tryz.ntmps121
  go_wp2_with fail
  go_region
  all_goals go_wp2
  exact bodyPost_ret (v := .agg #[.int .i64 (bits .xor .i64 a 128), .int .i64 7]) (by simp [results, Tryz.results121, go_sem]) rfl ⟨by rw [HX.out], (((Below.refl _ _).alloc (Nat.le_refl _) _).alloc (by simp) _).drew⟩
theorem beside8 (a : Nat) (ha : a ≤ 4611686018427387904) (w : World) : Calls Tryz.prog 121 #[.agg #[.int .i64 a, .int .i64 8]] w fun e w' => e = .returned (.agg #[.int .i64 (sib a 8 : Nat), .int .i64 8]) ∧ Below w.heap.size w w' := by
  have HX := Lib.hid (show bits .xor .i64 a 256 = (sib a 8 : Nat) from xor_sib (k := 8) (by omega) ha)
  clear ha
  go_enter Tryz.func121, Tryz.ntmps121
  go_wp2_with fail
  go_region
  all_goals go_wp2
  exact bodyPost_ret (v := .agg #[.int .i64 (bits .xor .i64 a 256), .int .i64 8]) (by simp [results, Tryz.results121, go_sem]) rfl ⟨by rw [HX.out], (((Below.refl _ _).alloc (Nat.le_refl _) _).alloc (by simp) _).drew⟩
theorem beside_any {a k : Nat} (hk : k ≤ 8) (ha : a ≤ 4611686018427387904) (w : World) : Calls Tryz.prog 121 #[.agg #[.int .i64 a, .int .i64 k]] w fun e w' => e = .returned (.agg #[.int .i64 (sib a k : Nat), .int .i64 k]) ∧ Below w.heap.size w w' := by
  rcases pow9 hk with rfl | rfl | rfl | rfl | rfl | rfl | rfl | rfl | rfl
  · exact beside0 a ha w
  · exact beside1 a ha w
  · exact beside2 a ha w
  · exact beside3 a ha w
  · exact beside4 a ha w
  · exact beside5 a ha w
  · exact beside6 a ha w
  · exact beside7 a ha w
  · exact beside8 a ha w
end Go.Proofs.YtklhcgekagimkaaGreat
