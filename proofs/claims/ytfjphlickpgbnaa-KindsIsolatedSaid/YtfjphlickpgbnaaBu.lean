/- The contracts of package buddy's small calls: orders, where a block begins, the block beside it. -/
import Derived.Test.YtfjphlickpgbnaaProg
import Derived.Test.YtfjphlickpgbnaaBt
import Derived.Test.YtfjphlickpgbnaaGp
import Derived.WalkKit
import Derived.WalkSpells
import Derived.Lib.Hide
import Derived.WalkLawsBesides
import Derived.Deep.QuietTactic
import Derived.BigQuiet
import Derived.IntWalk
import Derived.StillTailTactics
import Derived.Deep.RegionHeld3
namespace Go.Proofs.Ytfjphlickpgbnaa
open Go.RowKit

/-- Where the block of order k begins that holds f, of whatever number. -/
def dnZ (f : Int) (k : Nat) : Int := f - f % 2 ^ k
theorem dnZ_nat (a k : Nat) : dnZ a k = (dn a k : Nat) := by
  unfold dnZ dn
  have e : ((a : Int) % 2 ^ k) = ((a % 2 ^ k : Nat) : Int) := by simp
  have h := Nat.div_add_mod a (2 ^ k)
  rw [Nat.mul_comm] at h
  rw [e]; omega
theorem pow9 {k : Nat} (hk : k ≤ 8) : k = 0 ∨ k = 1 ∨ k = 2 ∨ k = 3 ∨ k = 4 ∨ k = 5 ∨ k = 6 ∨ k = 7 ∨ k = 8 := by omega

theorem isOrder_yes {o : Int} (h : orB o = true) (w : World) : Calls Try.prog 66 #[.int .i64 o] w fun e w' => e = .returned (.bool true) ∧ w = w' := by
  have h1 : 0 ≤ o ∧ o ≤ 8 := by simpa [orB] using h
  obtain ⟨h1, h2⟩ := h1
  clear h
  go_enter Try.func66, Try.ntmps66
  go_wp2
  go_ret
  exact ⟨ret_bool (by simp <;> omega), rfl⟩
theorem isOrder_no {o : Int} (h : orB o = false) (w : World) : Calls Try.prog 66 #[.int .i64 o] w fun e w' => e = .returned (.bool false) ∧ w = w' := by
  have h0 : ¬ (0 ≤ o ∧ o ≤ 8) := by simpa [orB] using h
  have h1 : o < 0 ∨ 8 < o := by omega
  clear h h0
  rcases h1 with h1 | h1
  · go_enter Try.func66, Try.ntmps66
    go_wp2
    go_ret
    exact ⟨rfl, rfl⟩
  · have h0 : 0 ≤ o := by omega
    go_enter Try.func66, Try.ntmps66
    go_wp2
    go_ret
    exact ⟨ret_bool (by simp <;> omega), rfl⟩
theorem down_any (f : Int) (k : Nat) (hk : k ≤ 8) (hl : -9223372036854775808 ≤ f) (hh : f ≤ 9223372036854775807) (w : World) : Calls Try.prog 67 #[.int .i64 f, .int .i64 k] w fun e w' => e = .returned (.int .i64 (dnZ f k)) ∧ w = w' := by
  have H := down_bits f k hk hl hh
  rcases pow9 hk with rfl | rfl | rfl | rfl | rfl | rfl | rfl | rfl | rfl
  · have H2 := Lib.hid H
    clear H hl hh hk
    go_enter Try.func67, Try.ntmps67
    go_wp2
    go_ret
    exact ⟨ret_int H2.out, rfl⟩
  · have H2 := Lib.hid H
    clear H hl hh hk
    go_enter Try.func67, Try.ntmps67
    go_wp2
    go_ret
    exact ⟨ret_int H2.out, rfl⟩
  · have H2 := Lib.hid H
    clear H hl hh hk
    go_enter Try.func67, Try.ntmps67
    go_wp2
    go_ret
    exact ⟨ret_int H2.out, rfl⟩
  · have H2 := Lib.hid H
    clear H hl hh hk
    go_enter Try.func67, Try.ntmps67
    go_wp2
    go_ret
    exact ⟨ret_int H2.out, rfl⟩
  · have H2 := Lib.hid H
    clear H hl hh hk
    go_enter Try.func67, Try.ntmps67
    go_wp2
    go_ret
    exact ⟨ret_int H2.out, rfl⟩
  · have H2 := Lib.hid H
    clear H hl hh hk
    go_enter Try.func67, Try.ntmps67
    go_wp2
    go_ret
    exact ⟨ret_int H2.out, rfl⟩
  · have H2 := Lib.hid H
    clear H hl hh hk
    go_enter Try.func67, Try.ntmps67
    go_wp2
    go_ret
    exact ⟨ret_int H2.out, rfl⟩
  · have H2 := Lib.hid H
    clear H hl hh hk
    go_enter Try.func67, Try.ntmps67
    go_wp2
    go_ret
    exact ⟨ret_int H2.out, rfl⟩
  · have H2 := Lib.hid H
    clear H hl hh hk
    go_enter Try.func67, Try.ntmps67
    go_wp2
    go_ret
    exact ⟨ret_int H2.out, rfl⟩
theorem nat_or_bit (b x : Nat) (hx : x / 2 ^ b % 2 = 0) : x ||| 2 ^ b = x + 2 ^ b := by
  have h1 : x = 2 ^ (b + 1) * (x / 2 ^ (b + 1)) + x % 2 ^ b := by
    have e1 := Nat.div_add_mod x (2 ^ b)
    have e2 := Nat.div_add_mod (x / 2 ^ b) 2
    have e3 : x / 2 ^ (b + 1) = x / 2 ^ b / 2 := by rw [Nat.pow_succ, Nat.div_div_eq_div_mul]
    rw [hx, Nat.add_zero] at e2
    rw [e3, Nat.pow_succ, Nat.mul_assoc, e2, e1]
  have hp : 0 < 2 ^ b := Nat.pow_pos (by omega)
  have hr : x % 2 ^ b < 2 ^ b := Nat.mod_lt _ hp
  have hs : 2 ^ (b + 1) = 2 ^ b + 2 ^ b := by rw [Nat.pow_succ]; omega
  generalize x % 2 ^ b = r at h1 hr
  generalize x / 2 ^ (b + 1) = q at h1
  have a1 : 2 ^ (b + 1) * q ||| r = 2 ^ (b + 1) * q + r := (Nat.two_pow_add_eq_or_of_lt (by omega) q).symm
  have a2 : 2 ^ b ||| r = 2 ^ b + r := by
    have := (Nat.two_pow_add_eq_or_of_lt hr 1).symm
    simpa using this
  have a3 : 2 ^ (b + 1) * q ||| (2 ^ b + r) = 2 ^ (b + 1) * q + (2 ^ b + r) := (Nat.two_pow_add_eq_or_of_lt (by omega) q).symm
  rw [h1, ← a1, Nat.or_assoc, Nat.or_comm r, a2, a3, a1]
  omega

theorem nat_xor_bit (b x : Nat) : x ^^^ 2 ^ b = if x / 2 ^ b % 2 = 0 then x + 2 ^ b else x - 2 ^ b := by
  have off : ∀ y : Nat, y / 2 ^ b % 2 = 0 → y ^^^ 2 ^ b = y + 2 ^ b := fun y hy => by
    rw [← nat_or_bit b y hy]
    apply Nat.eq_of_testBit_eq
    intro i
    rw [Nat.testBit_xor, Nat.testBit_or, Nat.testBit_two_pow]
    by_cases hi : b = i
    · subst hi
      have : y.testBit b = false := by rw [Nat.testBit_eq_decide_div_mod_eq]; simp [hy]
      rw [this]; simp
    · simp [hi]
  by_cases h : x / 2 ^ b % 2 = 0
  · rw [if_pos h, off x h]
  · rw [if_neg h]
    have hp := two_pos b
    have hd := Nat.div_add_mod x (2 ^ b)
    have hge : 2 ^ b ≤ x := by
      rcases Nat.lt_or_ge x (2 ^ b) with g | g
      · rw [Nat.div_eq_of_lt g] at h; simp at h
      · exact g
    obtain ⟨y, rfl⟩ : ∃ y, x = y + 2 ^ b := ⟨x - 2 ^ b, by omega⟩
    rw [Nat.add_div_right _ hp] at h
    rw [Nat.add_sub_cancel, ← off y (by omega), Nat.xor_assoc, Nat.xor_self, Nat.xor_zero]
theorem xor_sib {a k : Nat} (hk : k ≤ 8) (ha : a ≤ 4611686018427387904) : bits .xor .i64 a (2 ^ k) = (sib a k : Nat) := by
  have e : bits .xor .i64 a (2 ^ k) = IntKind.i64.wrap ((BitVec.ofInt 64 (a : Int) ^^^ BitVec.ofInt 64 (2 ^ k)).toNat : Int) := rfl
  have hp : (2 : Nat) ^ k ≤ 256 := Nat.pow_le_pow_right (by omega) hk
  have e1 : (BitVec.ofInt 64 (a : Int)).toNat = a := by rw [BitVec.toNat_ofInt]; omega
  have e2 : (BitVec.ofInt 64 (2 ^ k : Int)).toNat = 2 ^ k := by
    have ec : ((2 : Int) ^ k) = ((2 ^ k : Nat) : Int) := by simp
    have := two_pos k
    rw [ec, BitVec.toNat_ofInt]; omega
  rw [e, BitVec.toNat_xor, e1, e2, nat_xor_bit]
  have hs : (if a / 2 ^ k % 2 = 0 then a + 2 ^ k else a - 2 ^ k) = sib a k := rfl
  rw [hs]
  have hb : sib a k ≤ a + 256 := by unfold sib; split <;> omega
  rw [IntKind.wrap_i64]
  omega
theorem beside0 (a : Nat) (ha : a ≤ 4611686018427387904) (w : World) : Calls Try.prog 74 #[.agg #[.int .i64 a, .int .i64 0]] w fun e w' => e = .returned (.agg #[.int .i64 (sib a 0 : Nat), .int .i64 0]) ∧ Below w.heap.size w w' := by
  have HX := Lib.hid (show bits .xor .i64 a 1 = (sib a 0 : Nat) from xor_sib (k := 0) (by omega) ha)
  clear ha
  go_enter Try.func74, Try.ntmps74
  go_wp2_with fail
  go_region
  all_goals go_wp2
  exact bodyPost_ret (v := .agg #[.int .i64 (bits .xor .i64 a 1), .int .i64 0]) (by simp [results, Try.results74, go_sem]) rfl ⟨by rw [HX.out], (((Below.refl _ _).alloc (Nat.le_refl _) _).alloc (by simp) _).drew⟩
theorem beside1 (a : Nat) (ha : a ≤ 4611686018427387904) (w : World) : Calls Try.prog 74 #[.agg #[.int .i64 a, .int .i64 1]] w fun e w' => e = .returned (.agg #[.int .i64 (sib a 1 : Nat), .int .i64 1]) ∧ Below w.heap.size w w' := by
  have HX := Lib.hid (show bits .xor .i64 a 2 = (sib a 1 : Nat) from xor_sib (k := 1) (by omega) ha)
  clear ha
  go_enter Try.func74, Try.ntmps74
  go_wp2_with fail
  go_region
  all_goals go_wp2
  exact bodyPost_ret (v := .agg #[.int .i64 (bits .xor .i64 a 2), .int .i64 1]) (by simp [results, Try.results74, go_sem]) rfl ⟨by rw [HX.out], (((Below.refl _ _).alloc (Nat.le_refl _) _).alloc (by simp) _).drew⟩
theorem beside2 (a : Nat) (ha : a ≤ 4611686018427387904) (w : World) : Calls Try.prog 74 #[.agg #[.int .i64 a, .int .i64 2]] w fun e w' => e = .returned (.agg #[.int .i64 (sib a 2 : Nat), .int .i64 2]) ∧ Below w.heap.size w w' := by
  have HX := Lib.hid (show bits .xor .i64 a 4 = (sib a 2 : Nat) from xor_sib (k := 2) (by omega) ha)
  clear ha
  go_enter Try.func74, Try.ntmps74
  go_wp2_with fail
  go_region
  all_goals go_wp2
  exact bodyPost_ret (v := .agg #[.int .i64 (bits .xor .i64 a 4), .int .i64 2]) (by simp [results, Try.results74, go_sem]) rfl ⟨by rw [HX.out], (((Below.refl _ _).alloc (Nat.le_refl _) _).alloc (by simp) _).drew⟩
theorem beside3 (a : Nat) (ha : a ≤ 4611686018427387904) (w : World) : Calls Try.prog 74 #[.agg #[.int .i64 a, .int .i64 3]] w fun e w' => e = .returned (.agg #[.int .i64 (sib a 3 : Nat), .int .i64 3]) ∧ Below w.heap.size w w' := by
  have HX := Lib.hid (show bits .xor .i64 a 8 = (sib a 3 : Nat) from xor_sib (k := 3) (by omega) ha)
  clear ha
  go_enter Try.func74, Try.ntmps74
  go_wp2_with fail
  go_region
  all_goals go_wp2
  exact bodyPost_ret (v := .agg #[.int .i64 (bits .xor .i64 a 8), .int .i64 3]) (by simp [results, Try.results74, go_sem]) rfl ⟨by rw [HX.out], (((Below.refl _ _).alloc (Nat.le_refl _) _).alloc (by simp) _).drew⟩
theorem beside4 (a : Nat) (ha : a ≤ 4611686018427387904) (w : World) : Calls Try.prog 74 #[.agg #[.int .i64 a, .int .i64 4]] w fun e w' => e = .returned (.agg #[.int .i64 (sib a 4 : Nat), .int .i64 4]) ∧ Below w.heap.size w w' := by
  have HX := Lib.hid (show bits .xor .i64 a 16 = (sib a 4 : Nat) from xor_sib (k := 4) (by omega) ha)
  clear ha
  go_enter Try.func74, Try.ntmps74
  go_wp2_with fail
  go_region
  all_goals go_wp2
  exact bodyPost_ret (v := .agg #[.int .i64 (bits .xor .i64 a 16), .int .i64 4]) (by simp [results, Try.results74, go_sem]) rfl ⟨by rw [HX.out], (((Below.refl _ _).alloc (Nat.le_refl _) _).alloc (by simp) _).drew⟩
theorem beside5 (a : Nat) (ha : a ≤ 4611686018427387904) (w : World) : Calls Try.prog 74 #[.agg #[.int .i64 a, .int .i64 5]] w fun e w' => e = .returned (.agg #[.int .i64 (sib a 5 : Nat), .int .i64 5]) ∧ Below w.heap.size w w' := by
  have HX := Lib.hid (show bits .xor .i64 a 32 = (sib a 5 : Nat) from xor_sib (k := 5) (by omega) ha)
  clear ha
  go_enter Try.func74, Try.ntmps74
  go_wp2_with fail
  go_region
  all_goals go_wp2
  exact bodyPost_ret (v := .agg #[.int .i64 (bits .xor .i64 a 32), .int .i64 5]) (by simp [results, Try.results74, go_sem]) rfl ⟨by rw [HX.out], (((Below.refl _ _).alloc (Nat.le_refl _) _).alloc (by simp) _).drew⟩
theorem beside6 (a : Nat) (ha : a ≤ 4611686018427387904) (w : World) : Calls Try.prog 74 #[.agg #[.int .i64 a, .int .i64 6]] w fun e w' => e = .returned (.agg #[.int .i64 (sib a 6 : Nat), .int .i64 6]) ∧ Below w.heap.size w w' := by
  have HX := Lib.hid (show bits .xor .i64 a 64 = (sib a 6 : Nat) from xor_sib (k := 6) (by omega) ha)
  clear ha
  go_enter Try.func74, Try.ntmps74
  go_wp2_with fail
  go_region
  all_goals go_wp2
  exact bodyPost_ret (v := .agg #[.int .i64 (bits .xor .i64 a 64), .int .i64 6]) (by simp [results, Try.results74, go_sem]) rfl ⟨by rw [HX.out], (((Below.refl _ _).alloc (Nat.le_refl _) _).alloc (by simp) _).drew⟩
theorem beside7 (a : Nat) (ha : a ≤ 4611686018427387904) (w : World) : Calls Try.prog 74 #[.agg #[.int .i64 a, .int .i64 7]] w fun e w' => e = .returned (.agg #[.int .i64 (sib a 7 : Nat), .int .i64 7]) ∧ Below w.heap.size w w' := by
  have HX := Lib.hid (show bits .xor .i64 a 128 = (sib a 7 : Nat) from xor_sib (k := 7) (by omega) ha)
  clear ha
  go_enter Try.func74, Try.ntmps74
  go_wp2_with fail
  go_region
  all_goals go_wp2
  exact bodyPost_ret (v := .agg #[.int .i64 (bits .xor .i64 a 128), .int .i64 7]) (by simp [results, Try.results74, go_sem]) rfl ⟨by rw [HX.out], (((Below.refl _ _).alloc (Nat.le_refl _) _).alloc (by simp) _).drew⟩
theorem beside8 (a : Nat) (ha : a ≤ 4611686018427387904) (w : World) : Calls Try.prog 74 #[.agg #[.int .i64 a, .int .i64 8]] w fun e w' => e = .returned (.agg #[.int .i64 (sib a 8 : Nat), .int .i64 8]) ∧ Below w.heap.size w w' := by
  have HX := Lib.hid (show bits .xor .i64 a 256 = (sib a 8 : Nat) from xor_sib (k := 8) (by omega) ha)
  clear ha
  go_enter Try.func74, Try.ntmps74
  go_wp2_with fail
  go_region
  all_goals go_wp2
  exact bodyPost_ret (v := .agg #[.int .i64 (bits .xor .i64 a 256), .int .i64 8]) (by simp [results, Try.results74, go_sem]) rfl ⟨by rw [HX.out], (((Below.refl _ _).alloc (Nat.le_refl _) _).alloc (by simp) _).drew⟩
theorem beside_any {a k : Nat} (hk : k ≤ 8) (ha : a ≤ 4611686018427387904) (w : World) : Calls Try.prog 74 #[.agg #[.int .i64 a, .int .i64 k]] w fun e w' => e = .returned (.agg #[.int .i64 (sib a k : Nat), .int .i64 k]) ∧ Below w.heap.size w w' := by
  rcases pow9 hk with rfl | rfl | rfl | rfl | rfl | rfl | rfl | rfl | rfl
  · exact beside0 a ha w
  · exact beside1 a ha w
  · exact beside2 a ha w
  · exact beside3 a ha w
  · exact beside4 a ha w
  · exact beside5 a ha w
  · exact beside6 a ha w
  · exact beside7 a ha w
  · exact beside8 a ha w
end Go.Proofs.Ytfjphlickpgbnaa
