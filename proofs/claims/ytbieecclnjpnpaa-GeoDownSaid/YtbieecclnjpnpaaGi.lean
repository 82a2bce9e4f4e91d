/- The walk of the law GeoDown. -/
import Derived.Test.YtbieecclnjpnpaaGh
namespace Go.Proofs.Ytbieecclnjpnpaa
open Go.RowKit

theorem emod_two (p m q : Int) (hm : 0 < m) (hq : 0 < q) : (p - p % m) % (m * q) = p % (m * q) - p % m ∧ p % m ≤ p % (m * q) := by
  have hmq : 0 < m * q := Int.mul_pos hm hq
  have h1 : p % (m * q) % m = p % m := Int.emod_emod_of_dvd p ⟨q, rfl⟩
  have hd := Int.mul_ediv_add_emod p (m * q)
  have r0 := Int.emod_nonneg p (by omega : m * q ≠ 0)
  have r1 := Int.emod_lt_of_pos p hmq
  obtain ⟨r, hr⟩ : ∃ r, r = p % (m * q) := ⟨_, rfl⟩
  obtain ⟨t, ht⟩ : ∃ t, t = p / (m * q) := ⟨_, rfl⟩
  rw [← hr] at h1 hd r0 r1 ⊢
  rw [← ht] at hd
  have s0 := Int.emod_nonneg r (by omega : m ≠ 0)
  have s1 : r % m ≤ r := by
    have h2 := Int.mul_ediv_add_emod r m
    have h3 : 0 ≤ m * (r / m) := Int.mul_nonneg (by omega) (Int.ediv_nonneg r0 (by omega))
    omega
  rw [h1] at s0 s1
  refine ⟨?_, s1⟩
  have e : p - p % m = (r - p % m) + m * q * t := by omega
  rw [e, Int.add_mul_emod_self_left]
  exact Int.emod_eq_of_lt (by omega) (by omega)
/-- A page lies in its block, and blocks of a greater order hold those of a less one. -/
theorem down_facts (p : Int) (x y : Nat) (hxy : x ≤ y) (hy : y ≤ 8) : dnI p x ≤ p ∧ p - dnI p x < 2 ^ x ∧ evB (dnI p x) x = true ∧ dnI (dnI p x) y = dnI p y ∧ dnI p y ≤ dnI p x := by
  have ox : ordB x = true := by simp only [ordB, decide_eq_true_eq]; omega
  have oy : ordB y = true := by simp only [ordB, decide_eq_true_eq]; omega
  have px := pow_pos8 x (by omega)
  obtain ⟨d, rfl⟩ : ∃ d, y = x + d := ⟨y - x, by omega⟩
  have pd := pow_pos8 d (by omega)
  have pp : (2 : Int) ^ (x + d) = 2 ^ x * 2 ^ d := Int.pow_add 2 x d
  obtain ⟨h1, h2⟩ := emod_two p (2 ^ x) (2 ^ d) (by omega) (by omega)
  have r0 := Int.emod_nonneg p (by omega : (2 : Int) ^ x ≠ 0)
  have r1 := Int.emod_lt_of_pos p (by omega : 0 < (2 : Int) ^ x)
  have es : (p - p % 2 ^ x) % 2 ^ x = 0 := by
    have := Int.mul_ediv_add_emod p (2 ^ x)
    rw [show p - p % 2 ^ x = 2 ^ x * (p / 2 ^ x) by omega]
    exact Int.mul_emod_right _ _
  have e1 : dnI p x = p - p % 2 ^ x := by simp only [dnI, ox, if_true, Int.toNat_natCast]
  have e2 : dnI p (x + d : Nat) = p - p % (2 ^ x * 2 ^ d) := by simp only [dnI, oy, if_true, Int.toNat_natCast, pp]
  have e3 : dnI (p - p % 2 ^ x) (x + d : Nat) = p - p % 2 ^ x - (p - p % 2 ^ x) % (2 ^ x * 2 ^ d) := by simp only [dnI, oy, if_true, Int.toNat_natCast, pp]
  have e4 : evB (p - p % 2 ^ x) x = true := by simp only [evB, ox, Bool.true_and, decide_eq_true_eq, Int.toNat_natCast, es]
  rw [e1, e2, e3, h1]
  exact ⟨by omega, by omega, e4, by omega, by omega⟩

set_option maxHeartbeats 1000000 in
theorem down_walk (p a b : Int) (W : World) (al : 0 ≤ a) (ah : a < 256) (bl : 0 ≤ b) (bh : b < 256) (pl : -9223372036854775808 ≤ p) (ph : p ≤ 9223372036854775807) :
    Calls Try.prog 8 #[.int .i64 p, .int .u8 a, .int .u8 b] W fun e W' => e = .returned (.bool true) ∧ Below W.heap.size W W' := by
  have hax : a % 9 = 0 ∨ a % 9 = 1 ∨ a % 9 = 2 ∨ a % 9 = 3 ∨ a % 9 = 4 ∨ a % 9 = 5 ∨ a % 9 = 6 ∨ a % 9 = 7 ∨ a % 9 = 8 := by omega
  obtain ⟨y, hy0⟩ : ∃ y : Nat, b % 9 = y := ⟨(b % 9).toNat, by omega⟩
  have hy8 : y ≤ 8 := by omega
  by_cases hout : p < -4096 ∨ 8192 < p ∨ (y : Int) < a % 9
  · obtain ⟨x, hx0⟩ : ∃ x : Nat, a % 9 = x := ⟨(a % 9).toNat, by omega⟩
    have hx8 : x ≤ 8 := by omega
    rw [hx0] at hout
    clear hax
    rcases hout with h | h | h
    all_goals
      by_cases h5 : p < -4096
      all_goals
        by_cases h6 : 8192 < p
        all_goals
          first
          | (exfalso; omega)
          | (go_enter Try.func8, Try.ntmps8
             go_wp2_with fail
             refine (awake_any _).mono ?_
             rintro e w1 ⟨rfl, b1⟩
             have B1 := Lib.hid b1
             clear b1
             go_wp2_with fail
             refine (awake_any _).mono ?_
             rintro e w2 ⟨rfl, b2⟩
             have B2 := Lib.hid (B1.out.trans (b2.mono B1.out.size))
             clear b2 B1
             go_wp2_with fail
             go_ret
             exact ⟨rfl, B2.out⟩)
  · have p0 : -4096 ≤ p := by omega
    have p1 : p ≤ 8192 := by omega
    have hf : ∀ x : Nat, a % 9 = x → x ≤ y ∧ dnI p x ≤ p ∧ p - dnI p x < 2 ^ x ∧ evB (dnI p x) x = true ∧ dnI (dnI p x) y = dnI p y ∧ dnI p y ≤ dnI p x := fun x hx => by
      have : x ≤ y := by omega
      exact ⟨this, down_facts p x y this hy8⟩
    clear hout pl ph
    rcases hax with hx | hx | hx | hx | hx | hx | hx | hx | hx
    · obtain ⟨f0, f1, f2, f3, f4, f5⟩ := hf 0 hx
      have d1 := fun w => down_any (o := (0 : Int)) p (by omega) (by omega) w
      have HD := Lib.hid f2
      obtain ⟨d, ed⟩ : ∃ d, d = dnI p ((0 : Nat) : Int) := ⟨_, rfl⟩
      rw [show dnI p (0 : Int) = d from ed.symm] at d1
      rw [← ed] at f1 f2 f3 f4 f5
      have f2' : p - d < 1 := f2
      have d0 : -8000000 ≤ d := by omega
      have e1 := fun w => even_any (o := (0 : Int)) d (by omega) (by omega) w
      rw [show evB d (0 : Int) = true from f3] at e1
      have d2 := fun w => down_any (o := (y : Int)) d (by omega) (by omega) w
      have d3 := fun w => down_any (o := (y : Int)) p (by omega) (by omega) w
      rw [f4] at d2
      obtain ⟨z, ez⟩ : ∃ z, z = dnI p (y : Int) := ⟨_, rfl⟩
      rw [← ez] at d2 d3 f5
      have f0' : 0 ≤ y := f0
      clear hf ed ez HD f2 f3 f4 f0
      go_enter Try.func8, Try.ntmps8
      go_wp2_with fail
      refine (awake_any _).mono ?_
      rintro e w1 ⟨rfl, b1⟩
      have B1 := Lib.hid b1
      clear b1
      go_wp2_with (first | (go_at_call 15; with_reducible refine (d1 _).mono ?_; rintro e w' ⟨rfl, rfl⟩) | (go_at_call 15; with_reducible refine (d2 _).mono ?_; rintro e w' ⟨rfl, rfl⟩) | (go_at_call 15; with_reducible refine (d3 _).mono ?_; rintro e w' ⟨rfl, rfl⟩) | (go_at_call 17; with_reducible refine (e1 _).mono ?_; rintro e w' ⟨rfl, rfl⟩))
      go_ret
      exact ⟨rfl, B1.out⟩
    · obtain ⟨f0, f1, f2, f3, f4, f5⟩ := hf 1 hx
      have d1 := fun w => down_any (o := (1 : Int)) p (by omega) (by omega) w
      have HD := Lib.hid f2
      obtain ⟨d, ed⟩ : ∃ d, d = dnI p ((1 : Nat) : Int) := ⟨_, rfl⟩
      rw [show dnI p (1 : Int) = d from ed.symm] at d1
      rw [← ed] at f1 f2 f3 f4 f5
      have f2' : p - d < 2 := f2
      have d0 : -8000000 ≤ d := by omega
      have e1 := fun w => even_any (o := (1 : Int)) d (by omega) (by omega) w
      rw [show evB d (1 : Int) = true from f3] at e1
      have d2 := fun w => down_any (o := (y : Int)) d (by omega) (by omega) w
      have d3 := fun w => down_any (o := (y : Int)) p (by omega) (by omega) w
      rw [f4] at d2
      obtain ⟨z, ez⟩ : ∃ z, z = dnI p (y : Int) := ⟨_, rfl⟩
      rw [← ez] at d2 d3 f5
      have f0' : 1 ≤ y := f0
      clear hf ed ez HD f2 f3 f4 f0
      go_enter Try.func8, Try.ntmps8
      go_wp2_with fail
      refine (awake_any _).mono ?_
      rintro e w1 ⟨rfl, b1⟩
      have B1 := Lib.hid b1
      clear b1
      go_wp2_with (first | (go_at_call 15; with_reducible refine (d1 _).mono ?_; rintro e w' ⟨rfl, rfl⟩) | (go_at_call 15; with_reducible refine (d2 _).mono ?_; rintro e w' ⟨rfl, rfl⟩) | (go_at_call 15; with_reducible refine (d3 _).mono ?_; rintro e w' ⟨rfl, rfl⟩) | (go_at_call 17; with_reducible refine (e1 _).mono ?_; rintro e w' ⟨rfl, rfl⟩))
      go_ret
      exact ⟨rfl, B1.out⟩
    · obtain ⟨f0, f1, f2, f3, f4, f5⟩ := hf 2 hx
      have d1 := fun w => down_any (o := (2 : Int)) p (by omega) (by omega) w
      have HD := Lib.hid f2
      obtain ⟨d, ed⟩ : ∃ d, d = dnI p ((2 : Nat) : Int) := ⟨_, rfl⟩
      rw [show dnI p (2 : Int) = d from ed.symm] at d1
      rw [← ed] at f1 f2 f3 f4 f5
      have f2' : p - d < 4 := f2
      have d0 : -8000000 ≤ d := by omega
      have e1 := fun w => even_any (o := (2 : Int)) d (by omega) (by omega) w
      rw [show evB d (2 : Int) = true from f3] at e1
      have d2 := fun w => down_any (o := (y : Int)) d (by omega) (by omega) w
      have d3 := fun w => down_any (o := (y : Int)) p (by omega) (by omega) w
      rw [f4] at d2
      obtain ⟨z, ez⟩ : ∃ z, z = dnI p (y : Int) := ⟨_, rfl⟩
      rw [← ez] at d2 d3 f5
      have f0' : 2 ≤ y := f0
      clear hf ed ez HD f2 f3 f4 f0
      go_enter Try.func8, Try.ntmps8
      go_wp2_with fail
      refine (awake_any _).mono ?_
      rintro e w1 ⟨rfl, b1⟩
      have B1 := Lib.hid b1
      clear b1
      go_wp2_with (first | (go_at_call 15; with_reducible refine (d1 _).mono ?_; rintro e w' ⟨rfl, rfl⟩) | (go_at_call 15; with_reducible refine (d2 _).mono ?_; rintro e w' ⟨rfl, rfl⟩) | (go_at_call 15; with_reducible refine (d3 _).mono ?_; rintro e w' ⟨rfl, rfl⟩) | (go_at_call 17; with_reducible refine (e1 _).mono ?_; rintro e w' ⟨rfl, rfl⟩))
      go_ret
      exact ⟨rfl, B1.out⟩
    · obtain ⟨f0, f1, f2, f3, f4, f5⟩ := hf 3 hx
      have d1 := fun w => down_any (o := (3 : Int)) p (by omega) (by omega) w
      have HD := Lib.hid f2
      obtain ⟨d, ed⟩ : ∃ d, d = dnI p ((3 : Nat) : Int) := ⟨_, rfl⟩
      rw [show dnI p (3 : Int) = d from ed.symm] at d1
      rw [← ed] at f1 f2 f3 f4 f5
      have f2' : p - d < 8 := f2
      have d0 : -8000000 ≤ d := by omega
      have e1 := fun w => even_any (o := (3 : Int)) d (by omega) (by omega) w
      rw [show evB d (3 : Int) = true from f3] at e1
      have d2 := fun w => down_any (o := (y : Int)) d (by omega) (by omega) w
      have d3 := fun w => down_any (o := (y : Int)) p (by omega) (by omega) w
      rw [f4] at d2
      obtain ⟨z, ez⟩ : ∃ z, z = dnI p (y : Int) := ⟨_, rfl⟩
      rw [← ez] at d2 d3 f5
      have f0' : 3 ≤ y := f0
      clear hf ed ez HD f2 f3 f4 f0
      go_enter Try.func8, Try.ntmps8
      go_wp2_with fail
      refine (awake_any _).mono ?_
      rintro e w1 ⟨rfl, b1⟩
      have B1 := Lib.hid b1
      clear b1
      go_wp2_with (first | (go_at_call 15; with_reducible refine (d1 _).mono ?_; rintro e w' ⟨rfl, rfl⟩) | (go_at_call 15; with_reducible refine (d2 _).mono ?_; rintro e w' ⟨rfl, rfl⟩) | (go_at_call 15; with_reducible refine (d3 _).mono ?_; rintro e w' ⟨rfl, rfl⟩) | (go_at_call 17; with_reducible refine (e1 _).mono ?_; rintro e w' ⟨rfl, rfl⟩))
      go_ret
      exact ⟨rfl, B1.out⟩
    · obtain ⟨f0, f1, f2, f3, f4, f5⟩ := hf 4 hx
      have d1 := fun w => down_any (o := (4 : Int)) p (by omega) (by omega) w
      have HD := Lib.hid f2
      obtain ⟨d, ed⟩ : ∃ d, d = dnI p ((4 : Nat) : Int) := ⟨_, rfl⟩
      rw [show dnI p (4 : Int) = d from ed.symm] at d1
      rw [← ed] at f1 f2 f3 f4 f5
      have f2' : p - d < 16 := f2
      have d0 : -8000000 ≤ d := by omega
      have e1 := fun w => even_any (o := (4 : Int)) d (by omega) (by omega) w
      rw [show evB d (4 : Int) = true from f3] at e1
      have d2 := fun w => down_any (o := (y : Int)) d (by omega) (by omega) w
      have d3 := fun w => down_any (o := (y : Int)) p (by omega) (by omega) w
      rw [f4] at d2
      obtain ⟨z, ez⟩ : ∃ z, z = dnI p (y : Int) := ⟨_, rfl⟩
      rw [← ez] at d2 d3 f5
      have f0' : 4 ≤ y := f0
      clear hf ed ez HD f2 f3 f4 f0
      go_enter Try.func8, Try.ntmps8
      go_wp2_with fail
      refine (awake_any _).mono ?_
      rintro e w1 ⟨rfl, b1⟩
      have B1 := Lib.hid b1
      clear b1
      go_wp2_with (first | (go_at_call 15; with_reducible refine (d1 _).mono ?_; rintro e w' ⟨rfl, rfl⟩) | (go_at_call 15; with_reducible refine (d2 _).mono ?_; rintro e w' ⟨rfl, rfl⟩) | (go_at_call 15; with_reducible refine (d3 _).mono ?_; rintro e w' ⟨rfl, rfl⟩) | (go_at_call 17; with_reducible refine (e1 _).mono ?_; rintro e w' ⟨rfl, rfl⟩))
      go_ret
      exact ⟨rfl, B1.out⟩
    · obtain ⟨f0, f1, f2, f3, f4, f5⟩ := hf 5 hx
      have d1 := fun w => down_any (o := (5 : Int)) p (by omega) (by omega) w
      have HD := Lib.hid f2
      obtain ⟨d, ed⟩ : ∃ d, d = dnI p ((5 : Nat) : Int) := ⟨_, rfl⟩
      rw [show dnI p (5 : Int) = d from ed.symm] at d1
      rw [← ed] at f1 f2 f3 f4 f5
      have f2' : p - d < 32 := f2
      have d0 : -8000000 ≤ d := by omega
      have e1 := fun w => even_any (o := (5 : Int)) d (by omega) (by omega) w
      rw [show evB d (5 : Int) = true from f3] at e1
      have d2 := fun w => down_any (o := (y : Int)) d (by omega) (by omega) w
      have d3 := fun w => down_any (o := (y : Int)) p (by omega) (by omega) w
      rw [f4] at d2
      obtain ⟨z, ez⟩ : ∃ z, z = dnI p (y : Int) := ⟨_, rfl⟩
      rw [← ez] at d2 d3 f5
      have f0' : 5 ≤ y := f0
      clear hf ed ez HD f2 f3 f4 f0
      go_enter Try.func8, Try.ntmps8
      go_wp2_with fail
      refine (awake_any _).mono ?_
      rintro e w1 ⟨rfl, b1⟩
      have B1 := Lib.hid b1
      clear b1
      go_wp2_with (first | (go_at_call 15; with_reducible refine (d1 _).mono ?_; rintro e w' ⟨rfl, rfl⟩) | (go_at_call 15; with_reducible refine (d2 _).mono ?_; rintro e w' ⟨rfl, rfl⟩) | (go_at_call 15; with_reducible refine (d3 _).mono ?_; rintro e w' ⟨rfl, rfl⟩) | (go_at_call 17; with_reducible refine (e1 _).mono ?_; rintro e w' ⟨rfl, rfl⟩))
      go_ret
      exact ⟨rfl, B1.out⟩
    · obtain ⟨f0, f1, f2, f3, f4, f5⟩ := hf 6 hx
      have d1 := fun w => down_any (o := (6 : Int)) p (by omega) (by omega) w
      have HD := Lib.hid f2
      obtain ⟨d, ed⟩ : ∃ d, d = dnI p ((6 : Nat) : Int) := ⟨_, rfl⟩
      rw [show dnI p (6 : Int) = d from ed.symm] at d1
      rw [← ed] at f1 f2 f3 f4 f5
      have f2' : p - d < 64 := f2
      have d0 : -8000000 ≤ d := by omega
      have e1 := fun w => even_any (o := (6 : Int)) d (by omega) (by omega) w
      rw [show evB d (6 : Int) = true from f3] at e1
      have d2 := fun w => down_any (o := (y : Int)) d (by omega) (by omega) w
      have d3 := fun w => down_any (o := (y : Int)) p (by omega) (by omega) w
      rw [f4] at d2
      obtain ⟨z, ez⟩ : ∃ z, z = dnI p (y : Int) := ⟨_, rfl⟩
      rw [← ez] at d2 d3 f5
      have f0' : 6 ≤ y := f0
      clear hf ed ez HD f2 f3 f4 f0
      go_enter Try.func8, Try.ntmps8
      go_wp2_with fail
      refine (awake_any _).mono ?_
      rintro e w1 ⟨rfl, b1⟩
      have B1 := Lib.hid b1
      clear b1
      go_wp2_with (first | (go_at_call 15; with_reducible refine (d1 _).mono ?_; rintro e w' ⟨rfl, rfl⟩) | (go_at_call 15; with_reducible refine (d2 _).mono ?_; rintro e w' ⟨rfl, rfl⟩) | (go_at_call 15; with_reducible refine (d3 _).mono ?_; rintro e w' ⟨rfl, rfl⟩) | (go_at_call 17; with_reducible refine (e1 _).mono ?_; rintro e w' ⟨rfl, rfl⟩))
      go_ret
      exact ⟨rfl, B1.out⟩
    · obtain ⟨f0, f1, f2, f3, f4, f5⟩ := hf 7 hx
      have d1 := fun w => down_any (o := (7 : Int)) p (by omega) (by omega) w
      have HD := Lib.hid f2
      obtain ⟨d, ed⟩ : ∃ d, d = dnI p ((7 : Nat) : Int) := ⟨_, rfl⟩
      rw [show dnI p (7 : Int) = d from ed.symm] at d1
      rw [← ed] at f1 f2 f3 f4 f5
      have f2' : p - d < 128 := f2
      have d0 : -8000000 ≤ d := by omega
      have e1 := fun w => even_any (o := (7 : Int)) d (by omega) (by omega) w
      rw [show evB d (7 : Int) = true from f3] at e1
      have d2 := fun w => down_any (o := (y : Int)) d (by omega) (by omega) w
      have d3 := fun w => down_any (o := (y : Int)) p (by omega) (by omega) w
      rw [f4] at d2
      obtain ⟨z, ez⟩ : ∃ z, z = dnI p (y : Int) := ⟨_, rfl⟩
      rw [← ez] at d2 d3 f5
      have f0' : 7 ≤ y := f0
      clear hf ed ez HD f2 f3 f4 f0
      go_enter Try.func8, Try.ntmps8
      go_wp2_with fail
      refine (awake_any _).mono ?_
      rintro e w1 ⟨rfl, b1⟩
      have B1 := Lib.hid b1
      clear b1
      go_wp2_with (first | (go_at_call 15; with_reducible refine (d1 _).mono ?_; rintro e w' ⟨rfl, rfl⟩) | (go_at_call 15; with_reducible refine (d2 _).mono ?_; rintro e w' ⟨rfl, rfl⟩) | (go_at_call 15; with_reducible refine (d3 _).mono ?_; rintro e w' ⟨rfl, rfl⟩) | (go_at_call 17; with_reducible refine (e1 _).mono ?_; rintro e w' ⟨rfl, rfl⟩))
      go_ret
      exact ⟨rfl, B1.out⟩
    · obtain ⟨f0, f1, f2, f3, f4, f5⟩ := hf 8 hx
      have d1 := fun w => down_any (o := (8 : Int)) p (by omega) (by omega) w
      have HD := Lib.hid f2
      obtain ⟨d, ed⟩ : ∃ d, d = dnI p ((8 : Nat) : Int) := ⟨_, rfl⟩
      rw [show dnI p (8 : Int) = d from ed.symm] at d1
      rw [← ed] at f1 f2 f3 f4 f5
      have f2' : p - d < 256 := f2
      have d0 : -8000000 ≤ d := by omega
      have e1 := fun w => even_any (o := (8 : Int)) d (by omega) (by omega) w
      rw [show evB d (8 : Int) = true from f3] at e1
      have d2 := fun w => down_any (o := (y : Int)) d (by omega) (by omega) w
      have d3 := fun w => down_any (o := (y : Int)) p (by omega) (by omega) w
      rw [f4] at d2
      obtain ⟨z, ez⟩ : ∃ z, z = dnI p (y : Int) := ⟨_, rfl⟩
      rw [← ez] at d2 d3 f5
      have f0' : 8 ≤ y := f0
      clear hf ed ez HD f2 f3 f4 f0
      go_enter Try.func8, Try.ntmps8
      go_wp2_with fail
      refine (awake_any _).mono ?_
      rintro e w1 ⟨rfl, b1⟩
      have B1 := Lib.hid b1
      clear b1
      go_wp2_with (first | (go_at_call 15; with_reducible refine (d1 _).mono ?_; rintro e w' ⟨rfl, rfl⟩) | (go_at_call 15; with_reducible refine (d2 _).mono ?_; rintro e w' ⟨rfl, rfl⟩) | (go_at_call 15; with_reducible refine (d3 _).mono ?_; rintro e w' ⟨rfl, rfl⟩) | (go_at_call 17; with_reducible refine (e1 _).mono ?_; rintro e w' ⟨rfl, rfl⟩))
      go_ret
      exact ⟨rfl, B1.out⟩
end Go.Proofs.Ytbieecclnjpnpaa
