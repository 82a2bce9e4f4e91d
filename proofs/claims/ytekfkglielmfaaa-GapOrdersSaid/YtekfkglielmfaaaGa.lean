/- The contracts of package geo and of its reference on orders: where blocks begin, what is wrong with a stretch. -/
import Derived.Test.YtekfkglielmfaaaProg
import Derived.Test.YtekfkglielmfaaaGp
import Derived.WalkKit
import Derived.WalkSpells
import Derived.Lib.Hide
import Derived.WalkLawsBesides
import Derived.Deep.QuietTactic
import Derived.BigQuiet
namespace Go.Proofs.Ytekfkglielmfaaa
open Go.RowKit

theorem isOrder_yes {o : Int} (h : ordB o = true) (w : World) : Calls Try.prog 49 #[.int .i64 o] w fun e w' => e = .returned (.bool true) ∧ w = w' := by
  obtain ⟨k, rfl, hk⟩ := ord_nat h
  clear h
  go_enter Try.func49, Try.ntmps49
  go_wp2
  go_ret
  exact ⟨ret_bool (by simp; omega), rfl⟩
theorem isOrder_no {o : Int} (h : ordB o = false) (w : World) : Calls Try.prog 49 #[.int .i64 o] w fun e w' => e = .returned (.bool false) ∧ w = w' := by
  rcases ord_not h with h1 | h1
  · clear h
    go_enter Try.func49, Try.ntmps49
    go_wp2
    go_ret
    exact ⟨rfl, rfl⟩
  · clear h
    have h0 : 0 ≤ o := by omega
    go_enter Try.func49, Try.ntmps49
    go_wp2
    go_ret
    exact ⟨ret_bool (by simp; omega), rfl⟩
theorem down_any {o : Int} (p : Int) (hl : -9223372036854775808 ≤ p) (hh : p ≤ 9223372036854775807) (w : World) : Calls Try.prog 45 #[.int .i64 p, .int .i64 o] w fun e w' => e = .returned (.int .i64 (dnI p o)) ∧ w = w' := by
  rcases Bool.eq_false_or_eq_true (ordB o) with h | h
  · have h' := isOrder_yes h
    have H : ∀ k : Nat, o = k → bits .andNot .i64 p (2 ^ k - 1) = dnI p o := fun k hk => by
      subst hk
      rw [down_bits p k (by simp only [ordB, decide_eq_true_eq] at h; omega) hl hh]
      simp [dnI, h]
    rcases ord_cases h with rfl | rfl | rfl | rfl | rfl | rfl | rfl | rfl | rfl
    · have H2 := Lib.hid (H 0 rfl)
      clear H h hl hh
      go_enter Try.func45, Try.ntmps45
      go_wp2_with (go_at_call 49; refine (h' _).mono ?_; rintro e w' ⟨rfl, rfl⟩)
      go_ret
      exact ⟨ret_int H2.out, rfl⟩
    · have H2 := Lib.hid (H 1 rfl)
      clear H h hl hh
      go_enter Try.func45, Try.ntmps45
      go_wp2_with (go_at_call 49; refine (h' _).mono ?_; rintro e w' ⟨rfl, rfl⟩)
      go_ret
      exact ⟨ret_int H2.out, rfl⟩
    · have H2 := Lib.hid (H 2 rfl)
      clear H h hl hh
      go_enter Try.func45, Try.ntmps45
      go_wp2_with (go_at_call 49; refine (h' _).mono ?_; rintro e w' ⟨rfl, rfl⟩)
      go_ret
      exact ⟨ret_int H2.out, rfl⟩
    · have H2 := Lib.hid (H 3 rfl)
      clear H h hl hh
      go_enter Try.func45, Try.ntmps45
      go_wp2_with (go_at_call 49; refine (h' _).mono ?_; rintro e w' ⟨rfl, rfl⟩)
      go_ret
      exact ⟨ret_int H2.out, rfl⟩
    · have H2 := Lib.hid (H 4 rfl)
      clear H h hl hh
      go_enter Try.func45, Try.ntmps45
      go_wp2_with (go_at_call 49; refine (h' _).mono ?_; rintro e w' ⟨rfl, rfl⟩)
      go_ret
      exact ⟨ret_int H2.out, rfl⟩
    · have H2 := Lib.hid (H 5 rfl)
      clear H h hl hh
      go_enter Try.func45, Try.ntmps45
      go_wp2_with (go_at_call 49; refine (h' _).mono ?_; rintro e w' ⟨rfl, rfl⟩)
      go_ret
      exact ⟨ret_int H2.out, rfl⟩
    · have H2 := Lib.hid (H 6 rfl)
      clear H h hl hh
      go_enter Try.func45, Try.ntmps45
      go_wp2_with (go_at_call 49; refine (h' _).mono ?_; rintro e w' ⟨rfl, rfl⟩)
      go_ret
      exact ⟨ret_int H2.out, rfl⟩
    · have H2 := Lib.hid (H 7 rfl)
      clear H h hl hh
      go_enter Try.func45, Try.ntmps45
      go_wp2_with (go_at_call 49; refine (h' _).mono ?_; rintro e w' ⟨rfl, rfl⟩)
      go_ret
      exact ⟨ret_int H2.out, rfl⟩
    · have H2 := Lib.hid (H 8 rfl)
      clear H h hl hh
      go_enter Try.func45, Try.ntmps45
      go_wp2_with (go_at_call 49; refine (h' _).mono ?_; rintro e w' ⟨rfl, rfl⟩)
      go_ret
      exact ⟨ret_int H2.out, rfl⟩
  · have h' := isOrder_no h
    have H : Hid (p = dnI p o) := by show _ = _; simp [dnI, h]
    clear h hl hh
    go_enter Try.func45, Try.ntmps45
    go_wp2_with (go_at_call 49; refine (h' _).mono ?_; rintro e w' ⟨rfl, rfl⟩)
    go_ret
    exact ⟨ret_int H.out, rfl⟩
theorem size_any (o : Int) (w : World) : Calls Try.prog 35 #[.int .i64 o] w fun e w' => e = .returned (.int .i64 (szI o)) ∧ w = w' := by
  rcases Bool.eq_false_or_eq_true (ordB o) with h | h
  · have H : Hid (∀ k : Nat, o = k → 2 ^ k = szI o) := fun k hk => by subst hk; simp [szI, h]
    obtain ⟨k, rfl, hk⟩ := ord_nat h
    clear h
    go_enter Try.func35, Try.ntmps35
    go_wp2
    go_loop [3, 4] (fun n i => ∃ j : Nat, j ≤ k ∧ i = .int .i64 j ∧ n = .int .i64 (2 ^ j)) (fun _ i => k - (intOf i).toNat)
    case atStart => exact ⟨0, Nat.zero_le _, rfl, rfl⟩
    case round =>
      obtain ⟨j, hj, rfl, rfl⟩ := hrel
      have hp := pow_pos8 j (by omega)
      have HS : Hid ((2 : Int) ^ j * 2 = 2 ^ (j + 1)) := (Int.pow_succ 2 j).symm
      have HE : Hid (j = k → (2 : Int) ^ j = szI k) := fun e => by subst e; exact H.out _ rfl
      obtain ⟨z, hz⟩ : ∃ z, z = (2 : Int) ^ j := ⟨_, rfl⟩
      rw [← hz] at hp HS HE ⊢
      obtain ⟨hp0, hp1⟩ := hp
      clear hz
      by_cases hlt : j < k
      · go_wp2
        go_round
        case rel => exact ⟨j + 1, by omega, by go_num, by rw [HS.out]⟩
        case measure => simp [intOf]; omega
      · go_wp2
        go_ret
        exact ⟨ret_int (HE.out (by omega)), rfl⟩
  · have H : Hid (0 = szI o) := by show _ = _; simp [szI, h]
    rcases ord_not h with h1 | h1
    · clear h
      go_enter Try.func35, Try.ntmps35
      go_wp2
      go_loop [3, 4] (fun n i => i = .int .i64 0 ∧ n = .int .i64 1) (fun _ _ => 0)
      case atStart => exact ⟨rfl, rfl⟩
      case round =>
        obtain ⟨rfl, rfl⟩ := hrel
        go_wp2
        go_ret
        exact ⟨ret_int H.out, rfl⟩
    · clear h
      go_enter Try.func35, Try.ntmps35
      go_wp2
      go_loop [3, 4] (fun n i => ∃ j : Nat, j ≤ 9 ∧ i = .int .i64 j ∧ ∃ z : Int, 0 ≤ z ∧ z ≤ 2 ^ j ∧ n = .int .i64 z) (fun _ i => 9 - (intOf i).toNat)
      case atStart => exact ⟨0, Nat.zero_le _, rfl, 1, by omega, by omega, rfl⟩
      case round =>
        obtain ⟨j, hj, rfl, z, hz0, hz1, rfl⟩ := hrel
        by_cases hlt : j < 9
        · have hp := pow_pos8 j (by omega)
          have HS : Hid (z * 2 ≤ 2 ^ (j + 1)) := by show _ ≤ _; rw [Int.pow_succ]; omega
          have hz2 : z ≤ 256 := by omega
          clear hz1 hp
          go_wp2
          go_round
          case rel => exact ⟨j + 1, by omega, by go_num, _, by omega, HS.out, rfl⟩
          case measure => simp [intOf]; omega
        · clear hz1
          go_wp2
          all_goals
            go_ret
            exact ⟨ret_int H.out, rfl⟩
theorem rest_any (p n : Int) (hl : -9223372036854775808 ≤ p) (hh : p ≤ 9223372036854775807) (n0 : 1 ≤ n) (n1 : n ≤ 256) (w : World) : Calls Try.prog 36 #[.int .i64 p, .int .i64 n] w fun e w' => e = .returned (.int .i64 (p % n)) ∧ w = w' := by
  have e0 := Int.emod_nonneg p (by omega : n ≠ 0)
  by_cases hp : 0 ≤ p
  · go_enter Try.func36, Try.ntmps36
    go_wp2
    go_ret
    exact ⟨rfl, rfl⟩
  · have et := Int.tmod_eq_emod (a := p) (b := n)
    have ep := Int.emod_lt_of_pos p (by omega : 0 < n)
    have ev : p.tmod n < 0 ∨ p.tmod n = p % n := by
      rw [et]; split
      · right; omega
      · left; omega
    have ew : p.tmod n < 0 → p.tmod n + n = p % n := by
      rw [et]; split
      · omega
      · intro _; omega
    have ef : Hid (p.tmod n = p % n ∨ True) := Or.inr trivial
    have lb : -256 ≤ p.tmod n := by rw [et]; split <;> omega
    have ub : p.tmod n ≤ 256 := by rw [et]; split <;> omega
    have hp' : p < 0 := by omega
    by_cases hq : p.tmod n < 0
    · have H : Hid (p.tmod n + n = p % n) := ew hq
      clear et ev ew ef hp
      go_enter Try.func36, Try.ntmps36
      go_wp2
      go_ret
      exact ⟨ret_int H.out, rfl⟩
    · have H : Hid (p.tmod n = p % n) := ev.resolve_left hq
      clear et ev ew ef hp
      go_enter Try.func36, Try.ntmps36
      go_wp2
      go_ret
      exact ⟨ret_int H.out, rfl⟩
theorem szI_yes {o : Int} (h : ordB o = true) : 1 ≤ szI o ∧ szI o ≤ 256 ∧ szI o = 2 ^ o.toNat := by
  obtain ⟨k, rfl, hk⟩ := ord_nat h
  have := pow_pos8 k hk
  simp only [szI, h, if_true, Int.toNat_natCast]
  exact ⟨this.1, this.2, trivial⟩
theorem szI_no {o : Int} (h : ordB o = false) : szI o = 0 := by simp [szI, h]
theorem refEven_any {o : Int} (p : Int) (hl : -9223372036854775808 ≤ p) (hh : p ≤ 9223372036854775807) (w : World) : Calls Try.prog 22 #[.int .i64 p, .int .i64 o] w fun e w' => e = .returned (.bool (evB p o)) ∧ w = w' := by
  have hz := size_any o
  rcases Bool.eq_false_or_eq_true (ordB o) with h | h
  · obtain ⟨s0, s1, s2⟩ := szI_yes h
    have H : Hid ((p % szI o == 0) = evB p o) := by
      show _ = _
      simp only [evB, h, Bool.true_and]
      rw [Bool.eq_iff_iff, beq_iff_eq, decide_eq_true_eq, s2]
    clear s2 h
    obtain ⟨s, hs⟩ : ∃ s, s = szI o := ⟨_, rfl⟩
    rw [← hs] at hz s0 s1 H
    clear hs
    go_enter Try.func22, Try.ntmps22
    go_wp2_with (first | (go_at_call 35; refine (hz _).mono ?_; rintro e w' ⟨rfl, rfl⟩) | (go_at_call 36; refine (rest_any p s hl hh s0 s1 _).mono ?_; rintro e w' ⟨rfl, rfl⟩))
    go_ret
    exact ⟨ret_bool H.out, rfl⟩
  · have s0 := szI_no h
    rw [s0] at hz
    have H : Hid (false = evB p o) := by show _ = _; simp [evB, h]
    clear s0 h
    go_enter Try.func22, Try.ntmps22
    go_wp2_with (go_at_call 35; refine (hz _).mono ?_; rintro e w' ⟨rfl, rfl⟩)
    go_ret
    exact ⟨ret_bool H.out, rfl⟩
end Go.Proofs.Ytekfkglielmfaaa
