/- The contracts of package geo and of its reference on orders: where blocks begin, what is wrong with a stretch. -/
import Derived.Test.YtnppnoabhpkmkaaGreatProg
import Derived.Test.YtnppnoabhpkmkaaGreatMg01
import Derived.WalkKit
import Derived.WalkSpells
import Derived.Lib.Hide
import Derived.WalkLawsBesides
import Derived.Deep.QuietTactic
import Derived.BigQuiet
import Derived.Test.YtnppnoabhpkmkaaGreatMg02
namespace Go.Proofs.YtnppnoabhpkmkaaGreat
open Go.RowKit

theorem isOrder_yes {o : Int} (h : ordB o = true) (w : World) : Calls Tryz.prog 110 #[.int .i64 o] w fun e w' => e = .returned (.bool true) ∧ w = w' := by
  obtain ⟨k, rfl, hk⟩ := ord_nat h
  clear h
  go_enter Tryz.func110, Tryz.ntmps110
  go_wp2
  go_ret
  exact ⟨ret_bool (by simp; omega), rfl⟩
theorem isOrder_no {o : Int} (h : ordB o = false) (w : World) : Calls Tryz.prog 110 #[.int .i64 o] w fun e w' => e = .returned (.bool false) ∧ w = w' := by
  rcases ord_not h with h1 | h1
  · clear h
    go_enter Tryz.func110, Tryz.ntmps110
    go_wp2
    go_ret
    exact ⟨rfl, rfl⟩
  · clear h
    have h0 : 0 ≤ o := by omega
    go_enter Tryz.func110, Tryz.ntmps110
    go_wp2
    go_ret
    exact ⟨ret_bool (by simp; omega), rfl⟩
theorem down_any {o : Int} (p : Int) (hl : -9223372036854775808 ≤ p) (hh : p ≤ 9223372036854775807) (w : World) : Calls Tryz.prog 85 #[.int .i64 p, .int .i64 o] w fun e w' => e = .returned (.int .i64 (dnI p o)) ∧ w = w' := by
  rcases Bool.eq_false_or_eq_true (ordB o) with h | h
  · have h' := isOrder_yes h
    have H : ∀ k : Nat, o = k → bits .andNot .i64 p (2 ^ k - 1) = dnI p o := fun k hk => by
      subst hk
      rw [down_bits p k (by simp only [ordB, decide_eq_true_eq] at h; omega) hl hh]
      simp [dnI, h]
    rcases ord_cases h with rfl | rfl | rfl | rfl | rfl | rfl | rfl | rfl | rfl
    · have H2 := Lib.hid (H 0 rfl)
      clear H h hl hh
      go_enter Tryz.func85, Tryz.ntmps85
      go_wp2_with (go_at_call 110; refine (h' _).mono ?_; rintro e w' ⟨rfl, rfl⟩)
      go_ret
      exact ⟨ret_int H2.out, rfl⟩
    · have H2 := Lib.hid (H 1 rfl)
      clear H h hl hh
      go_enter Tryz.func85, Tryz.ntmps85
      go_wp2_with (go_at_call 110; refine (h' _).mono ?_; rintro e w' ⟨rfl, rfl⟩)
      go_ret
      exact ⟨ret_int H2.out, rfl⟩
    · have H2 := Lib.hid (H 2 rfl)
      clear H h hl hh
      go_enter Tryz.func85, Tryz.ntmps85
      go_wp2_with (go_at_call 110; refine (h' _).mono ?_; rintro e w' ⟨rfl, rfl⟩)
      go_ret
      exact ⟨ret_int H2.out, rfl⟩
    · have H2 := Lib.hid (H 3 rfl)
      clear H h hl hh
      go_enter Tryz.func85, Tryz.ntmps85
      go_wp2_with (go_at_call 110; refine (h' _).mono ?_; rintro e w' ⟨rfl, rfl⟩)
      go_ret
      exact ⟨ret_int H2.out, rfl⟩
    · have H2 := Lib.hid (H 4 rfl)
      clear H h hl hh
      go_enter Tryz.func85, Tryz.ntmps85
      go_wp2_with (go_at_call 110; refine (h' _).mono ?_; rintro e w' ⟨rfl, rfl⟩)
      go_ret
      exact ⟨ret_int H2.out, rfl⟩
    · have H2 := Lib.hid (H 5 rfl)
      clear H h hl hh
      go_enter Tryz.func85, Tryz.ntmps85
      go_wp2_with (go_at_call 110; refine (h' _).mono ?_; rintro e w' ⟨rfl, rfl⟩)
      go_ret
      exact ⟨ret_int H2.out, rfl⟩
    · have H2 := Lib.hid (H 6 rfl)
      clear H h hl hh
      go_enter Tryz.func85, Tryz.ntmps85
      go_wp2_with (go_at_call 110; refine (h' _).mono ?_; rintro e w' ⟨rfl, rfl⟩)
      go_ret
      exact ⟨ret_int H2.out, rfl⟩
    · have H2 := Lib.hid (H 7 rfl)
      clear H h hl hh
      go_enter Tryz.func85, Tryz.ntmps85
      go_wp2_with (go_at_call 110; refine (h' _).mono ?_; rintro e w' ⟨rfl, rfl⟩)
      go_ret
      exact ⟨ret_int H2.out, rfl⟩
    · have H2 := Lib.hid (H 8 rfl)
      clear H h hl hh
      go_enter Tryz.func85, Tryz.ntmps85
      go_wp2_with (go_at_call 110; refine (h' _).mono ?_; rintro e w' ⟨rfl, rfl⟩)
      go_ret
      exact ⟨ret_int H2.out, rfl⟩
  · have h' := isOrder_no h
    have H : Hid (p = dnI p o) := by show _ = _; simp [dnI, h]
    clear h hl hh
    go_enter Tryz.func85, Tryz.ntmps85
    go_wp2_with (go_at_call 110; refine (h' _).mono ?_; rintro e w' ⟨rfl, rfl⟩)
    go_ret
    exact ⟨ret_int H.out, rfl⟩
theorem even_any {o : Int} (p : Int) (hl : -9223372036854775808 ≤ p) (hh : p ≤ 9223372036854775807) (w : World) : Calls Tryz.prog 100 #[.int .i64 p, .int .i64 o] w fun e w' => e = .returned (.bool (evB p o)) ∧ w = w' := by
  rcases Bool.eq_false_or_eq_true (ordB o) with h | h
  · have h' := isOrder_yes h
    have H : Hid ((dnI p o == p) = evB p o) := by
      show _ = _
      simp only [dnI, evB, h, if_true, Bool.true_and]
      rw [Bool.eq_iff_iff, beq_iff_eq, decide_eq_true_eq]
      omega
    clear h
    go_enter Tryz.func100, Tryz.ntmps100
    go_wp2_with (first | (go_at_call 110; refine (h' _).mono ?_; rintro e w' ⟨rfl, rfl⟩) | (go_at_call 85; refine (down_any _ hl hh _).mono ?_; rintro e w' ⟨rfl, rfl⟩))
    go_ret
    exact ⟨ret_bool H.out, rfl⟩
  · have h' := isOrder_no h
    have H : Hid (false = evB p o) := by show _ = _; simp [evB, h]
    clear h
    go_enter Tryz.func100, Tryz.ntmps100
    go_wp2_with (go_at_call 110; refine (h' _).mono ?_; rintro e w' ⟨rfl, rfl⟩)
    go_ret
    exact ⟨ret_bool H.out, rfl⟩
theorem right_any (a n o : Int) (al : -9223372036854775808 ≤ a) (ah : a ≤ 9223372036854775807) (nl : -9223372036854775808 ≤ n) (nh : n ≤ 9223372036854775807) (w : World) : Calls Tryz.prog 71 #[.int .i64 a, .int .i64 n, .int .i64 o] w fun e w' => e = .returned (.int .i64 (rtI a n o)) ∧ w = w' := by
  by_cases h1 : n < 1
  · have H : Hid (2 = rtI a n o) := by show _ = _; simp [rtI, h1]
    go_enter Tryz.func71, Tryz.ntmps71
    go_wp2
    go_ret
    exact ⟨ret_int H.out, rfl⟩
  · have h1' : 1 ≤ n := by omega
    rcases Bool.eq_false_or_eq_true (evB a o) with h2 | h2
    · rcases Bool.eq_false_or_eq_true (evB n o) with h3 | h3
      · by_cases h4 : a < 1
        · have H : Hid (3 = rtI a n o) := by show _ = _; simp [rtI, h1, h2, h3, h4]
          clear h1
          go_enter Tryz.func71, Tryz.ntmps71
          go_wp2_with (first | (go_at_call 100; with_reducible refine (even_any a al ah _).mono ?_; rintro e w' ⟨rfl, rfl⟩) | (go_at_call 100; with_reducible refine (even_any n nl nh _).mono ?_; rintro e w' ⟨rfl, rfl⟩))
          go_ret
          exact ⟨ret_int H.out, rfl⟩
        · have h4' : 1 ≤ a := by omega
          by_cases h5 : 4096 - a < n
          · have H : Hid (3 = rtI a n o) := by show _ = _; simp [rtI, h1, h2, h3, show 4096 < a + n by omega]
            clear h1 h4
            go_enter Tryz.func71, Tryz.ntmps71
            go_wp2_with (first | (go_at_call 100; with_reducible refine (even_any a al ah _).mono ?_; rintro e w' ⟨rfl, rfl⟩) | (go_at_call 100; with_reducible refine (even_any n nl nh _).mono ?_; rintro e w' ⟨rfl, rfl⟩))
            go_ret
            exact ⟨ret_int H.out, rfl⟩
          · have H : Hid (0 = rtI a n o) := by show _ = _; simp [rtI, h1, h2, h3, h4, show ¬ 4096 < a + n by omega]
            have h5' : n ≤ 4096 - a := by omega
            clear h1 h4 h5
            go_enter Tryz.func71, Tryz.ntmps71
            go_wp2_with (first | (go_at_call 100; with_reducible refine (even_any a al ah _).mono ?_; rintro e w' ⟨rfl, rfl⟩) | (go_at_call 100; with_reducible refine (even_any n nl nh _).mono ?_; rintro e w' ⟨rfl, rfl⟩))
            go_ret
            exact ⟨ret_int H.out, rfl⟩
      · have H : Hid (2 = rtI a n o) := by show _ = _; simp [rtI, h1, h2, h3]
        clear h1
        go_enter Tryz.func71, Tryz.ntmps71
        go_wp2_with (first | (go_at_call 100; with_reducible refine (even_any a al ah _).mono ?_; rintro e w' ⟨rfl, rfl⟩) | (go_at_call 100; with_reducible refine (even_any n nl nh _).mono ?_; rintro e w' ⟨rfl, rfl⟩))
        go_ret
        exact ⟨ret_int H.out, rfl⟩
    · have H : Hid (2 = rtI a n o) := by show _ = _; simp [rtI, h1, h2]
      clear h1
      go_enter Tryz.func71, Tryz.ntmps71
      go_wp2_with (go_at_call 100; with_reducible refine (even_any a al ah _).mono ?_; rintro e w' ⟨rfl, rfl⟩)
      go_ret
      exact ⟨ret_int H.out, rfl⟩
theorem size_any (o : Int) (w : World) : Calls Tryz.prog 108 #[.int .i64 o] w fun e w' => e = .returned (.int .i64 (szI o)) ∧ w = w' := by
  rcases Bool.eq_false_or_eq_true (ordB o) with h | h
  · have H : Hid (∀ k : Nat, o = k → 2 ^ k = szI o) := fun k hk => by subst hk; simp [szI, h]
    obtain ⟨k, rfl, hk⟩ := ord_nat h
    clear h
    go_enter Tryz.func108, Tryz.ntmps108
    go_wp2
    go_loop [3, 4] (fun n i => ∃ j : Nat, j ≤ k ∧ i = .int .i64 j ∧ n = .int .i64 (2 ^ j)) (fun _ i => k - (intOf i).toNat)
    case atStart => exact ⟨0, Nat.zero_le _, rfl, rfl⟩
    case round =>
      obtain ⟨j, hj, rfl, rfl⟩ := hrel
      have hp := pow_pos8 j (by omega)
      have HS : Hid ((2 : Int) ^ j * 2 = 2 ^ (j + 1)) := (Int.pow_succ 2 j).symm
      have HE : Hid (j = k → (2 : Int) ^ j = szI k) := fun e => by subst e; exact H.out _ rfl
      obtain ⟨z, hz⟩ : ∃ z, z = (2 : Int) ^ j := ⟨_, rfl⟩
      rw [← hz] at hp HS HE ⊢
      obtain ⟨hp0, hp1⟩ := hp
      clear hz
      by_cases hlt : j < k
      · go_wp2
        go_round
        case rel => exact ⟨j + 1, by omega, by go_num, by rw [HS.out]⟩
        case measure => simp [intOf]; omega
      · go_wp2
        go_ret
        exact ⟨ret_int (HE.out (by omega)), rfl⟩
  · have H : Hid (0 = szI o) := by show _ = _; simp [szI, h]
    rcases ord_not h with h1 | h1
    · clear h
      go_enter Tryz.func108, Tryz.ntmps108
      go_wp2
      go_loop [3, 4] (fun n i => i = .int .i64 0 ∧ n = .int .i64 1) (fun _ _ => 0)
      case atStart => exact ⟨rfl, rfl⟩
      case round =>
        obtain ⟨rfl, rfl⟩ := hrel
        go_wp2
        go_ret
        exact ⟨ret_int H.out, rfl⟩
    · clear h
      go_enter Tryz.func108, Tryz.ntmps108
      go_wp2
      go_loop [3, 4] (fun n i => ∃ j : Nat, j ≤ 9 ∧ i = .int .i64 j ∧ ∃ z : Int, 0 ≤ z ∧ z ≤ 2 ^ j ∧ n = .int .i64 z) (fun _ i => 9 - (intOf i).toNat)
      case atStart => exact ⟨0, Nat.zero_le _, rfl, 1, by omega, by omega, rfl⟩
      case round =>
        obtain ⟨j, hj, rfl, z, hz0, hz1, rfl⟩ := hrel
        by_cases hlt : j < 9
        · have hp := pow_pos8 j (by omega)
          have HS : Hid (z * 2 ≤ 2 ^ (j + 1)) := by show _ ≤ _; rw [Int.pow_succ]; omega
          have hz2 : z ≤ 256 := by omega
          clear hz1 hp
          go_wp2
          go_round
          case rel => exact ⟨j + 1, by omega, by go_num, _, by omega, HS.out, rfl⟩
          case measure => simp [intOf]; omega
        · clear hz1
          go_wp2
          all_goals
            go_ret
            exact ⟨ret_int H.out, rfl⟩
theorem rest_any (p n : Int) (hl : -9223372036854775808 ≤ p) (hh : p ≤ 9223372036854775807) (n0 : 1 ≤ n) (n1 : n ≤ 256) (w : World) : Calls Tryz.prog 109 #[.int .i64 p, .int .i64 n] w fun e w' => e = .returned (.int .i64 (p % n)) ∧ w = w' := by
  have e0 := Int.emod_nonneg p (by omega : n ≠ 0)
  by_cases hp : 0 ≤ p
  · go_enter Tryz.func109, Tryz.ntmps109
    go_wp2
    go_ret
    exact ⟨rfl, rfl⟩
  · have et := Int.tmod_eq_emod (a := p) (b := n)
    have ep := Int.emod_lt_of_pos p (by omega : 0 < n)
    have ev : p.tmod n < 0 ∨ p.tmod n = p % n := by
      rw [et]; split
      · right; omega
      · left; omega
    have ew : p.tmod n < 0 → p.tmod n + n = p % n := by
      rw [et]; split
      · omega
      · intro _; omega
    have ef : Hid (p.tmod n = p % n ∨ True) := Or.inr trivial
    have lb : -256 ≤ p.tmod n := by rw [et]; split <;> omega
    have ub : p.tmod n ≤ 256 := by rw [et]; split <;> omega
    have hp' : p < 0 := by omega
    by_cases hq : p.tmod n < 0
    · have H : Hid (p.tmod n + n = p % n) := ew hq
      clear et ev ew ef hp
      go_enter Tryz.func109, Tryz.ntmps109
      go_wp2
      go_ret
      exact ⟨ret_int H.out, rfl⟩
    · have H : Hid (p.tmod n = p % n) := ev.resolve_left hq
      clear et ev ew ef hp
      go_enter Tryz.func109, Tryz.ntmps109
      go_wp2
      go_ret
      exact ⟨ret_int H.out, rfl⟩
theorem szI_yes {o : Int} (h : ordB o = true) : 1 ≤ szI o ∧ szI o ≤ 256 ∧ szI o = 2 ^ o.toNat := by
  obtain ⟨k, rfl, hk⟩ := ord_nat h
  have := pow_pos8 k hk
  simp only [szI, h, if_true, Int.toNat_natCast]
  exact ⟨this.1, this.2, trivial⟩
theorem szI_no {o : Int} (h : ordB o = false) : szI o = 0 := by simp [szI, h]
theorem refEven_any {o : Int} (p : Int) (hl : -9223372036854775808 ≤ p) (hh : p ≤ 9223372036854775807) (w : World) : Calls Tryz.prog 83 #[.int .i64 p, .int .i64 o] w fun e w' => e = .returned (.bool (evB p o)) ∧ w = w' := by
  have hz := size_any o
  rcases Bool.eq_false_or_eq_true (ordB o) with h | h
  · obtain ⟨s0, s1, s2⟩ := szI_yes h
    have H : Hid ((p % szI o == 0) = evB p o) := by
      show _ = _
      simp only [evB, h, Bool.true_and]
      rw [Bool.eq_iff_iff, beq_iff_eq, decide_eq_true_eq, s2]
    clear s2 h
    obtain ⟨s, hs⟩ : ∃ s, s = szI o := ⟨_, rfl⟩
    rw [← hs] at hz s0 s1 H
    clear hs
    go_enter Tryz.func83, Tryz.ntmps83
    go_wp2_with (first | (go_at_call 108; refine (hz _).mono ?_; rintro e w' ⟨rfl, rfl⟩) | (go_at_call 109; refine (rest_any p s hl hh s0 s1 _).mono ?_; rintro e w' ⟨rfl, rfl⟩))
    go_ret
    exact ⟨ret_bool H.out, rfl⟩
  · have s0 := szI_no h
    rw [s0] at hz
    have H : Hid (false = evB p o) := by show _ = _; simp [evB, h]
    clear s0 h
    go_enter Tryz.func83, Tryz.ntmps83
    go_wp2_with (go_at_call 108; refine (hz _).mono ?_; rintro e w' ⟨rfl, rfl⟩)
    go_ret
    exact ⟨ret_bool H.out, rfl⟩
theorem refRight_any (a n o : Int) (al : -9223372036854775808 ≤ a) (ah : a ≤ 9223372036854775807) (nl : -9223372036854775808 ≤ n) (nh : n ≤ 9223372036854775807) (w : World) : Calls Tryz.prog 58 #[.int .i64 a, .int .i64 n, .int .i64 o] w fun e w' => e = .returned (.int .i64 (rtI a n o)) ∧ w = w' := by
  by_cases h1 : n < 1
  · have H : Hid (2 = rtI a n o) := by show _ = _; simp [rtI, h1]
    go_enter Tryz.func58, Tryz.ntmps58
    go_wp2
    go_ret
    exact ⟨ret_int H.out, rfl⟩
  · have h1' : 1 ≤ n := by omega
    rcases Bool.eq_false_or_eq_true (evB a o) with h2 | h2
    · rcases Bool.eq_false_or_eq_true (evB n o) with h3 | h3
      · by_cases h4 : a < 1
        · have H : Hid (3 = rtI a n o) := by show _ = _; simp [rtI, h1, h2, h3, h4]
          clear h1
          go_enter Tryz.func58, Tryz.ntmps58
          go_wp2_with (first | (go_at_call 83; with_reducible refine (refEven_any a al ah _).mono ?_; rintro e w' ⟨rfl, rfl⟩) | (go_at_call 83; with_reducible refine (refEven_any n nl nh _).mono ?_; rintro e w' ⟨rfl, rfl⟩))
          go_ret
          exact ⟨ret_int H.out, rfl⟩
        · have h4' : 1 ≤ a := by omega
          by_cases h6 : 4095 < a
          · have H : Hid (3 = rtI a n o) := by show _ = _; simp [rtI, h1, h2, h3, show 4096 < a + n by omega]
            clear h1 h4
            go_enter Tryz.func58, Tryz.ntmps58
            go_wp2_with (first | (go_at_call 83; with_reducible refine (refEven_any a al ah _).mono ?_; rintro e w' ⟨rfl, rfl⟩) | (go_at_call 83; with_reducible refine (refEven_any n nl nh _).mono ?_; rintro e w' ⟨rfl, rfl⟩))
            go_ret
            exact ⟨ret_int H.out, rfl⟩
          · have h6' : a ≤ 4095 := by omega
            clear h6
            by_cases h5 : 4096 - a < n
            · have H : Hid (3 = rtI a n o) := by show _ = _; simp [rtI, h1, h2, h3, show 4096 < a + n by omega]
              clear h1 h4
              go_enter Tryz.func58, Tryz.ntmps58
              go_wp2_with (first | (go_at_call 83; with_reducible refine (refEven_any a al ah _).mono ?_; rintro e w' ⟨rfl, rfl⟩) | (go_at_call 83; with_reducible refine (refEven_any n nl nh _).mono ?_; rintro e w' ⟨rfl, rfl⟩))
              go_ret
              exact ⟨ret_int H.out, rfl⟩
            · have H : Hid (0 = rtI a n o) := by show _ = _; simp [rtI, h1, h2, h3, h4, show ¬ 4096 < a + n by omega]
              have h5' : n ≤ 4096 - a := by omega
              clear h1 h4 h5
              go_enter Tryz.func58, Tryz.ntmps58
              go_wp2_with (first | (go_at_call 83; with_reducible refine (refEven_any a al ah _).mono ?_; rintro e w' ⟨rfl, rfl⟩) | (go_at_call 83; with_reducible refine (refEven_any n nl nh _).mono ?_; rintro e w' ⟨rfl, rfl⟩))
              go_ret
              exact ⟨ret_int H.out, rfl⟩
      · have H : Hid (2 = rtI a n o) := by show _ = _; simp [rtI, h1, h2, h3]
        clear h1
        go_enter Tryz.func58, Tryz.ntmps58
        go_wp2_with (first | (go_at_call 83; with_reducible refine (refEven_any a al ah _).mono ?_; rintro e w' ⟨rfl, rfl⟩) | (go_at_call 83; with_reducible refine (refEven_any n nl nh _).mono ?_; rintro e w' ⟨rfl, rfl⟩))
        go_ret
        exact ⟨ret_int H.out, rfl⟩
    · have H : Hid (2 = rtI a n o) := by show _ = _; simp [rtI, h1, h2]
      clear h1
      go_enter Tryz.func58, Tryz.ntmps58
      go_wp2_with (go_at_call 83; with_reducible refine (refEven_any a al ah _).mono ?_; rintro e w' ⟨rfl, rfl⟩)
      go_ret
      exact ⟨ret_int H.out, rfl⟩
end Go.Proofs.YtnppnoabhpkmkaaGreat
/- Areas: the program's small functions. -/
namespace Go.Proofs.YtnppnoabhpkmkaaGreat
open Go.RowKit
def arV (x : Ar) : Value := .agg #[.int .i64 x.f, .int .i64 x.t, .int .i64 x.h, .int .i64 x.p, .int .i64 x.o, .int .i64 x.x]
theorem order_is (h : Int) (w : World) : Calls Tryz.prog 87 #[.int .i64 h] w fun e w' => e = .returned (.int .i64 (ordO h)) ∧ w = w' := by
  unfold ordO
  by_cases h1 : h = 3 ∨ h = 5 ∨ h = 6
  · rw [if_pos h1]
    rcases h1 with rfl | rfl | rfl
    all_goals
      go_enter Tryz.func87, Tryz.ntmps87
      go_wp2
      go_ret
      exact ⟨rfl, rfl⟩
  · rw [if_neg h1]
    have k3 : (h == 3) = false := by simpa using (by omega : ¬ h = 3)
    have k5 : (h == 5) = false := by simpa using (by omega : ¬ h = 5)
    have k6 : (h == 6) = false := by simpa using (by omega : ¬ h = 6)
    clear h1
    by_cases h4 : h = 4
    · subst h4
      go_enter Tryz.func87, Tryz.ntmps87
      go_wp2
      go_ret
      exact ⟨rfl, rfl⟩
    · rw [if_neg h4]
      have k4 : (h == 4) = false := by simpa using h4
      go_enter Tryz.func87, Tryz.ntmps87
      go_wp2
      go_ret
      exact ⟨rfl, rfl⟩
theorem ofObj_is (h : Int) (w : World) : Calls Tryz.prog 111 #[.int .i64 h] w fun e w' => e = .returned (.bool (decide (shr h))) ∧ w = w' := by
  have H : Hid (decide (shr h) = (h == 2 || h == 5)) := by
    show _ = _
    rw [Bool.eq_iff_iff]; simp only [decide_eq_true_eq, Bool.or_eq_true, beq_iff_eq]; exact Iff.rfl
  go_enter Tryz.func111, Tryz.ntmps111
  go_wp2
  all_goals
    go_ret
    exact ⟨ret_bool (by rw [H.out] <;> simp [*]), rfl⟩
theorem isProt_is (p : Int) (w : World) : Calls Tryz.prog 98 #[.int .i64 p] w fun e w' => e = .returned (.bool (prB p)) ∧ w = w' := by
  have H : Hid (prB p = (p == 0 || p == 1 || p == 3)) := by
    show _ = _
    unfold prB
    rw [Bool.eq_iff_iff]; simp [or_assoc]
  go_enter Tryz.func98, Tryz.ntmps98
  go_wp2
  all_goals
    go_ret
    exact ⟨ret_bool (by rw [H.out] <;> simp [*]), rfl⟩
theorem ord_sz (h : Int) : decide (0 < ordO h) = decide (1 < szO h) := by
  unfold ordO szO
  by_cases c : h = 3 ∨ h = 5 ∨ h = 6
  · rw [if_pos c, if_pos c]; rfl
  · rw [if_neg c, if_neg c]
    by_cases d : h = 4
    · rw [if_pos d, if_pos d]; rfl
    · rw [if_neg d, if_neg d]; rfl
set_option maxHeartbeats 1000000 in
theorem mayBe_is (how p o : Int) (w : World) : Calls Tryz.prog 86 #[.int .i64 how, .int .i64 p, .int .i64 o] w fun e w' => e = .returned (.bool (!mapA how p o)) ∧ w = w' := by
  have hip := fun w => isProt_is p w
  have hor := fun w => order_is how w
  have hof := fun w => ofObj_is how w
  obtain ⟨b, hb⟩ : ∃ b, b = prB p := ⟨_, rfl⟩
  obtain ⟨s, hs⟩ : ∃ s, s = decide (shr how) := ⟨_, rfl⟩
  obtain ⟨k, hk⟩ : ∃ k, k = ordO how := ⟨_, rfl⟩
  have H : Hid (mapA how p o = (decide (how < 1) || decide (6 < how) || !b || (decide (p = 0) && decide (0 < k)) || decide (o < 0) || (decide (0 < o) && !s))) := by
    show _ = _
    unfold mapA
    rw [hb, hs, hk, ord_sz]
  rw [← hb] at hip
  rw [← hs] at hof
  rw [← hk] at hor
  have H0 : Hid (p = 0 → mapA how 0 o = (decide (how < 1) || decide (6 < how) || !b || (decide ((0 : Int) = 0) && decide (0 < k)) || decide (o < 0) || (decide (0 < o) && !s))) := fun e => by
    have := H.out
    rw [e] at this; exact this
  clear hb hs hk
  cases b
  all_goals
    cases s
    all_goals
      go_enter Tryz.func86, Tryz.ntmps86
      go_wp2_with (first | (go_at_call 98; (with_reducible refine (hip _).mono ?_); rintro e w1 ⟨rfl, rfl⟩) | (go_at_call 87; (with_reducible refine (hor _).mono ?_); rintro e w1 ⟨rfl, rfl⟩) | (go_at_call 111; (with_reducible refine (hof _).mono ?_); rintro e w1 ⟨rfl, rfl⟩))
      all_goals
        go_ret
        refine ⟨ret_bool ?_, rfl⟩
        first | rw [H.out, Bool.eq_iff_iff] | rw [H0.out (by assumption), Bool.eq_iff_iff]
        simp [*]
        try omega
theorem isGreat_is (x : Ar) (w : World) : Calls Tryz.prog 114 #[arV x] w fun e w' => e = .returned (.bool (decide (1 < szO x.h))) ∧ Below w.heap.size w w' := by
  obtain ⟨f, t, h, p, o, y⟩ := x
  have hor := fun w => order_is h w
  show Calls _ _ #[.agg #[.int .i64 f, .int .i64 t, .int .i64 h, .int .i64 p, .int .i64 o, .int .i64 y]] _ _
  have HB := Lib.hid (below_new w (.cells #[.int .i64 f, .int .i64 t, .int .i64 h, .int .i64 p, .int .i64 o, .int .i64 y] 93))
  have H : Hid (decide (1 < szO h) = decide (0 < ordO h)) := (ord_sz h).symm
  generalize ordO h = k at hor H
  go_enter Tryz.func114, Tryz.ntmps114
  go_wp2_with (go_at_call 87; (with_reducible refine (hor _).mono ?_); rintro e w1 ⟨rfl, rfl⟩)
  go_ret
  exact ⟨ret_bool H.out.symm, HB.out⟩
theorem side_is (x : Ar) (i : Int) (w : World) : Calls Tryz.prog 79 #[arV x, .int .i64 i] w fun e w' => e = .returned (.int .i64 (if x.t ≤ i then -1 else if i < x.f then 1 else 0)) ∧ Below w.heap.size w w' := by
  obtain ⟨f, t, h, p, o, y⟩ := x
  show Calls _ _ #[.agg #[.int .i64 f, .int .i64 t, .int .i64 h, .int .i64 p, .int .i64 o, .int .i64 y], .int .i64 i] _ (fun e w' => e = .returned (.int .i64 (if t ≤ i then -1 else if i < f then 1 else 0)) ∧ Below w.heap.size w w')
  have HB := Lib.hid (below_new w (.cells #[.int .i64 f, .int .i64 t, .int .i64 h, .int .i64 p, .int .i64 o, .int .i64 y] 93))
  by_cases h1 : t ≤ i
  · rw [if_pos h1]
    go_enter Tryz.func79, Tryz.ntmps79
    go_wp2
    go_ret
    exact ⟨rfl, HB.out⟩
  · rw [if_neg h1]
    by_cases h2 : i < f
    · rw [if_pos h2]
      go_enter Tryz.func79, Tryz.ntmps79
      go_wp2
      go_ret
      exact ⟨rfl, HB.out⟩
    · rw [if_neg h2]
      go_enter Tryz.func79, Tryz.ntmps79
      go_wp2
      go_ret
      exact ⟨rfl, HB.out⟩
/-- Bounds that keep sums within an int. -/
structure ArB (a : Ar) : Prop where
  f0 : 0 ≤ a.f
  f4 : a.f ≤ 4096
  t0 : 0 ≤ a.t
  t4 : a.t ≤ 4096
  x0 : 0 ≤ a.x
  x4 : a.x ≤ 10000
theorem cutA_b {a : Ar} (h : ArS a) {u t : Int} (hu : 0 ≤ u) (hu4 : u ≤ 4096) (ht : 0 ≤ t) (ht4 : t ≤ 4096) : ArB (cutA u t a) := by
  obtain ⟨h1, h2, h3, h4, h5⟩ := h
  refine ⟨?_, ?_, ?_, ?_, ?_, ?_⟩
  · show 0 ≤ max u a.f; omega
  · show max u a.f ≤ 4096; omega
  · show 0 ≤ min t a.t; omega
  · show min t a.t ≤ 4096; omega
  · show 0 ≤ if shr a.h then a.x + (max u a.f - a.f) else a.x
    split <;> omega
  · show (if shr a.h then a.x + (max u a.f - a.f) else a.x) ≤ 10000
    split <;> omega
theorem jput_b {T : List Ar} (h : ∀ a ∈ T, ArB a) {y : Ar} (hy : ArB y) : (∀ a ∈ jput T y, ArB a) ∧ (jput T y).length ≤ T.length + 1 := by
  rcases List.eq_nil_or_concat T with rfl | ⟨M, b, e⟩
  · rw [jput_nil]; exact ⟨fun a ha => by rw [List.mem_singleton] at ha; rw [ha]; exact hy, Nat.le_refl _⟩
  · rw [List.concat_eq_append] at e
    subst e
    have hM : ∀ a ∈ M, ArB a := fun a ha => h a (List.mem_append_left _ ha)
    have hb : ArB b := h b (List.mem_append_right _ (List.mem_singleton.2 rfl))
    rw [jput_snoc]
    split
    · refine ⟨fun a ha => ?_, by simp⟩
      rcases List.mem_append.1 ha with ha | ha
      · exact hM a ha
      · rw [List.mem_singleton] at ha; rw [ha]; exact ⟨hb.f0, hb.f4, hy.t0, hy.t4, hb.x0, hb.x4⟩
    · refine ⟨fun a ha => ?_, by simp⟩
      rcases List.mem_append.1 ha with ha | ha
      · exact h a ha
      · rw [List.mem_singleton] at ha; rw [ha]; exact hy
theorem putL_b {u t : Int} (hu : 0 ≤ u) (hu4 : u ≤ 4096) (ht : 0 ≤ t) (ht4 : t ≤ 4096) : ∀ (l T : List Ar), (∀ a ∈ l, ArS a) → (∀ a ∈ T, ArB a) → (∀ a ∈ putL u t T l, ArB a) ∧ (putL u t T l).length ≤ T.length + l.length
  | [], T, _, h => ⟨h, Nat.le_refl _⟩
  | x :: r, T, hl, h => by
    have hr : ∀ a ∈ r, ArS a := fun a ha => hl a (List.mem_cons_of_mem _ ha)
    unfold putL
    split
    · exact ⟨h, by omega⟩
    · split
      · have := putL_b hu hu4 ht ht4 r T hr h
        exact ⟨this.1, by rw [List.length_cons]; omega⟩
      · obtain ⟨j1, j2⟩ := jput_b h (cutA_b (hl x (List.mem_cons_self ..)) hu hu4 ht ht4)
        have := putL_b hu hu4 ht ht4 r _ hr j1
        exact ⟨this.1, by rw [List.length_cons]; omega⟩
theorem jn_dec (x y : Ar) : decide (jn x y) = (decide (y.f = x.t) && decide (x.h = y.h) && decide (x.p = y.p) && decide (x.o = y.o) && (!decide (shr x.h) || decide (y.x = x.x + x.t - x.f))) := by
  rw [Bool.eq_iff_iff, decide_eq_true_eq]
  unfold jn
  simp only [decide_eq_true_eq, Bool.and_eq_true, Bool.or_eq_true, Bool.not_eq_true', decide_eq_false_iff_not]
  rw [show x.x + (x.t - x.f) = x.x + x.t - x.f by omega]
  by_cases c : shr x.h
  · simp [c, and_assoc]
  · simp [c, and_assoc]
theorem join_is {x y : Ar} (hx : ArB x) (w : World) : Calls Tryz.prog 121 #[arV x, arV y] w fun e w' => e = .returned (.bool (decide (jn x y))) ∧ Below w.heap.size w w' := by
  obtain ⟨f, t, h, p, o, z⟩ := x
  obtain ⟨f', t', h', p', o', z'⟩ := y
  obtain ⟨b1, b2, b3, b4, b5, b6⟩ := hx
  dsimp only at b1 b2 b3 b4 b5 b6
  show Calls _ _ #[.agg #[.int .i64 f, .int .i64 t, .int .i64 h, .int .i64 p, .int .i64 o, .int .i64 z], .agg #[.int .i64 f', .int .i64 t', .int .i64 h', .int .i64 p', .int .i64 o', .int .i64 z']] _ _
  have hbl := fun o1 o2 => ((Below.refl w.heap.size w).alloc (Nat.le_refl _) o1).alloc (by simp) o2
  have HB := Lib.hid hbl
  clear hbl
  have hof := fun w => ofObj_is h w
  have w1 : IntKind.i64.wrap (z + t) = z + t := IntWalk.i64_in _ (by omega)
  have w2 : IntKind.i64.wrap (z + t - f) = z + t - f := IntWalk.i64_in _ (by omega)
  have H := Lib.hid (jn_dec ⟨f, t, h, p, o, z⟩)
  obtain ⟨s, hs⟩ : ∃ s, s = decide (shr h) := ⟨_, rfl⟩
  rw [← hs] at hof
  have HS := Lib.hid hs
  clear hs b1 b2 b3 b4 b5 b6
  by_cases hz : z' = z + t - f
  all_goals
   first | (have hz2 : (z' != z + t - f) = false := by simpa using hz) | (have hz2 : (z' != z + t - f) = true := by simpa using hz)
   have HZ := Lib.hid hz
   clear hz
   cases s
   all_goals
    go_enter Tryz.func121, Tryz.ntmps121
    go_wp2_with (go_at_call 111; (with_reducible refine (hof _).mono ?_); rintro e w1 ⟨rfl, rfl⟩)
    all_goals
      go_ret
      refine ⟨ret_bool ?_, HB.out _ _⟩
      rw [H.out]
      have hz := HZ.out
      dsimp only
      rw [← HS.out, Bool.eq_iff_iff]
      simp [*]
      try omega
end Go.Proofs.YtnppnoabhpkmkaaGreat
