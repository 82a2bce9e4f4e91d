/- The contracts of package geo and of its reference on orders: where blocks begin, what is wrong with a stretch. -/
import Derived.Test.YtfalmjibpkkjaaaProg
import Derived.Test.YtfalmjibpkkjaaaGp
import Derived.WalkKit
import Derived.WalkSpells
import Derived.Lib.Hide
import Derived.WalkLawsBesides
import Derived.Deep.QuietTactic
import Derived.BigQuiet
namespace Go.Proofs.Ytfalmjibpkkjaaa
open Go.RowKit

theorem isOrder_yes {o : Int} (h : ordB o = true) (w : World) : Calls Try.prog 47 #[.int .i64 o] w fun e w' => e = .returned (.bool true) ∧ w = w' := by
  obtain ⟨k, rfl, hk⟩ := ord_nat h
  clear h
  go_enter Try.func47, Try.ntmps47
  go_wp2
  go_ret
  exact ⟨ret_bool (by simp; omega), rfl⟩
theorem isOrder_no {o : Int} (h : ordB o = false) (w : World) : Calls Try.prog 47 #[.int .i64 o] w fun e w' => e = .returned (.bool false) ∧ w = w' := by
  rcases ord_not h with h1 | h1
  · clear h
    go_enter Try.func47, Try.ntmps47
    go_wp2
    go_ret
    exact ⟨rfl, rfl⟩
  · clear h
    have h0 : 0 ≤ o := by omega
    go_enter Try.func47, Try.ntmps47
    go_wp2
    go_ret
    exact ⟨ret_bool (by simp; omega), rfl⟩
theorem down_any {o : Int} (p : Int) (hl : -9223372036854775808 ≤ p) (hh : p ≤ 9223372036854775807) (w : World) : Calls Try.prog 40 #[.int .i64 p, .int .i64 o] w fun e w' => e = .returned (.int .i64 (dnI p o)) ∧ w = w' := by
  rcases Bool.eq_false_or_eq_true (ordB o) with h | h
  · have h' := isOrder_yes h
    have H : ∀ k : Nat, o = k → bits .andNot .i64 p (2 ^ k - 1) = dnI p o := fun k hk => by
      subst hk
      rw [down_bits p k (by simp only [ordB, decide_eq_true_eq] at h; omega) hl hh]
      simp [dnI, h]
    rcases ord_cases h with rfl | rfl | rfl | rfl | rfl | rfl | rfl | rfl | rfl
    · have H2 := Lib.hid (H 0 rfl)
      clear H h hl hh
      go_enter Try.func40, Try.ntmps40
      go_wp2_with (go_at_call 47; refine (h' _).mono ?_; rintro e w' ⟨rfl, rfl⟩)
      go_ret
      exact ⟨ret_int H2.out, rfl⟩
    · have H2 := Lib.hid (H 1 rfl)
      clear H h hl hh
      go_enter Try.func40, Try.ntmps40
      go_wp2_with (go_at_call 47; refine (h' _).mono ?_; rintro e w' ⟨rfl, rfl⟩)
      go_ret
      exact ⟨ret_int H2.out, rfl⟩
    · have H2 := Lib.hid (H 2 rfl)
      clear H h hl hh
      go_enter Try.func40, Try.ntmps40
      go_wp2_with (go_at_call 47; refine (h' _).mono ?_; rintro e w' ⟨rfl, rfl⟩)
      go_ret
      exact ⟨ret_int H2.out, rfl⟩
    · have H2 := Lib.hid (H 3 rfl)
      clear H h hl hh
      go_enter Try.func40, Try.ntmps40
      go_wp2_with (go_at_call 47; refine (h' _).mono ?_; rintro e w' ⟨rfl, rfl⟩)
      go_ret
      exact ⟨ret_int H2.out, rfl⟩
    · have H2 := Lib.hid (H 4 rfl)
      clear H h hl hh
      go_enter Try.func40, Try.ntmps40
      go_wp2_with (go_at_call 47; refine (h' _).mono ?_; rintro e w' ⟨rfl, rfl⟩)
      go_ret
      exact ⟨ret_int H2.out, rfl⟩
    · have H2 := Lib.hid (H 5 rfl)
      clear H h hl hh
      go_enter Try.func40, Try.ntmps40
      go_wp2_with (go_at_call 47; refine (h' _).mono ?_; rintro e w' ⟨rfl, rfl⟩)
      go_ret
      exact ⟨ret_int H2.out, rfl⟩
    · have H2 := Lib.hid (H 6 rfl)
      clear H h hl hh
      go_enter Try.func40, Try.ntmps40
      go_wp2_with (go_at_call 47; refine (h' _).mono ?_; rintro e w' ⟨rfl, rfl⟩)
      go_ret
      exact ⟨ret_int H2.out, rfl⟩
    · have H2 := Lib.hid (H 7 rfl)
      clear H h hl hh
      go_enter Try.func40, Try.ntmps40
      go_wp2_with (go_at_call 47; refine (h' _).mono ?_; rintro e w' ⟨rfl, rfl⟩)
      go_ret
      exact ⟨ret_int H2.out, rfl⟩
    · have H2 := Lib.hid (H 8 rfl)
      clear H h hl hh
      go_enter Try.func40, Try.ntmps40
      go_wp2_with (go_at_call 47; refine (h' _).mono ?_; rintro e w' ⟨rfl, rfl⟩)
      go_ret
      exact ⟨ret_int H2.out, rfl⟩
  · have h' := isOrder_no h
    have H : Hid (p = dnI p o) := by show _ = _; simp [dnI, h]
    clear h hl hh
    go_enter Try.func40, Try.ntmps40
    go_wp2_with (go_at_call 47; refine (h' _).mono ?_; rintro e w' ⟨rfl, rfl⟩)
    go_ret
    exact ⟨ret_int H.out, rfl⟩
theorem even_any {o : Int} (p : Int) (hl : -9223372036854775808 ≤ p) (hh : p ≤ 9223372036854775807) (w : World) : Calls Try.prog 30 #[.int .i64 p, .int .i64 o] w fun e w' => e = .returned (.bool (evB p o)) ∧ w = w' := by
  rcases Bool.eq_false_or_eq_true (ordB o) with h | h
  · have h' := isOrder_yes h
    have H : Hid ((dnI p o == p) = evB p o) := by
      show _ = _
      simp only [dnI, evB, h, if_true, Bool.true_and]
      rw [Bool.eq_iff_iff, beq_iff_eq, decide_eq_true_eq]
      omega
    clear h
    go_enter Try.func30, Try.ntmps30
    go_wp2_with (first | (go_at_call 47; refine (h' _).mono ?_; rintro e w' ⟨rfl, rfl⟩) | (go_at_call 40; refine (down_any _ hl hh _).mono ?_; rintro e w' ⟨rfl, rfl⟩))
    go_ret
    exact ⟨ret_bool H.out, rfl⟩
  · have h' := isOrder_no h
    have H : Hid (false = evB p o) := by show _ = _; simp [evB, h]
    clear h
    go_enter Try.func30, Try.ntmps30
    go_wp2_with (go_at_call 47; refine (h' _).mono ?_; rintro e w' ⟨rfl, rfl⟩)
    go_ret
    exact ⟨ret_bool H.out, rfl⟩
theorem szI_yes {o : Int} (h : ordB o = true) : 1 ≤ szI o ∧ szI o ≤ 256 ∧ szI o = 2 ^ o.toNat := by
  obtain ⟨k, rfl, hk⟩ := ord_nat h
  have := pow_pos8 k hk
  simp only [szI, h, if_true, Int.toNat_natCast]
  exact ⟨this.1, this.2, trivial⟩
theorem szI_no {o : Int} (h : ordB o = false) : szI o = 0 := by simp [szI, h]
end Go.Proofs.Ytfalmjibpkkjaaa
