/- A list of calls as it lies in memory; both memories, held together; new memories by letters. -/
import Derived.Test.YtpcpcgbejinlmaaMk10
import Derived.Test.YtpcpcgbejinlmaaProg
import Derived.Test.YtpcpcgbejinlmaaMk01
import Derived.WalkKit
import Derived.WalkSpells
import Derived.Lib.Hide
import Derived.WalkLawsBesides
import Derived.Deep.QuietTactic
import Derived.BigQuiet
namespace Go.Proofs.Ytpcpcgbejinlmaa
open Go.RowKit
def IsAct (c : Int × Int × Int × Int × Int) : Prop := c.1 ≤ 9223372036854775807 ∧ c.2.1 ≤ 9223372036854775807 ∧ -9223372036854775808 ≤ c.2.1 ∧ c.2.2.1 ≤ 9223372036854775807 ∧ c.2.2.2.1 ≤ 9223372036854775807 ∧ 0 ≤ c.2.2.2.2 ∧ c.2.2.2.2 < 18446744073709551616
structure ActAt (w : World) (p : Addr) (K A B N V : Int) : Prop where
  c0 : w.cell? p = some (.int .i64 K)
  c1 : w.cell? ⟨p.block, p.off + 1, none⟩ = some (.int .i64 A)
  c2 : w.cell? ⟨p.block, p.off + 2, none⟩ = some (.int .i64 B)
  c3 : w.cell? ⟨p.block, p.off + 3, none⟩ = some (.int .i64 N)
  c4 : w.cell? ⟨p.block, p.off + 4, none⟩ = some (.int .u64 V)
def Acts (w : World) (b : Nat) (A : Option Addr) (n : Nat) : Prop :=
  0 < n → ∃ a, A = some a ∧ a.block < b ∧ ∀ i, i < n → ∃ K A B N V : Int, IsAct (K, A, B, N, V) ∧ ActAt w (a.add (i * 5)) K A B N V
end Go.Proofs.Ytpcpcgbejinlmaa
/- The contracts of package geo and of its reference on orders: where blocks begin, what is wrong with a stretch. -/
namespace Go.Proofs.Ytpcpcgbejinlmaa
open Go.RowKit
theorem isOrder_yes {o : Int} (h : ordB o = true) (w : World) : Calls Try.prog 51 #[.int .i64 o] w fun e w' => e = .returned (.bool true) ∧ w = w' := by
  obtain ⟨k, rfl, hk⟩ := ord_nat h
  clear h
  go_enter Try.func51, Try.ntmps51
  go_wp2
  go_ret
  exact ⟨ret_bool (by simp; omega), rfl⟩
theorem isOrder_no {o : Int} (h : ordB o = false) (w : World) : Calls Try.prog 51 #[.int .i64 o] w fun e w' => e = .returned (.bool false) ∧ w = w' := by
  rcases ord_not h with h1 | h1
  · clear h
    go_enter Try.func51, Try.ntmps51
    go_wp2
    go_ret
    exact ⟨rfl, rfl⟩
  · clear h
    have h0 : 0 ≤ o := by omega
    go_enter Try.func51, Try.ntmps51
    go_wp2
    go_ret
    exact ⟨ret_bool (by simp; omega), rfl⟩
theorem down_any {o : Int} (p : Int) (hl : -9223372036854775808 ≤ p) (hh : p ≤ 9223372036854775807) (w : World) : Calls Try.prog 29 #[.int .i64 p, .int .i64 o] w fun e w' => e = .returned (.int .i64 (dnI p o)) ∧ w = w' := by
  rcases Bool.eq_false_or_eq_true (ordB o) with h | h
  · have h' := isOrder_yes h
    have H : ∀ k : Nat, o = k → bits .andNot .i64 p (2 ^ k - 1) = dnI p o := fun k hk => by
      subst hk
      rw [down_bits p k (by simp only [ordB, decide_eq_true_eq] at h; omega) hl hh]
      simp [dnI, h]
    rcases ord_cases h with rfl | rfl | rfl | rfl | rfl | rfl | rfl | rfl | rfl
    · have H2 := Lib.hid (H 0 rfl)
      clear H h hl hh
      go_enter Try.func29, Try.ntmps29
      go_wp2_with (go_at_call 51; refine (h' _).mono ?_; rintro e w' ⟨rfl, rfl⟩)
      go_ret
      exact ⟨ret_int H2.out, rfl⟩
    · have H2 := Lib.hid (H 1 rfl)
      clear H h hl hh
      go_enter Try.func29, Try.ntmps29
      go_wp2_with (go_at_call 51; refine (h' _).mono ?_; rintro e w' ⟨rfl, rfl⟩)
      go_ret
      exact ⟨ret_int H2.out, rfl⟩
    · have H2 := Lib.hid (H 2 rfl)
      clear H h hl hh
      go_enter Try.func29, Try.ntmps29
      go_wp2_with (go_at_call 51; refine (h' _).mono ?_; rintro e w' ⟨rfl, rfl⟩)
      go_ret
      exact ⟨ret_int H2.out, rfl⟩
    · have H2 := Lib.hid (H 3 rfl)
      clear H h hl hh
      go_enter Try.func29, Try.ntmps29
      go_wp2_with (go_at_call 51; refine (h' _).mono ?_; rintro e w' ⟨rfl, rfl⟩)
      go_ret
      exact ⟨ret_int H2.out, rfl⟩
    · have H2 := Lib.hid (H 4 rfl)
      clear H h hl hh
      go_enter Try.func29, Try.ntmps29
      go_wp2_with (go_at_call 51; refine (h' _).mono ?_; rintro e w' ⟨rfl, rfl⟩)
      go_ret
      exact ⟨ret_int H2.out, rfl⟩
    · have H2 := Lib.hid (H 5 rfl)
      clear H h hl hh
      go_enter Try.func29, Try.ntmps29
      go_wp2_with (go_at_call 51; refine (h' _).mono ?_; rintro e w' ⟨rfl, rfl⟩)
      go_ret
      exact ⟨ret_int H2.out, rfl⟩
    · have H2 := Lib.hid (H 6 rfl)
      clear H h hl hh
      go_enter Try.func29, Try.ntmps29
      go_wp2_with (go_at_call 51; refine (h' _).mono ?_; rintro e w' ⟨rfl, rfl⟩)
      go_ret
      exact ⟨ret_int H2.out, rfl⟩
    · have H2 := Lib.hid (H 7 rfl)
      clear H h hl hh
      go_enter Try.func29, Try.ntmps29
      go_wp2_with (go_at_call 51; refine (h' _).mono ?_; rintro e w' ⟨rfl, rfl⟩)
      go_ret
      exact ⟨ret_int H2.out, rfl⟩
    · have H2 := Lib.hid (H 8 rfl)
      clear H h hl hh
      go_enter Try.func29, Try.ntmps29
      go_wp2_with (go_at_call 51; refine (h' _).mono ?_; rintro e w' ⟨rfl, rfl⟩)
      go_ret
      exact ⟨ret_int H2.out, rfl⟩
  · have h' := isOrder_no h
    have H : Hid (p = dnI p o) := by show _ = _; simp [dnI, h]
    clear h hl hh
    go_enter Try.func29, Try.ntmps29
    go_wp2_with (go_at_call 51; refine (h' _).mono ?_; rintro e w' ⟨rfl, rfl⟩)
    go_ret
    exact ⟨ret_int H.out, rfl⟩
theorem even_any {o : Int} (p : Int) (hl : -9223372036854775808 ≤ p) (hh : p ≤ 9223372036854775807) (w : World) : Calls Try.prog 52 #[.int .i64 p, .int .i64 o] w fun e w' => e = .returned (.bool (evB p o)) ∧ w = w' := by
  rcases Bool.eq_false_or_eq_true (ordB o) with h | h
  · have h' := isOrder_yes h
    have H : Hid ((dnI p o == p) = evB p o) := by
      show _ = _
      simp only [dnI, evB, h, if_true, Bool.true_and]
      rw [Bool.eq_iff_iff, beq_iff_eq, decide_eq_true_eq]
      omega
    clear h
    go_enter Try.func52, Try.ntmps52
    go_wp2_with (first | (go_at_call 51; refine (h' _).mono ?_; rintro e w' ⟨rfl, rfl⟩) | (go_at_call 29; refine (down_any _ hl hh _).mono ?_; rintro e w' ⟨rfl, rfl⟩))
    go_ret
    exact ⟨ret_bool H.out, rfl⟩
  · have h' := isOrder_no h
    have H : Hid (false = evB p o) := by show _ = _; simp [evB, h]
    clear h
    go_enter Try.func52, Try.ntmps52
    go_wp2_with (go_at_call 51; refine (h' _).mono ?_; rintro e w' ⟨rfl, rfl⟩)
    go_ret
    exact ⟨ret_bool H.out, rfl⟩
end Go.Proofs.Ytpcpcgbejinlmaa
