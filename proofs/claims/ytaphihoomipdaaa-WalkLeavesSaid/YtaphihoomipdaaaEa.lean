/- The contracts of the leaves of package entry and of its reference: what each call returns, and that it writes to new memory alone. -/
import Derived.Test.YtaphihoomipdaaaProg
import Derived.Test.YtaphihoomipdaaaEp
import Derived.WalkKit
import Derived.WalkSpells
import Derived.Lib.Hide
import Derived.WalkLawsBesides
import Derived.Deep.QuietTactic
import Derived.BigQuiet
namespace Go.Proofs.Ytaphihoomipdaaa
open Go.RowKit

set_option maxHeartbeats 400000 in
theorem nothing_any (f : Int) (p w h k u d : Bool) (W : World) :
    Calls Try.prog 52 #[.agg #[.int .i64 f, .bool p, .bool w, .bool h, .bool k, .bool u, .bool d]] W fun e W' => e = .returned (.bool (noB f p w h k u d)) ∧ Below W.heap.size W W' := by
  go_enter Try.func52, Try.ntmps52
  go_wp2
  all_goals
    go_ret
    refine ⟨ret_bool ?_, (Below.refl _ _).alloc (Nat.le_refl _) _⟩
    simp [noB, *]

set_option maxHeartbeats 400000 in
theorem bit_any (b : Bool) (n : Int) (W : World) :
    Calls Try.prog 42 #[.bool b, .int .u64 n] W fun e W' => e = .returned (.int .u64 (bitI b n)) ∧ W = W' := by
  cases b
  all_goals
    go_enter Try.func42, Try.ntmps42
    go_wp2
    go_ret
    exact ⟨rfl, rfl⟩

set_option maxHeartbeats 400000 in
theorem has_any (b n : Int) (a : Addr) (W : World) (hc : W.cell? a = some (.int .u64 n)) (h0 : 0 ≤ b) (h1 : b < 64) (h2 : 0 ≤ n) (h3 : n < 18446744073709551616) :
    Calls Try.prog 43 #[.int .u64 b, .pointer (some a)] W fun e W' => e = .returned (.bool (onB n b)) ∧ W = W' := by
  have hq : 0 ≤ n / 2 ^ b.toNat := Int.ediv_nonneg h2 (Int.pow_nonneg (by omega))
  have hq2 : n / 2 ^ b.toNat ≤ n := Int.ediv_le_self _ h2
  have hand : bits .and .u64 (n / 2 ^ b.toNat) 1 = n / 2 ^ b.toNat % 2 := and_one_u64 _ hq (by omega)
  have H := Lib.hid hand
  clear hand
  go_enter Try.func43, Try.ntmps43
  go_wp2
  go_ret
  exact ⟨ret_bool (by unfold onB; rw [H.out]), rfl⟩

theorem put_no (b : Int) (a : Addr) (W : World) :
    Calls Try.prog 49 #[.int .u64 b, .bool false, .pointer (some a)] W fun e W' => e = .returned (.tuple #[]) ∧ W = W' := by
  go_enter Try.func49, Try.ntmps49
  go_wp2
  go_end0
  exact ⟨rfl, rfl⟩
set_option maxHeartbeats 400000 in
theorem put_yes (b o : Int) (a a' : Addr) (W : World) (hp : W.cell? a = some (.pointer (some a'))) (hc : W.cell? a' = some (.int .u64 o)) (hf : W.frozen? a' = false) (h0 : 0 ≤ b) (h1 : b < 64)
    (h2 : 0 ≤ o) (h3 : o < 18446744073709551616) (hx : o.toNat / 2 ^ b.toNat % 2 = 0) :
    Calls Try.prog 49 #[.int .u64 b, .bool true, .pointer (some a)] W fun e W' => e = .returned (.tuple #[]) ∧ W.setCell a' (.int .u64 (o + 2 ^ b.toNat)) = W' := by
  have hor := u64_or_bit o b.toNat h2 h3 (by omega) hx
  have H := Lib.hid hor
  clear hor hx
  go_enter Try.func49, Try.ntmps49
  go_wp2
  go_end0
  exact ⟨rfl, by rw [H.out]⟩
/-- A bit is put: whether or not it is on, the word becomes what it was and the bit's worth. -/
theorem put_any (b v o : Int) (on : Bool) (a a' : Addr) (W : World) (hp : W.cell? a = some (.pointer (some a'))) (hc : W.cell? a' = some (.int .u64 o)) (hf : W.frozen? a' = false) (h0 : 0 ≤ b) (h1 : b < 64)
    (h2 : 0 ≤ o) (h3 : o < 18446744073709551616) (hv : 2 ^ b.toNat = v) (hx : o.toNat / 2 ^ b.toNat % 2 = 0) :
    Calls Try.prog 49 #[.int .u64 b, .bool on, .pointer (some a)] W fun e W' => e = .returned (.tuple #[]) ∧ W.setCell a' (.int .u64 (o + bitI on v)) = W' := by
  cases on
  · refine (put_no b a W).mono ?_
    rintro e W' ⟨rfl, rfl⟩
    exact ⟨rfl, setCell_self (by simpa [bitI] using hc)⟩
  · refine (put_yes b o a a' W hp hc hf h0 h1 h2 h3 hx).mono ?_
    rintro e W' ⟨rfl, rfl⟩
    exact ⟨rfl, by rw [hv]; rfl⟩

set_option maxHeartbeats 400000 in
theorem putter_any (a : Addr) (W : World) :
    Calls Try.prog 39 #[.pointer (some a)] W fun e W' => e = .returned (.func (.func 49) #[] #[.pointer (some ⟨W.heap.size, 0, none⟩)]) ∧ W.alloc (.cells #[.pointer (some a)] 88) = W' := by
  go_enter Try.func39, Try.ntmps39
  go_wp2
  go_ret
  exact ⟨rfl, rfl⟩
set_option maxHeartbeats 400000 in
theorem asker_any (n : Int) (W : World) :
    Calls Try.prog 34 #[.int .u64 n] W fun e W' => e = .returned (.func (.func 43) #[] #[.pointer (some ⟨W.heap.size, 0, none⟩)]) ∧ W.alloc (.cells #[.int .u64 n] 25) = W' := by
  go_enter Try.func34, Try.ntmps34
  go_wp2
  go_ret
  exact ⟨rfl, rfl⟩

set_option maxHeartbeats 400000 in
theorem may_any (f : Int) (p w h k u d : Bool) (W : World) :
    Calls Try.prog 48 #[.agg #[.int .i64 f, .bool p, .bool w, .bool h, .bool k, .bool u, .bool d]] W fun e W' => e = .returned (.bool (mayB f p w h k u d)) ∧ Below W.heap.size W W' := by
  cases p
  · cases k
    · go_enter Try.func48, Try.ntmps48
      go_wp2_with (go_at_call 52; refine (nothing_any _ _ _ _ _ _ _ _).mono ?_; rintro e w' ⟨rfl, hb⟩)
      go_ret
      refine ⟨ret_bool (by simp [mayB, noB]), ?_⟩
      exact ((Below.refl _ _).alloc (Nat.le_refl _) _).trans (hb.mono (by simp))
    · cases h
      all_goals
        go_enter Try.func48, Try.ntmps48
        go_wp2
        go_ret
        exact ⟨ret_bool (by simp [mayB]), (Below.refl _ _).alloc (Nat.le_refl _) _⟩
  · go_enter Try.func48, Try.ntmps48
    go_wp2
    go_ret
    exact ⟨ret_bool (by simp [mayB]), (Below.refl _ _).alloc (Nat.le_refl _) _⟩
set_option maxHeartbeats 400000 in
theorem check_any (f : Int) (p w h k u d : Bool) (W : World) :
    Calls Try.prog 38 #[.agg #[.int .i64 f, .bool p, .bool w, .bool h, .bool k, .bool u, .bool d]] W fun e W' => e = .returned (.int .i64 (chkI f p w h k u d)) ∧ Below W.heap.size W W' := by
  by_cases h1 : f < 0
  · go_enter Try.func38, Try.ntmps38
    go_wp2
    go_ret
    exact ⟨ret_int (chk_lo h1), (Below.refl _ _).alloc (Nat.le_refl _) _⟩
  · by_cases h2 : 1048576 ≤ f
    · go_enter Try.func38, Try.ntmps38
      go_wp2
      go_ret
      exact ⟨ret_int (chk_hi h2), (Below.refl _ _).alloc (Nat.le_refl _) _⟩
    · go_enter Try.func38, Try.ntmps38
      go_wp2_with (go_at_call 48; refine (may_any _ _ _ _ _ _ _ _).mono ?_; rintro e w' ⟨rfl, hb⟩)
      all_goals
        go_ret
        exact ⟨ret_int (by first | exact chk_bad (by omega) (by omega) ‹_› | exact chk_ok (by omega) (by omega) ‹_›), ((Below.refl _ _).alloc (Nat.le_refl _) _).trans (Below.mono (by assumption) (by simp))⟩
end Go.Proofs.Ytaphihoomipdaaa
