/- The contracts of Page and of the reference's Digits and Page; the reference's look at two lists of numbers that are the same. -/
import Derived.Test.YtaphihoomipdaaaGb
namespace Go.Proofs.Ytaphihoomipdaaa
open Go.RowKit

theorem digits_any (p : Int) (w : World) : Calls Try.prog 35 #[.int .i64 p] w (SomeInts w (dgL p) (dgE p)) := by
  by_cases h : 0 ≤ p ∧ p ≤ 4095
  · exact digits_good p h.1 h.2 w
  · exact digits_bad p h w

section
variable {w : World} {B n c : Nat} {A : Option Addr} {l : List Int}
end
section
variable {w : World} {B B' n c c' : Nat} {A A' : Option Addr} {l : List Int}
theorem numbers_same (h : IntsAt w B A n l) (h' : IntsAt w B' A' n l) (hm : n ≤ maxLen) : Calls Try.prog 20 #[.slice A n c, .slice A' n c'] w (Drawn (.bool true) w) := by
  unfold maxLen at hm
  have H := Lib.hid h
  have H' := Lib.hid h'
  clear h h'
  go_enter Try.func20, Try.ntmps20
  go_wp2
  go_loopw [5] (fun i wr => ∃ j k : Nat, j ≤ n ∧ i = .int .i64 j ∧ wr = w.drewN k) (fun i _ => n - (intOf i).toNat)
  case atStart => exact ⟨0, 0, Nat.zero_le _, rfl, rfl⟩
  case round =>
    obtain ⟨j, k, hj, rfl, rfl⟩ := hrel
    by_cases hlt : j < n
    · obtain ⟨a, rfl, _, hc⟩ := (H.out.drewN k).cell hlt
      obtain ⟨a', rfl, _, hc'⟩ := (H'.out.drewN k).cell hlt
      obtain ⟨d, ed⟩ : ∃ d, d = l.getD j 0 := ⟨_, rfl⟩
      rw [← ed] at hc hc'
      obtain ⟨w1, ew⟩ : ∃ w1, w1 = w.drewN k := ⟨_, rfl⟩
      rw [← ew] at hc hc' ⊢
      have HW := Lib.hid ew
      clear ed ew
      go_wp2_with fail
      go_quiet (fail)
      go_wp2_with fail
      go_roundw
      case rel => exact ⟨j + 1, k + _, by omega, by go_num, by rw [HW.out, drewN_add]⟩
      case measure => simp [intOf]; omega
    · go_wp2
      go_ret
      exact ⟨rfl, k, rfl⟩
end
end Go.Proofs.Ytaphihoomipdaaa
