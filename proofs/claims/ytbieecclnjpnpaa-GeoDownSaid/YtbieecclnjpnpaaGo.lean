/- What comes in, opened: a list of numbers. -/
import Derived.Test.YtbieecclnjpnpaaGm
import Derived.Test.YtbieecclnjpnpaaProg
import Derived.ProofKit
import Derived.OpenShut
import Derived.ChangeSlices
import Derived.Lib.SmallJoins
import Derived.Deep.Slices
import Derived.Deep.Fields
import Derived.ChangeSame
import Derived.Carry
namespace Go.Proofs.Ytbieecclnjpnpaa
open Go.RowKit

theorem laidOut : laidOutB Try.prog = true := by kernel_rfl
theorem own : ownKnob Try.prog.godebug = none := by kernel_rfl
theorem cellsInt : Try.prog.cellsOf 3 = 1 := by kernel_rfl
theorem u8_lo {n : Int} (h : (Lit.int .u8 n).wf = true) : 0 ≤ n := by simp [Lit.wf, IntKind.min, IntKind.max, IntKind.signed, IntKind.bits] at h; omega
theorem u8_hi {n : Int} (h : (Lit.int .u8 n).wf = true) : n < 256 := by simp [Lit.wf, IntKind.min, IntKind.max, IntKind.signed, IntKind.bits] at h; omega
theorem i64_lo {n : Int} (h : (Lit.int .i64 n).wf = true) : -9223372036854775808 ≤ n := by simp [Lit.wf, IntKind.min, IntKind.max, IntKind.signed, IntKind.bits] at h; omega
theorem i64_hi {n : Int} (h : (Lit.int .i64 n).wf = true) : n ≤ 9223372036854775807 := by simp [Lit.wf, IntKind.min, IntKind.max, IntKind.signed, IntKind.bits] at h; omega

section
open Go.Joins Go.ChangeShapes Go.WideShapes Go.ChangeAt Go.RowKit Go.Deep
variable {H : Type} {enc : TypeId × Value → H} {w : World} {base : Nat} {spare : Nat → Bool} {held : Bool}
theorem open_intlist {r : Reach} {b0 : Nat} {v : Value} {x : DataW H} {ps : List MemPlace} (hv : Value.okWide Try.prog w r b0 22 v) (h : DataW.Trod enc Try.prog w base spare held 22 v x ps) :
    ∃ A n c l, v = .slice A n c ∧ n ≤ maxLen ∧ IntsAt w w.heap.size A n l ∧ ∀ d ∈ l, -9223372036854775808 ≤ d ∧ d ≤ 9223372036854775807 := by
  obtain ⟨A, n, c, rfl⟩ := okWide_slice Try.underlying22 hv
  obtain ⟨fuel, hf⟩ := h
  rcases open_ints Try.underlying22 Try.underlying3 cellsInt hf with ⟨e, _⟩ | ⟨a, len, cap, zs, e, _, hlc, hcap, hlen, _, hc, hwf⟩
  · simp only [Value.cells] at e
    injection e with e
    injection e with e1 e2 e3
    subst e1 e2 e3
    exact ⟨_, _, _, [], rfl, Nat.zero_le _, IntsAt.nil _ _ _, by simp⟩
  · simp only [Value.cells] at e
    injection e with e
    injection e with e1 e2 e3
    subst e1 e2 e3
    have hl : n ≤ zs.length := by rw [hlen]; split <;> omega
    refine ⟨_, _, _, zs.take n, rfl, Nat.le_trans hlc hcap, ⟨by rw [List.length_take]; omega, fun h0 => ⟨a, rfl, ?_, fun j hj => ?_⟩⟩, fun d hd => ?_⟩
    · have := World.block_lt_of_cell? w _ (hc 0 (by omega))
      rwa [add_block] at this
    · rw [hc j (by omega), List.getD_eq_getElem?_getD, List.getD_eq_getElem?_getD, List.getElem?_take_of_lt hj]
    · have := hwf d (List.mem_of_mem_take hd)
      exact ⟨i64_lo this, i64_hi this⟩
end
end Go.Proofs.Ytbieecclnjpnpaa
