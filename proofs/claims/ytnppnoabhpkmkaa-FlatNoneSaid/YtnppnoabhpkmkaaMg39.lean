/- The reference of spaces: what changes areas. -/
import Derived.Test.YtnppnoabhpkmkaaMg37
namespace Go.Proofs.Ytnppnoabhpkmkaa
open Go.RowKit
section
variable {w w' : World} {B : Nat} {T : RfT} {F : Fl} {s s' : SpB} {S S' : Sp}
def OpAt1 (w : World) (r : Rq) (W : World) (b0 : Nat) : Prop := W = w.alloc (.cells (opL r).toArray 24) ∧ b0 = w.heap.size
theorem opAt1 (w : World) (r : Rq) : ∃ W b0, OpAt1 w r W b0 := ⟨_, _, rfl, rfl⟩
theorem OpAt1.facts {r : Rq} {W : World} {b0 : Nat} (h : OpAt1 w r W b0) : Below w.heap.size w W ∧ Lrow W b0 24 (opL r) ∧ w.heap.size ≤ b0 := by
  obtain ⟨rfl, rfl⟩ := h
  exact ⟨below_new w _, Lrow.new w _ (opL r), Nat.le_refl _⟩
end
end Go.Proofs.Ytnppnoabhpkmkaa
