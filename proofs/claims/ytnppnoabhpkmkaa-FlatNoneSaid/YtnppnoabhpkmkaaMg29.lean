/- The reference of spaces: a load, a store. -/
import Derived.Test.YtnppnoabhpkmkaaMg28
namespace Go.Proofs.Ytnppnoabhpkmkaa
open Go.RowKit
/-- An operation as a value. -/
def opL (r : Rq) : List Value := [.int .i64 r.k, .int .i64 r.s, .int .i64 r.a, .int .i64 r.n, .int .i64 r.h, .int .i64 r.p, .int .i64 r.t, .int .i64 r.c, .int .u64 r.v]
section
variable {w w' : World} {B : Nat} {T : RfT} {F : Fl} {s s' : SpB} {S S' : Sp}
/-- What an operation lies in, and its result: two new blocks. -/
def OpAt (w : World) (r : Rq) (W : World) (b0 b1 : Nat) : Prop := W = (w.alloc (.cells (opL r).toArray 24)).alloc (.cells #[.int .i64 0, .int .u64 0] 31) ∧ b1 = w.heap.size + 1 ∧ b0 = w.heap.size
theorem opAt (w : World) (r : Rq) : ∃ W b0 b1, OpAt w r W b0 b1 := ⟨_, _, _, rfl, rfl, rfl⟩
theorem OpAt.facts {r : Rq} {W : World} {b0 b1 : Nat} (h : OpAt w r W b0 b1) : Below w.heap.size w W ∧ Lrow W b0 24 (opL r) ∧ Lrow W b1 31 [.int .i64 0, .int .u64 0] ∧ w.heap.size ≤ b0 ∧ w.heap.size ≤ b1 := by
  obtain ⟨rfl, rfl, rfl⟩ := h
  have h1 := below_new w (.cells (opL r).toArray 24)
  refine ⟨h1.alloc h1.size _, (Lrow.new w _ (opL r)).alloc _, ?_, Nat.le_refl _, by omega⟩
  have := Lrow.new (w.alloc (.cells (opL r).toArray 24)) 31 [.int .i64 0, .int .u64 0]
  rw [show (w.alloc (.cells (opL r).toArray 24)).heap.size = w.heap.size + 1 by simp] at this
  exact this
theorem okE_cases {eF eA : Int} {S : Sp} {a : Int} : celE eF eA S a = 0 ∨ celE eF eA S a ≠ 0 := Classical.em _
end
end Go.Proofs.Ytnppnoabhpkmkaa
