/- The contracts of the reference of package ram: clearing and copying, by loops. -/
import Derived.Test.YtpcpcgbejinlmaaMk08
import Derived.StillTailTactics
import Derived.Deep.RegionHeld3
import Derived.RegionTactic
import Derived.BigRegion
import Derived.IntWalk
namespace Go.Proofs.Ytpcpcgbejinlmaa
open Go.RowKit
section
variable {w : World} {a b n : Nat} {T : TypeId} {ws : List Int}
def Says (w : World) (g : Nat) (ws : List Int) : Prop := ∀ i, i < ws.length → w.cell? ⟨g, i, none⟩ = some (.int .u64 (ws.getD i 0))
end
end Go.Proofs.Ytpcpcgbejinlmaa
/- A call of both: the program and the reference come to the same, over the same list of words; and the law's own first calls come as the document says. -/
namespace Go.Proofs.Ytpcpcgbejinlmaa
open Go.RowKit
structure Only (w w' : World) (b d : Nat) : Prop where
  os : w'.os = w.os
  tape : w'.tape = w.tape
  output : w'.output = w.output
  size : w.heap.size ≤ w'.heap.size
  block : ∀ k, k < w.heap.size → k ≠ b → k ≠ d → w'.heap[k]? = w.heap[k]?
section
variable {w w' w'' : World} {b d : Nat}
end
section
variable {w : World} {a b c d n : Nat} {ws : List Int}
end
end Go.Proofs.Ytpcpcgbejinlmaa
