/- The law's own first calls come as the document says; new memories of a fixed size; the walks of the laws RamNone and RamWords. -/
import Derived.Test.YtpcpcgbejinlmaaMk09
namespace Go.Proofs.Ytpcpcgbejinlmaa
open Go.RowKit
section
variable {w : World} {a b : Nat} {T : TypeId}
end
end Go.Proofs.Ytpcpcgbejinlmaa
/- The walk of the law RamWords: what is stored is loaded, and two words do not meet. -/
namespace Go.Proofs.Ytpcpcgbejinlmaa
open Go.RowKit
section
variable {w : World} {a b n : Nat} {T : TypeId} {ws : List Int}
end
theorem drewN_below {B : Nat} {a w : World} (h : Below B a w) (n : Nat) : Below B a (w.drewN n) := ⟨h.os, h.tape, h.output, h.size, h.block⟩
end Go.Proofs.Ytpcpcgbejinlmaa
