/- Package table: TableApart, whatever the root. -/
import Derived.Test.YtpcpcgbejinlmaaKa1
import Derived.Test.YtpcpcgbejinlmaaKa2
namespace Go.Proofs.Ytpcpcgbejinlmaa
open Go.RowKit
theorem apart_walk (A : Option Addr) (n c : Nat) (l : Ac) (hl : IsAc l) (w : World) (hA : Acs w w.heap.size A n) : Calls Try.prog 5 #[.slice A n c, .agg (acCells l).toArray] w fun e w' => e = .returned (.bool true) ∧ Below w.heap.size w w' := by
  rcases and_one l.r with hb | hb
  · exact apart_walk0 A n c l hl hb w hA
  · exact apart_walk1 A n c l hl hb w hA
end Go.Proofs.Ytpcpcgbejinlmaa
