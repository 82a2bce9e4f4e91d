/-
  No cell of these rows narrows 'for every input' (looked for: loops, veiled, ifaces, maps, wideKeys, modest, calm, conditions, laid).
  DERIVED. THE GIVEN ROWS OF THIS SEAT. 5 by the template 'for every input the law returns true; each argument reads behind the call as it read before'; 0 by the template 'total and deterministic' (their statements: YtodepfgfgphkbaaTotals.lean).
  GIVEN WITH THE SEED: the statements are not yours to turn. If you find one false, say at which input.
  Laid BY PROGRAM, IN A SANDBOX (cutbox-rows.mjs): the forced cells as the released guide's own fill.sh prints them over the translation 725ebb0299d11a7d… (all of the seat's roots in one cut). By AI agents, Wed Nov 11 2026. No macro, syntax, notation, axiom, sorry.
-/
import Derived.Test.YtodepfgfgphkbaaChecked
import GoSem.Claim
import GoSem.ClaimJoined
import GoSem.ClaimMapViews
import Derived.JoinedTies
import Derived.KernelRfl
namespace Go.Proofs.Ytodepfgfgphkbaa
/- THE CELL 'sum', in the pinned program and in every row, IS THE sha256 OF THE DUMP (.gsa) THAT YtodepfgfgphkbaaProg.lean LOADS. Nothing in Lean hashes anything: it is a label: what it is worth is what the hold of that sum in a sandbox is worth. -/
noncomputable def Try.pinned : Pinned := { name := "ytodepfgfgphkbaa", sum := "725ebb0299d11a7d0621780aef790cf15ade0a43a2acd8a0e1c1f392d142e729", checked := Try.checked }
namespace Rows
def none {H : Type} : Left H := { results := [], args := [] }

/-- 'pantilelaw11.AreaDoes': WHATEVER THE INPUT: true; the input reads as it did. -/
def areaDoesSpec : ChangeSpec := { name := "areaDoes", fn := fun _ => fun
  | [d] => { results := [.lit (.bool true)], args := [d] }
  | _ => none }
def areaDoesRow : OpenClaim := { program := "ytodepfgfgphkbaa", sum := "725ebb0299d11a7d0621780aef790cf15ade0a43a2acd8a0e1c1f392d142e729", func := "pantile/pantilelaw11.AreaDoes", spec := "areaDoes", unfollowed := true, recurses := true, apart := false }
def AreaDoesSaid : Prop := areaDoesRow.holds Try.pinned (OpenSpec.ofChange areaDoesSpec)

/-- ITS FALSE NEIGHBOUR: 'it returns false'. Refute it at one input. -/
def areaDoesWrong : ChangeSpec := { name := "areaDoes", fn := fun _ => fun
  | [d] => { results := [.lit (.bool false)], args := [d] }
  | _ => none }
def AreaDoesWrongFalsely : Prop := areaDoesRow.holds Try.pinned (OpenSpec.ofChange areaDoesWrong)

/-- 'pantilelaw11.AreaJoined': WHATEVER THE INPUT: true; the input reads as it did. -/
def areaJoinedSpec : ChangeSpec := { name := "areaJoined", fn := fun _ => fun
  | [d] => { results := [.lit (.bool true)], args := [d] }
  | _ => none }
def areaJoinedRow : OpenClaim := { program := "ytodepfgfgphkbaa", sum := "725ebb0299d11a7d0621780aef790cf15ade0a43a2acd8a0e1c1f392d142e729", func := "pantile/pantilelaw11.AreaJoined", spec := "areaJoined", unfollowed := true, recurses := true, apart := false }
def AreaJoinedSaid : Prop := areaJoinedRow.holds Try.pinned (OpenSpec.ofChange areaJoinedSpec)

/-- ITS FALSE NEIGHBOUR: 'it returns false'. Refute it at one input. -/
def areaJoinedWrong : ChangeSpec := { name := "areaJoined", fn := fun _ => fun
  | [d] => { results := [.lit (.bool false)], args := [d] }
  | _ => none }
def AreaJoinedWrongFalsely : Prop := areaJoinedRow.holds Try.pinned (OpenSpec.ofChange areaJoinedWrong)

/-- 'pantilelaw11.AreaApart': WHATEVER THE INPUT: true; the input reads as it did. -/
def areaApartSpec : ChangeSpec := { name := "areaApart", fn := fun _ => fun
  | [d1, d2, d3] => { results := [.lit (.bool true)], args := [d1, d2, d3] }
  | _ => none }
def areaApartRow : OpenClaim := { program := "ytodepfgfgphkbaa", sum := "725ebb0299d11a7d0621780aef790cf15ade0a43a2acd8a0e1c1f392d142e729", func := "pantile/pantilelaw11.AreaApart", spec := "areaApart", unfollowed := true, recurses := true, apart := false }
def AreaApartSaid : Prop := areaApartRow.holds Try.pinned (OpenSpec.ofChange areaApartSpec)

/-- ITS FALSE NEIGHBOUR: 'it returns false'. Refute it at one input. -/
def areaApartWrong : ChangeSpec := { name := "areaApart", fn := fun _ => fun
  | [d1, d2, d3] => { results := [.lit (.bool false)], args := [d1, d2, d3] }
  | _ => none }
def AreaApartWrongFalsely : Prop := areaApartRow.holds Try.pinned (OpenSpec.ofChange areaApartWrong)

/-- 'pantilelaw11.AreaMoves': WHATEVER THE INPUT: true; the input reads as it did. -/
def areaMovesSpec : ChangeSpec := { name := "areaMoves", fn := fun _ => fun
  | [d] => { results := [.lit (.bool true)], args := [d] }
  | _ => none }
def areaMovesRow : OpenClaim := { program := "ytodepfgfgphkbaa", sum := "725ebb0299d11a7d0621780aef790cf15ade0a43a2acd8a0e1c1f392d142e729", func := "pantile/pantilelaw11.AreaMoves", spec := "areaMoves", unfollowed := true, recurses := true, apart := false }
def AreaMovesSaid : Prop := areaMovesRow.holds Try.pinned (OpenSpec.ofChange areaMovesSpec)

/-- ITS FALSE NEIGHBOUR: 'it returns false'. Refute it at one input. -/
def areaMovesWrong : ChangeSpec := { name := "areaMoves", fn := fun _ => fun
  | [d] => { results := [.lit (.bool false)], args := [d] }
  | _ => none }
def AreaMovesWrongFalsely : Prop := areaMovesRow.holds Try.pinned (OpenSpec.ofChange areaMovesWrong)

/-- 'pantilelaw11.AreaMany': WHATEVER THE INPUT: true; the input reads as it did. -/
def areaManySpec : ChangeSpec := { name := "areaMany", fn := fun _ => fun
  | [d] => { results := [.lit (.bool true)], args := [d] }
  | _ => none }
def areaManyRow : OpenClaim := { program := "ytodepfgfgphkbaa", sum := "725ebb0299d11a7d0621780aef790cf15ade0a43a2acd8a0e1c1f392d142e729", func := "pantile/pantilelaw11.AreaMany", spec := "areaMany", unfollowed := true, recurses := true, apart := false }
def AreaManySaid : Prop := areaManyRow.holds Try.pinned (OpenSpec.ofChange areaManySpec)

/-- ITS FALSE NEIGHBOUR: 'it returns false'. Refute it at one input. -/
def areaManyWrong : ChangeSpec := { name := "areaMany", fn := fun _ => fun
  | [d] => { results := [.lit (.bool false)], args := [d] }
  | _ => none }
def AreaManyWrongFalsely : Prop := areaManyRow.holds Try.pinned (OpenSpec.ofChange areaManyWrong)

/- THE SECOND FORM. 'bulk': how many values and letters a reading holds, each counted each time it is reached (what is shared counts as often as it is met; a slice's spare places count too). A statement '..UptoSaid' is the law's where the arguments, and the package variables that the reading takes, are together of bulk at most 1048576: NARROWER than '..Said'. Prove '..Said' where nothing that the law and all that it calls make is longer than what came in: it says more and counts as full. Else prove '..UptoSaid'. A law counts once. -/
mutual
def uptoBulk {H : Type} : DataW H → Nat
  | .lit (.string bytes) => bytes.length + 1
  | .lit _ => 1
  | .nil => 1
  | .ptr d => uptoBulk d + 1
  | .slice elems spare => uptoBulkAll elems + uptoBulkAll spare + 1
  | .agg parts => uptoBulkAll parts + 1
  | .iface _ d => uptoBulk d + 1
  | .map entries => uptoBulkEntries entries + 1
  | .held _ => 1
def uptoBulkAll {H : Type} : List (DataW H) → Nat
  | [] => 0
  | d :: r => uptoBulk d + uptoBulkAll r
def uptoBulkEntries {H : Type} : List (Lit × DataW H) → Nat
  | [] => 0
  | x :: r => uptoBulkEntry x + uptoBulkEntries r
def uptoBulkEntry {H : Type} : Lit × DataW H → Nat
  | (.string bytes, d) => bytes.length + uptoBulk d + 1
  | (_, d) => uptoBulk d + 1
 end
def uptoSmall : (H : Type) → List (DataW H) → Bool := fun _ ds => decide (uptoBulkAll ds ≤ 1048576)
def OpenSpec.upto (s : _root_.Go.ChangeSpec) : _root_.Go.OpenSpec := { _root_.Go.OpenSpec.ofChange s with cond := some uptoSmall }

/-- 'pantilelaw11.AreaDoes', WHERE WHAT IT READS IS OF BULK AT MOST 1048576: true; the input reads as it did. -/
def areaDoesUptoRow : OpenClaim := { program := "ytodepfgfgphkbaa", sum := "725ebb0299d11a7d0621780aef790cf15ade0a43a2acd8a0e1c1f392d142e729", func := "pantile/pantilelaw11.AreaDoes", spec := "areaDoes", unfollowed := true, recurses := true, apart := false, narrowed := true }
def AreaDoesUptoSaid : Prop := areaDoesUptoRow.holds Try.pinned (OpenSpec.upto areaDoesSpec)

/-- 'pantilelaw11.AreaJoined', WHERE WHAT IT READS IS OF BULK AT MOST 1048576: true; the input reads as it did. -/
def areaJoinedUptoRow : OpenClaim := { program := "ytodepfgfgphkbaa", sum := "725ebb0299d11a7d0621780aef790cf15ade0a43a2acd8a0e1c1f392d142e729", func := "pantile/pantilelaw11.AreaJoined", spec := "areaJoined", unfollowed := true, recurses := true, apart := false, narrowed := true }
def AreaJoinedUptoSaid : Prop := areaJoinedUptoRow.holds Try.pinned (OpenSpec.upto areaJoinedSpec)

/-- 'pantilelaw11.AreaApart', WHERE WHAT IT READS IS OF BULK AT MOST 1048576: true; the input reads as it did. -/
def areaApartUptoRow : OpenClaim := { program := "ytodepfgfgphkbaa", sum := "725ebb0299d11a7d0621780aef790cf15ade0a43a2acd8a0e1c1f392d142e729", func := "pantile/pantilelaw11.AreaApart", spec := "areaApart", unfollowed := true, recurses := true, apart := false, narrowed := true }
def AreaApartUptoSaid : Prop := areaApartUptoRow.holds Try.pinned (OpenSpec.upto areaApartSpec)

/-- 'pantilelaw11.AreaMoves', WHERE WHAT IT READS IS OF BULK AT MOST 1048576: true; the input reads as it did. -/
def areaMovesUptoRow : OpenClaim := { program := "ytodepfgfgphkbaa", sum := "725ebb0299d11a7d0621780aef790cf15ade0a43a2acd8a0e1c1f392d142e729", func := "pantile/pantilelaw11.AreaMoves", spec := "areaMoves", unfollowed := true, recurses := true, apart := false, narrowed := true }
def AreaMovesUptoSaid : Prop := areaMovesUptoRow.holds Try.pinned (OpenSpec.upto areaMovesSpec)

/-- 'pantilelaw11.AreaMany', WHERE WHAT IT READS IS OF BULK AT MOST 1048576: true; the input reads as it did. -/
def areaManyUptoRow : OpenClaim := { program := "ytodepfgfgphkbaa", sum := "725ebb0299d11a7d0621780aef790cf15ade0a43a2acd8a0e1c1f392d142e729", func := "pantile/pantilelaw11.AreaMany", spec := "areaMany", unfollowed := true, recurses := true, apart := false, narrowed := true }
def AreaManyUptoSaid : Prop := areaManyUptoRow.holds Try.pinned (OpenSpec.upto areaManySpec)

end Rows
end Go.Proofs.Ytodepfgfgphkbaa
