/-
  No cell of these rows narrows 'for every input' (looked for: loops, veiled, ifaces, maps, wideKeys, modest, calm, conditions, laid).
  DERIVED. THE GIVEN ROWS OF THIS SEAT. 6 by the template 'for every input the law returns true; each argument reads behind the call as it read before'; 0 by the template 'total and deterministic' (their statements: YtbnnfgdlkldafaaTotals.lean).
  GIVEN WITH THE SEED: the statements are not yours to turn. If you find one false, say at which input.
  Laid BY PROGRAM, IN A SANDBOX (cutbox-rows.mjs): the forced cells as the released guide's own fill.sh prints them over the translation d02158bc5597a2b1… (all of the seat's roots in one cut). By AI agents, Wed Nov 11 2026. No macro, syntax, notation, axiom, sorry.
-/
import Derived.Test.YtbnnfgdlkldafaaChecked
import GoSem.Claim
import GoSem.ClaimJoined
import GoSem.ClaimMapViews
import Derived.JoinedTies
import Derived.KernelRfl
namespace Go.Proofs.Ytbnnfgdlkldafaa
/- THE CELL 'sum', in the pinned program and in every row, IS THE sha256 OF THE DUMP (.gsa) THAT YtbnnfgdlkldafaaProg.lean LOADS. Nothing in Lean hashes anything: it is a label: what it is worth is what the hold of that sum in a sandbox is worth. -/
noncomputable def Try.pinned : Pinned := { name := "ytbnnfgdlkldafaa", sum := "d02158bc5597a2b1e3a456c133c759e8c77ab10abbc47eb5a9eb1824565e784d", checked := Try.checked }
namespace Rows
def none {H : Type} : Left H := { results := [], args := [] }

/-- 'pantilelaw09.TLBDoes': WHATEVER THE INPUT: true; the input reads as it did. -/
def tLBDoesSpec : ChangeSpec := { name := "tLBDoes", fn := fun _ => fun
  | [d] => { results := [.lit (.bool true)], args := [d] }
  | _ => none }
def tLBDoesRow : OpenClaim := { program := "ytbnnfgdlkldafaa", sum := "d02158bc5597a2b1e3a456c133c759e8c77ab10abbc47eb5a9eb1824565e784d", func := "pantile/pantilelaw09.TLBDoes", spec := "tLBDoes", unfollowed := true, recurses := true, apart := false }
def TLBDoesSaid : Prop := tLBDoesRow.holds Try.pinned (OpenSpec.ofChange tLBDoesSpec)

/-- ITS FALSE NEIGHBOUR: 'it returns false'. Refute it at one input. -/
def tLBDoesWrong : ChangeSpec := { name := "tLBDoes", fn := fun _ => fun
  | [d] => { results := [.lit (.bool false)], args := [d] }
  | _ => none }
def TLBDoesWrongFalsely : Prop := tLBDoesRow.holds Try.pinned (OpenSpec.ofChange tLBDoesWrong)

/-- 'pantilelaw09.TLBOne': WHATEVER THE INPUT: true; the input reads as it did. -/
def tLBOneSpec : ChangeSpec := { name := "tLBOne", fn := fun _ => fun
  | [d1, d2] => { results := [.lit (.bool true)], args := [d1, d2] }
  | _ => none }
def tLBOneRow : OpenClaim := { program := "ytbnnfgdlkldafaa", sum := "d02158bc5597a2b1e3a456c133c759e8c77ab10abbc47eb5a9eb1824565e784d", func := "pantile/pantilelaw09.TLBOne", spec := "tLBOne", unfollowed := true, recurses := true, apart := false }
def TLBOneSaid : Prop := tLBOneRow.holds Try.pinned (OpenSpec.ofChange tLBOneSpec)

/-- ITS FALSE NEIGHBOUR: 'it returns false'. Refute it at one input. -/
def tLBOneWrong : ChangeSpec := { name := "tLBOne", fn := fun _ => fun
  | [d1, d2] => { results := [.lit (.bool false)], args := [d1, d2] }
  | _ => none }
def TLBOneWrongFalsely : Prop := tLBOneRow.holds Try.pinned (OpenSpec.ofChange tLBOneWrong)

/-- 'pantilelaw09.TLBFlushes': WHATEVER THE INPUT: true; the input reads as it did. -/
def tLBFlushesSpec : ChangeSpec := { name := "tLBFlushes", fn := fun _ => fun
  | [d1, d2, d3] => { results := [.lit (.bool true)], args := [d1, d2, d3] }
  | _ => none }
def tLBFlushesRow : OpenClaim := { program := "ytbnnfgdlkldafaa", sum := "d02158bc5597a2b1e3a456c133c759e8c77ab10abbc47eb5a9eb1824565e784d", func := "pantile/pantilelaw09.TLBFlushes", spec := "tLBFlushes", unfollowed := true, recurses := true, apart := false }
def TLBFlushesSaid : Prop := tLBFlushesRow.holds Try.pinned (OpenSpec.ofChange tLBFlushesSpec)

/-- ITS FALSE NEIGHBOUR: 'it returns false'. Refute it at one input. -/
def tLBFlushesWrong : ChangeSpec := { name := "tLBFlushes", fn := fun _ => fun
  | [d1, d2, d3] => { results := [.lit (.bool false)], args := [d1, d2, d3] }
  | _ => none }
def TLBFlushesWrongFalsely : Prop := tLBFlushesRow.holds Try.pinned (OpenSpec.ofChange tLBFlushesWrong)

/-- 'pantilelaw09.TLBLast': WHATEVER THE INPUT: true; the input reads as it did. -/
def tLBLastSpec : ChangeSpec := { name := "tLBLast", fn := fun _ => fun
  | [d1, d2, d3] => { results := [.lit (.bool true)], args := [d1, d2, d3] }
  | _ => none }
def tLBLastRow : OpenClaim := { program := "ytbnnfgdlkldafaa", sum := "d02158bc5597a2b1e3a456c133c759e8c77ab10abbc47eb5a9eb1824565e784d", func := "pantile/pantilelaw09.TLBLast", spec := "tLBLast", unfollowed := true, recurses := true, apart := false }
def TLBLastSaid : Prop := tLBLastRow.holds Try.pinned (OpenSpec.ofChange tLBLastSpec)

/-- ITS FALSE NEIGHBOUR: 'it returns false'. Refute it at one input. -/
def tLBLastWrong : ChangeSpec := { name := "tLBLast", fn := fun _ => fun
  | [d1, d2, d3] => { results := [.lit (.bool false)], args := [d1, d2, d3] }
  | _ => none }
def TLBLastWrongFalsely : Prop := tLBLastRow.holds Try.pinned (OpenSpec.ofChange tLBLastWrong)

/-- 'pantilelaw09.TLBNone': WHATEVER THE INPUT: true; the input reads as it did. -/
def tLBNoneSpec : ChangeSpec := { name := "tLBNone", fn := fun _ => fun
  | [d] => { results := [.lit (.bool true)], args := [d] }
  | _ => none }
def tLBNoneRow : OpenClaim := { program := "ytbnnfgdlkldafaa", sum := "d02158bc5597a2b1e3a456c133c759e8c77ab10abbc47eb5a9eb1824565e784d", func := "pantile/pantilelaw09.TLBNone", spec := "tLBNone", unfollowed := true, recurses := true, apart := false }
def TLBNoneSaid : Prop := tLBNoneRow.holds Try.pinned (OpenSpec.ofChange tLBNoneSpec)

/-- ITS FALSE NEIGHBOUR: 'it returns false'. Refute it at one input. -/
def tLBNoneWrong : ChangeSpec := { name := "tLBNone", fn := fun _ => fun
  | [d] => { results := [.lit (.bool false)], args := [d] }
  | _ => none }
def TLBNoneWrongFalsely : Prop := tLBNoneRow.holds Try.pinned (OpenSpec.ofChange tLBNoneWrong)

/-- 'pantilelaw09.TLBHolds': WHATEVER THE INPUT: true; the input reads as it did. -/
def tLBHoldsSpec : ChangeSpec := { name := "tLBHolds", fn := fun _ => fun
  | [d] => { results := [.lit (.bool true)], args := [d] }
  | _ => none }
def tLBHoldsRow : OpenClaim := { program := "ytbnnfgdlkldafaa", sum := "d02158bc5597a2b1e3a456c133c759e8c77ab10abbc47eb5a9eb1824565e784d", func := "pantile/pantilelaw09.TLBHolds", spec := "tLBHolds", unfollowed := true, recurses := true, apart := false }
def TLBHoldsSaid : Prop := tLBHoldsRow.holds Try.pinned (OpenSpec.ofChange tLBHoldsSpec)

/-- ITS FALSE NEIGHBOUR: 'it returns false'. Refute it at one input. -/
def tLBHoldsWrong : ChangeSpec := { name := "tLBHolds", fn := fun _ => fun
  | [d] => { results := [.lit (.bool false)], args := [d] }
  | _ => none }
def TLBHoldsWrongFalsely : Prop := tLBHoldsRow.holds Try.pinned (OpenSpec.ofChange tLBHoldsWrong)

/- THE SECOND FORM. 'bulk': how many values and letters a reading holds, each counted each time it is reached (what is shared counts as often as it is met; a slice's spare places count too). A statement '..UptoSaid' is the law's where the arguments, and the package variables that the reading takes, are together of bulk at most 1048576: NARROWER than '..Said'. Prove '..Said' where nothing that the law and all that it calls make is longer than what came in: it says more and counts as full. Else prove '..UptoSaid'. A law counts once. -/
mutual
def uptoBulk {H : Type} : DataW H → Nat
  | .lit (.string bytes) => bytes.length + 1
  | .lit _ => 1
  | .nil => 1
  | .ptr d => uptoBulk d + 1
  | .slice elems spare => uptoBulkAll elems + uptoBulkAll spare + 1
  | .agg parts => uptoBulkAll parts + 1
  | .iface _ d => uptoBulk d + 1
  | .map entries => uptoBulkEntries entries + 1
  | .held _ => 1
def uptoBulkAll {H : Type} : List (DataW H) → Nat
  | [] => 0
  | d :: r => uptoBulk d + uptoBulkAll r
def uptoBulkEntries {H : Type} : List (Lit × DataW H) → Nat
  | [] => 0
  | x :: r => uptoBulkEntry x + uptoBulkEntries r
def uptoBulkEntry {H : Type} : Lit × DataW H → Nat
  | (.string bytes, d) => bytes.length + uptoBulk d + 1
  | (_, d) => uptoBulk d + 1
 end
def uptoSmall : (H : Type) → List (DataW H) → Bool := fun _ ds => decide (uptoBulkAll ds ≤ 1048576)
def OpenSpec.upto (s : _root_.Go.ChangeSpec) : _root_.Go.OpenSpec := { _root_.Go.OpenSpec.ofChange s with cond := some uptoSmall }

/-- 'pantilelaw09.TLBDoes', WHERE WHAT IT READS IS OF BULK AT MOST 1048576: true; the input reads as it did. -/
def tLBDoesUptoRow : OpenClaim := { program := "ytbnnfgdlkldafaa", sum := "d02158bc5597a2b1e3a456c133c759e8c77ab10abbc47eb5a9eb1824565e784d", func := "pantile/pantilelaw09.TLBDoes", spec := "tLBDoes", unfollowed := true, recurses := true, apart := false, narrowed := true }
def TLBDoesUptoSaid : Prop := tLBDoesUptoRow.holds Try.pinned (OpenSpec.upto tLBDoesSpec)

/-- 'pantilelaw09.TLBOne', WHERE WHAT IT READS IS OF BULK AT MOST 1048576: true; the input reads as it did. -/
def tLBOneUptoRow : OpenClaim := { program := "ytbnnfgdlkldafaa", sum := "d02158bc5597a2b1e3a456c133c759e8c77ab10abbc47eb5a9eb1824565e784d", func := "pantile/pantilelaw09.TLBOne", spec := "tLBOne", unfollowed := true, recurses := true, apart := false, narrowed := true }
def TLBOneUptoSaid : Prop := tLBOneUptoRow.holds Try.pinned (OpenSpec.upto tLBOneSpec)

/-- 'pantilelaw09.TLBFlushes', WHERE WHAT IT READS IS OF BULK AT MOST 1048576: true; the input reads as it did. -/
def tLBFlushesUptoRow : OpenClaim := { program := "ytbnnfgdlkldafaa", sum := "d02158bc5597a2b1e3a456c133c759e8c77ab10abbc47eb5a9eb1824565e784d", func := "pantile/pantilelaw09.TLBFlushes", spec := "tLBFlushes", unfollowed := true, recurses := true, apart := false, narrowed := true }
def TLBFlushesUptoSaid : Prop := tLBFlushesUptoRow.holds Try.pinned (OpenSpec.upto tLBFlushesSpec)

/-- 'pantilelaw09.TLBLast', WHERE WHAT IT READS IS OF BULK AT MOST 1048576: true; the input reads as it did. -/
def tLBLastUptoRow : OpenClaim := { program := "ytbnnfgdlkldafaa", sum := "d02158bc5597a2b1e3a456c133c759e8c77ab10abbc47eb5a9eb1824565e784d", func := "pantile/pantilelaw09.TLBLast", spec := "tLBLast", unfollowed := true, recurses := true, apart := false, narrowed := true }
def TLBLastUptoSaid : Prop := tLBLastUptoRow.holds Try.pinned (OpenSpec.upto tLBLastSpec)

/-- 'pantilelaw09.TLBNone', WHERE WHAT IT READS IS OF BULK AT MOST 1048576: true; the input reads as it did. -/
def tLBNoneUptoRow : OpenClaim := { program := "ytbnnfgdlkldafaa", sum := "d02158bc5597a2b1e3a456c133c759e8c77ab10abbc47eb5a9eb1824565e784d", func := "pantile/pantilelaw09.TLBNone", spec := "tLBNone", unfollowed := true, recurses := true, apart := false, narrowed := true }
def TLBNoneUptoSaid : Prop := tLBNoneUptoRow.holds Try.pinned (OpenSpec.upto tLBNoneSpec)

/-- 'pantilelaw09.TLBHolds', WHERE WHAT IT READS IS OF BULK AT MOST 1048576: true; the input reads as it did. -/
def tLBHoldsUptoRow : OpenClaim := { program := "ytbnnfgdlkldafaa", sum := "d02158bc5597a2b1e3a456c133c759e8c77ab10abbc47eb5a9eb1824565e784d", func := "pantile/pantilelaw09.TLBHolds", spec := "tLBHolds", unfollowed := true, recurses := true, apart := false, narrowed := true }
def TLBHoldsUptoSaid : Prop := tLBHoldsUptoRow.holds Try.pinned (OpenSpec.upto tLBHoldsSpec)

end Rows
end Go.Proofs.Ytbnnfgdlkldafaa
