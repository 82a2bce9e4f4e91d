/-
  No cell of these rows narrows 'for every input' (looked for: loops, veiled, ifaces, maps, wideKeys, modest, calm, conditions, laid).
  DERIVED. THE GIVEN ROWS OF THIS SEAT. 6 by the template 'for every input the law returns true; each argument reads behind the call as it read before'; 0 by the template 'total and deterministic' (their statements: YtllepijlebbjbaaTotals.lean).
  GIVEN WITH THE SEED: the statements are not yours to turn. If you find one false, say at which input.
  Laid BY PROGRAM, IN A SANDBOX (cutbox-rows.mjs): the forced cells as the released guide's own fill.sh prints them over the translation 3c46c1e389686846… (all of the seat's roots in one cut). By AI agents, Wed Nov 11 2026. No macro, syntax, notation, axiom, sorry.
-/
import Derived.Test.YtllepijlebbjbaaChecked
import GoSem.Claim
import GoSem.ClaimJoined
import GoSem.ClaimMapViews
import Derived.JoinedTies
import Derived.KernelRfl
namespace Go.Proofs.Ytllepijlebbjbaa
/- THE CELL 'sum', in the pinned program and in every row, IS THE sha256 OF THE DUMP (.gsa) THAT YtllepijlebbjbaaProg.lean LOADS. Nothing in Lean hashes anything: it is a label: what it is worth is what the hold of that sum in a sandbox is worth. -/
noncomputable def Try.pinned : Pinned := { name := "ytllepijlebbjbaa", sum := "3c46c1e389686846bef1c275568b8e4e6cd3e2640d74135b61918f75f80e7d1e", checked := Try.checked }
namespace Rows
def none {H : Type} : Left H := { results := [], args := [] }

/-- 'pantilelaw15.PoolDoes': WHATEVER THE INPUT: true; the input reads as it did. -/
def poolDoesSpec : ChangeSpec := { name := "poolDoes", fn := fun _ => fun
  | [d1, d2, d3] => { results := [.lit (.bool true)], args := [d1, d2, d3] }
  | _ => none }
def poolDoesRow : OpenClaim := { program := "ytllepijlebbjbaa", sum := "3c46c1e389686846bef1c275568b8e4e6cd3e2640d74135b61918f75f80e7d1e", func := "pantile/pantilelaw15.PoolDoes", spec := "poolDoes", inPlace := ["slices.overlaps[int]"], unfollowed := true, recurses := true, apart := false }
def PoolDoesSaid : Prop := poolDoesRow.holds Try.pinned (OpenSpec.ofChange poolDoesSpec)

/-- ITS FALSE NEIGHBOUR: 'it returns false'. Refute it at one input. -/
def poolDoesWrong : ChangeSpec := { name := "poolDoes", fn := fun _ => fun
  | [d1, d2, d3] => { results := [.lit (.bool false)], args := [d1, d2, d3] }
  | _ => none }
def PoolDoesWrongFalsely : Prop := poolDoesRow.holds Try.pinned (OpenSpec.ofChange poolDoesWrong)

/-- 'pantilelaw15.PoolKept': WHATEVER THE INPUT: true; the input reads as it did. -/
def poolKeptSpec : ChangeSpec := { name := "poolKept", fn := fun _ => fun
  | [d1, d2] => { results := [.lit (.bool true)], args := [d1, d2] }
  | _ => none }
def poolKeptRow : OpenClaim := { program := "ytllepijlebbjbaa", sum := "3c46c1e389686846bef1c275568b8e4e6cd3e2640d74135b61918f75f80e7d1e", func := "pantile/pantilelaw15.PoolKept", spec := "poolKept", inPlace := ["slices.overlaps[int]"], unfollowed := true, recurses := true, apart := false }
def PoolKeptSaid : Prop := poolKeptRow.holds Try.pinned (OpenSpec.ofChange poolKeptSpec)

/-- ITS FALSE NEIGHBOUR: 'it returns false'. Refute it at one input. -/
def poolKeptWrong : ChangeSpec := { name := "poolKept", fn := fun _ => fun
  | [d1, d2] => { results := [.lit (.bool false)], args := [d1, d2] }
  | _ => none }
def PoolKeptWrongFalsely : Prop := poolKeptRow.holds Try.pinned (OpenSpec.ofChange poolKeptWrong)

/-- 'pantilelaw15.PoolSums': WHATEVER THE INPUT: true; the input reads as it did. -/
def poolSumsSpec : ChangeSpec := { name := "poolSums", fn := fun _ => fun
  | [d] => { results := [.lit (.bool true)], args := [d] }
  | _ => none }
def poolSumsRow : OpenClaim := { program := "ytllepijlebbjbaa", sum := "3c46c1e389686846bef1c275568b8e4e6cd3e2640d74135b61918f75f80e7d1e", func := "pantile/pantilelaw15.PoolSums", spec := "poolSums", inPlace := ["slices.overlaps[int]"], unfollowed := true, recurses := true, apart := false }
def PoolSumsSaid : Prop := poolSumsRow.holds Try.pinned (OpenSpec.ofChange poolSumsSpec)

/-- ITS FALSE NEIGHBOUR: 'it returns false'. Refute it at one input. -/
def poolSumsWrong : ChangeSpec := { name := "poolSums", fn := fun _ => fun
  | [d] => { results := [.lit (.bool false)], args := [d] }
  | _ => none }
def PoolSumsWrongFalsely : Prop := poolSumsRow.holds Try.pinned (OpenSpec.ofChange poolSumsWrong)

/-- 'pantilelaw15.PoolShrinks': WHATEVER THE INPUT: true; the input reads as it did. -/
def poolShrinksSpec : ChangeSpec := { name := "poolShrinks", fn := fun _ => fun
  | [d] => { results := [.lit (.bool true)], args := [d] }
  | _ => none }
def poolShrinksRow : OpenClaim := { program := "ytllepijlebbjbaa", sum := "3c46c1e389686846bef1c275568b8e4e6cd3e2640d74135b61918f75f80e7d1e", func := "pantile/pantilelaw15.PoolShrinks", spec := "poolShrinks", inPlace := ["slices.overlaps[int]"], unfollowed := true, recurses := true, apart := false }
def PoolShrinksSaid : Prop := poolShrinksRow.holds Try.pinned (OpenSpec.ofChange poolShrinksSpec)

/-- ITS FALSE NEIGHBOUR: 'it returns false'. Refute it at one input. -/
def poolShrinksWrong : ChangeSpec := { name := "poolShrinks", fn := fun _ => fun
  | [d] => { results := [.lit (.bool false)], args := [d] }
  | _ => none }
def PoolShrinksWrongFalsely : Prop := poolShrinksRow.holds Try.pinned (OpenSpec.ofChange poolShrinksWrong)

/-- 'pantilelaw15.PoolNone': WHATEVER THE INPUT: true; the input reads as it did. -/
def poolNoneSpec : ChangeSpec := { name := "poolNone", fn := fun _ => fun
  | [d] => { results := [.lit (.bool true)], args := [d] }
  | _ => none }
def poolNoneRow : OpenClaim := { program := "ytllepijlebbjbaa", sum := "3c46c1e389686846bef1c275568b8e4e6cd3e2640d74135b61918f75f80e7d1e", func := "pantile/pantilelaw15.PoolNone", spec := "poolNone", inPlace := ["slices.overlaps[int]"], unfollowed := true, recurses := true, apart := false }
def PoolNoneSaid : Prop := poolNoneRow.holds Try.pinned (OpenSpec.ofChange poolNoneSpec)

/-- ITS FALSE NEIGHBOUR: 'it returns false'. Refute it at one input. -/
def poolNoneWrong : ChangeSpec := { name := "poolNone", fn := fun _ => fun
  | [d] => { results := [.lit (.bool false)], args := [d] }
  | _ => none }
def PoolNoneWrongFalsely : Prop := poolNoneRow.holds Try.pinned (OpenSpec.ofChange poolNoneWrong)

/-- 'pantilelaw15.PoolEnds': WHATEVER THE INPUT: true; the input reads as it did. -/
def poolEndsSpec : ChangeSpec := { name := "poolEnds", fn := fun _ => fun
  | [d1, d2] => { results := [.lit (.bool true)], args := [d1, d2] }
  | _ => none }
def poolEndsRow : OpenClaim := { program := "ytllepijlebbjbaa", sum := "3c46c1e389686846bef1c275568b8e4e6cd3e2640d74135b61918f75f80e7d1e", func := "pantile/pantilelaw15.PoolEnds", spec := "poolEnds", inPlace := ["slices.overlaps[int]"], unfollowed := true, recurses := true, apart := false }
def PoolEndsSaid : Prop := poolEndsRow.holds Try.pinned (OpenSpec.ofChange poolEndsSpec)

/-- ITS FALSE NEIGHBOUR: 'it returns false'. Refute it at one input. -/
def poolEndsWrong : ChangeSpec := { name := "poolEnds", fn := fun _ => fun
  | [d1, d2] => { results := [.lit (.bool false)], args := [d1, d2] }
  | _ => none }
def PoolEndsWrongFalsely : Prop := poolEndsRow.holds Try.pinned (OpenSpec.ofChange poolEndsWrong)

/- THE SECOND FORM. 'bulk': how many values and letters a reading holds, each counted each time it is reached (what is shared counts as often as it is met; a slice's spare places count too). A statement '..UptoSaid' is the law's where the arguments, and the package variables that the reading takes, are together of bulk at most 1048576: NARROWER than '..Said'. Prove '..Said' where nothing that the law and all that it calls make is longer than what came in: it says more and counts as full. Else prove '..UptoSaid'. A law counts once. -/
mutual
def uptoBulk {H : Type} : DataW H → Nat
  | .lit (.string bytes) => bytes.length + 1
  | .lit _ => 1
  | .nil => 1
  | .ptr d => uptoBulk d + 1
  | .slice elems spare => uptoBulkAll elems + uptoBulkAll spare + 1
  | .agg parts => uptoBulkAll parts + 1
  | .iface _ d => uptoBulk d + 1
  | .map entries => uptoBulkEntries entries + 1
  | .held _ => 1
def uptoBulkAll {H : Type} : List (DataW H) → Nat
  | [] => 0
  | d :: r => uptoBulk d + uptoBulkAll r
def uptoBulkEntries {H : Type} : List (Lit × DataW H) → Nat
  | [] => 0
  | x :: r => uptoBulkEntry x + uptoBulkEntries r
def uptoBulkEntry {H : Type} : Lit × DataW H → Nat
  | (.string bytes, d) => bytes.length + uptoBulk d + 1
  | (_, d) => uptoBulk d + 1
 end
def uptoSmall : (H : Type) → List (DataW H) → Bool := fun _ ds => decide (uptoBulkAll ds ≤ 1048576)
def OpenSpec.upto (s : _root_.Go.ChangeSpec) : _root_.Go.OpenSpec := { _root_.Go.OpenSpec.ofChange s with cond := some uptoSmall }

/-- 'pantilelaw15.PoolDoes', WHERE WHAT IT READS IS OF BULK AT MOST 1048576: true; the input reads as it did. -/
def poolDoesUptoRow : OpenClaim := { program := "ytllepijlebbjbaa", sum := "3c46c1e389686846bef1c275568b8e4e6cd3e2640d74135b61918f75f80e7d1e", func := "pantile/pantilelaw15.PoolDoes", spec := "poolDoes", inPlace := ["slices.overlaps[int]"], unfollowed := true, recurses := true, apart := false, narrowed := true }
def PoolDoesUptoSaid : Prop := poolDoesUptoRow.holds Try.pinned (OpenSpec.upto poolDoesSpec)

/-- 'pantilelaw15.PoolKept', WHERE WHAT IT READS IS OF BULK AT MOST 1048576: true; the input reads as it did. -/
def poolKeptUptoRow : OpenClaim := { program := "ytllepijlebbjbaa", sum := "3c46c1e389686846bef1c275568b8e4e6cd3e2640d74135b61918f75f80e7d1e", func := "pantile/pantilelaw15.PoolKept", spec := "poolKept", inPlace := ["slices.overlaps[int]"], unfollowed := true, recurses := true, apart := false, narrowed := true }
def PoolKeptUptoSaid : Prop := poolKeptUptoRow.holds Try.pinned (OpenSpec.upto poolKeptSpec)

/-- 'pantilelaw15.PoolSums', WHERE WHAT IT READS IS OF BULK AT MOST 1048576: true; the input reads as it did. -/
def poolSumsUptoRow : OpenClaim := { program := "ytllepijlebbjbaa", sum := "3c46c1e389686846bef1c275568b8e4e6cd3e2640d74135b61918f75f80e7d1e", func := "pantile/pantilelaw15.PoolSums", spec := "poolSums", inPlace := ["slices.overlaps[int]"], unfollowed := true, recurses := true, apart := false, narrowed := true }
def PoolSumsUptoSaid : Prop := poolSumsUptoRow.holds Try.pinned (OpenSpec.upto poolSumsSpec)

/-- 'pantilelaw15.PoolShrinks', WHERE WHAT IT READS IS OF BULK AT MOST 1048576: true; the input reads as it did. -/
def poolShrinksUptoRow : OpenClaim := { program := "ytllepijlebbjbaa", sum := "3c46c1e389686846bef1c275568b8e4e6cd3e2640d74135b61918f75f80e7d1e", func := "pantile/pantilelaw15.PoolShrinks", spec := "poolShrinks", inPlace := ["slices.overlaps[int]"], unfollowed := true, recurses := true, apart := false, narrowed := true }
def PoolShrinksUptoSaid : Prop := poolShrinksUptoRow.holds Try.pinned (OpenSpec.upto poolShrinksSpec)

/-- 'pantilelaw15.PoolNone', WHERE WHAT IT READS IS OF BULK AT MOST 1048576: true; the input reads as it did. -/
def poolNoneUptoRow : OpenClaim := { program := "ytllepijlebbjbaa", sum := "3c46c1e389686846bef1c275568b8e4e6cd3e2640d74135b61918f75f80e7d1e", func := "pantile/pantilelaw15.PoolNone", spec := "poolNone", inPlace := ["slices.overlaps[int]"], unfollowed := true, recurses := true, apart := false, narrowed := true }
def PoolNoneUptoSaid : Prop := poolNoneUptoRow.holds Try.pinned (OpenSpec.upto poolNoneSpec)

/-- 'pantilelaw15.PoolEnds', WHERE WHAT IT READS IS OF BULK AT MOST 1048576: true; the input reads as it did. -/
def poolEndsUptoRow : OpenClaim := { program := "ytllepijlebbjbaa", sum := "3c46c1e389686846bef1c275568b8e4e6cd3e2640d74135b61918f75f80e7d1e", func := "pantile/pantilelaw15.PoolEnds", spec := "poolEnds", inPlace := ["slices.overlaps[int]"], unfollowed := true, recurses := true, apart := false, narrowed := true }
def PoolEndsUptoSaid : Prop := poolEndsUptoRow.holds Try.pinned (OpenSpec.upto poolEndsSpec)

end Rows
end Go.Proofs.Ytllepijlebbjbaa
