/-
  No cell of these rows narrows 'for every input' (looked for: loops, veiled, ifaces, maps, wideKeys, modest, calm, conditions, laid).
  DERIVED. THE GIVEN ROWS OF THIS SEAT. 6 by the template 'for every input the law returns true; each argument reads behind the call as it read before'; 0 by the template 'total and deterministic' (their statements: YtnppnoabhpkmkaaGreatTotals.lean).
  GIVEN WITH THE SEED: the statements are not yours to turn. If you find one false, say at which input.
  Laid BY PROGRAM, IN A SANDBOX (cutbox-rows.mjs): the forced cells as the released guide's own fill.sh prints them over the translation db3f714b7a9efdcb… (all of the seat's roots in one cut). By AI agents, Wed Nov 11 2026. No macro, syntax, notation, axiom, sorry.
-/
import Derived.Test.YtnppnoabhpkmkaaGreatChecked
import GoSem.Claim
import GoSem.ClaimJoined
import GoSem.ClaimMapViews
import Derived.JoinedTies
import Derived.KernelRfl
namespace Go.Proofs.YtnppnoabhpkmkaaGreat
/- THE CELL 'sum', in the pinned program and in every row, IS THE sha256 OF THE DUMP (.gsa) THAT YtnppnoabhpkmkaaGreatProg.lean LOADS. Nothing in Lean hashes anything: it is a label: what it is worth is what the hold of that sum in a sandbox is worth. -/
noncomputable def Tryz.pinned : Pinned := { name := "ytnppnoabhpkmkaagreat", sum := "db3f714b7a9efdcbec8e8b55c91e742971646e2189df34402a90e19a602bf688", checked := Tryz.checked }
namespace Rows
def none {H : Type} : Left H := { results := [], args := [] }

/-- 'pantilelaw13.FlatErrors': WHATEVER THE INPUT: true; the input reads as it did. -/
def flatErrorsSpec : ChangeSpec := { name := "flatErrors", fn := fun _ => fun
  | [d1, d2] => { results := [.lit (.bool true)], args := [d1, d2] }
  | _ => none }
def flatErrorsRow : OpenClaim := { program := "ytnppnoabhpkmkaagreat", sum := "db3f714b7a9efdcbec8e8b55c91e742971646e2189df34402a90e19a602bf688", func := "pantile/pantilelaw13.FlatErrors", spec := "flatErrors", inPlace := ["maps.clone"], unfollowed := true, recurses := true, apart := false }
def FlatErrorsSaid : Prop := flatErrorsRow.holds Tryz.pinned (OpenSpec.ofChange flatErrorsSpec)

/-- ITS FALSE NEIGHBOUR: 'it returns false'. Refute it at one input. -/
def flatErrorsWrong : ChangeSpec := { name := "flatErrors", fn := fun _ => fun
  | [d1, d2] => { results := [.lit (.bool false)], args := [d1, d2] }
  | _ => none }
def FlatErrorsWrongFalsely : Prop := flatErrorsRow.holds Tryz.pinned (OpenSpec.ofChange flatErrorsWrong)

/-- 'pantilelaw13.FlatStores': WHATEVER THE INPUT: true; the input reads as it did. -/
def flatStoresSpec : ChangeSpec := { name := "flatStores", fn := fun _ => fun
  | [d1, d2, d3] => { results := [.lit (.bool true)], args := [d1, d2, d3] }
  | _ => none }
def flatStoresRow : OpenClaim := { program := "ytnppnoabhpkmkaagreat", sum := "db3f714b7a9efdcbec8e8b55c91e742971646e2189df34402a90e19a602bf688", func := "pantile/pantilelaw13.FlatStores", spec := "flatStores", inPlace := ["maps.clone"], unfollowed := true, recurses := true, apart := false }
def FlatStoresSaid : Prop := flatStoresRow.holds Tryz.pinned (OpenSpec.ofChange flatStoresSpec)

/-- ITS FALSE NEIGHBOUR: 'it returns false'. Refute it at one input. -/
def flatStoresWrong : ChangeSpec := { name := "flatStores", fn := fun _ => fun
  | [d1, d2, d3] => { results := [.lit (.bool false)], args := [d1, d2, d3] }
  | _ => none }
def FlatStoresWrongFalsely : Prop := flatStoresRow.holds Tryz.pinned (OpenSpec.ofChange flatStoresWrong)

/-- 'pantilelaw13.FlatForks': WHATEVER THE INPUT: true; the input reads as it did. -/
def flatForksSpec : ChangeSpec := { name := "flatForks", fn := fun _ => fun
  | [d1, d2, d3] => { results := [.lit (.bool true)], args := [d1, d2, d3] }
  | _ => none }
def flatForksRow : OpenClaim := { program := "ytnppnoabhpkmkaagreat", sum := "db3f714b7a9efdcbec8e8b55c91e742971646e2189df34402a90e19a602bf688", func := "pantile/pantilelaw13.FlatForks", spec := "flatForks", inPlace := ["maps.clone"], unfollowed := true, recurses := true, apart := false }
def FlatForksSaid : Prop := flatForksRow.holds Tryz.pinned (OpenSpec.ofChange flatForksSpec)

/-- ITS FALSE NEIGHBOUR: 'it returns false'. Refute it at one input. -/
def flatForksWrong : ChangeSpec := { name := "flatForks", fn := fun _ => fun
  | [d1, d2, d3] => { results := [.lit (.bool false)], args := [d1, d2, d3] }
  | _ => none }
def FlatForksWrongFalsely : Prop := flatForksRow.holds Tryz.pinned (OpenSpec.ofChange flatForksWrong)

/-- 'pantilelaw13.FlatApart': WHATEVER THE INPUT: true; the input reads as it did. -/
def flatApartSpec : ChangeSpec := { name := "flatApart", fn := fun _ => fun
  | [d1, d2, d3] => { results := [.lit (.bool true)], args := [d1, d2, d3] }
  | _ => none }
def flatApartRow : OpenClaim := { program := "ytnppnoabhpkmkaagreat", sum := "db3f714b7a9efdcbec8e8b55c91e742971646e2189df34402a90e19a602bf688", func := "pantile/pantilelaw13.FlatApart", spec := "flatApart", inPlace := ["maps.clone"], unfollowed := true, recurses := true, apart := false }
def FlatApartSaid : Prop := flatApartRow.holds Tryz.pinned (OpenSpec.ofChange flatApartSpec)

/-- ITS FALSE NEIGHBOUR: 'it returns false'. Refute it at one input. -/
def flatApartWrong : ChangeSpec := { name := "flatApart", fn := fun _ => fun
  | [d1, d2, d3] => { results := [.lit (.bool false)], args := [d1, d2, d3] }
  | _ => none }
def FlatApartWrongFalsely : Prop := flatApartRow.holds Tryz.pinned (OpenSpec.ofChange flatApartWrong)

/-- 'pantilelaw13.FlatZaps': WHATEVER THE INPUT: true; the input reads as it did. -/
def flatZapsSpec : ChangeSpec := { name := "flatZaps", fn := fun _ => fun
  | [d1, d2] => { results := [.lit (.bool true)], args := [d1, d2] }
  | _ => none }
def flatZapsRow : OpenClaim := { program := "ytnppnoabhpkmkaagreat", sum := "db3f714b7a9efdcbec8e8b55c91e742971646e2189df34402a90e19a602bf688", func := "pantile/pantilelaw13.FlatZaps", spec := "flatZaps", inPlace := ["maps.clone"], unfollowed := true, recurses := true, apart := false }
def FlatZapsSaid : Prop := flatZapsRow.holds Tryz.pinned (OpenSpec.ofChange flatZapsSpec)

/-- ITS FALSE NEIGHBOUR: 'it returns false'. Refute it at one input. -/
def flatZapsWrong : ChangeSpec := { name := "flatZaps", fn := fun _ => fun
  | [d1, d2] => { results := [.lit (.bool false)], args := [d1, d2] }
  | _ => none }
def FlatZapsWrongFalsely : Prop := flatZapsRow.holds Tryz.pinned (OpenSpec.ofChange flatZapsWrong)

/-- 'pantilelaw13.FlatPlaces': WHATEVER THE INPUT: true; the input reads as it did. -/
def flatPlacesSpec : ChangeSpec := { name := "flatPlaces", fn := fun _ => fun
  | [d1, d2] => { results := [.lit (.bool true)], args := [d1, d2] }
  | _ => none }
def flatPlacesRow : OpenClaim := { program := "ytnppnoabhpkmkaagreat", sum := "db3f714b7a9efdcbec8e8b55c91e742971646e2189df34402a90e19a602bf688", func := "pantile/pantilelaw13.FlatPlaces", spec := "flatPlaces", inPlace := ["maps.clone"], unfollowed := true, recurses := true, apart := false }
def FlatPlacesSaid : Prop := flatPlacesRow.holds Tryz.pinned (OpenSpec.ofChange flatPlacesSpec)

/-- ITS FALSE NEIGHBOUR: 'it returns false'. Refute it at one input. -/
def flatPlacesWrong : ChangeSpec := { name := "flatPlaces", fn := fun _ => fun
  | [d1, d2] => { results := [.lit (.bool false)], args := [d1, d2] }
  | _ => none }
def FlatPlacesWrongFalsely : Prop := flatPlacesRow.holds Tryz.pinned (OpenSpec.ofChange flatPlacesWrong)

/- THE SECOND FORM. 'bulk': how many values and letters a reading holds, each counted each time it is reached (what is shared counts as often as it is met; a slice's spare places count too). A statement '..UptoSaid' is the law's where the arguments, and the package variables that the reading takes, are together of bulk at most 1048576: NARROWER than '..Said'. Prove '..Said' where nothing that the law and all that it calls make is longer than what came in: it says more and counts as full. Else prove '..UptoSaid'. A law counts once. -/
mutual
def uptoBulk {H : Type} : DataW H → Nat
  | .lit (.string bytes) => bytes.length + 1
  | .lit _ => 1
  | .nil => 1
  | .ptr d => uptoBulk d + 1
  | .slice elems spare => uptoBulkAll elems + uptoBulkAll spare + 1
  | .agg parts => uptoBulkAll parts + 1
  | .iface _ d => uptoBulk d + 1
  | .map entries => uptoBulkEntries entries + 1
  | .held _ => 1
def uptoBulkAll {H : Type} : List (DataW H) → Nat
  | [] => 0
  | d :: r => uptoBulk d + uptoBulkAll r
def uptoBulkEntries {H : Type} : List (Lit × DataW H) → Nat
  | [] => 0
  | x :: r => uptoBulkEntry x + uptoBulkEntries r
def uptoBulkEntry {H : Type} : Lit × DataW H → Nat
  | (.string bytes, d) => bytes.length + uptoBulk d + 1
  | (_, d) => uptoBulk d + 1
 end
def uptoSmall : (H : Type) → List (DataW H) → Bool := fun _ ds => decide (uptoBulkAll ds ≤ 1048576)
def OpenSpec.upto (s : _root_.Go.ChangeSpec) : _root_.Go.OpenSpec := { _root_.Go.OpenSpec.ofChange s with cond := some uptoSmall }

/-- 'pantilelaw13.FlatErrors', WHERE WHAT IT READS IS OF BULK AT MOST 1048576: true; the input reads as it did. -/
def flatErrorsUptoRow : OpenClaim := { program := "ytnppnoabhpkmkaagreat", sum := "db3f714b7a9efdcbec8e8b55c91e742971646e2189df34402a90e19a602bf688", func := "pantile/pantilelaw13.FlatErrors", spec := "flatErrors", inPlace := ["maps.clone"], unfollowed := true, recurses := true, apart := false, narrowed := true }
def FlatErrorsUptoSaid : Prop := flatErrorsUptoRow.holds Tryz.pinned (OpenSpec.upto flatErrorsSpec)

/-- 'pantilelaw13.FlatStores', WHERE WHAT IT READS IS OF BULK AT MOST 1048576: true; the input reads as it did. -/
def flatStoresUptoRow : OpenClaim := { program := "ytnppnoabhpkmkaagreat", sum := "db3f714b7a9efdcbec8e8b55c91e742971646e2189df34402a90e19a602bf688", func := "pantile/pantilelaw13.FlatStores", spec := "flatStores", inPlace := ["maps.clone"], unfollowed := true, recurses := true, apart := false, narrowed := true }
def FlatStoresUptoSaid : Prop := flatStoresUptoRow.holds Tryz.pinned (OpenSpec.upto flatStoresSpec)

/-- 'pantilelaw13.FlatForks', WHERE WHAT IT READS IS OF BULK AT MOST 1048576: true; the input reads as it did. -/
def flatForksUptoRow : OpenClaim := { program := "ytnppnoabhpkmkaagreat", sum := "db3f714b7a9efdcbec8e8b55c91e742971646e2189df34402a90e19a602bf688", func := "pantile/pantilelaw13.FlatForks", spec := "flatForks", inPlace := ["maps.clone"], unfollowed := true, recurses := true, apart := false, narrowed := true }
def FlatForksUptoSaid : Prop := flatForksUptoRow.holds Tryz.pinned (OpenSpec.upto flatForksSpec)

/-- 'pantilelaw13.FlatApart', WHERE WHAT IT READS IS OF BULK AT MOST 1048576: true; the input reads as it did. -/
def flatApartUptoRow : OpenClaim := { program := "ytnppnoabhpkmkaagreat", sum := "db3f714b7a9efdcbec8e8b55c91e742971646e2189df34402a90e19a602bf688", func := "pantile/pantilelaw13.FlatApart", spec := "flatApart", inPlace := ["maps.clone"], unfollowed := true, recurses := true, apart := false, narrowed := true }
def FlatApartUptoSaid : Prop := flatApartUptoRow.holds Tryz.pinned (OpenSpec.upto flatApartSpec)

/-- 'pantilelaw13.FlatZaps', WHERE WHAT IT READS IS OF BULK AT MOST 1048576: true; the input reads as it did. -/
def flatZapsUptoRow : OpenClaim := { program := "ytnppnoabhpkmkaagreat", sum := "db3f714b7a9efdcbec8e8b55c91e742971646e2189df34402a90e19a602bf688", func := "pantile/pantilelaw13.FlatZaps", spec := "flatZaps", inPlace := ["maps.clone"], unfollowed := true, recurses := true, apart := false, narrowed := true }
def FlatZapsUptoSaid : Prop := flatZapsUptoRow.holds Tryz.pinned (OpenSpec.upto flatZapsSpec)

/-- 'pantilelaw13.FlatPlaces', WHERE WHAT IT READS IS OF BULK AT MOST 1048576: true; the input reads as it did. -/
def flatPlacesUptoRow : OpenClaim := { program := "ytnppnoabhpkmkaagreat", sum := "db3f714b7a9efdcbec8e8b55c91e742971646e2189df34402a90e19a602bf688", func := "pantile/pantilelaw13.FlatPlaces", spec := "flatPlaces", inPlace := ["maps.clone"], unfollowed := true, recurses := true, apart := false, narrowed := true }
def FlatPlacesUptoSaid : Prop := flatPlacesUptoRow.holds Tryz.pinned (OpenSpec.upto flatPlacesSpec)

end Rows
end Go.Proofs.YtnppnoabhpkmkaaGreat
