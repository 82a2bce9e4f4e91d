/- The reference of spaces: none, New, Is; a space more. -/
import Derived.Test.YtnppnoabhpkmkaaMg25
namespace Go.Proofs.Ytnppnoabhpkmkaa
open Go.RowKit
section
variable {w w' W : World} {B : Nat} {T : RfT} {F : Fl} {s : SpB} {S : Sp}
theorem isS_nat {i : Nat} (hi : i < F.L.length) : isS F i = !(sp F i).g := by
  unfold isS sp
  rw [decide_eq_true (show (0 : Int) ≤ i by omega), decide_eq_true (show (i : Int) < F.L.length by omega)]; rfl
theorem isS_out {i : Int} (h : ¬ (0 ≤ i ∧ i < F.L.length)) : isS F i = false := by
  unfold isS
  by_cases c : 0 ≤ i
  · rw [decide_eq_false (fun e => h ⟨c, e⟩), Bool.and_false]; rfl
  · rw [decide_eq_false c]; rfl
end
end Go.Proofs.Ytnppnoabhpkmkaa
/- The reference of spaces: clear, Room. -/
namespace Go.Proofs.Ytnppnoabhpkmkaa
open Go.RowKit
section
variable {w w' : World} {B : Nat} {T : RfT} {F : Fl} {s : SpB} {S : Sp}
end
end Go.Proofs.Ytnppnoabhpkmkaa
