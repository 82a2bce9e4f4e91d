/- The operation at a place of a list that is written out. -/
import Derived.Test.YtnlimecbbockoaaMg48
namespace Go.Proofs.Ytnlimecbbockoaa
def nthO : List Oper → Nat → Option Oper
  | [], _ => none
  | o :: _, 0 => some o
  | _ :: r, i + 1 => nthO r i
theorem nthO_eq : ∀ (l : List Oper) (i : Nat), nthO l i = l[i]?
  | [], _ => rfl
  | _ :: _, 0 => rfl
  | _ :: r, i + 1 => (nthO_eq r i).trans (by rw [List.getElem?_cons_succ])
theorem at_lit {l : List Oper} {i : Nat} {o : Oper} (h : nthO l i = some o) : l.toArray[i]? = some o := by
  rw [List.getElem?_toArray, ← nthO_eq]
  exact h
end Go.Proofs.Ytnlimecbbockoaa
