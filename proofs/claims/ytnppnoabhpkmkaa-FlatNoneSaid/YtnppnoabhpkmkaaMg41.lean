/- The reference of areas: Copy. -/
import Derived.Test.YtnppnoabhpkmkaaMg40
namespace Go.Proofs.Ytnppnoabhpkmkaa
open Go.RowKit
def cpX (P : Int → Pg) (x : Nat) : Int → Pg := fun k => if k < x then cpP P k else P k
theorem cpX_succ (P : Int → Pg) (x : Nat) (y : Pg) (hy : y = cpP P x) (i : Int) : (if i = x then y else cpX P x i) = cpX P (x + 1) i := by
  unfold cpX
  by_cases e : i = x
  · subst e; rw [if_pos rfl, if_pos (by omega), hy]
  · rw [if_neg e]
    by_cases c : i < x
    · rw [if_pos c, if_pos (by omega)]
    · rw [if_neg c, if_neg (by omega)]
theorem cpX_same (P : Int → Pg) (x : Nat) (hy : P x = cpP P x) (i : Int) : cpX P x i = cpX P (x + 1) i := by
  rw [← cpX_succ P x (P x) hy i]
  by_cases e : i = x
  · subst e; rw [if_pos rfl]; unfold cpX; rw [if_neg (by omega)]
  · rw [if_neg e]
theorem cpP_ps {P : Int → Pg} (h : PsOk P) : PsOk (cpP P) := by
  refine ⟨fun i => ?_, fun i hi => ?_, fun i => ?_⟩
  · rcases cpP_or P i with e | e <;> rw [e]
    · exact h.ok i
    · exact zP_ok
  · rcases cpP_or P i with e | e <;> rw [e]
    exact h.far i hi
  · rcases cpP_or P i with e | e <;> rw [e]
    · exact h.sm i
    · exact ⟨by show (0 : Int) ≤ 0; omega, by show (0 : Int) ≤ 4096; omega⟩
section
variable {w w' : World} {B D xa xb : Nat} {v vb : Value} {P Q : Int → Pg}
end
end Go.Proofs.Ytnppnoabhpkmkaa
