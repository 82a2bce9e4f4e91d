/- The reference of spaces: zap, move. -/
import Derived.Test.YtnppnoabhpkmkaaMg39
namespace Go.Proofs.Ytnppnoabhpkmkaa
open Go.RowKit
section
variable {w w' : World} {B : Nat} {T : RfT} {F : Fl} {s s' : SpB} {S S' : Sp}
theorem mvE_apart {P : Int → Pg} {a n t : Int} (e : mvE P a n t = 0) : ¬ (t < a + n ∧ a < t + n) := by
  obtain ⟨e1, e2⟩ := mvE_ok e
  unfold mvE at e
  rw [if_neg (fun k => k e1), if_neg (fun k => k e2)] at e
  by_cases c : t < a + n ∧ a < t + n
  · rw [if_pos c] at e; cases e
  · exact c
end
end Go.Proofs.Ytnppnoabhpkmkaa
