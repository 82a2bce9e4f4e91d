/- The reference's Protect (gen/genV8.py). -/
import Derived.Test.YtnppnoabhpkmkaaMg30
namespace Go.Proofs.Ytnppnoabhpkmkaa
open Go.RowKit
section
variable {w w' : World} {B D xa xb : Nat} {v vb : Value} {P Q : Int → Pg}
theorem prP_zero (P : Int → Pg) (a p : Int) : prP P a 0 p = P := by
  funext i; unfold prP; rw [if_neg (by unfold inS; omega)]
theorem prP_succ (P : Int → Pg) (a p : Int) (j : Nat) (i : Int) : (if i = a + j then { prP P a j p (a + j) with p := p } else prP P a j p i) = prP P a ((j : Int) + 1) p i := by
  unfold prP
  by_cases e : i = a + j
  · rw [if_pos e, if_neg (by unfold inS; omega), if_pos (by unfold inS; omega), e]
  · rw [if_neg e]
    by_cases e2 : inS a j i
    · rw [if_pos e2, if_pos (by unfold inS at *; omega)]
    · rw [if_neg e2, if_neg (by unfold inS at *; omega)]
end
end Go.Proofs.Ytnppnoabhpkmkaa
