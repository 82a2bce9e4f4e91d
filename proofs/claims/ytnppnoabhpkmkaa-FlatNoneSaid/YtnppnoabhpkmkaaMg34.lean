/- The reference's Move, its good ways (gen/genW1.py). -/
import Derived.Test.YtnppnoabhpkmkaaMg33
import Derived.StillTailTactics
namespace Go.Proofs.Ytnppnoabhpkmkaa
open Go.RowKit
section
variable {w w' : World} {B D xa xb : Nat} {v vb : Value} {P Q : Int → Pg}
theorem mvP_zero (P : Int → Pg) (a t : Int) : mvP P a 0 t = P := by
  funext i; unfold mvP
  have q1 : ¬ inS t 0 i := by unfold inS; omega
  have q2 : ¬ inS a 0 i := by unfold inS; omega
  rw [if_neg q1, if_neg q2]
theorem mvP_succ (P : Int → Pg) {a t : Int} {j : Nat} (hd : t + (j + 1) ≤ a ∨ a + (j + 1) ≤ t) (i : Int) : (if i = a + j then zP else if i = t + j then P (a + j) else mvP P a j t i) = mvP P a ((j : Int) + 1) t i := by
  unfold mvP
  by_cases e : i = a + j
  · have q1 : ¬ inS t ((j : Int) + 1) i := by unfold inS; omega
    have q2 : inS a ((j : Int) + 1) i := by unfold inS; omega
    rw [if_pos e, if_neg q1, if_pos q2]
  · rw [if_neg e]
    by_cases e1 : i = t + j
    · have q1 : inS t ((j : Int) + 1) i := by unfold inS; omega
      rw [if_pos e1, if_pos q1, show i - t + a = a + j by omega]
    · rw [if_neg e1]
      by_cases e2 : inS t j i
      · have q1 : inS t ((j : Int) + 1) i := by unfold inS at *; omega
        rw [if_pos e2, if_pos q1]
      · have q1 : ¬ inS t ((j : Int) + 1) i := by unfold inS at *; omega
        rw [if_neg e2, if_neg q1]
        by_cases e3 : inS a j i
        · have q2 : inS a ((j : Int) + 1) i := by unfold inS at *; omega
          rw [if_pos e3, if_pos q2]
        · have q2 : ¬ inS a ((j : Int) + 1) i := by unfold inS at *; omega
          rw [if_neg e3, if_neg q2]
end
end Go.Proofs.Ytnppnoabhpkmkaa
