/- The reference's Map (gen/genV9.py). -/
import Derived.Test.YtnppnoabhpkmkaaMg31
namespace Go.Proofs.Ytnppnoabhpkmkaa
open Go.RowKit
section
variable {w w' : World} {B D xa xb : Nat} {v vb : Value} {P Q : Int → Pg}
theorem mapP_zero (P : Int → Pg) (a how p o : Int) : mapP P a 0 how p o = P := by
  funext i; unfold mapP; rw [if_neg (by unfold inS; omega)]
theorem mapP_succ (P : Int → Pg) (a how p o : Int) (j : Nat) (i : Int) : (if i = a + j then ⟨how, p, o, if shr how then (j : Int) else 0⟩ else mapP P a j how p o i) = mapP P a ((j : Int) + 1) how p o i := by
  unfold mapP
  by_cases e : i = a + j
  · have q : inS a ((j : Int) + 1) i := by unfold inS; omega
    rw [if_pos e, if_pos q, show i - a = j by omega]
  · rw [if_neg e]
    by_cases e2 : inS a j i
    · have q : inS a ((j : Int) + 1) i := by unfold inS at *; omega
      rw [if_pos e2, if_pos q]
    · have q : ¬ inS a ((j : Int) + 1) i := by unfold inS at *; omega
      rw [if_neg e2, if_neg q]
end
end Go.Proofs.Ytnppnoabhpkmkaa
