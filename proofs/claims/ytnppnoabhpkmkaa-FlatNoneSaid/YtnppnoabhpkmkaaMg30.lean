/- The reference's Unmap. -/
import Derived.Test.YtnppnoabhpkmkaaMg25
namespace Go.Proofs.Ytnppnoabhpkmkaa
open Go.RowKit
section
variable {w w' : World} {B D xa xb : Nat} {v vb : Value} {P Q : Int → Pg}
theorem below_set {D g : Nat} (h : Below D w w') (hg : D ≤ g) (i : Nat) (u : Value) : Below D w (w'.setCell ⟨g, i, none⟩ u) :=
  ⟨h.os, h.tape, h.output, by simpa [World.setCell] using h.size, fun k hk => (Below.heap_setCell w' _ u k (by show k ≠ g; omega)).trans (h.block k hk)⟩
theorem unP_zero (P : Int → Pg) (a : Int) : unP P a 0 = P := by
  funext i; unfold unP; rw [if_neg (by unfold inS; omega)]
theorem unP_succ (P : Int → Pg) (a : Int) (j : Nat) (i : Int) : (if i = a + j then zP else unP P a j i) = unP P a ((j : Int) + 1) i := by
  unfold unP
  by_cases e : i = a + j
  · rw [if_pos e, if_pos (by unfold inS; omega)]
  · rw [if_neg e]
    by_cases e2 : inS a j i
    · rw [if_pos e2, if_pos (by unfold inS at *; omega)]
    · rw [if_neg e2, if_neg (by unfold inS at *; omega)]
end
end Go.Proofs.Ytnppnoabhpkmkaa
