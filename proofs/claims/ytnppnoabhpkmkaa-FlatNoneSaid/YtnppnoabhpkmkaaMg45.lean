/- The reference of spaces: Do. -/
import Derived.Test.YtnppnoabhpkmkaaMg44
namespace Go.Proofs.Ytnppnoabhpkmkaa
open Go.RowKit
theorem stF_k1 {F : Fl} {r : Rq} (c : r.k = 1) : stF F r = addF F zSp := by
  unfold stF; rw [if_neg (by omega), if_pos c]
theorem stF_in {F : Fl} {r : Rq} (c0 : ¬ r.k < 1) (c1 : ¬ 10 < r.k) (c2 : r.k ≠ 1) (c3 : isS F r.s = true) : stF F r =
    if r.k = 7 then addF F (cpS (sp F r.s)) else if r.k = 9 ∨ r.k = 10 then accR F r else if r.k = 2 then mapR F r else if chgE (sp F r.s) r ≠ 0 then noF F (chgE (sp F r.s) r) else (0, 0, put F r.s (chgS (sp F r.s) r)) := by
  unfold stF
  rw [if_neg (by omega), if_neg c2, if_neg (by rw [c3]; decide)]
section
variable {w w' : World} {B : Nat} {T : RfT} {F : Fl}
end
end Go.Proofs.Ytnppnoabhpkmkaa
