/- The reference of spaces: Do. -/
import Derived.Test.YtnppnoabhpkmkaaGreatMg36
namespace Go.Proofs.YtnppnoabhpkmkaaGreat
open Go.RowKit
theorem stF_k1 {F : Fl} {r : Rq} (c : r.k = 1) : stF F r = addF F zSp := by
  unfold stF; rw [if_neg (by omega), if_pos c]
theorem stF_in {F : Fl} {r : Rq} (c0 : ¬ r.k < 1) (c1 : ¬ 10 < r.k) (c2 : r.k ≠ 1) (c3 : isS F r.s = true) : stF F r =
    if r.k = 7 then addF F (cpS (sp F r.s)) else if r.k = 9 ∨ r.k = 10 then accR F r else if r.k = 2 then mapR F r else if chgE (sp F r.s) r ≠ 0 then noF F (chgE (sp F r.s) r) else (0, 0, put F r.s (chgS (sp F r.s) r)) := by
  unfold stF
  rw [if_neg (by omega), if_neg c2, if_neg (by rw [c3]; decide)]
section
variable {w w' : World} {B : Nat} {T : RfT} {F : Fl}
theorem rdo_is (h : RfAt B w T F) (r : Rq) (hF : FlOk F) (ok : RqOk r) (hl : F.O.length ≤ 1000) : Calls Tryz.prog 16 #[.pointer (some ⟨T.xa, 0, none⟩), .agg (opL r).toArray] w (ResF B w T (stF F r)) := by
  by_cases c0 : r.k < 1
  · exact rdo_lo h r c0
  by_cases c1 : 10 < r.k
  · exact rdo_hi h r c0 c1
  by_cases c2 : r.k = 1
  · rw [stF_k1 c2]; exact rdo_spawn h r c2
  rcases Bool.eq_false_or_eq_true (isS F r.s) with c3 | c3
  rotate_left
  · exact rdo_out h r c0 c1 c2 c3
  rw [stF_in c0 c1 c2 c3]
  by_cases c7 : r.k = 7
  · rw [if_pos c7]; exact rdo_fork h r c3 c7
  rw [if_neg c7]
  by_cases c9 : r.k = 9
  · rw [if_pos (Or.inl c9)]; exact rdo_ld h r hF ok hl c0 c1 c2 c3 c7 c9
  by_cases c10 : r.k = 10
  · rw [if_pos (Or.inr c10)]; exact rdo_st h r hF ok hl c0 c1 c2 c3 c7 c10
  rw [if_neg (by rintro (e | e) <;> contradiction)]
  by_cases n2 : r.k = 2
  · rw [if_pos n2]; exact rdo_map h r hF ok hl c0 c1 c2 c3 c7 n2
  rw [if_neg n2]
  exact rdo_chg h r hF ok hl c0 c1 c2 c3 c7 n2 c9 c10
end
end Go.Proofs.YtnppnoabhpkmkaaGreat
