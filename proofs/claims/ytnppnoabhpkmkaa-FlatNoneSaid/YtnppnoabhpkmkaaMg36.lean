/- The reference of spaces: a space's areas have turned; an object more; new words. -/
import Derived.Test.YtnppnoabhpkmkaaMg05
import Derived.Test.YtnppnoabhpkmkaaMg29
import Derived.Test.YtnppnoabhpkmkaaMg35
import Derived.Laws.OwnMore
namespace Go.Proofs.Ytnppnoabhpkmkaa
open Go.RowKit
/-- Numbers that an int holds. -/
structure RqOk (r : Rq) : Prop where
  k : Fits r.k
  s : Fits r.s
  a : Fits r.a
  n : Fits r.n
  h : Fits r.h
  p : Fits r.p
  t : Fits r.t
section
variable {w w' : World} {B : Nat} {T : RfT} {F : Fl} {s s' : SpB} {S S' : Sp}
theorem put_self {j : Nat} (hj : j < F.L.length) : put F (j : Int) (sp F j) = F := by
  unfold put
  rw [Int.toNat_natCast, sp_at hj, List.set_getElem_self]
theorem made_zu (m : Nat) : (madeCells (Value.int .u64 0).cells m).toList = List.replicate m (.int .u64 0) := by
  apply List.ext_getElem?
  intro j
  by_cases hj : j < m
  · simp [madeCells, hj, Value.cells, Nat.mod_one]
  · simp [madeCells, hj]
end
end Go.Proofs.Ytnppnoabhpkmkaa
