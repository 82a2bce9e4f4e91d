/- The reference's Same, New. -/
import Derived.Test.YtnppnoabhpkmkaaMg06
import Derived.Laws.OwnMore
import Derived.Test.YtnppnoabhpkmkaaMg12
namespace Go.Proofs.Ytnppnoabhpkmkaa
open Go.RowKit
theorem sameA_any_ne {f t h p o x f' t' h' p' o' x' : Int} (hne : (⟨f, t, h, p, o, x⟩ : Ar) ≠ ⟨f', t', h', p', o', x'⟩) : (¬ f = f') ∨ (f = f' ∧ ¬ t = t') ∨ (f = f' ∧ t = t' ∧ ¬ h = h') ∨ (f = f' ∧ t = t' ∧ h = h' ∧ ¬ p = p') ∨ (f = f' ∧ t = t' ∧ h = h' ∧ p = p' ∧ ¬ o = o') ∨ (f = f' ∧ t = t' ∧ h = h' ∧ p = p' ∧ o = o' ∧ ¬ x = x') := by
  have k : ¬ (f = f' ∧ t = t' ∧ h = h' ∧ p = p' ∧ o = o' ∧ x = x') := fun ⟨e0, e1, e2, e3, e4, e5⟩ => hne (by rw [e0, e1, e2, e3, e4, e5])
  omega
theorem made_zero (m : Nat) : (madeCells (Value.agg #[.int .i64 0, .int .i64 0, .int .i64 0, .int .i64 0]).cells m).toList = List.replicate m (.int .i64 0) := by
  apply List.ext_getElem?
  intro j
  by_cases hj : j < m
  · have h4 : j % 4 = 0 ∨ j % 4 = 1 ∨ j % 4 = 2 ∨ j % 4 = 3 := by omega
    rcases h4 with e | e | e | e <;> simp [madeCells, hj, Value.cells, e]
  · simp [madeCells, hj]
theorem PsOk.zero : PsOk (fun _ => zP) := ⟨fun _ => zP_ok, fun _ _ => rfl, fun _ => ⟨Int.le_refl _, by decide⟩⟩
end Go.Proofs.Ytnppnoabhpkmkaa
/- The reference of spaces as it lies: rows of words, a space, all spaces and objects. -/
namespace Go.Proofs.Ytnppnoabhpkmkaa
open Go.RowKit
section
variable {w w' : World} {B : Nat} {q : Nat × Nat} {W : Int → Int}
end
/-- A space's blocks. -/
structure SpB where
  sb : Nat
  ab : Nat
  wq : Nat × Nat
  v : Value
/-- The blocks of a space. -/
def MineS (s : SpB) (k : Nat) : Prop := k = s.sb ∨ k = s.ab ∨ k = s.wq.1
section
variable {w w' : World} {B : Nat} {s : SpB} {S : Sp}
end
/-- All spaces and objects. -/
structure RfT where
  xa : Nat
  vl : Value
  vo : Value
  LS : List SpB
  LO : List (Nat × Nat)
def MineF (T : RfT) (k : Nat) : Prop := k = T.xa ∨ T.vl.ownBlock = some k ∨ T.vo.ownBlock = some k ∨ (∃ s ∈ T.LS, MineS s k) ∨ ∃ q ∈ T.LO, k = q.1
section
variable {w w' : World} {B : Nat} {T : RfT} {F F' : Fl}
end
end Go.Proofs.Ytnppnoabhpkmkaa
