/- The reference of spaces: one space, or one object, has turned. -/
import Derived.Test.YtnppnoabhpkmkaaMg26
namespace Go.Proofs.Ytnppnoabhpkmkaa
open Go.RowKit
section
variable {w w' : World} {B : Nat} {T : RfT} {F : Fl} {s s' : SpB} {S S' : Sp}
theorem getElem_inj {α β : Type} {L : List α} (f : α → β) (hd : (L.map f).Nodup) {i j : Nat} (hi : i < L.length) (hj : j < L.length) (e : f L[i] = f L[j]) : i = j := by
  have h := List.pairwise_map.1 hd
  rcases Nat.lt_trichotomy i j with c | c | c
  · exact absurd e (List.pairwise_iff_getElem.1 h i j hi hj c)
  · exact c
  · exact absurd e.symm (List.pairwise_iff_getElem.1 h j i hj hi c)
theorem put_get {j i : Nat} (hi : i < F.L.length) : i < (put F (j : Int) S').L.length ∧ ∀ h, (put F (j : Int) S').L[i]'h = if i = j then S' else F.L[i] := by
  refine ⟨by show i < (F.L.set _ _).length; rw [List.length_set]; exact hi, fun h => ?_⟩
  show (F.L.set (j : Int).toNat S')[i]'_ = _
  simp only [Int.toNat_natCast, List.getElem_set]
  by_cases e : j = i
  · rw [if_pos e, if_pos e.symm]
  · rw [if_neg e, if_neg (fun k => e k.symm)]
theorem sp_at {j : Nat} (hj : j < F.L.length) : sp F (j : Int) = F.L[j] := by
  unfold sp
  rw [Int.toNat_natCast, List.getD_eq_getElem?_getD, List.getElem?_eq_getElem hj]; rfl
end
end Go.Proofs.Ytnppnoabhpkmkaa
