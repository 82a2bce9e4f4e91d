/- The reference of spaces: a mapping at a page. -/
import Derived.Test.YtnppnoabhpkmkaaMg36
namespace Go.Proofs.Ytnppnoabhpkmkaa
open Go.RowKit
section
variable {w w' : World} {B : Nat} {T : RfT} {F : Fl} {s s' : SpB} {S S' : Sp}
theorem szO_three (h : Int) : szO h = 1 ∨ szO h = 8 ∨ szO h = 64 := by
  unfold szO
  split
  · exact Or.inr (Or.inl rfl)
  · split
    · exact Or.inr (Or.inr rfl)
    · exact Or.inl rfl
theorem szO_fits (h : Int) : Fits (szO h) := by
  unfold Fits
  rcases szO_three h with e | e | e <;> rw [e] <;> omega
theorem bestN_lt (P : Int → Pg) (n sz : Int) (k : Nat) (hk : k ≤ 4096) : 0 ≤ bestN P n sz k ∧ bestN P n sz k < 4096 := by
  induction k with
  | zero => exact ⟨Int.le_refl _, by show (0 : Int) < 4096; omega⟩
  | succ k ih =>
    unfold bestN
    split
    · omega
    · exact ih (by omega)
theorem room_lt (P : Int → Pg) (n sz : Int) : 0 ≤ roomP P n sz ∧ roomP P n sz < 4096 := bestN_lt P n sz 4095 (by omega)
theorem room_fits (P : Int → Pg) (n sz : Int) : Fits (roomP P n sz) := by have := room_lt P n sz; unfold Fits; omega
end
end Go.Proofs.Ytnppnoabhpkmkaa
