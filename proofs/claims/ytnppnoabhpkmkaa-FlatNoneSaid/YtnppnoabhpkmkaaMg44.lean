/- The reference of spaces: a fork. -/
import Derived.Test.YtnppnoabhpkmkaaMg43
namespace Go.Proofs.Ytnppnoabhpkmkaa
open Go.RowKit
section
variable {w w' : World} {B D : Nat} {T : RfT} {F : Fl} {s s' : SpB} {S S' : Sp} {q : Nat × Nat} {W : Int → Int}
/-- The words so far. -/
def cpWx (P : Int → Pg) (W : Int → Int) (x : Nat) : Int → Int := fun i => if 0 ≤ i ∧ i < (x : Int) * 8 ∧ (P (i / 8)).h = 0 then 0 else W i
theorem cpWx_zero (P : Int → Pg) (W : Int → Int) : cpWx P W 0 = W := by
  funext i; unfold cpWx; rw [if_neg (by omega)]
theorem cpWx_all (P : Int → Pg) (W : Int → Int) : cpWx P W 4096 = cpW P W := by
  funext i; unfold cpWx cpW
  by_cases c : 0 ≤ i ∧ i < 32768 ∧ (P (i / 8)).h = 0
  · rw [if_pos c, if_pos ⟨c.1, by omega, c.2.2⟩]
  · rw [if_neg c, if_neg (fun k => c ⟨k.1, by omega, k.2.2⟩)]
theorem cpWx_one (P : Int → Pg) (W : Int → Int) (x : Nat) (h : (P x).h = 0) : clr (cpWx P W x) x 1 = cpWx P W (x + 1) := by
  funext i; unfold clr cpWx
  by_cases c : (x : Int) * 8 ≤ i ∧ i < ((x : Int) + 1) * 8
  · rw [if_pos c, if_pos ⟨by omega, by push_cast; omega, by rw [show i / 8 = (x : Int) by omega]; exact h⟩]
  · rw [if_neg c]
    by_cases d : 0 ≤ i ∧ i < (x : Int) * 8 ∧ (P (i / 8)).h = 0
    · rw [if_pos d, if_pos ⟨d.1, by push_cast; omega, d.2.2⟩]
    · rw [if_neg d, if_neg (fun k => d ⟨k.1, by have := k.2.1; push_cast at this; omega, k.2.2⟩)]
theorem cpWx_none (P : Int → Pg) (W : Int → Int) (x : Nat) (h : (P x).h ≠ 0) : cpWx P W x = cpWx P W (x + 1) := by
  funext i; unfold cpWx
  by_cases d : 0 ≤ i ∧ i < (x : Int) * 8 ∧ (P (i / 8)).h = 0
  · rw [if_pos d, if_pos ⟨d.1, by push_cast; omega, d.2.2⟩]
  · rw [if_neg d, if_neg (fun k => by
      by_cases e : i / 8 = (x : Int)
      · exact h (by rw [← e]; exact k.2.2)
      · exact d ⟨k.1, by have := k.2.1; push_cast at this; omega, k.2.2⟩)]
end
end Go.Proofs.Ytnppnoabhpkmkaa
