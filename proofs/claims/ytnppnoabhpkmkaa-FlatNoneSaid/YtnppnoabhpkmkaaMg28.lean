/- The reference of spaces: Cell, Word, Areas. -/
import Derived.Test.YtnppnoabhpkmkaaMg27
namespace Go.Proofs.Ytnppnoabhpkmkaa
open Go.RowKit
/-- Where an address's word is. -/
def CellAt (T : RfT) (s : SpB) (S : Sp) (a : Int) (q : Nat × Nat) (n : Nat) : Prop :=
  n < 32768 ∧ ((¬ shr (S.P (a / 64)).h ∧ q = s.wq ∧ (n : Int) = a / 8) ∨ (shr (S.P (a / 64)).h ∧ T.LO[(S.P (a / 64)).o.toNat]? = some q ∧ (n : Int) = (S.P (a / 64)).x * 8 + a / 8 % 8))
def CellF (T : RfT) (s : SpB) (S : Sp) (a : Int) (w : World) (e : Ending) (w' : World) : Prop :=
  ∃ A m c i, e = .returned (.tuple #[.slice A m c, .int .i64 i, .int .i64 (celE 10 4 S a)]) ∧ Below w.heap.size w w' ∧ (celE 10 4 S a = 0 → ∃ (q : Nat × Nat) (n : Nat), A = some ⟨q.1, 0, none⟩ ∧ m = 32768 ∧ c = q.2 ∧ i = n ∧ CellAt T s S a q n)
section
variable {w w' : World} {B : Nat} {T : RfT} {F : Fl} {s s' : SpB} {S S' : Sp}
end
end Go.Proofs.Ytnppnoabhpkmkaa
