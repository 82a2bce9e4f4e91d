/- The reference of spaces: a new space. -/
import Derived.Test.YtnppnoabhpkmkaaMg42
namespace Go.Proofs.Ytnppnoabhpkmkaa
open Go.RowKit
section
variable {w w' : World} {B : Nat} {T : RfT} {F : Fl} {s s' : SpB} {S S' : Sp}
end
end Go.Proofs.Ytnppnoabhpkmkaa
