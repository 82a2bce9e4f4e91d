/- The reference of spaces: a mapping anywhere. -/
import Derived.Test.YtnppnoabhpkmkaaMg37
namespace Go.Proofs.Ytnppnoabhpkmkaa
open Go.RowKit
section
variable {w w' : World} {B : Nat} {T : RfT} {F : Fl} {s s' : SpB} {S S' : Sp}
end
end Go.Proofs.Ytnppnoabhpkmkaa
