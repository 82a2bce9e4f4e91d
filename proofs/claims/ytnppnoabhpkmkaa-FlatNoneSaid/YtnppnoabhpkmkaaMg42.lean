/- The reference of spaces: Do, but for new spaces. -/
import Derived.Test.YtnppnoabhpkmkaaMg38
import Derived.Test.YtnppnoabhpkmkaaMg41
namespace Go.Proofs.Ytnppnoabhpkmkaa
open Go.RowKit
section
variable {w w' : World} {B : Nat} {T : RfT} {F : Fl} {s s' : SpB} {S S' : Sp}
end
end Go.Proofs.Ytnppnoabhpkmkaa
