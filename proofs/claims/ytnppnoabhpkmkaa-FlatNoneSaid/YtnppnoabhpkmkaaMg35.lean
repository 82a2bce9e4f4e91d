/- The reference's Move, whole. -/
import Derived.Test.YtnppnoabhpkmkaaMg34
namespace Go.Proofs.Ytnppnoabhpkmkaa
open Go.RowKit
section
variable {w w' : World} {B D xa xb : Nat} {v vb : Value} {P Q : Int → Pg}
end
end Go.Proofs.Ytnppnoabhpkmkaa
