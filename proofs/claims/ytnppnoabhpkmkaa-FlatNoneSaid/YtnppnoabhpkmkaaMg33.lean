/- The reference's Map: its errors, the whole (gen/genW0.py). -/
import Derived.Test.YtnppnoabhpkmkaaMg32
namespace Go.Proofs.Ytnppnoabhpkmkaa
open Go.RowKit
section
variable {w w' : World} {B D xa xb : Nat} {v vb : Value} {P Q : Int → Pg}
end
end Go.Proofs.Ytnppnoabhpkmkaa
