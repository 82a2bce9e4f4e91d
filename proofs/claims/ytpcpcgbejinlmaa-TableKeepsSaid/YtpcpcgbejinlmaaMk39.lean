/- All tables of a root are given back: the contract of Drop. -/
import Derived.Test.YtpcpcgbejinlmaaMk31
import Derived.Test.YtpcpcgbejinlmaaMk38
import Derived.Test.YtpcpcgbejinlmaaMk25
import Derived.Test.YtpcpcgbejinlmaaMk26
namespace Go.Proofs.Ytpcpcgbejinlmaa
open Go.RowKit
section
variable {w : World} {s : Seat} {v : Value} {ws L R : List Int}
end
end Go.Proofs.Ytpcpcgbejinlmaa
/- What nil tables answer; a root that there is not. -/
namespace Go.Proofs.Ytpcpcgbejinlmaa
open Go.RowKit
section
variable {w : World} {s : Seat} {v : Value} {ws L R : List Int}
end
end Go.Proofs.Ytpcpcgbejinlmaa
