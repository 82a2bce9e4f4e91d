/- The law's own first calls: their words behind the merge. -/
import Derived.Test.YtnlimecbbockoaaMg43
namespace Go.Proofs.Ytnlimecbbockoaa
open Go.RowKit
theorem k_g3 : goodB k3 3 431 = true := by kernel_rfl
theorem k_n3 : k3.length = 4096 := by kernel_rfl
theorem k_c3 : (thL k3 kR 431).length = 1 := by kernel_rfl
end Go.Proofs.Ytnlimecbbockoaa
