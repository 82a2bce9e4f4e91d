/- The law's own first calls: their words behind the split. -/
import Derived.Test.YtnlimecbbockoaaMg43
namespace Go.Proofs.Ytnlimecbbockoaa
open Go.RowKit
theorem k_g2 : goodB k2 3 431 = true := by kernel_rfl
theorem k_c2 : (thT k2 kR 431).length = 4 := by kernel_rfl
theorem k_n2 : k2.length = 4096 := by kernel_rfl
theorem k_w2 : (fol k2 431 11).er = 0 ∧ unF (fol k2 431 11).x = 19 ∧ (fol k2 431 11).lv = 0 := ⟨by kernel_rfl, by kernel_rfl, by kernel_rfl⟩
theorem k_me : meE k2 kR 431 8 = 0 := by kernel_rfl
end Go.Proofs.Ytnlimecbbockoaa
