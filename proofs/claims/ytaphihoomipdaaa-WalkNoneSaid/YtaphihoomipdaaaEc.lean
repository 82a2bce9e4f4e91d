/- The contracts of Prot, open and Allow, of package entry and of its reference. -/
import Derived.Test.YtaphihoomipdaaaEb
namespace Go.Proofs.Ytaphihoomipdaaa
open Go.RowKit

set_option maxHeartbeats 400000 in
theorem prot_any (f : Int) (p w h k u d : Bool) (W : World) :
    Calls Try.prog 29 #[.agg #[.int .i64 f, .bool p, .bool w, .bool h, .bool k, .bool u, .bool d]] W fun e W' => e = .returned (.int .i64 (protI p w)) ∧ Below W.heap.size W W' := by
  cases p
  · go_enter Try.func29, Try.ntmps29
    go_wp2
    go_ret
    exact ⟨rfl, (Below.refl _ _).alloc (Nat.le_refl _) _⟩
  · cases w
    all_goals
      go_enter Try.func29, Try.ntmps29
      go_wp2
      go_ret
      exact ⟨rfl, (Below.refl _ _).alloc (Nat.le_refl _) _⟩


















end Go.Proofs.Ytaphihoomipdaaa
