/- The reference's less. -/
import Derived.Test.YtgpbbmcadifdhaaS2
namespace Go.Proofs.Ytgpbbmcadifdhaa
open Go.RowKit
set_option maxHeartbeats 2000000 in
theorem less_any (a b c a' b' c' : Int) (w : World) : Calls Try.prog 40 #[.agg #[.int .i64 a, .int .i64 b, .int .i64 c], .agg #[.int .i64 a', .int .i64 b', .int .i64 c']] w fun e w' => e = .returned (.bool (oltB (a, b, c) (a', b', c'))) ∧ Below w.heap.size w w' := by
  have hb := ((Below.refl w.heap.size w).alloc (Nat.le_refl _) (.cells #[.int .i64 a, .int .i64 b, .int .i64 c] 67)).alloc (by simp) (.cells #[.int .i64 a', .int .i64 b', .int .i64 c'] 67)
  have HB := Lib.hid hb
  clear hb
  by_cases h1 : a = a'
  · subst h1
    by_cases h2 : b = b'
    · subst h2
      have hy : Hid (oltB (a, b, c) (a, b, c') = decide (c < c')) := by
        show _ = _
        simp [oltB]
      go_enter Try.func40, Try.ntmps40
      go_wp2
      go_ret
      exact ⟨ret_bool hy.out.symm, HB.out⟩
    · have hy : Hid (oltB (a, b, c) (a, b', c') = decide (b < b')) := by
        show _ = _
        simp only [oltB]
        rw [decide_eq_decide]
        constructor
        · rintro (h | ⟨-, h | ⟨h, -⟩⟩)
          · exact absurd h (Int.lt_irrefl _)
          · exact h
          · exact absurd h h2
        · exact fun h => Or.inr ⟨by trivial, Or.inl h⟩
      go_enter Try.func40, Try.ntmps40
      go_wp2
      go_ret
      exact ⟨ret_bool hy.out.symm, HB.out⟩
  · have hy : Hid (oltB (a, b, c) (a', b', c') = decide (a < a')) := by
      show _ = _
      simp [oltB, h1]
    go_enter Try.func40, Try.ntmps40
    go_wp2
    go_ret
    exact ⟨ret_bool hy.out.symm, HB.out⟩
end Go.Proofs.Ytgpbbmcadifdhaa
