/- Calls of the library that package kinds makes over numbers: Index, Contains. -/
import Derived.Test.YtfjphlickpgbnaaBu
import Derived.Test.YtfjphlickpgbnaaGm
namespace Go.Proofs.Ytfjphlickpgbnaa
open Go.RowKit

section
variable {w : World} {g o n c : Nat} {f : Nat → Int}
theorem index_any (hc : ∀ j, j < n → w.cell? ⟨g, o + j, none⟩ = some (.int .i64 (f j))) (hn : n ≤ 4096) (v : Int) :
    Calls Try.prog 65 #[.slice (some ⟨g, o, none⟩) n c, .int .i64 v] w fun e w' => ∃ r : Int, e = .returned (.int .i64 r) ∧ w = w' ∧ decide (0 ≤ r) = (List.range n).any fun j => f j == v := by
  have HC := Lib.hid hc
  clear hc
  go_enter Try.func65, Try.ntmps65
  go_wp2
  go_loop [8] (fun s => ∃ i : Nat, i ≤ n ∧ s = .int .i64 i ∧ ∀ j, j < i → ¬ f j = v) (fun s => n - (intOf s).toNat)
  case atStart => exact ⟨0, Nat.zero_le _, rfl, fun j hj => by omega⟩
  case round =>
    obtain ⟨i, hi, rfl, hq⟩ := hrel
    have HQ := Lib.hid hq
    clear hq
    by_cases hlt : i < n
    · have hci := HC.out i hlt
      obtain ⟨u, hu⟩ : ∃ u, u = f i := ⟨_, rfl⟩
      rw [← hu] at hci
      by_cases hv : v = u
      · have HR : Hid (decide (0 ≤ (i : Int)) = (List.range n).any fun j => f j == v) := by
          show _ = _
          rw [decide_eq_true (by omega)]
          exact (List.any_eq_true.2 ⟨i, List.mem_range.2 hlt, by rw [← hu, hv]; simp⟩).symm
        have hb : (v == u) = true := by simp [hv]
        clear hu hv
        go_wp2
        go_ret
        exact ⟨_, rfl, rfl, HR.out⟩
      · have HQ2 : Hid (∀ j, j < i + 1 → ¬ f j = v) := fun j hj => by
          rcases Nat.lt_or_ge j i with g | g
          · exact HQ.out j g
          · obtain rfl : j = i := by omega
            intro e; rw [← hu] at e; exact hv e.symm
        have hb : (v == u) = false := by simpa using hv
        clear hu hv
        go_wp2
        go_round
        case rel => exact ⟨i + 1, by omega, by go_num, HQ2.out⟩
        case measure => simp [intOf]; omega
    · obtain rfl : i = n := by omega
      have HR : Hid (decide ((0 : Int) ≤ -1) = (List.range i).any fun j => f j == v) := by
        show _ = _
        rw [decide_eq_false (by omega)]
        refine (List.any_eq_false.2 fun j hj => ?_).symm
        have := HQ.out j (List.mem_range.1 hj)
        simpa using this
      go_wp2
      go_ret
      exact ⟨_, rfl, rfl, HR.out⟩
theorem contains_any (hc : ∀ j, j < n → w.cell? ⟨g, o + j, none⟩ = some (.int .i64 (f j))) (hn : n ≤ 4096) (v : Int) :
    Calls Try.prog 52 #[.slice (some ⟨g, o, none⟩) n c, .int .i64 v] w fun e w' => e = .returned (.bool ((List.range n).any fun j => f j == v)) ∧ w = w' := by
  have hI := index_any (c := c) hc hn v
  generalize (List.range n).any (fun j => f j == v) = r at hI ⊢
  clear hc
  go_enter Try.func52, Try.ntmps52
  go_wp2_with fail
  refine hI.mono ?_
  rintro e w' ⟨z, rfl, rfl, hz⟩
  go_wp2
  go_ret
  exact ⟨rfl, rfl⟩
end
end Go.Proofs.Ytfjphlickpgbnaa
