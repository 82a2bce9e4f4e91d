/- The reference of pools: New. Numbers: are two lists of numbers the same? -/
import Derived.Test.YtllepijlebbjbaaPoF
import Derived.Laws.OwnMore
import Derived.BigRegion
namespace Go.Proofs.Ytllepijlebbjbaa
open Go.RowKit
set_option maxHeartbeats 4000000 in
set_option maxRecDepth 100000 in
theorem numbers_any {w : World} {A A' : Option Addr} {c c' : Nat} {L M : List Int} (hL : EI.Ls w A L) (hM : EI.Ls w A' M) (hl : L.length ≤ 5000) (hm : M.length ≤ 5000) :
    Calls Try.prog 13 #[.slice A L.length c, .slice A' M.length c'] w fun e w' => e = .returned (.bool (decide (L = M))) ∧ Below w.heap.size w w' := by
  obtain ⟨n, hn⟩ : ∃ n, n = L.length := ⟨_, rfl⟩
  by_cases hnm : L.length = M.length
  · have hnm' : n = M.length := hn.trans hnm
    rw [← hnm', ← hn]
    have HN := Lib.hid (And.intro hn hnm')
    have HL := Lib.hid hL
    have HM := Lib.hid hM
    have n64 : (n : Int) ≤ 5000 := by omega
    clear hL hM hl hm hnm hn hnm'
    go_enter Try.func13, Try.ntmps13
    go_wp2
    go_loopw [5] (fun i wr => ∃ j k : Nat, j ≤ n ∧ i = .int .i64 j ∧ wr = w.drewN k ∧ ∀ i (h1 : i < L.length) (h2 : i < M.length), i < j → L[i] = M[i]) (fun i _ => n - (RowKit.intOf i).toNat)
    case atStart => exact ⟨0, 0, Nat.zero_le _, rfl, rfl, fun i _ _ h => absurd h (Nat.not_lt_zero _)⟩
    case round =>
      obtain ⟨j, k, hj, rfl, rfl, heq⟩ := hrel
      have HEQ := Lib.hid heq
      clear heq
      by_cases hlt : j < n
      · have hjl : j < L.length := by have := HN.out.1; omega
        have hjm : j < M.length := by have := HN.out.2; omega
        obtain ⟨g, rfl, -, hat⟩ := HL.out (by omega)
        obtain ⟨g', rfl, -, hat'⟩ := HM.out (by omega)
        have hat := hat j hjl
        have hat' := hat' j hjm
        obtain ⟨x, ex⟩ : ∃ x, x = L[j] := ⟨_, rfl⟩
        obtain ⟨y, ey⟩ : ∃ y, y = M[j] := ⟨_, rfl⟩
        rw [← ex] at hat
        rw [← ey] at hat'
        have HX := Lib.hid ex
        have HY := Lib.hid ey
        obtain ⟨w1, ew⟩ : ∃ w1, w1 = w.drewN k := ⟨_, rfl⟩
        have hw : ∀ a, w1.cell? a = w.cell? a := fun a => by rw [ew]; rfl
        rw [← ew]
        have HW := Lib.hid ew
        have jn : (j : Int) < n := by omega
        have j0 : (0 : Int) ≤ j := by omega
        have c0 : w1.cell? ⟨g, j, none⟩ = some (.int .i64 x) := (hw _).trans (by have := hat 0 (by decide); rw [show j * EI.sz + 0 = j from by show j * 1 + 0 = j; omega] at this; exact this)
        have d0 : w1.cell? ⟨g', j, none⟩ = some (.int .i64 y) := (hw _).trans (by have := hat' 0 (by decide); rw [show j * EI.sz + 0 = j from by show j * 1 + 0 = j; omega] at this; exact this)
        clear hw hat hat' ex ey ew
        by_cases hxy : x = y
        · have HXY := Lib.hid hxy
          subst hxy
          go_wp2_with fail
          go_region
          all_goals
            go_wp2_with fail
            go_roundw
            case rel =>
              refine ⟨j + 1, k + 1, by omega, by go_num, by rw [HW.out]; rfl, fun i h1 h2 hij => ?_⟩
              by_cases e : i = j
              · subst e; rw [← HX.out, ← HY.out]
              · exact HEQ.out i h1 h2 (by omega)
            case measure => simp [RowKit.intOf]; omega
        · have HNE : Hid (decide (L = M) = false) := by
            show _ = _
            rw [decide_eq_false_iff_not]
            intro e
            subst e
            exact hxy (HX.out.trans HY.out.symm)
          all_goals
            go_wp2_with fail
            go_region
            all_goals
              go_wp2_with fail
              go_ret
              exact ⟨ret_bool HNE.out.symm, by rw [HW.out]; exact below_dN (Below.refl _ _) (k + 1)⟩
      · have hy : Hid (decide (L = M) = true) := by
          show _ = _
          rw [decide_eq_true_eq]
          refine List.ext_getElem (HN.out.1.symm.trans HN.out.2) fun i h1 h2 => HEQ.out i h1 h2 (by have := HN.out.1; omega)
        have hd : ¬ (j : Int) < n := by omega
        obtain ⟨w1, ew⟩ : ∃ w1, w1 = w.drewN k := ⟨_, rfl⟩
        rw [← ew]
        have HW := Lib.hid ew
        clear ew
        go_wp2_with fail
        go_ret
        exact ⟨ret_bool hy.out.symm, by rw [HW.out]; exact below_dN (Below.refl _ _) k⟩
  · have hy : Hid (false = decide (L = M)) := by
      show _ = _
      symm
      rw [decide_eq_false_iff_not]
      rintro rfl
      exact hnm rfl
    obtain ⟨m, hm'⟩ : ∃ m, m = M.length := ⟨_, rfl⟩
    rw [← hm', ← hn]
    have hne : ((n : Int) != (m : Int)) = true := by simpa using (by omega : ¬ (n : Int) = m)
    have hne2 : ¬ (n : Int) = m := by omega
    clear hL hM hl hm hnm hn hm'
    go_enter Try.func13, Try.ntmps13
    go_wp2
    go_ret
    exact ⟨ret_bool hy.out, Below.refl _ _⟩
theorem numbers_yes {w : World} {A A' : Option Addr} {c c' n m : Nat} {L : List Int} (hL : EI.Ls w A L) (hM : EI.Ls w A' L) (hn : L.length = n) (hm : L.length = m) (hl : L.length ≤ 5000) :
    Calls Try.prog 13 #[.slice A n c, .slice A' m c'] w fun e w' => e = .returned (.bool true) ∧ Below w.heap.size w w' := by
  subst hn hm
  have := numbers_any (c := c) (c' := c') hL hM hl hl
  rwa [show decide (L = L) = true from by simp] at this
end Go.Proofs.Ytllepijlebbjbaa
