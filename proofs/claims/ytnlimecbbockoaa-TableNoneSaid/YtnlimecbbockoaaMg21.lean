/- The reference of package table: sizes, what is wrong with a block, which leaf a page has. -/
import Derived.Test.YtnlimecbbockoaaMg18
import Derived.Test.YtnlimecbbockoaaMg06
import Derived.Deep.QuietTactic
import Derived.BigQuiet
import Derived.IntWalk
namespace Go.Proofs.Ytnlimecbbockoaa
open Go.RowKit
theorem size8_any (o : Int) (w : World) : Calls Try.prog 81 #[.int .i64 o] w fun e w' => e = .returned (.int .i64 (szO o)) ∧ w = w' := by
  by_cases h3 : o = 3
  · subst h3
    go_enter Try.func81, Try.ntmps81
    go_wp2
    go_ret
    exact ⟨rfl, rfl⟩
  · by_cases h6 : o = 6
    · subst h6
      go_enter Try.func81, Try.ntmps81
      go_wp2
      go_ret
      exact ⟨rfl, rfl⟩
    · have hs : szO o = 1 := by simp [szO, h3, h6]
      rw [hs]
      have k3 : (o == 3) = false := by simpa using h3
      have k6 : (o == 6) = false := by simpa using h6
      clear hs h3 h6
      go_enter Try.func81, Try.ntmps81
      go_wp2
      go_ret
      exact ⟨rfl, rfl⟩
theorem size8_q (o : Int) (w : World) : Calls Try.prog 81 #[.int .i64 o] w fun e w' => e = .returned (.int .i64 (szO o)) ∧ w' = w := (size8_any o w).mono fun _ _ h => ⟨h.1, h.2.symm⟩
/-- How many pages an entry of a level stands for. -/
def szL (l : Nat) : Int := if l = 0 then 1 else if l = 1 then 8 else if l = 2 then 64 else 512
theorem szL_pos (l : Nat) : 1 ≤ szL l ∧ szL l ≤ 512 := by unfold szL; split <;> (try split) <;> (try split) <;> omega
theorem sizeL_any (l : Nat) (hl : l ≤ 3) (w : World) : Calls Try.prog 97 #[.int .i64 l] w fun e w' => e = .returned (.int .i64 (szL l)) ∧ w = w' := by
  go_enter Try.func97, Try.ntmps97
  go_wp2
  go_loop [3, 4] (fun n i => ∃ k : Nat, k ≤ l ∧ i = .int .i64 k ∧ n = .int .i64 (szL k)) (fun _ i => l - (intOf i).toNat)
  case atStart => exact ⟨0, Nat.zero_le _, rfl, rfl⟩
  case round =>
    obtain ⟨k, hk, rfl, rfl⟩ := hrel
    by_cases hlt : k < l
    · have hb := szL_pos k
      have hn : Hid (szL k * 8 = szL (k + 1)) := by
        show _ = _
        have : k = 0 ∨ k = 1 ∨ k = 2 := by omega
        rcases this with rfl | rfl | rfl <;> rfl
      obtain ⟨z, hz⟩ : ∃ z, z = szL k := ⟨_, rfl⟩
      rw [← hz] at hb hn ⊢
      obtain ⟨b0, b1⟩ := hb
      clear hz
      go_wp2
      go_round
      case rel => exact ⟨k + 1, by omega, by go_num, by rw [hn.out]⟩
      case measure => simp [intOf]; omega
    · obtain rfl : k = l := by omega
      go_wp2
      go_ret
      exact ⟨rfl, rfl⟩
/-- What is wrong with a block. -/
def wrO (g o : Int) : Int := if ¬ (o = 0 ∨ o = 3 ∨ o = 6) then 2 else if g < 0 ∨ 4095 < g then 3 else if g % szO o = 0 then 0 else 2
theorem wrO_ok {g o : Int} (h : wrO g o = 0) : (o = 0 ∨ o = 3 ∨ o = 6) ∧ 0 ≤ g ∧ g ≤ 4095 ∧ g % szO o = 0 := by
  unfold wrO at h
  split at h
  · omega
  rename_i h1
  split at h
  · omega
  rename_i h2
  split at h
  · rename_i h3
    exact ⟨Classical.not_not.1 h1, by omega, by omega, h3⟩
  · omega
theorem wrong8_any (g o : Int) (w : World) : Calls Try.prog 62 #[.int .i64 g, .int .i64 o] w fun e w' => e = .returned (.int .i64 (wrO g o)) ∧ w = w' := by
  by_cases ho : o = 0 ∨ o = 3 ∨ o = 6
  · by_cases h0 : g < 0
    · have hw : wrO g o = 3 := by simp [wrO, ho, h0]
      rw [hw]
      clear hw
      rcases ho with rfl | rfl | rfl
      all_goals
        go_enter Try.func62, Try.ntmps62
        go_wp2
        go_ret
        exact ⟨rfl, rfl⟩
    · by_cases h1 : 4095 < g
      · have hw : wrO g o = 3 := by simp [wrO, ho, h1]
        have h0' : 0 ≤ g := by omega
        rw [hw]
        clear hw h0
        rcases ho with rfl | rfl | rfl
        all_goals
          go_enter Try.func62, Try.ntmps62
          go_wp2
          go_ret
          exact ⟨rfl, rfl⟩
      · obtain ⟨n, rfl⟩ : ∃ n : Nat, g = n := ⟨g.toNat, by omega⟩
        have hn : (n : Int) ≤ 4095 := by omega
        have hw : Hid (wrO n o = if (n : Int) % szO o = 0 then 0 else 2) := by show _ = _; unfold wrO; rw [if_neg (fun k => k ho), if_neg (by omega)]
        rw [hw.out]
        clear h0 h1
        cases hz : ((n : Int) % szO o != 0)
        · rw [if_pos (by simpa using hz)]
          rcases ho with rfl | rfl | rfl
          all_goals
            go_enter Try.func62, Try.ntmps62
            go_wp2_with (go_at_call 81; refine (size8_any _ _).mono ?_; rintro e w' ⟨rfl, rfl⟩)
            go_ret
            exact ⟨rfl, rfl⟩
        · rw [if_neg (by simpa using hz)]
          rcases ho with rfl | rfl | rfl
          all_goals
            go_enter Try.func62, Try.ntmps62
            go_wp2_with (go_at_call 81; refine (size8_any _ _).mono ?_; rintro e w' ⟨rfl, rfl⟩)
            go_ret
            exact ⟨rfl, rfl⟩
  · have hw : wrO g o = 2 := by simp [wrO, ho]
    rw [hw]
    have k0 : (o != 0) = true := by simp; omega
    have k3 : (o != 3) = true := by simp; omega
    have k6 : (o != 6) = true := by simp; omega
    clear hw ho
    go_enter Try.func62, Try.ntmps62
    go_wp2
    go_ret
    exact ⟨rfl, rfl⟩

/-! A root's leaves by the document. -/
structure RefT (w : World) (C x : Nat) (v : Value) (L : List Mp) : Prop where
  top : Row w x 69 [v]
  ms : Ms w C v L
  ok : ∀ m ∈ L, MOk m
  len : L.length ≤ 5000
theorem RefT.call {w w' : World} {C x : Nat} {v : Value} {L : List Mp} (h : RefT w C x v L) (hb : Below w.heap.size w w') : RefT w' C x v L := ⟨h.top.below hb h.top.lt, h.ms.call hb, h.ok, h.len⟩
/-- Which leaf a page has: none, or one of them. -/
def Found (L : List Mp) (i : Int) : Prop := i = -1 ∨ ∃ k : Nat, i = k ∧ k < L.length
section
variable {w : World} {C x : Nat} {v : Value} {L : List Mp}
set_option maxHeartbeats 1000000 in
theorem holds_any (h : RefT w C x v L) (q : Int) (q0 : 0 ≤ q) (q1 : q ≤ 5000) : Calls Try.prog 83 #[.pointer (some ⟨x, 0, none⟩), .int .i64 q] w fun e w' => (∃ i, e = .returned (.int .i64 i) ∧ Found L i) ∧ ∃ n, w' = w.drewN n := by
  obtain ⟨A, c, rfl⟩ := h.ms.form
  have hc : w.cell? ⟨x, 0, none⟩ = some (.slice A L.length c) := h.top.cell 0
  have HM := Lib.hid h.ms
  have HO := Lib.hid h.ok
  have HL := Lib.hid h.len
  obtain ⟨N, hN⟩ : ∃ N, N = L.length := ⟨_, rfl⟩
  have HN := Lib.hid hN
  rw [← hN] at hc
  have hn5 : N ≤ 5000 := by rw [hN]; exact h.len
  clear h hN
  go_enter Try.func83, Try.ntmps83
  go_wp2
  go_loopw [5] (fun i wr => ∃ j k : Nat, j ≤ N ∧ i = .int .i64 j ∧ wr = w.drewN k) (fun i _ => N - (intOf i).toNat)
  case atStart => exact ⟨0, 0, Nat.zero_le _, rfl, rfl⟩
  case round =>
    obtain ⟨j, k, hj, rfl, rfl⟩ := hrel
    have hcw : (w.drewN k).cell? ⟨x, 0, none⟩ = some (.slice A N c) := hc
    by_cases hlt : j < N
    · obtain ⟨a, rfl, -, -, m0, m1, -⟩ := HM.out.at_ j (by rw [← HN.out]; exact hlt)
      have hok := HO.out (L[j]'(by rw [← HN.out]; exact hlt)) (List.getElem_mem _)
      obtain ⟨g, hg⟩ : ∃ g, g = (L[j]'(by rw [← HN.out]; exact hlt)).g := ⟨_, rfl⟩
      obtain ⟨o, ho⟩ : ∃ o, o = (L[j]'(by rw [← HN.out]; exact hlt)).o := ⟨_, rfl⟩
      have g0 : 0 ≤ g := by rw [hg]; exact hok.g0
      have g1 : g ≤ 4095 := by rw [hg]; exact hok.g1
      rw [← hg] at m0
      rw [← ho] at m1
      have M0 : (w.drewN k).cell? (a.add (j * 9)) = some (.int .i64 g) := m0
      have M1 : (w.drewN k).cell? ⟨(a.add (j * 9)).block, (a.add (j * 9)).off + 1, none⟩ = some (.int .i64 o) := m1
      obtain ⟨w1, ew⟩ : ∃ w1, w1 = w.drewN k := ⟨_, rfl⟩
      have HW := Lib.hid ew
      rw [← ew] at hcw M0 M1 ⊢
      clear hok hg ho m0 m1 ew hc
      by_cases hle : g ≤ q
      · have hd : decide (g ≤ q) = true := by simpa using hle
        have hwr : IntKind.i64.wrap (q - g) = q - g := IntWalk.i64_in _ (by omega)
        by_cases hin : q - g < szO o
        · have hd2 : decide (q - g < szO o) = true := by simpa using hin
          go_wp2_with fail
          go_quiet ((go_at_call 81; exact Calls.quiet_of_same (size8_q _ _)))
          go_wp2_with fail
          go_ret
          exact ⟨⟨_, rfl, Or.inr ⟨j, rfl, by rw [← HN.out]; exact hlt⟩⟩, k + nq, by rw [HW.out, drewN_add]⟩
        · have hd2 : decide (q - g < szO o) = false := by simpa using hin
          go_wp2_with fail
          go_quiet ((go_at_call 81; exact Calls.quiet_of_same (size8_q _ _)))
          go_wp2_with fail
          clear hwr
          go_roundw
          case rel => exact ⟨j + 1, k + nq, by omega, by go_num, by rw [HW.out, drewN_add]⟩
          case measure => simp [intOf]; omega
      · have hd : decide (g ≤ q) = false := by simpa using hle
        go_wp2_with fail
        go_quiet ((go_at_call 81; exact Calls.quiet_of_same (size8_q _ _)))
        go_wp2_with fail
        go_roundw
        case rel => exact ⟨j + 1, k + nq, by omega, by go_num, by rw [HW.out, drewN_add]⟩
        case measure => simp [intOf]; omega
    · go_wp2
      go_ret
      exact ⟨⟨_, rfl, Or.inl rfl⟩, k, rfl⟩
end
end Go.Proofs.Ytnlimecbbockoaa
