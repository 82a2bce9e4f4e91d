/- The reference of package table: sizes, what is wrong with a block, which leaf a page has. -/
import Derived.Test.YtpcpcgbejinlmaaMg12
import Derived.Test.YtpcpcgbejinlmaaMg03
import Derived.Deep.QuietTactic
import Derived.BigQuiet
import Derived.IntWalk
namespace Go.Proofs.Ytpcpcgbejinlmaa
open Go.RowKit
theorem size8_any (o : Int) (w : World) : Calls Try.prog 79 #[.int .i64 o] w fun e w' => e = .returned (.int .i64 (szO o)) ∧ w = w' := by
  by_cases h3 : o = 3
  · subst h3
    go_enter Try.func79, Try.ntmps79
    go_wp2
    go_ret
    exact ⟨rfl, rfl⟩
  · by_cases h6 : o = 6
    · subst h6
      go_enter Try.func79, Try.ntmps79
      go_wp2
      go_ret
      exact ⟨rfl, rfl⟩
    · have hs : szO o = 1 := by simp [szO, h3, h6]
      rw [hs]
      have k3 : (o == 3) = false := by simpa using h3
      have k6 : (o == 6) = false := by simpa using h6
      clear hs h3 h6
      go_enter Try.func79, Try.ntmps79
      go_wp2
      go_ret
      exact ⟨rfl, rfl⟩
theorem size8_q (o : Int) (w : World) : Calls Try.prog 79 #[.int .i64 o] w fun e w' => e = .returned (.int .i64 (szO o)) ∧ w' = w := (size8_any o w).mono fun _ _ h => ⟨h.1, h.2.symm⟩
def szL (l : Nat) : Int := if l = 0 then 1 else if l = 1 then 8 else if l = 2 then 64 else 512
theorem szL_pos (l : Nat) : 1 ≤ szL l ∧ szL l ≤ 512 := by unfold szL; split <;> (try split) <;> (try split) <;> omega
theorem sizeL_any (l : Nat) (hl : l ≤ 3) (w : World) : Calls Try.prog 95 #[.int .i64 l] w fun e w' => e = .returned (.int .i64 (szL l)) ∧ w = w' := by
  go_enter Try.func95, Try.ntmps95
  go_wp2
  go_loop [3, 4] (fun n i => ∃ k : Nat, k ≤ l ∧ i = .int .i64 k ∧ n = .int .i64 (szL k)) (fun _ i => l - (intOf i).toNat)
  case atStart => exact ⟨0, Nat.zero_le _, rfl, rfl⟩
  case round =>
    obtain ⟨k, hk, rfl, rfl⟩ := hrel
    by_cases hlt : k < l
    · have hb := szL_pos k
      have hn : Hid (szL k * 8 = szL (k + 1)) := by
        show _ = _
        have : k = 0 ∨ k = 1 ∨ k = 2 := by omega
        rcases this with rfl | rfl | rfl <;> rfl
      obtain ⟨z, hz⟩ : ∃ z, z = szL k := ⟨_, rfl⟩
      rw [← hz] at hb hn ⊢
      obtain ⟨b0, b1⟩ := hb
      clear hz
      go_wp2
      go_round
      case rel => exact ⟨k + 1, by omega, by go_num, by rw [hn.out]⟩
      case measure => simp [intOf]; omega
    · obtain rfl : k = l := by omega
      go_wp2
      go_ret
      exact ⟨rfl, rfl⟩
def wrO (g o : Int) : Int := if ¬ (o = 0 ∨ o = 3 ∨ o = 6) then 2 else if g < 0 ∨ 4095 < g then 3 else if g % szO o = 0 then 0 else 2
theorem wrO_ok {g o : Int} (h : wrO g o = 0) : (o = 0 ∨ o = 3 ∨ o = 6) ∧ 0 ≤ g ∧ g ≤ 4095 ∧ g % szO o = 0 := by
  unfold wrO at h
  split at h
  · omega
  rename_i h1
  split at h
  · omega
  rename_i h2
  split at h
  · rename_i h3
    exact ⟨Classical.not_not.1 h1, by omega, by omega, h3⟩
  · omega
theorem wrong8_any (g o : Int) (w : World) : Calls Try.prog 60 #[.int .i64 g, .int .i64 o] w fun e w' => e = .returned (.int .i64 (wrO g o)) ∧ w = w' := by
  by_cases ho : o = 0 ∨ o = 3 ∨ o = 6
  · by_cases h0 : g < 0
    · have hw : wrO g o = 3 := by simp [wrO, ho, h0]
      rw [hw]
      clear hw
      rcases ho with rfl | rfl | rfl
      all_goals
        go_enter Try.func60, Try.ntmps60
        go_wp2
        go_ret
        exact ⟨rfl, rfl⟩
    · by_cases h1 : 4095 < g
      · have hw : wrO g o = 3 := by simp [wrO, ho, h1]
        have h0' : 0 ≤ g := by omega
        rw [hw]
        clear hw h0
        rcases ho with rfl | rfl | rfl
        all_goals
          go_enter Try.func60, Try.ntmps60
          go_wp2
          go_ret
          exact ⟨rfl, rfl⟩
      · obtain ⟨n, rfl⟩ : ∃ n : Nat, g = n := ⟨g.toNat, by omega⟩
        have hn : (n : Int) ≤ 4095 := by omega
        have hw : Hid (wrO n o = if (n : Int) % szO o = 0 then 0 else 2) := by show _ = _; unfold wrO; rw [if_neg (fun k => k ho), if_neg (by omega)]
        rw [hw.out]
        clear h0 h1
        cases hz : ((n : Int) % szO o != 0)
        · rw [if_pos (by simpa using hz)]
          rcases ho with rfl | rfl | rfl
          all_goals
            go_enter Try.func60, Try.ntmps60
            go_wp2_with (go_at_call 79; refine (size8_any _ _).mono ?_; rintro e w' ⟨rfl, rfl⟩)
            go_ret
            exact ⟨rfl, rfl⟩
        · rw [if_neg (by simpa using hz)]
          rcases ho with rfl | rfl | rfl
          all_goals
            go_enter Try.func60, Try.ntmps60
            go_wp2_with (go_at_call 79; refine (size8_any _ _).mono ?_; rintro e w' ⟨rfl, rfl⟩)
            go_ret
            exact ⟨rfl, rfl⟩
  · have hw : wrO g o = 2 := by simp [wrO, ho]
    rw [hw]
    have k0 : (o != 0) = true := by simp; omega
    have k3 : (o != 3) = true := by simp; omega
    have k6 : (o != 6) = true := by simp; omega
    clear hw ho
    go_enter Try.func60, Try.ntmps60
    go_wp2
    go_ret
    exact ⟨rfl, rfl⟩
structure RefT (w : World) (C x : Nat) (v : Value) (L : List Mp) : Prop where
  top : Row w x 65 [v]
  ms : Ms w C v L
  ok : ∀ m ∈ L, MOk m
  len : L.length ≤ 5000
section
variable {w : World} {C x : Nat} {v : Value} {L : List Mp}
end
end Go.Proofs.Ytpcpcgbejinlmaa
/- The reference of package table: which leaf a page has, told exactly; the facts that it keeps. -/
namespace Go.Proofs.Ytpcpcgbejinlmaa
open Go.RowKit
structure MK (m : Mp) : Prop where
  g0 : 0 ≤ m.g
  g1 : m.g ≤ 4095
  o : m.o = 0 ∨ m.o = 3 ∨ m.o = 6
  even : m.g % szO m.o = 0
structure RfT (w : World) (C x : Nat) (v : Value) (L : List Mp) : Prop where
  top : Row w x 65 [v]
  ms : Ms w C v L
  ok : ∀ m ∈ L, MK m
  len : L.length ≤ 5000
theorem RfT.call {w w' : World} {C x : Nat} {v : Value} {L : List Mp} (h : RfT w C x v L) (hb : Below w.heap.size w w') : RfT w' C x v L := ⟨h.top.below hb h.top.lt, h.ms.call hb, h.ok, h.len⟩
def hoB (m : Mp) (q : Int) : Bool := decide (m.g ≤ q) && decide (q - m.g < szO m.o)
def hoF (L : List Mp) (q : Int) : Int := match L.findIdx? (fun m => hoB m q) with | some k => (k : Int) | none => -1
section
variable {L : List Mp} {q : Int} {j : Nat}
theorem ho_next (hj : j < L.length) (h : ∀ m ∈ L.take j, hoB m q = false) (k : hoB L[j] q = false) : ∀ m ∈ L.take (j + 1), hoB m q = false := fun m hm => by
  rw [List.take_succ_eq_append_getElem hj, List.mem_append, List.mem_singleton] at hm
  rcases hm with hm | rfl
  · exact h m hm
  · exact k
theorem ho_ret (hj : j < L.length) (h : ∀ m ∈ L.take j, hoB m q = false) (k : hoB L[j] q = true) : Ending.returned (.int .i64 (j : Int)) = .returned (.int .i64 (hoF L q)) := by
  have : L.findIdx? (fun m => hoB m q) = some j := List.findIdx?_eq_some_iff_getElem.2 ⟨hj, k, fun t ht => by
    have := h L[t] (List.mem_take_iff_getElem.2 ⟨t, by omega, rfl⟩)
    simp [this]⟩
  simp only [hoF, this]
theorem ho_none {N : Nat} (hj : N ≤ j) (hN : N = L.length) (h : ∀ m ∈ L.take j, hoB m q = false) : Ending.returned (.int .i64 (-1)) = .returned (.int .i64 (hoF L q)) := by
  have : L.findIdx? (fun m => hoB m q) = none := List.findIdx?_eq_none_iff.2 fun m hm => h m (by rw [List.take_of_length_le (by omega)]; exact hm)
  simp only [hoF, this]
theorem ho_found (L : List Mp) (q : Int) : hoF L q = -1 ∨ ∃ k : Nat, hoF L q = k ∧ ∃ h : k < L.length, hoB L[k] q = true := by
  unfold hoF
  cases e : L.findIdx? (fun m => hoB m q) with
  | none => exact Or.inl rfl
  | some k => exact Or.inr ⟨k, rfl, (List.findIdx?_eq_some_iff_getElem.1 e).1, by simpa using (List.findIdx?_eq_some_iff_getElem.1 e).2.1⟩
end
section
variable {w : World} {C x : Nat} {v : Value} {L : List Mp}
set_option maxHeartbeats 1000000 in
theorem holds_is (h : RfT w C x v L) (q : Int) (q0 : 0 ≤ q) (q1 : q ≤ 5000) : Calls Try.prog 81 #[.pointer (some ⟨x, 0, none⟩), .int .i64 q] w fun e w' => e = .returned (.int .i64 (hoF L q)) ∧ ∃ n, w' = w.drewN n := by
  obtain ⟨A, c, rfl⟩ := h.ms.form
  have hc : w.cell? ⟨x, 0, none⟩ = some (.slice A L.length c) := h.top.cell 0
  have HM := Lib.hid h.ms
  have HO := Lib.hid h.ok
  have HL := Lib.hid h.len
  obtain ⟨N, hN⟩ : ∃ N, N = L.length := ⟨_, rfl⟩
  have HN := Lib.hid hN
  rw [← hN] at hc
  have hn5 : N ≤ 5000 := by rw [hN]; exact h.len
  clear h hN
  go_enter Try.func81, Try.ntmps81
  go_wp2
  go_loopw [5] (fun i wr => ∃ j k : Nat, j ≤ N ∧ i = .int .i64 j ∧ wr = w.drewN k ∧ Hid (∀ m ∈ L.take j, hoB m q = false)) (fun i _ => N - (intOf i).toNat)
  case atStart => exact ⟨0, 0, Nat.zero_le _, rfl, rfl, Lib.hid (fun m hm => by simp at hm)⟩
  case round =>
    obtain ⟨j, k, hj, rfl, rfl, HP⟩ := hrel
    have hcw : (w.drewN k).cell? ⟨x, 0, none⟩ = some (.slice A N c) := hc
    by_cases hlt : j < N
    · obtain ⟨a, rfl, -, -, m0, m1, -⟩ := HM.out.at_ j (by rw [← HN.out]; exact hlt)
      have hok := HO.out (L[j]'(by rw [← HN.out]; exact hlt)) (List.getElem_mem _)
      obtain ⟨g, hg⟩ : ∃ g, g = (L[j]'(by rw [← HN.out]; exact hlt)).g := ⟨_, rfl⟩
      obtain ⟨o, ho⟩ : ∃ o, o = (L[j]'(by rw [← HN.out]; exact hlt)).o := ⟨_, rfl⟩
      have g0 : 0 ≤ g := by rw [hg]; exact hok.g0
      have g1 : g ≤ 4095 := by rw [hg]; exact hok.g1
      rw [← hg] at m0
      rw [← ho] at m1
      have M0 : (w.drewN k).cell? (a.add (j * 9)) = some (.int .i64 g) := m0
      have M1 : (w.drewN k).cell? ⟨(a.add (j * 9)).block, (a.add (j * 9)).off + 1, none⟩ = some (.int .i64 o) := m1
      obtain ⟨w1, ew⟩ : ∃ w1, w1 = w.drewN k := ⟨_, rfl⟩
      have HW := Lib.hid ew
      have hjl : j < L.length := by rw [← HN.out]; exact hlt
      have HB : Hid (hoB (L[j]'hjl) q = (decide (g ≤ q) && decide (q - g < szO o))) := by show _ = _; rw [hg, ho]; rfl
      have HJ := Lib.hid hjl
      rw [← ew] at hcw M0 M1 ⊢
      clear hok hg ho m0 m1 ew hc
      by_cases hle : g ≤ q
      · have hd : decide (g ≤ q) = true := by simpa using hle
        have hwr : IntKind.i64.wrap (q - g) = q - g := IntWalk.i64_in _ (by omega)
        by_cases hin : q - g < szO o
        · have hd2 : decide (q - g < szO o) = true := by simpa using hin
          go_wp2_with fail
          go_quiet ((go_at_call 79; exact Calls.quiet_of_same (size8_q _ _)))
          go_wp2_with fail
          go_ret
          exact ⟨ho_ret HJ.out HP.out (by rw [HB.out, hd, hd2]; rfl), k + nq, by rw [HW.out, drewN_add]⟩
        · have hd2 : decide (q - g < szO o) = false := by simpa using hin
          go_wp2_with fail
          go_quiet ((go_at_call 79; exact Calls.quiet_of_same (size8_q _ _)))
          go_wp2_with fail
          clear hwr
          go_roundw
          case rel => exact ⟨j + 1, k + nq, by omega, by go_num, by rw [HW.out, drewN_add], Lib.hid (ho_next HJ.out HP.out (by rw [HB.out, hd, hd2]; rfl))⟩
          case measure => simp [intOf]; omega
      · have hd : decide (g ≤ q) = false := by simpa using hle
        go_wp2_with fail
        go_quiet ((go_at_call 79; exact Calls.quiet_of_same (size8_q _ _)))
        go_wp2_with fail
        go_roundw
        case rel => exact ⟨j + 1, k + nq, by omega, by go_num, by rw [HW.out, drewN_add], Lib.hid (ho_next HJ.out HP.out (by rw [HB.out, hd]; rfl))⟩
        case measure => simp [intOf]; omega
    · go_wp2
      go_ret
      exact ⟨ho_none (by omega) HN.out HP.out, k, rfl⟩
end
end Go.Proofs.Ytpcpcgbejinlmaa
