/- The contract of the reference's Cut: it takes, from the left, the greatest block that there is room for. -/
import Derived.Test.YtbieecclnjpnpaaGf
namespace Go.Proofs.Ytbieecclnjpnpaa
open Go.RowKit

theorem ev_nat (a k : Nat) (hk : k ≤ 8) : evB a k = decide (a % 2 ^ k = 0) := by
  have ho : ordB k = true := by simp only [ordB, decide_eq_true_eq]; omega
  simp only [evB, ho, Bool.true_and, Int.toNat_natCast]
  rw [Bool.eq_iff_iff, decide_eq_true_eq, decide_eq_true_eq]
  have e : ((a : Int) % 2 ^ k) = ((a % 2 ^ k : Nat) : Int) := by simp
  rw [e]; omega
theorem sz_nat (k : Nat) (hk : k ≤ 8) : szI k = (2 ^ k : Nat) := by
  have ho : ordB k = true := by simp only [ordB, decide_eq_true_eq]; omega
  simp [szI, ho]
/-- The next greater order does, or does not. -/
theorem gk_more {a n o k : Nat} (ho : o ≤ 8) (hk : k = 0 ∨ k = 3 ∨ k = 6) (h : k < gk a n o) : k + 3 ≤ gk a n o ∧ k + 3 ≤ 6 ∧ k + 3 ≤ o ∧ evB a (k + 3 : Nat) = true ∧ 2 ^ (k + 3) ≤ n := by
  rcases hk with rfl | rfl | rfl
  · rw [ev_nat a 3 (by omega)]
    unfold gk at h ⊢
    split at h
    · rw [if_pos (by omega)]; exact ⟨by omega, by omega, by omega, by simp; omega, by omega⟩
    · split at h
      · rw [if_neg (by omega), if_pos (by omega)]; exact ⟨by omega, by omega, by omega, by simp; omega, by omega⟩
      · omega
  · rw [ev_nat a 6 (by omega)]
    unfold gk at h ⊢
    split at h
    · rw [if_pos (by omega)]; exact ⟨by omega, by omega, by omega, by simp; omega, by omega⟩
    · split at h <;> omega
  · unfold gk at h
    split at h
    · omega
    · split at h <;> omega
theorem gk_stop {a n o k : Nat} (ho : o ≤ 8) (h : k = gk a n o) : o < k + 3 ∨ (k + 3 ≤ o ∧ k + 3 ≤ 6 ∧ evB a (k + 3 : Nat) = false) ∨ (k + 3 ≤ o ∧ k + 3 ≤ 6 ∧ evB a (k + 3 : Nat) = true ∧ n < 2 ^ (k + 3)) := by
  unfold gk at h
  split at h
  · subst h; left; omega
  · split at h
    · subst h
      by_cases h6 : o < 6
      · left; omega
      · rw [ev_nat a 6 (by omega)]
        by_cases h7 : a % 64 = 0
        · right; right; exact ⟨by omega, by omega, by simp; omega, by omega⟩
        · right; left; exact ⟨by omega, by omega, by simp; omega⟩
    · subst h
      by_cases h6 : o < 3
      · left; omega
      · rw [ev_nat a 3 (by omega)]
        by_cases h7 : a % 8 = 0
        · right; right; exact ⟨by omega, by omega, by simp; omega, by omega⟩
        · right; left; exact ⟨by omega, by omega, by simp; omega⟩
theorem gk_kind (a n o : Nat) : gk a n o = 0 ∨ gk a n o = 3 ∨ gk a n o = 6 := by
  unfold gk; repeat' split
  all_goals omega
set_option maxHeartbeats 1000000 in
theorem refCut_ok (x m o : Nat) (h1 : 1 ≤ x) (h2 : 1 ≤ m) (hs : x + m ≤ 4096) (ho : o ≤ 8) (hr0 : rtI x m 0 = 0) (w : World) : Calls Try.prog 23 #[.int .i64 x, .int .i64 m, .int .i64 o] w (SomeBlks w (gr x m o)) := by
  obtain ⟨i0, hi0, hz0, hz1, hz2⟩ := info_parts info_block
  have hr := fun w => refRight_any (x : Int) (m : Int) 0 (by omega) (by omega) (by omega) (by omega) w
  rw [hr0] at hr
  have hz := fun w => size_any (o : Int) w
  have hp : szI (o : Int) = (2 ^ o : Nat) := sz_nat o ho
  have hpb : 1 ≤ 2 ^ o := Nat.one_le_two_pow
  have hpb2 : 2 ^ o ≤ 256 := Nat.pow_le_pow_right (by omega) ho
  obtain ⟨z, ez⟩ : ∃ z, z = 2 ^ o := ⟨_, rfl⟩
  rw [hp, ← ez] at hz
  rw [← ez] at hpb hpb2
  have hzb : ((z : Int) == 0) = false := by simp; omega
  clear hp ez hr0
  go_enter Try.func23, Try.ntmps23
  go_wp2_with (first | (go_at_call 20; refine (hr _).mono ?_; rintro e w' ⟨rfl, rfl⟩) | (go_at_call 25; refine (hz _).mono ?_; rintro e w' ⟨rfl, rfl⟩))
  clear hr hz hpb hpb2
  go_loopw [0, 1, 7] (fun at_ n_ v wr => ∃ (a n : Nat) (P : List (Nat × Nat)), at_ = .int .i64 a ∧ n_ = .int .i64 n ∧ Hid (a + n = x + m) ∧ Hid (gr x m o = P ++ gr a n o) ∧ wr.ownsRow w.heap.size 41 2 v P.length (bcells P) ∧ (v = .slice none 0 0 ↔ P.length = 0) ∧ Below w.heap.size w wr) (fun _ n_ _ _ => (intOf n_).toNat)
  case atStart => exact ⟨x, m, [], rfl, rfl, rfl, rfl, World.ownsRow_nil _ _ _ _, by simp, Below.refl _ _⟩
  case round =>
    obtain ⟨a, n, P, rfl, rfl, HA, HG, hown, hnil, hb⟩ := hrel
    have HN := Lib.hid hnil
    have HB := Lib.hid hb
    have hsz := hb.size
    clear hnil hb
    by_cases hn : 0 < n
    · have ha : a ≤ 4096 := by have := HA.out; omega
      have hn4 : n ≤ 4096 := by have := HA.out; omega
      go_wp2_with fail
      go_loop [8] (fun k_ => ∃ k : Nat, (k = 0 ∨ k = 3 ∨ k = 6) ∧ k_ = .int .i64 k ∧ Hid (k ≤ gk a n o)) (fun k_ => 9 - (intOf k_).toNat)
      case atStart => exact ⟨0, Or.inl rfl, rfl, Nat.zero_le _⟩
      case round =>
        obtain ⟨k, hk, rfl, HK⟩ := hrel
        have hk6 : k ≤ 6 := by omega
        by_cases hg : k < gk a n o
        · obtain ⟨g1, g2, g3, g4, g5⟩ := gk_more ho hk hg
          have he := fun w => refEven_any (o := (k : Int) + 3) (a : Int) (by omega) (by omega) w
          rw [show ((k + 3 : Nat) : Int) = (k : Int) + 3 by omega] at g4
          rw [g4] at he
          have hz := fun w => size_any ((k : Int) + 3) w
          have hp : szI ((k : Int) + 3) = (2 ^ (k + 3) : Nat) := by have := sz_nat (k + 3) (by omega); rwa [show ((k + 3 : Nat) : Int) = (k : Int) + 3 by omega] at this
          obtain ⟨z, ez⟩ : ∃ z, z = 2 ^ (k + 3) := ⟨_, rfl⟩
          rw [hp, ← ez] at hz
          rw [← ez] at g5
          have HK2 : Hid (k + 3 ≤ gk a n o) := g1
          clear hp ez g4 g1 hg HK
          go_wp2_with (first | (go_at_call 18; with_reducible refine (he _).mono ?_; rintro e w' ⟨rfl, rfl⟩) | (go_at_call 25; with_reducible refine (hz _).mono ?_; rintro e w' ⟨rfl, rfl⟩))
          go_round
          case rel => exact ⟨k + 3, by omega, by go_num, HK2.out⟩
          case measure => simp [intOf]; omega
        · have hkg : k = gk a n o := by have := HK.out; omega
          have hfit : 2 ^ k ≤ n := by rw [hkg]; exact gk_le hn
          have hpos : 1 ≤ 2 ^ k := Nat.one_le_two_pow
          have hq := fun w => size_any (k : Int) w
          have hsk : szI (k : Int) = (2 ^ k : Nat) := sz_nat k (by omega)
          have HST := Lib.hid (gr_step a n o hn)
          have hst := gk_stop ho hkg
          rw [← hkg] at HST
          obtain ⟨s, es⟩ : ∃ s, s = 2 ^ k := ⟨_, rfl⟩
          have hPl : P.length < 4096 := by
            have h1 := gr_len m x m o (Nat.le_refl _)
            rw [HG.out, List.length_append, HST.out, List.length_cons] at h1
            omega
          rw [hsk, ← es] at hq
          rw [← es] at HST hfit hpos
          clear hsk es hkg hg HK
          rcases hst with g0 | ⟨g0, g6, g4⟩ | ⟨g0, g6, g4, g5⟩
          · have g0' : (o : Int) < (k : Int) + 3 := by omega
            go_wp2_with (first | (go_at_call 25; with_reducible refine (hq _).mono ?_; rintro e w' ⟨rfl, rfl⟩) | (at_builtin; refine wpList_append_own _ rfl _ _ 38 rfl w.heap.size 41 i0 (.agg #[.int .i64 0, .int .i64 0]) 2 16 Try.underlying38 hi0 hz0 hz1 hz2 rfl (by decide) _ P.length (bcells P) rfl (hown.alloc _) ⟨wr.heap.size, 0, none⟩ 1 1 [.int .i64 a, .int .i64 k] rfl rfl (new_cells wr a k) (two_one a k) (by unfold maxLen; omega) (by omega) (by simp; omega) ?_; intro v' w2 hown2 hgr hn2; have HO := Lib.hid hown2; have HB3 := Lib.hid (own_below (HB.out.alloc hsz _) (HB.out.alloc hsz _).size (hown.alloc _) hgr); have HN2 := Lib.hid (hn2.trans ⟨fun h => (by have := h.2; omega : P.length + 1 = 0), fun h => by omega⟩); clear hown hown2 hgr hn2 HB HN hsz))
            go_roundw
            case rel => exact ⟨a + s, n - s, P ++ [(a, k)], by go_num, congrArg (Value.int .i64) (by omega), (by have := HA.out; show _ = _; omega), (by show _ = _; rw [HG.out, HST.out, List.append_assoc]; rfl), by rw [List.length_append, bcells_append]; exact HO.out, by rw [List.length_append]; exact HN2.out, HB3.out⟩
            case measure => simp [intOf]; omega
          · have he := fun w => refEven_any (o := (k : Int) + 3) (a : Int) (by omega) (by omega) w
            rw [show ((k + 3 : Nat) : Int) = (k : Int) + 3 by omega] at g4
            rw [g4] at he
            clear g4
            go_wp2_with (first | (go_at_call 18; with_reducible refine (he _).mono ?_; rintro e w' ⟨rfl, rfl⟩) | (go_at_call 25; with_reducible refine (hq _).mono ?_; rintro e w' ⟨rfl, rfl⟩) | (at_builtin; refine wpList_append_own _ rfl _ _ 38 rfl w.heap.size 41 i0 (.agg #[.int .i64 0, .int .i64 0]) 2 16 Try.underlying38 hi0 hz0 hz1 hz2 rfl (by decide) _ P.length (bcells P) rfl (hown.alloc _) ⟨wr.heap.size, 0, none⟩ 1 1 [.int .i64 a, .int .i64 k] rfl rfl (new_cells wr a k) (two_one a k) (by unfold maxLen; omega) (by omega) (by simp; omega) ?_; intro v' w2 hown2 hgr hn2; have HO := Lib.hid hown2; have HB3 := Lib.hid (own_below (HB.out.alloc hsz _) (HB.out.alloc hsz _).size (hown.alloc _) hgr); have HN2 := Lib.hid (hn2.trans ⟨fun h => (by have := h.2; omega : P.length + 1 = 0), fun h => by omega⟩); clear hown hown2 hgr hn2 HB HN hsz))
            go_roundw
            case rel => exact ⟨a + s, n - s, P ++ [(a, k)], by go_num, congrArg (Value.int .i64) (by omega), (by have := HA.out; show _ = _; omega), (by show _ = _; rw [HG.out, HST.out, List.append_assoc]; rfl), by rw [List.length_append, bcells_append]; exact HO.out, by rw [List.length_append]; exact HN2.out, HB3.out⟩
            case measure => simp [intOf]; omega
          · have he := fun w => refEven_any (o := (k : Int) + 3) (a : Int) (by omega) (by omega) w
            rw [show ((k + 3 : Nat) : Int) = (k : Int) + 3 by omega] at g4
            rw [g4] at he
            clear g4
            have hz := fun w => size_any ((k : Int) + 3) w
            have hp : szI ((k : Int) + 3) = (2 ^ (k + 3) : Nat) := by have := sz_nat (k + 3) (by omega); rwa [show ((k + 3 : Nat) : Int) = (k : Int) + 3 by omega] at this
            have hb8 : 2 ^ (k + 3) ≤ 512 := Nat.pow_le_pow_right (by omega) (by omega : k + 3 ≤ 9)
            obtain ⟨z, ez⟩ : ∃ z, z = 2 ^ (k + 3) := ⟨_, rfl⟩
            rw [hp, ← ez] at hz
            rw [← ez] at g5 hb8
            clear hp ez
            go_wp2_with (first | (go_at_call 18; with_reducible refine (he _).mono ?_; rintro e w' ⟨rfl, rfl⟩) | (go_at_call 25; with_reducible refine (hz _).mono ?_; rintro e w' ⟨rfl, rfl⟩) | (go_at_call 25; with_reducible refine (hq _).mono ?_; rintro e w' ⟨rfl, rfl⟩) | (at_builtin; refine wpList_append_own _ rfl _ _ 38 rfl w.heap.size 41 i0 (.agg #[.int .i64 0, .int .i64 0]) 2 16 Try.underlying38 hi0 hz0 hz1 hz2 rfl (by decide) _ P.length (bcells P) rfl (hown.alloc _) ⟨wr.heap.size, 0, none⟩ 1 1 [.int .i64 a, .int .i64 k] rfl rfl (new_cells wr a k) (two_one a k) (by unfold maxLen; omega) (by omega) (by simp; omega) ?_; intro v' w2 hown2 hgr hn2; have HO := Lib.hid hown2; have HB3 := Lib.hid (own_below (HB.out.alloc hsz _) (HB.out.alloc hsz _).size (hown.alloc _) hgr); have HN2 := Lib.hid (hn2.trans ⟨fun h => (by have := h.2; omega : P.length + 1 = 0), fun h => by omega⟩); clear hown hown2 hgr hn2 HB HN hsz))
            go_roundw
            case rel => exact ⟨a + s, n - s, P ++ [(a, k)], by go_num, congrArg (Value.int .i64) (by omega), (by have := HA.out; show _ = _; omega), (by show _ = _; rw [HG.out, HST.out, List.append_assoc]; rfl), by rw [List.length_append, bcells_append]; exact HO.out, by rw [List.length_append]; exact HN2.out, HB3.out⟩
            case measure => simp [intOf]; omega
    · obtain rfl : n = 0 := by omega
      have HGP : Hid (gr x m o = P) := by show _ = _; rw [HG.out, gr_zero, List.append_nil]
      have HO := Lib.hid hown
      clear hown HG HA hsz
      go_wp2_with fail
      go_ret
      exact ⟨_, rfl, by rw [HGP.out]; exact HO.out, by rw [HGP.out]; exact HN.out, HB.out⟩
theorem refCut_any (a n o : Int) (al : -9223372036854775808 ≤ a) (ah : a ≤ 9223372036854775807) (nl : -9223372036854775808 ≤ n) (nh : n ≤ 9223372036854775807) (w : World) : Calls Try.prog 23 #[.int .i64 a, .int .i64 n, .int .i64 o] w (SomeBlks w (cutL a n o)) := by
  have hr := refRight_any a n 0 al ah nl nh
  by_cases h : rtI a n 0 = 0
  · rcases Bool.eq_false_or_eq_true (ordB o) with h2 | h2
    · have hL : cutL a n o = gr a.toNat n.toNat o.toNat := by simp [cutL, h, h2]
      obtain ⟨a1, n1, an⟩ := rt_ok h
      rw [hL]
      obtain ⟨x, rfl⟩ : ∃ x : Nat, a = x := ⟨a.toNat, by omega⟩
      obtain ⟨m, rfl⟩ : ∃ m : Nat, n = m := ⟨n.toNat, by omega⟩
      obtain ⟨k, rfl, hk⟩ := ord_nat h2
      exact refCut_ok x m k (by omega) (by omega) (by omega) hk h w
    · have hL : cutL a n o = [] := by simp [cutL, h2]
      rw [hL]
      rw [h] at hr
      have hz := fun w => size_any o w
      rw [szI_no h2] at hz
      clear h2 hL h
      go_enter Try.func23, Try.ntmps23
      go_wp2_with (first | (go_at_call 20; with_reducible refine (hr _).mono ?_; rintro e w' ⟨rfl, rfl⟩) | (go_at_call 25; with_reducible refine (hz _).mono ?_; rintro e w' ⟨rfl, rfl⟩))
      go_ret
      exact someBlks_nil _
  · have hL : cutL a n o = [] := by simp [cutL, h]
    rw [hL]
    have hb : (rtI a n 0 != 0) = true := by simp [h]
    clear h hL
    go_enter Try.func23, Try.ntmps23
    go_wp2_with (go_at_call 20; with_reducible refine (hr _).mono ?_; rintro e w' ⟨rfl, rfl⟩)
    go_ret
    exact someBlks_nil _
end Go.Proofs.Ytbieecclnjpnpaa
