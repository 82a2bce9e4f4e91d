/- The contracts of Cut, of the reference's Cut, and of its look at two lists of blocks that are the same. -/
import Derived.Test.YtbieecclnjpnpaaGe
namespace Go.Proofs.Ytbieecclnjpnpaa
open Go.RowKit

/-- The blocks of a stretch. -/
def cutL (a n o : Int) : List (Nat × Nat) := if rtI a n 0 = 0 ∧ ordB o = true then gr a.toNat n.toNat o.toNat else []
theorem rt_ok {a n : Int} (h : rtI a n 0 = 0) : 1 ≤ a ∧ 1 ≤ n ∧ a + n ≤ 4096 := by
  unfold rtI at h
  by_cases h1 : n < 1
  · rw [if_pos h1] at h; omega
  · rw [if_neg h1] at h
    split at h
    · omega
    · split at h
      · omega
      · split at h
        · omega
        · omega
theorem cutL_len (a n o : Int) : (cutL a n o).length ≤ 4096 := by
  unfold cutL
  split
  · rename_i h
    have := rt_ok h.1
    have := gr_len n.toNat a.toNat n.toNat o.toNat (Nat.le_refl _)
    omega
  · simp
theorem someBlks_nil (w : World) : SomeBlks w [] (.returned (.slice none 0 0)) w := ⟨_, rfl, World.ownsRow_nil _ _ _ _, by simp, Below.refl _ _⟩
set_option maxHeartbeats 400000 in
theorem cut_any (a n o : Int) (al : -9223372036854775808 ≤ a) (ah : a ≤ 9223372036854775807) (nl : -9223372036854775808 ≤ n) (nh : n ≤ 9223372036854775807) (w : World) : Calls Try.prog 22 #[.int .i64 a, .int .i64 n, .int .i64 o] w (SomeBlks w (cutL a n o)) := by
  have hr := right_any a n 0 al ah nl nh
  by_cases h : rtI a n 0 = 0
  · rw [h] at hr
    rcases Bool.eq_false_or_eq_true (ordB o) with h2 | h2
    · have hL : cutL a n o = gr a.toNat n.toNat o.toNat := by simp [cutL, h, h2]
      obtain ⟨a1, n1, an⟩ := rt_ok h
      rw [hL]
      have hy := isOrder_yes h2
      obtain ⟨x, rfl⟩ : ∃ x : Nat, a = x := ⟨a.toNat, by omega⟩
      obtain ⟨m, rfl⟩ : ∃ m : Nat, n = m := ⟨n.toNat, by omega⟩
      have hs : x + m ≤ 4096 := by omega
      simp only [Int.toNat_natCast]
      clear al ah nl nh h an hL
      rcases ord_cases h2 with rfl | rfl | rfl | rfl | rfl | rfl | rfl | rfl | rfl
      all_goals clear h2
      · have hc : ∀ w, Calls Try.prog 27 #[.int .i64 x, .int .i64 ((x : Int) + m), .int .i64 0] w (SomeBlks w (gr x m 0)) := fun w => by
          have := cut0_any x m (x + m) rfl hs w
          rw [show ((x + m : Nat) : Int) = (x : Int) + m by omega, show gr x m 0 = gr x m 0 from gr_low m x m 0 (Nat.le_refl _) (by omega)] at this
          exact this
        go_enter Try.func22, Try.ntmps22
        go_wp2_with (first | (go_at_call 19; refine (hr _).mono ?_; rintro e w' ⟨rfl, rfl⟩) | (go_at_call 24; refine (hy _).mono ?_; rintro e w' ⟨rfl, rfl⟩))
        refine (hc _).mono ?_
        rintro e w1 ⟨v1, rfl, o1, n1, b1⟩
        have H1 := Lib.hid o1
        have H2 := Lib.hid n1
        have H3 := Lib.hid b1
        clear o1 n1 b1
        go_wp2_with fail
        go_ret
        exact ⟨v1, rfl, H1.out, H2.out, H3.out⟩
      · have hc : ∀ w, Calls Try.prog 27 #[.int .i64 x, .int .i64 ((x : Int) + m), .int .i64 0] w (SomeBlks w (gr x m 1)) := fun w => by
          have := cut0_any x m (x + m) rfl hs w
          rw [show ((x + m : Nat) : Int) = (x : Int) + m by omega, show gr x m 0 = gr x m 1 from gr_low m x m 1 (Nat.le_refl _) (by omega)] at this
          exact this
        go_enter Try.func22, Try.ntmps22
        go_wp2_with (first | (go_at_call 19; refine (hr _).mono ?_; rintro e w' ⟨rfl, rfl⟩) | (go_at_call 24; refine (hy _).mono ?_; rintro e w' ⟨rfl, rfl⟩))
        refine (hc _).mono ?_
        rintro e w1 ⟨v1, rfl, o1, n1, b1⟩
        have H1 := Lib.hid o1
        have H2 := Lib.hid n1
        have H3 := Lib.hid b1
        clear o1 n1 b1
        go_wp2_with fail
        go_ret
        exact ⟨v1, rfl, H1.out, H2.out, H3.out⟩
      · have hc : ∀ w, Calls Try.prog 27 #[.int .i64 x, .int .i64 ((x : Int) + m), .int .i64 0] w (SomeBlks w (gr x m 2)) := fun w => by
          have := cut0_any x m (x + m) rfl hs w
          rw [show ((x + m : Nat) : Int) = (x : Int) + m by omega, show gr x m 0 = gr x m 2 from gr_low m x m 2 (Nat.le_refl _) (by omega)] at this
          exact this
        go_enter Try.func22, Try.ntmps22
        go_wp2_with (first | (go_at_call 19; refine (hr _).mono ?_; rintro e w' ⟨rfl, rfl⟩) | (go_at_call 24; refine (hy _).mono ?_; rintro e w' ⟨rfl, rfl⟩))
        refine (hc _).mono ?_
        rintro e w1 ⟨v1, rfl, o1, n1, b1⟩
        have H1 := Lib.hid o1
        have H2 := Lib.hid n1
        have H3 := Lib.hid b1
        clear o1 n1 b1
        go_wp2_with fail
        go_ret
        exact ⟨v1, rfl, H1.out, H2.out, H3.out⟩
      · have hc : ∀ w, Calls Try.prog 27 #[.int .i64 x, .int .i64 ((x : Int) + m), .int .i64 3] w (SomeBlks w (gr x m 3)) := fun w => by
          have := cut3_any x m (x + m) rfl hs w
          rw [show ((x + m : Nat) : Int) = (x : Int) + m by omega, show gr x m 3 = gr x m 3 from gr_low m x m 3 (Nat.le_refl _) (by omega)] at this
          exact this
        go_enter Try.func22, Try.ntmps22
        go_wp2_with (first | (go_at_call 19; refine (hr _).mono ?_; rintro e w' ⟨rfl, rfl⟩) | (go_at_call 24; refine (hy _).mono ?_; rintro e w' ⟨rfl, rfl⟩))
        refine (hc _).mono ?_
        rintro e w1 ⟨v1, rfl, o1, n1, b1⟩
        have H1 := Lib.hid o1
        have H2 := Lib.hid n1
        have H3 := Lib.hid b1
        clear o1 n1 b1
        go_wp2_with fail
        go_ret
        exact ⟨v1, rfl, H1.out, H2.out, H3.out⟩
      · have hc : ∀ w, Calls Try.prog 27 #[.int .i64 x, .int .i64 ((x : Int) + m), .int .i64 3] w (SomeBlks w (gr x m 4)) := fun w => by
          have := cut3_any x m (x + m) rfl hs w
          rw [show ((x + m : Nat) : Int) = (x : Int) + m by omega, show gr x m 3 = gr x m 4 from gr_low m x m 4 (Nat.le_refl _) (by omega)] at this
          exact this
        go_enter Try.func22, Try.ntmps22
        go_wp2_with (first | (go_at_call 19; refine (hr _).mono ?_; rintro e w' ⟨rfl, rfl⟩) | (go_at_call 24; refine (hy _).mono ?_; rintro e w' ⟨rfl, rfl⟩))
        refine (hc _).mono ?_
        rintro e w1 ⟨v1, rfl, o1, n1, b1⟩
        have H1 := Lib.hid o1
        have H2 := Lib.hid n1
        have H3 := Lib.hid b1
        clear o1 n1 b1
        go_wp2_with fail
        go_ret
        exact ⟨v1, rfl, H1.out, H2.out, H3.out⟩
      · have hc : ∀ w, Calls Try.prog 27 #[.int .i64 x, .int .i64 ((x : Int) + m), .int .i64 3] w (SomeBlks w (gr x m 5)) := fun w => by
          have := cut3_any x m (x + m) rfl hs w
          rw [show ((x + m : Nat) : Int) = (x : Int) + m by omega, show gr x m 3 = gr x m 5 from gr_low m x m 5 (Nat.le_refl _) (by omega)] at this
          exact this
        go_enter Try.func22, Try.ntmps22
        go_wp2_with (first | (go_at_call 19; refine (hr _).mono ?_; rintro e w' ⟨rfl, rfl⟩) | (go_at_call 24; refine (hy _).mono ?_; rintro e w' ⟨rfl, rfl⟩))
        refine (hc _).mono ?_
        rintro e w1 ⟨v1, rfl, o1, n1, b1⟩
        have H1 := Lib.hid o1
        have H2 := Lib.hid n1
        have H3 := Lib.hid b1
        clear o1 n1 b1
        go_wp2_with fail
        go_ret
        exact ⟨v1, rfl, H1.out, H2.out, H3.out⟩
      · have hc : ∀ w, Calls Try.prog 27 #[.int .i64 x, .int .i64 ((x : Int) + m), .int .i64 6] w (SomeBlks w (gr x m 6)) := fun w => by
          have := cut6_any x m (x + m) rfl hs w
          rw [show ((x + m : Nat) : Int) = (x : Int) + m by omega, show gr x m 6 = gr x m 6 from gr_low m x m 6 (Nat.le_refl _) (by omega)] at this
          exact this
        go_enter Try.func22, Try.ntmps22
        go_wp2_with (first | (go_at_call 19; refine (hr _).mono ?_; rintro e w' ⟨rfl, rfl⟩) | (go_at_call 24; refine (hy _).mono ?_; rintro e w' ⟨rfl, rfl⟩))
        refine (hc _).mono ?_
        rintro e w1 ⟨v1, rfl, o1, n1, b1⟩
        have H1 := Lib.hid o1
        have H2 := Lib.hid n1
        have H3 := Lib.hid b1
        clear o1 n1 b1
        go_wp2_with fail
        go_ret
        exact ⟨v1, rfl, H1.out, H2.out, H3.out⟩
      · have hc : ∀ w, Calls Try.prog 27 #[.int .i64 x, .int .i64 ((x : Int) + m), .int .i64 6] w (SomeBlks w (gr x m 7)) := fun w => by
          have := cut6_any x m (x + m) rfl hs w
          rw [show ((x + m : Nat) : Int) = (x : Int) + m by omega, show gr x m 6 = gr x m 7 from gr_low m x m 7 (Nat.le_refl _) (by omega)] at this
          exact this
        go_enter Try.func22, Try.ntmps22
        go_wp2_with (first | (go_at_call 19; refine (hr _).mono ?_; rintro e w' ⟨rfl, rfl⟩) | (go_at_call 24; refine (hy _).mono ?_; rintro e w' ⟨rfl, rfl⟩))
        refine (hc _).mono ?_
        rintro e w1 ⟨v1, rfl, o1, n1, b1⟩
        have H1 := Lib.hid o1
        have H2 := Lib.hid n1
        have H3 := Lib.hid b1
        clear o1 n1 b1
        go_wp2_with fail
        go_ret
        exact ⟨v1, rfl, H1.out, H2.out, H3.out⟩
      · have hc : ∀ w, Calls Try.prog 27 #[.int .i64 x, .int .i64 ((x : Int) + m), .int .i64 6] w (SomeBlks w (gr x m 8)) := fun w => by
          have := cut6_any x m (x + m) rfl hs w
          rw [show ((x + m : Nat) : Int) = (x : Int) + m by omega, show gr x m 6 = gr x m 8 from gr_low m x m 8 (Nat.le_refl _) (by omega)] at this
          exact this
        go_enter Try.func22, Try.ntmps22
        go_wp2_with (first | (go_at_call 19; refine (hr _).mono ?_; rintro e w' ⟨rfl, rfl⟩) | (go_at_call 24; refine (hy _).mono ?_; rintro e w' ⟨rfl, rfl⟩))
        refine (hc _).mono ?_
        rintro e w1 ⟨v1, rfl, o1, n1, b1⟩
        have H1 := Lib.hid o1
        have H2 := Lib.hid n1
        have H3 := Lib.hid b1
        clear o1 n1 b1
        go_wp2_with fail
        go_ret
        exact ⟨v1, rfl, H1.out, H2.out, H3.out⟩
    · have hL : cutL a n o = [] := by simp [cutL, h2]
      rw [hL]
      have hy := isOrder_no h2
      clear h2 hL h
      go_enter Try.func22, Try.ntmps22
      go_wp2_with (first | (go_at_call 19; refine (hr _).mono ?_; rintro e w' ⟨rfl, rfl⟩) | (go_at_call 24; refine (hy _).mono ?_; rintro e w' ⟨rfl, rfl⟩))
      go_ret
      exact someBlks_nil _
  · have hL : cutL a n o = [] := by simp [cutL, h]
    rw [hL]
    have hb : (rtI a n 0 != 0) = true := by simp [h]
    clear h hL
    go_enter Try.func22, Try.ntmps22
    go_wp2_with (go_at_call 19; refine (hr _).mono ?_; rintro e w' ⟨rfl, rfl⟩)
    go_ret
    exact someBlks_nil _

section
variable {w : World} {B B' c c' : Nat} {A A' : Option Addr} {L : List (Nat × Nat)}
theorem same_same (h : BlksAt w B A L) (h' : BlksAt w B' A' L) (hm : L.length ≤ 4096) : Calls Try.prog 21 #[.slice A L.length c, .slice A' L.length c'] w (Drawn (.bool true) w) := by
  have H := Lib.hid h
  have H' := Lib.hid h'
  clear h h'
  obtain ⟨n, en⟩ : ∃ n, n = L.length := ⟨_, rfl⟩
  have HE := Lib.hid en
  rw [← en] at hm ⊢
  clear en
  go_enter Try.func21, Try.ntmps21
  go_wp2
  go_loopw [5] (fun i wr => ∃ j k : Nat, j ≤ n ∧ i = .int .i64 j ∧ wr = w.drewN k) (fun i _ => n - (intOf i).toNat)
  case atStart => exact ⟨0, 0, Nat.zero_le _, rfl, rfl⟩
  case round =>
    obtain ⟨j, k, hj, rfl, rfl⟩ := hrel
    by_cases hlt : j < n
    · obtain ⟨g, rfl, _, hc⟩ := (H.out.drewN k) (by rw [← HE.out]; omega)
      obtain ⟨g', rfl, _, hc'⟩ := (H'.out.drewN k) (by rw [← HE.out]; omega)
      obtain ⟨c0, c1⟩ := hc j (by rw [← HE.out]; omega)
      obtain ⟨e0, e1⟩ := hc' j (by rw [← HE.out]; omega)
      obtain ⟨x, ex⟩ : ∃ x, x = (L.getD j (0, 0)).1 := ⟨_, rfl⟩
      obtain ⟨y, ey⟩ : ∃ y, y = (L.getD j (0, 0)).2 := ⟨_, rfl⟩
      rw [← ex] at c0 e0
      rw [← ey] at c1 e1
      obtain ⟨w1, ew⟩ : ∃ w1, w1 = w.drewN k := ⟨_, rfl⟩
      rw [← ew] at c0 c1 e0 e1 ⊢
      have HW := Lib.hid ew
      clear ex ey ew hc hc'
      go_wp2_with fail
      go_quiet (fail)
      go_wp2_with fail
      go_roundw
      case rel => exact ⟨j + 1, k + _, by omega, by go_num, by rw [HW.out, drewN_add]⟩
      case measure => simp [intOf]; omega
    · go_wp2
      go_ret
      exact ⟨rfl, k, rfl⟩
end
end Go.Proofs.Ytbieecclnjpnpaa
