/- The law's own first calls come as the document says; the walks of the laws GeoDigits, GeoBack, GeoEven, GeoCuts. -/
import Derived.Test.YtbieecclnjpnpaaGg
namespace Go.Proofs.Ytbieecclnjpnpaa
open Go.RowKit

theorem ints_four (w : World) (a b c d : Int) : IntsAt (w.alloc (.cells #[.int .i64 a, .int .i64 b, .int .i64 c, .int .i64 d] 3)) (w.heap.size + 1) (some ⟨w.heap.size, 0, none⟩) 4 [a, b, c, d] := by
  have h := (Row.new w 3 #[.int .i64 a, .int .i64 b, .int .i64 c, .int .i64 d]).ints [a, b, c, d] 4 rfl (fun j hj => by
    have : j = 0 ∨ j = 1 ∨ j = 2 ∨ j = 3 := by omega
    rcases this with rfl | rfl | rfl | rfl <;> rfl)
  simpa using h
theorem digits_83 (w : World) : Calls Try.prog 9 #[.int .i64 83] w (SomeInts w [0, 1, 2, 3] 0) := by
  have := digits_any 83 w
  rwa [show dgL 83 = [0, 1, 2, 3] from by decide, show dgE 83 = 0 from by decide] at this
theorem down_83 (w : World) : Calls Try.prog 15 #[.int .i64 83, .int .i64 3] w fun e w' => e = .returned (.int .i64 80) ∧ w = w' := by
  have := down_any (o := 3) 83 (by omega) (by omega) w
  rwa [show dnI 83 3 = 80 from by decide] at this
theorem cut_6 (w : World) : Calls Try.prog 22 #[.int .i64 6, .int .i64 20, .int .i64 3] w (SomeBlks w (cutL 6 20 3)) := cut_any 6 20 3 (by omega) (by omega) (by omega) (by omega) w
theorem cut_6_len : (cutL 6 20 3).length = 6 := by decide
theorem page_0123 (w : World) {B c : Nat} {A : Option Addr} (h : IntsAt w B A 4 [0, 1, 2, 3]) : Calls Try.prog 11 #[.slice A 4 c] w fun e w' => e = .returned (.tuple #[.int .i64 83, .int .i64 0]) ∧ w = w' := by
  have := page_any (c := c) h (by intro d hd; simp at hd; rcases hd with rfl | rfl | rfl | rfl <;> omega)
  rwa [show pgI [0, 1, 2, 3] = 83 from by decide, show pgE [0, 1, 2, 3] = 0 from by decide] at this
set_option maxHeartbeats 400000 in
theorem awake_any (W : World) : Calls Try.prog 13 #[] W fun e W' => e = .returned (.bool true) ∧ Below W.heap.size W W' := by
  go_enter Try.func13, Try.ntmps13
  go_wp2_with fail
  refine (digits_83 _).mono ?_
  rintro e w1 ⟨A1, n1, c1, rfl, h1, b1⟩
  obtain rfl : 4 = n1 := h1.len
  have H1 := Lib.hid h1
  have B1 := Lib.hid b1
  clear h1 b1
  go_wp2_with fail
  refine (page_0123 _ (ints_four w1 0 1 2 3)).mono ?_
  rintro e w2 ⟨rfl, e2⟩
  have H2 : Hid (IntsAt w2 w2.heap.size A1 4 [0, 1, 2, 3]) := by
    rw [← e2]; exact H1.out.call ((Below.refl _ _).alloc (Nat.le_refl _) _)
  have B2 : Hid (Below W.heap.size W w2) := by
    rw [← e2]; exact B1.out.alloc B1.out.size _
  clear H1 B1 e2
  go_wp2_with fail
  refine (numbers_same (w := w2.alloc (.cells #[.int .i64 0, .int .i64 1, .int .i64 2, .int .i64 3] 3)) (H2.out.call ((Below.refl _ _).alloc (Nat.le_refl _) _)) (ints_four w2 0 1 2 3) (by unfold maxLen; omega)).mono ?_
  rintro e w3 ⟨rfl, k, e3⟩
  have B3 : Hid (Below W.heap.size W w3) := by
    rw [e3]; exact (B2.out.alloc B2.out.size _).trans (below_drewN _ _)
  clear H2 B2 e3
  go_wp2_with (go_at_call 15; refine (down_83 _).mono ?_; rintro e w' ⟨rfl, rfl⟩)
  refine (cut_6 _).mono ?_
  rintro e w4 ⟨v, rfl, o4, n4, b4⟩
  rw [cut_6_len] at o4
  obtain ⟨A4, d4, rfl⟩ := own_slice o4
  have B4 := Lib.hid (B3.out.trans (b4.mono B3.out.size))
  clear o4 n4 b4 B3
  go_wp2_with fail
  go_ret
  exact ⟨rfl, B4.out⟩

set_option maxHeartbeats 400000 in
theorem digits_walk (p : Int) (A : Option Addr) (n c : Nat) (l : List Int) (W : World) (h : IntsAt W W.heap.size A n l) (hm : n ≤ maxLen) (hi : ∀ d ∈ l, -9223372036854775808 ≤ d ∧ d ≤ 9223372036854775807) :
    Calls Try.prog 3 #[.int .i64 p, .slice A n c] W fun e W' => e = .returned (.bool true) ∧ Below W.heap.size W W' := by
  have H := Lib.hid h
  have HM := Lib.hid hm
  have HI := Lib.hid hi
  clear h hm hi
  go_enter Try.func3, Try.ntmps3
  go_wp2_with fail
  refine (digits_any _ _).mono ?_
  rintro e w1 ⟨A1, n1, c1, rfl, h1, b1⟩
  have H1 := Lib.hid h1
  have B1 := Lib.hid b1
  clear h1 b1
  go_wp2_with fail
  refine (refDigits_any _ _).mono ?_
  rintro e w2 ⟨A2, n2, c2, rfl, h2, b2⟩
  have H3 := Lib.hid (H1.out.call b2)
  have H2 := Lib.hid h2
  have B2 := Lib.hid (B1.out.trans (b2.mono B1.out.size))
  clear h2 b2 H1 B1
  go_wp2_with fail
  refine (page_any (H.out.below B2.out) HI.out).mono ?_
  rintro e w' ⟨rfl, rfl⟩
  go_wp2_with fail
  refine (refPage_any (H.out.below B2.out)).mono ?_
  rintro e w3 ⟨rfl, k, e3⟩
  have H4 : Hid (IntsAt w3 w3.heap.size A1 n1 (dgL p)) := by rw [e3]; exact H3.out.call (below_drewN _ _)
  have H5 : Hid (IntsAt w3 w3.heap.size A2 n2 (dgL p)) := by rw [e3]; exact H2.out.call (below_drewN _ _)
  have B3 : Hid (Below W.heap.size W w3) := by rw [e3]; exact B2.out.trans (below_drewN _ _)
  clear H3 H2 B2 e3
  go_wp2_with fail
  refine (awake_any _).mono ?_
  rintro e w4 ⟨rfl, b4⟩
  obtain rfl : n1 = n2 := by rw [← H4.out.len, ← H5.out.len]
  have H6 := Lib.hid (H4.out.call b4)
  have H7 := Lib.hid (H5.out.call b4)
  have B4 := Lib.hid (B3.out.trans (b4.mono B3.out.size))
  have hn : n1 ≤ maxLen := by
    have := H6.out.len
    unfold dgL at this
    unfold maxLen
    split at this
    · simp at this; omega
    · simp at this; omega
  have HN := Lib.hid hn
  clear b4 H4 H5 B3 hn
  go_wp2_with fail
  refine (numbers_same H6.out H7.out HN.out).mono ?_
  rintro e w5 ⟨rfl, k, e5⟩
  have B5 : Hid (Below W.heap.size W w5) := by rw [e5]; exact B4.out.trans (below_drewN _ _)
  clear e5 H6 H7 B4
  go_wp2_with fail
  go_ret
  exact ⟨rfl, B5.out⟩

set_option maxHeartbeats 400000 in
theorem back_walk (p : Int) (W : World) : Calls Try.prog 4 #[.int .i64 p] W fun e W' => e = .returned (.bool true) ∧ Below W.heap.size W W' := by
  have hd := digits_any p W
  by_cases hp : 0 ≤ p ∧ p ≤ 4095
  · have HB := Lib.hid (dg_back hp)
    have HL : Hid (∀ d ∈ dgL p, -9223372036854775808 ≤ d ∧ d ≤ 9223372036854775807) := by
      intro d hd
      simp only [dgL, if_pos hp, List.mem_cons, List.not_mem_nil, or_false] at hd
      rcases hd with rfl | rfl | rfl | rfl <;> omega
    rw [show dgE p = 0 from by simp only [dgE, if_pos hp]] at hd
    clear hp
    go_enter Try.func4, Try.ntmps4
    go_wp2_with fail
    refine hd.mono ?_
    rintro e w1 ⟨A1, n1, c1, rfl, h1, b1⟩
    have H1 := Lib.hid h1
    have B1 := Lib.hid b1
    clear h1 b1 hd
    go_wp2_with fail
    refine (awake_any _).mono ?_
    rintro e w2 ⟨rfl, b2⟩
    have H2 := Lib.hid (H1.out.call b2)
    have B2 := Lib.hid (B1.out.trans (b2.mono B1.out.size))
    clear H1 B1 b2
    go_wp2_with fail
    have hpg := page_any (c := c1) H2.out HL.out
    rw [HB.out.1, HB.out.2] at hpg
    refine hpg.mono ?_
    rintro e w' ⟨rfl, rfl⟩
    clear hpg
    go_wp2_with fail
    go_ret
    exact ⟨rfl, B2.out⟩
  · rw [show dgE p = 3 from by simp only [dgE, if_neg hp], show dgL p = [] from by simp only [dgL, if_neg hp]] at hd
    clear hp
    go_enter Try.func4, Try.ntmps4
    go_wp2_with fail
    refine hd.mono ?_
    rintro e w1 ⟨A1, n1, c1, rfl, h1, b1⟩
    obtain rfl : 0 = n1 := h1.len
    have B1 := Lib.hid b1
    clear h1 b1 hd
    go_wp2_with fail
    refine (awake_any _).mono ?_
    rintro e w2 ⟨rfl, b2⟩
    have B2 := Lib.hid (B1.out.trans (b2.mono B1.out.size))
    clear B1 b2
    go_wp2_with fail
    refine (awake_any _).mono ?_
    rintro e w3 ⟨rfl, b3⟩
    have B3 := Lib.hid (B2.out.trans (b3.mono B2.out.size))
    clear B2 b3
    go_wp2_with fail
    go_ret
    exact ⟨rfl, B3.out⟩

theorem dnI_lo {o : Int} (p : Int) (hl : -9223372036854775808 ≤ p) : -9223372036854775808 ≤ dnI p o := by
  rcases Bool.eq_false_or_eq_true (ordB o) with h | h
  · rcases ord_cases h with rfl | rfl | rfl | rfl | rfl | rfl | rfl | rfl | rfl
    · show _ ≤ p - p % 1; omega
    · show _ ≤ p - p % 2; omega
    · show _ ≤ p - p % 4; omega
    · show _ ≤ p - p % 8; omega
    · show _ ≤ p - p % 16; omega
    · show _ ≤ p - p % 32; omega
    · show _ ≤ p - p % 64; omega
    · show _ ≤ p - p % 128; omega
    · show _ ≤ p - p % 256; omega
  · simpa [dnI, h] using hl
set_option maxHeartbeats 400000 in
theorem even_walk (a n o : Int) (W : World) (al : -9223372036854775808 ≤ a) (ah : a ≤ 9223372036854775807) (nl : -9223372036854775808 ≤ n) (nh : n ≤ 9223372036854775807) :
    Calls Try.prog 5 #[.int .i64 a, .int .i64 n, .int .i64 o] W fun e W' => e = .returned (.bool true) ∧ Below W.heap.size W W' := by
  have hlo := dnI_lo (o := o) a al
  go_enter Try.func5, Try.ntmps5
  go_wp2_with fail
  refine (awake_any _).mono ?_
  rintro e w1 ⟨rfl, b1⟩
  have B1 := Lib.hid b1
  clear b1
  go_wp2_with (first | (go_at_call 15; refine (down_any a al ah _).mono ?_; rintro e w' ⟨rfl, rfl⟩) | (go_at_call 16; refine (refDown_any a al ah hlo _).mono ?_; rintro e w' ⟨rfl, rfl⟩) | (go_at_call 17; refine (even_any a al ah _).mono ?_; rintro e w' ⟨rfl, rfl⟩) | (go_at_call 18; refine (refEven_any a al ah _).mono ?_; rintro e w' ⟨rfl, rfl⟩) | (go_at_call 19; refine (right_any a n o al ah nl nh _).mono ?_; rintro e w' ⟨rfl, rfl⟩) | (go_at_call 20; refine (refRight_any a n o al ah nl nh _).mono ?_; rintro e w' ⟨rfl, rfl⟩))
  go_ret
  exact ⟨rfl, B1.out⟩

set_option maxHeartbeats 400000 in
theorem cuts_walk (a n o : Int) (W : World) (al : -9223372036854775808 ≤ a) (ah : a ≤ 9223372036854775807) (nl : -9223372036854775808 ≤ n) (nh : n ≤ 9223372036854775807) :
    Calls Try.prog 6 #[.int .i64 a, .int .i64 n, .int .i64 o] W fun e W' => e = .returned (.bool true) ∧ Below W.heap.size W W' := by
  go_enter Try.func6, Try.ntmps6
  go_wp2_with fail
  refine (awake_any _).mono ?_
  rintro e w1 ⟨rfl, b1⟩
  have B1 := Lib.hid b1
  clear b1
  go_wp2_with fail
  refine (cut_any a n o al ah nl nh _).mono ?_
  rintro e w2 ⟨v2, rfl, o2, n2, b2⟩
  obtain ⟨A2, d2, rfl⟩ := own_slice o2
  have H2 := Lib.hid (BlksAt.own o2).2
  have B2 := Lib.hid (B1.out.trans (b2.mono B1.out.size))
  clear o2 n2 b2 B1
  go_wp2_with fail
  refine (refCut_any a n o al ah nl nh _).mono ?_
  rintro e w3 ⟨v3, rfl, o3, n3, b3⟩
  obtain ⟨A3, d3, rfl⟩ := own_slice o3
  have H3 := Lib.hid (BlksAt.own o3).2
  have H4 := Lib.hid (H2.out.call b3)
  have B3 := Lib.hid (B2.out.trans (b3.mono B2.out.size))
  clear o3 n3 b3 B2 H2
  go_wp2_with fail
  refine (same_same H4.out H3.out (cutL_len a n o)).mono ?_
  rintro e w4 ⟨rfl, k, e4⟩
  have B4 : Hid (Below W.heap.size W w4) := by rw [e4]; exact B3.out.trans (below_drewN _ _)
  clear e4 H3 H4 B3
  go_wp2_with fail
  go_ret
  exact ⟨rfl, B4.out⟩
end Go.Proofs.Ytbieecclnjpnpaa
