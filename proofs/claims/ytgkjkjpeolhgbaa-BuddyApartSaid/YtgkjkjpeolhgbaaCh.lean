/- What must come at any rate; and the law of a nil one. -/
import Derived.Test.YtgkjkjpeolhgbaaCg
namespace Go.Proofs.Ytgkjkjpeolhgbaa
open Go.RowKit

theorem aw1 : tkV (List.replicate 16 true) 0 = 0 ∧ tkE (List.replicate 16 true) 0 = 0 := by decide
theorem aw2 : (bk (tkL (List.replicate 16 true) 0)).length = 4 := by decide
theorem aw3 : chE (tkL (List.replicate 16 true) 0) 0 0 true = 0 := by decide
theorem aw4 : (bk (chL (tkL (List.replicate 16 true) 0) 0 0 true)).length = 1 := by decide
theorem aw5 : grt (chL (tkL (List.replicate 16 true) 0) 0 0 true) = 4 := by decide
theorem awake_any (w : World) : Calls Try.prog 12 #[] w fun e w' => e = .returned (.bool true) ∧ Below w.heap.size w w' := by
  have A1 := Lib.hid aw1
  have A2 := Lib.hid aw2
  have A3 := Lib.hid aw3
  have A4 := Lib.hid aw4
  have A5 := Lib.hid aw5
  obtain ⟨F0, hF0⟩ : ∃ F0, F0 = List.replicate 16 true := ⟨_, rfl⟩
  have H0 : Hid (F0.length = 16) := by
    show _ = _
    rw [hF0]; simp
  have hN := new_any 16 (by omega) (by omega) w
  unfold Newly at hN
  rw [← hF0] at A1 A2 A3 A4 A5 hN
  clear hF0
  go_enter Try.func12, Try.ntmps12
  go_wp2_with fail
  refine Calls.mono hN ?_
  rintro e w1 ⟨L1, rfl, hb1, hx1, hg1⟩
  have HX1 := Lib.hid hx1
  have HG1 := Lib.hid hg1
  have HB1 := Lib.hid hb1
  clear hx1 hg1 hb1 hN
  generalize hgg : w.heap.size = g at HX1 HB1 ⊢
  have HGG := Lib.hid hgg
  clear hgg
  go_wp2_with fail
  refine Calls.mono (take_any HX1.out HG1.out (by rw [H0.out]; omega) 0) ?_
  rintro e w2 ⟨rfl, ht2, L2, hx2, hg2⟩
  rw [A1.out.1, A1.out.2]
  have HX2 := Lib.hid hx2
  have HG2 := Lib.hid hg2
  have HB2 := Lib.hid (HB1.out.trans ht2.below)
  clear hx2 hg2 ht2 HX1 HG1 HB1
  obtain ⟨F1, hF1⟩ : ∃ F1, F1 = tkL F0 0 := ⟨_, rfl⟩
  have H1 : Hid (F1.length = 16) := by
    show _ = _
    rw [hF1, tkL_length]; exact H0.out
  rw [← hF1] at A2 A3 A4 A5 HG2
  clear hF1
  go_wp2_with fail
  refine Calls.mono (blocks_any HX2.out HG2.out (by rw [H1.out]; omega)) ?_
  rintro e w3 ⟨A3', c3, rfl, hr3, hb3⟩
  have HX3 := Lib.hid (HX2.out.call hb3)
  have HB3 := Lib.hid (HB2.out.trans (hb3.mono HX2.out.lo))
  rw [A2.out]
  clear hr3 hb3 HX2 HB2
  go_wp2_with fail
  refine Calls.mono (give_any HX3.out HG2.out H1.out (by omega) 0 0 (by omega) (by omega)) ?_
  rintro e w4 ⟨rfl, ht4, L4, hx4, hg4⟩
  rw [A3.out]
  have HX4 := Lib.hid hx4
  have HG4 := Lib.hid hg4
  have HB4 := Lib.hid (HB3.out.trans ht4.below)
  clear hx4 hg4 ht4 HX3 HG2 HB3
  obtain ⟨F2, hF2⟩ : ∃ F2, F2 = chL F1 0 0 true := ⟨_, rfl⟩
  have H2 : Hid (F2.length = 16) := by
    show _ = _
    rw [hF2, chL_length]; exact H1.out
  rw [← hF2] at A4 A5 HG4
  clear hF2
  go_wp2_with fail
  refine Calls.mono (blocks_any HX4.out HG4.out (by rw [H2.out]; omega)) ?_
  rintro e w5 ⟨A5', c5, rfl, hr5, hb5⟩
  have HX5 := Lib.hid (HX4.out.call hb5)
  have HB5 := Lib.hid (HB4.out.trans (hb5.mono HX4.out.lo))
  rw [A4.out]
  clear hr5 hb5 HX4 HB4
  go_wp2_with fail
  refine Calls.mono (greatest_any HX5.out HG4.out) ?_
  rintro e w6 ⟨rfl, rfl⟩
  rw [A5.out]
  go_wp2
  go_ret
  exact ⟨rfl, by rw [HGG.out]; exact HB5.out⟩
theorem none_walk (K Fr O N : Int) (H : Bool) (w : World) : Calls Try.prog 8 #[.agg #[.int .i64 K, .int .i64 Fr, .int .i64 O, .int .i64 N, .bool H]] w fun e w' => e = .returned (.bool true) ∧ Below w.heap.size w w' := by
  have hbox : Lrow (w.alloc (.cells #[.int .i64 K, .int .i64 Fr, .int .i64 O, .int .i64 N, .bool H] 30)) w.heap.size 30 [.int .i64 K, .int .i64 Fr, .int .i64 O, .int .i64 N, .bool H] := Lrow.new w _ _
  have HB := Lib.hid hbox
  clear hbox
  go_enter Try.func8, Try.ntmps8
  go_wp2_with (go_at_call 24; refine (take_nil _ _).mono ?_; rintro e w' ⟨rfl, rfl⟩)
  refine Calls.mono (awake_any _) ?_
  rintro e w1 ⟨rfl, hb1⟩
  have hr := HB.out.call hb1
  have c1 := hr.cell 1
  have c2 := hr.cell 2
  have HB1 := Lib.hid (((Below.refl w.heap.size w).alloc (Nat.le_refl _) _).trans (hb1.mono (by simp)))
  clear hb1 hr HB
  go_wp2_with (first | (go_at_call 27; refine (takeAt_nil _ _ _).mono ?_; rintro e w' ⟨rfl, q, rfl⟩) | (go_at_call 28; refine (give_nil _ _ _).mono ?_; rintro e w' ⟨rfl, q2, rfl⟩) | (go_at_call 14; refine (free_nil _).mono ?_; rintro e w' ⟨rfl, rfl⟩) | (go_at_call 16; refine (greatest_nil _).mono ?_; rintro e w' ⟨rfl, rfl⟩) | (go_at_call 20; refine (blocks_nil _).mono ?_; rintro e w' ⟨rfl, rfl⟩) | (go_at_call 18; refine (has_nil _ _).mono ?_; rintro e w' ⟨rfl, rfl⟩))
  go_ret
  exact ⟨rfl, below_dN HB1.out _⟩
end Go.Proofs.Ytgkjkjpeolhgbaa
