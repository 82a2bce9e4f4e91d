/- The contracts of the reference of package walk on one entry: what is read, what is laid. -/
import Derived.Test.YtaphihoomipdaaaWa
import Derived.Deep.Cut
namespace Go.Proofs.Ytaphihoomipdaaa
open Go.RowKit
section
variable {w : World} {a b n : Nat} {T : TypeId} {ws : List Int}
set_option maxHeartbeats 800000 in
theorem refWord_any (h : RamAt w a b T n ws) (t i : Int) : Calls Try.prog 10 #[.pointer (some ⟨a, 0, none⟩), .int .i64 t, .int .i64 i] w fun e w' => e = .returned (.tuple #[unE (wd ws t i), .int .i64 (wdE n (wd ws t i) t i)]) ∧ Below w.heap.size w w' := by
  have H1 := h.alloc (.cells #[.int .i64 0, .bool false, .bool false, .bool false, .bool false, .bool false, .bool false] 24)
  have r1 := Row.new w 24 [.int .i64 0, .bool false, .bool false, .bool false, .bool false, .bool false, .bool false]
  have B1 := Lib.hid (below_new w 24 [.int .i64 0, .bool false, .bool false, .bool false, .bool false, .bool false, .bool false])
  obtain ⟨w1, hw⟩ : ∃ w1, w1 = w.alloc (.cells #[.int .i64 0, .bool false, .bool false, .bool false, .bool false, .bool false, .bool false] 24) := ⟨_, rfl⟩
  have HW := Lib.hid hw
  rw [show (w.alloc (.cells ([.int .i64 0, .bool false, .bool false, .bool false, .bool false, .bool false, .bool false] : List Value).toArray 24)) = w1 from hw.symm] at r1 B1
  rw [← hw] at H1
  clear hw
  by_cases hi : inT n t i = true
  · have hwd := Lib.hid (wd_bound h.words t i)
    obtain ⟨x, hx⟩ : ∃ x, x = wd ws t i := ⟨_, rfl⟩
    rw [show wdE n (wd ws t i) t i = unErr x by simp [wdE, hi, hx]]
    rw [inT_iff] at hi
    obtain ⟨h1, h2, h3, h4⟩ := hi
    obtain ⟨ta, rfl⟩ : ∃ k : Nat, t = k := ⟨t.toNat, by omega⟩
    obtain ⟨ib, rfl⟩ : ∃ k : Nat, i = k := ⟨i.toNat, by omega⟩
    have hq : 8 * ta + ib < n := by omega
    have hn := h.hi
    have h4' : ¬ (7 < (ib : Int)) := by omega
    have hc := H1.field
    have hc2 := H1.word hq
    have hval : ws.getD (8 * ta + ib) 0 = x := by
      rw [hx]; unfold wd
      rw [if_pos (inT_iff.2 ⟨by omega, by rw [h.len]; omega, by omega, by omega⟩)]
      congr 1
    rw [hval] at hc2
    rw [← hx] at hwd ⊢
    obtain ⟨f, p, wr, hu, k, u, d, hE⟩ : ∃ f p wr hu k u d, unE x = .agg #[.int .i64 f, .bool p, .bool wr, .bool hu, .bool k, .bool u, .bool d] := ⟨_, _, _, _, _, _, _, rfl⟩
    have HU := Lib.hid hE
    clear hx hval hE h
    go_enter Try.func10, Try.ntmps10
    go_upto_region 1 with (fail)
    rw [← HW.out]
    go_wp2_with (first | (go_at_call 25; refine (refFrames_any H1).mono ?_; rintro e w' ⟨rfl, rfl⟩) | fail)
    refine (runpack_any x _ hwd.out.1 hwd.out.2).mono ?_
    rw [HU.out]
    rintro e w2 ⟨rfl, hb⟩
    have r2 := r1.below hb r1.lt
    have B2 := Lib.hid (B1.out.trans (hb.mono B1.out.size))
    obtain ⟨⟨c0, c1, c2, c3, c4, c5, c6⟩, hf⟩ := r2.seven
    clear hb r2 r1 B1 H1 hc hc2
    go_wp2_with fail
    exact bodyPost_ret (v := .tuple #[.agg #[.int .i64 f, .bool p, .bool wr, .bool hu, .bool k, .bool u, .bool d], .int .i64 (unErr x)]) (by simp [results, Try.results10, go_sem, *]) rfl ⟨by rw [HU.out], below_7 B2.out (Nat.le_refl _)⟩
  · simp only [Bool.not_eq_true] at hi
    have hx : wd ws t i = 0 := wd_out (by rw [h.len]; exact hi)
    rw [hx, un_zero, show wdE n 0 t i = 3 by simp [wdE, hi]]
    unfold agg0
    obtain ⟨⟨c0, c1, c2, c3, c4, c5, c6⟩, hf⟩ := r1.seven
    clear hx h r1
    by_cases h1 : t < 0
    · clear hi
      go_enter Try.func10, Try.ntmps10
      go_upto_region 1 with (fail)
      rw [← HW.out]
      go_wp2_with (go_at_call 25; refine (refFrames_any H1).mono ?_; rintro e w' ⟨rfl, rfl⟩)
      exact bodyPost_ret (v := .tuple #[.agg #[.int .i64 0, .bool false, .bool false, .bool false, .bool false, .bool false, .bool false], .int .i64 3]) (by simp [results, Try.results10, go_sem, *]) rfl ⟨rfl, below_7 B1.out (Nat.le_refl _)⟩
    · have h1' : 0 ≤ t := by omega
      by_cases h2 : (n : Int) / 8 ≤ t
      · clear hi h1
        go_enter Try.func10, Try.ntmps10
        go_upto_region 1 with (fail)
        rw [← HW.out]
        go_wp2_with (go_at_call 25; refine (refFrames_any H1).mono ?_; rintro e w' ⟨rfl, rfl⟩)
        exact bodyPost_ret (v := .tuple #[.agg #[.int .i64 0, .bool false, .bool false, .bool false, .bool false, .bool false, .bool false], .int .i64 3]) (by simp [results, Try.results10, go_sem, *]) rfl ⟨rfl, below_7 B1.out (Nat.le_refl _)⟩
      · have h2' : t < (n : Int) / 8 := by omega
        by_cases h3 : i < 0
        · clear hi h1 h2
          go_enter Try.func10, Try.ntmps10
          go_upto_region 1 with (fail)
          rw [← HW.out]
          go_wp2_with (go_at_call 25; refine (refFrames_any H1).mono ?_; rintro e w' ⟨rfl, rfl⟩)
          exact bodyPost_ret (v := .tuple #[.agg #[.int .i64 0, .bool false, .bool false, .bool false, .bool false, .bool false, .bool false], .int .i64 3]) (by simp [results, Try.results10, go_sem, *]) rfl ⟨rfl, below_7 B1.out (Nat.le_refl _)⟩
        · have h3' : 0 ≤ i := by omega
          have h4 : 7 < i := by
            apply Classical.byContradiction
            intro h4
            have : inT n t i = true := inT_iff.2 ⟨h1', h2', h3', by omega⟩
            rw [this] at hi
            cases hi
          clear hi h1 h2 h3
          go_enter Try.func10, Try.ntmps10
          go_upto_region 1 with (fail)
          rw [← HW.out]
          go_wp2_with (go_at_call 25; refine (refFrames_any H1).mono ?_; rintro e w' ⟨rfl, rfl⟩)
          exact bodyPost_ret (v := .tuple #[.agg #[.int .i64 0, .bool false, .bool false, .bool false, .bool false, .bool false, .bool false], .int .i64 3]) (by simp [results, Try.results10, go_sem, *]) rfl ⟨rfl, below_7 B1.out (Nat.le_refl _)⟩

set_option maxHeartbeats 800000 in
theorem refPut_entry (h : RamAt w a b T n ws) (t i f : Int) (p wr hu k u d : Bool) : Calls Try.prog 19 #[.pointer (some ⟨a, 0, none⟩), .int .i64 t, .int .i64 i, .agg #[.int .i64 f, .bool p, .bool wr, .bool hu, .bool k, .bool u, .bool d]] w
    fun e w' => e = .returned (.int .i64 (ptE n (chkI f p wr hu k u d) t i)) ∧ RamAt w' a b T n (ptL ws t i (chkI f p wr hu k u d) (packI f p wr hu k u d)) ∧ w.grownBy w' (some b) := by
  have H1 := h.alloc (.cells #[.int .i64 f, .bool p, .bool wr, .bool hu, .bool k, .bool u, .bool d] 24)
  by_cases hi : inT n t i = true
  · rw [show ptE n (chkI f p wr hu k u d) t i = chkI f p wr hu k u d by simp [ptE, hi]]
    have hi' := hi
    rw [inT_iff] at hi
    obtain ⟨h1, h2, h3, h4⟩ := hi
    obtain ⟨ta, rfl⟩ : ∃ k : Nat, t = k := ⟨t.toNat, by omega⟩
    obtain ⟨ib, rfl⟩ : ∃ k : Nat, i = k := ⟨i.toNat, by omega⟩
    have hq : 8 * ta + ib < n := by omega
    have hn := h.hi
    have h4' : ¬ (7 < (ib : Int)) := by omega
    have HL := Lib.hid h.len
    have HI := Lib.hid hi'
    have H := Lib.hid h
    by_cases hc : (chkI f p wr hu k u d == 0) = true
    · have hc' : (chkI f p wr hu k u d != 0) = false := by simp at hc; simp [hc]
      have hc0 := chk_zero hc'
      have hr := chk_range hc0
      have hpk := packI_ok hc'
      have hwb := word_bounds f p wr hu k u d hr.1 hr.2
      rw [hpk]
      have HP : Hid (ptL ws ta ib (chkI f p wr hu k u d) (wordI f p wr hu k u d) = ws.set (8 * ta + ib) (wordI f p wr hu k u d)) := by
        show _ = _
        unfold ptL
        rw [h.len, if_pos ⟨hi', hc0⟩]
        congr 1
      have HK := Lib.hid hpk
      have HWB := Lib.hid hwb
      have HC0 := Lib.hid hc0
      clear hc' hr hpk hwb hc0 hi' h
      go_enter Try.func19, Try.ntmps19
      go_wp2_with (first | (go_at_call 25; refine (refFrames_any H1).mono ?_; rintro e w' ⟨rfl, rfl⟩) | fail)
      refine (rpack_any _ _ _ _ _ _ _ _).mono ?_
      rw [HK.out]
      rintro e w1 ⟨rfl, hb⟩
      have B1 : Hid (Below w.heap.size w w1) := ((Below.refl _ _).alloc (Nat.le_refl _) _).trans (hb.mono (by simp))
      have H2 := Lib.hid (H.out.below B1.out H.out.top.lt H.out.row.lt)
      have hcf := H2.out.field
      have hcw := H2.out.word hq
      have hff := H2.out.row.frozen (8 * ta + ib)
      obtain ⟨y, hy⟩ : ∃ y, y = ws.getD (8 * ta + ib) 0 := ⟨_, rfl⟩
      rw [← hy] at hcw
      obtain ⟨v, hv⟩ : ∃ v, v = wordI f p wr hu k u d := ⟨_, rfl⟩
      rw [← hv] at HP HWB ⊢
      have HV := Lib.hid hv
      clear hb H1 hy hv HK
      go_wp2_with fail
      go_ret
      refine ⟨rfl, ?_, grown_trans1 (grown_of_below B1.out) (grown_set _ _ _ _)⟩
      first | rw [HP.out] | rw [← HV.out, HP.out]
      exact H2.out.turned (grown_set _ _ _ _) (by rw [← wcells_set]; exact H2.out.row.set_ _ _) (by simp [HL.out]) (H2.out.words.set_ _ _ HWB.out.1 HWB.out.2)
    · simp only [Bool.not_eq_true] at hc
      have HP : Hid (ptL ws ta ib (chkI f p wr hu k u d) (packI f p wr hu k u d) = ws) := ptL_err (by simpa using hc)
      clear hi' h
      go_enter Try.func19, Try.ntmps19
      go_wp2_with (first | (go_at_call 25; refine (refFrames_any H1).mono ?_; rintro e w' ⟨rfl, rfl⟩) | fail)
      refine (rpack_any _ _ _ _ _ _ _ _).mono ?_
      rintro e w1 ⟨rfl, hb⟩
      have B1 : Hid (Below w.heap.size w w1) := ((Below.refl _ _).alloc (Nat.le_refl _) _).trans (hb.mono (by simp))
      clear hb H1
      go_wp2_with fail
      go_ret
      refine ⟨rfl, ?_, grown_of_below B1.out⟩
      rw [HP.out]
      exact H.out.below B1.out H.out.top.lt H.out.row.lt
  · simp only [Bool.not_eq_true] at hi
    rw [show ptE n (chkI f p wr hu k u d) t i = 3 by simp [ptE, hi], ptL_bad (by rw [h.len]; exact hi)]
    clear h
    by_cases h1 : t < 0
    · clear hi
      go_enter Try.func19, Try.ntmps19
      go_wp2_with (go_at_call 25; refine (refFrames_any H1).mono ?_; rintro e w' ⟨rfl, rfl⟩)
      go_ret
      exact ⟨rfl, H1, grown_of_below ((Below.refl _ _).alloc (Nat.le_refl _) _)⟩
    · have h1' : 0 ≤ t := by omega
      by_cases h2 : (n : Int) / 8 ≤ t
      · clear hi h1
        go_enter Try.func19, Try.ntmps19
        go_wp2_with (go_at_call 25; refine (refFrames_any H1).mono ?_; rintro e w' ⟨rfl, rfl⟩)
        go_ret
        exact ⟨rfl, H1, grown_of_below ((Below.refl _ _).alloc (Nat.le_refl _) _)⟩
      · have h2' : t < (n : Int) / 8 := by omega
        by_cases h3 : i < 0
        · clear hi h1 h2
          go_enter Try.func19, Try.ntmps19
          go_wp2_with (go_at_call 25; refine (refFrames_any H1).mono ?_; rintro e w' ⟨rfl, rfl⟩)
          go_ret
          exact ⟨rfl, H1, grown_of_below ((Below.refl _ _).alloc (Nat.le_refl _) _)⟩
        · have h3' : 0 ≤ i := by omega
          have h4 : 7 < i := by
            apply Classical.byContradiction
            intro h4
            have : inT n t i = true := inT_iff.2 ⟨h1', h2', h3', by omega⟩
            rw [this] at hi
            cases hi
          clear hi h1 h2 h3
          go_enter Try.func19, Try.ntmps19
          go_wp2_with (go_at_call 25; refine (refFrames_any H1).mono ?_; rintro e w' ⟨rfl, rfl⟩)
          go_ret
          exact ⟨rfl, H1, grown_of_below ((Below.refl _ _).alloc (Nat.le_refl _) _)⟩
end
end Go.Proofs.Ytaphihoomipdaaa
