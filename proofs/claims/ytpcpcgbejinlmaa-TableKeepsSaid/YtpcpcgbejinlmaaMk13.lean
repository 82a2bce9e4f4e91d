/- The contracts of package walk on one entry: its place, what is read there, what is laid there; of the program and of the reference. -/
import Derived.Test.YtpcpcgbejinlmaaMk03
import Derived.Test.YtpcpcgbejinlmaaMk06
import Derived.Test.YtpcpcgbejinlmaaMk07
import Derived.Test.YtpcpcgbejinlmaaMk11
import Derived.Test.YtpcpcgbejinlmaaMk12
import Derived.Deep.Cut
namespace Go.Proofs.Ytpcpcgbejinlmaa
open Go.RowKit
theorem grown_of_below {w w' : World} {row : Option Nat} (h : Below w.heap.size w w') : w.grownBy w' row := ⟨h.os, h.tape, h.output, h.size, fun k hk _ => h.block k hk⟩
section
variable {w : World} {a b n : Nat} {T : TypeId} {ws : List Int}
theorem wcheck_any (h : RamAt w a b T n ws) (t i : Int) : Calls Try.prog 44 #[.pointer (some ⟨a, 0, none⟩), .int .i64 t, .int .i64 i] w fun e w' => e = .returned (.int .i64 (errT n t i)) ∧ w = w' := by
  by_cases hi : inT n t i = true
  · rw [errT_in hi]
    rw [inT_iff] at hi
    obtain ⟨h1, h2, h3, h4⟩ := hi
    go_enter Try.func44, Try.ntmps44
    go_wp2_with (go_at_call 65; refine (frames_any h).mono ?_; rintro e w' ⟨rfl, rfl⟩)
    go_ret
    exact ⟨rfl, rfl⟩
  · simp only [Bool.not_eq_true] at hi
    rw [errT_out hi]
    by_cases h1 : t < 0
    · clear hi
      go_enter Try.func44, Try.ntmps44
      go_wp2_with (go_at_call 65; refine (frames_any h).mono ?_; rintro e w' ⟨rfl, rfl⟩)
      go_ret
      exact ⟨rfl, rfl⟩
    · have h1' : 0 ≤ t := by omega
      by_cases h2 : (n : Int) / 8 ≤ t
      · clear hi h1
        go_enter Try.func44, Try.ntmps44
        go_wp2_with (go_at_call 65; refine (frames_any h).mono ?_; rintro e w' ⟨rfl, rfl⟩)
        go_ret
        exact ⟨rfl, rfl⟩
      · have h2' : t < (n : Int) / 8 := by omega
        by_cases h3 : i < 0
        · clear hi h1 h2
          go_enter Try.func44, Try.ntmps44
          go_wp2_with (go_at_call 65; refine (frames_any h).mono ?_; rintro e w' ⟨rfl, rfl⟩)
          go_ret
          exact ⟨rfl, rfl⟩
        · have h3' : 0 ≤ i := by omega
          have h4 : 8 ≤ i := by
            apply Classical.byContradiction
            intro h4
            have : inT n t i = true := inT_iff.2 ⟨h1', h2', h3', by omega⟩
            rw [this] at hi
            cases hi
          clear hi h1 h2 h3
          go_enter Try.func44, Try.ntmps44
          go_wp2_with (go_at_call 65; refine (frames_any h).mono ?_; rintro e w' ⟨rfl, rfl⟩)
          go_ret
          exact ⟨rfl, rfl⟩
end
theorem address_any (t i : Nat) (ht : t ≤ 1024) (hi : i ≤ 8) (w : World) : Calls Try.prog 72 #[.int .i64 t, .int .i64 i] w fun e w' => e = .returned (.int .i64 ((t : Int) * 64 + (i : Int) * 8)) ∧ w = w' := by
  go_enter Try.func72, Try.ntmps72
  go_wp2
  go_ret
  exact ⟨rfl, rfl⟩
theorem leafOrder_any (l : Int) (h0 : 0 ≤ l) (h1 : l ≤ 3) (w : World) : Calls Try.prog 67 #[.int .i64 l] w fun e w' => e = .returned (.int .i64 (l * 3)) ∧ w = w' := by
  go_enter Try.func67, Try.ntmps67
  go_wp2
  go_ret
  exact ⟨rfl, rfl⟩
theorem Row.seven {w : World} {g : Nat} {t : TypeId} {x0 x1 x2 x3 x4 x5 x6 : Value} (h : Row w g t [x0, x1, x2, x3, x4, x5, x6]) :
    (w.cell? ⟨g, 0, none⟩ = some x0 ∧ w.cell? ⟨g, 1, none⟩ = some x1 ∧ w.cell? ⟨g, 2, none⟩ = some x2 ∧ w.cell? ⟨g, 3, none⟩ = some x3 ∧ w.cell? ⟨g, 4, none⟩ = some x4 ∧ w.cell? ⟨g, 5, none⟩ = some x5 ∧ w.cell? ⟨g, 6, none⟩ = some x6) ∧ (∀ o, w.frozen? ⟨g, o, none⟩ = false) :=
  ⟨⟨h.cell 0, h.cell 1, h.cell 2, h.cell 3, h.cell 4, h.cell 5, h.cell 6⟩, fun o => h.frozen o⟩
theorem below_new (w : World) (t : TypeId) (vs : List Value) : Below w.heap.size w (w.alloc (.cells vs.toArray t)) := (Below.refl _ _).alloc (Nat.le_refl _) _
theorem below_7 {B g : Nat} {w w' : World} {x0 x1 x2 x3 x4 x5 x6 : Value} (h : Below B w w') (hg : B ≤ g) :
    Below B w (((((((w'.setCell ⟨g, 0, none⟩ x0).setCell ⟨g, 1, none⟩ x1).setCell ⟨g, 2, none⟩ x2).setCell ⟨g, 3, none⟩ x3).setCell ⟨g, 4, none⟩ x4).setCell ⟨g, 5, none⟩ x5).setCell ⟨g, 6, none⟩ x6) :=
  ((((((h.setCell hg _).setCell hg _).setCell hg _).setCell hg _).setCell hg _).setCell hg _).setCell hg _
section
variable {w : World} {a b n : Nat} {T : TypeId} {ws : List Int}
set_option maxHeartbeats 800000 in
theorem word_any (h : RamAt w a b T n ws) (t i : Int) : Calls Try.prog 57 #[.pointer (some ⟨a, 0, none⟩), .int .i64 t, .int .i64 i] w fun e w' => e = .returned (.tuple #[unE (wd ws t i), .int .i64 (wdE n (wd ws t i) t i)]) ∧ Below w.heap.size w w' := by
  by_cases hi : inT n t i = true
  · have he := errT_in hi
    have hwd := Lib.hid (wd_bound h.words t i)
    obtain ⟨x, hx⟩ : ∃ x, x = wd ws t i := ⟨_, rfl⟩
    obtain ⟨ta, ib, rfl, rfl, hta, hib⟩ := inT_nat hi
    have HL : Hid (ldV ws ((ta : Int) * 64 + (ib : Int) * 8) = x) := by rw [hx]; exact addr_ld (by rw [h.len]; exact hta) hib
    have HE := Lib.hid (addr_ok hta hib)
    have h8 := h.hi
    rw [← hx] at hwd ⊢
    rw [show wdE n x ta ib = unErr x by simp [wdE, hi]]
    obtain ⟨f, p, wr, hu, k, u, d, hE⟩ : ∃ f p wr hu k u d, unE x = .agg #[.int .i64 f, .bool p, .bool wr, .bool hu, .bool k, .bool u, .bool d] := ⟨_, _, _, _, _, _, _, rfl⟩
    have HU := Lib.hid hE
    have H := Lib.hid h
    have hlo : ta ≤ 1024 := by omega
    have hio : ib ≤ 8 := by omega
    clear hi hx h8 hta hib h
    go_enter Try.func57, Try.ntmps57
    go_wp2_with fail
    refine (wcheck_any (H.out.alloc _) _ _).mono ?_
    rw [he]
    rintro e w1 ⟨rfl, hw⟩
    have H1 : Hid (RamAt w1 a b T n ws) := hw ▸ H.out.alloc _
    have r1 : Row w1 w.heap.size 28 [.int .i64 0, .bool false, .bool false, .bool false, .bool false, .bool false, .bool false] := hw ▸ Row.new w _ _
    have B1 : Hid (Below w.heap.size w w1) := hw ▸ below_new w _ _
    clear hw H he hE
    go_wp2_with fail
    refine (address_any ta ib hlo hio _).mono ?_
    rintro e w' ⟨rfl, rfl⟩
    go_wp2_with fail
    refine (load_any H1.out _).mono ?_
    rw [HL.out, HE.out]
    rintro e w' ⟨rfl, rfl⟩
    go_wp2_with fail
    refine (unpack_any x _ hwd.out.1 hwd.out.2).mono ?_
    rw [HU.out]
    rintro e w2 ⟨rfl, hb⟩
    have r2 := r1.below hb r1.lt
    have B2 := Lib.hid (B1.out.trans (hb.mono B1.out.size))
    obtain ⟨⟨c0, c1, c2, c3, c4, c5, c6⟩, hf⟩ := r2.seven
    clear hb r2 r1 B1 H1
    go_wp2_with fail
    exact bodyPost_ret (v := .tuple #[.agg #[.int .i64 f, .bool p, .bool wr, .bool hu, .bool k, .bool u, .bool d], .int .i64 (unErr x)]) (by simp [results, Try.results57, go_sem, *]) rfl ⟨by rw [HU.out], below_7 B2.out (Nat.le_refl _)⟩
  · simp only [Bool.not_eq_true] at hi
    have he := errT_out hi
    have hx : wd ws t i = 0 := wd_out (by rw [h.len]; exact hi)
    rw [hx, un_zero, show wdE n 0 t i = 3 by simp [wdE, hi]]
    unfold agg0
    clear hx hi
    go_enter Try.func57, Try.ntmps57
    go_wp2_with fail
    refine (wcheck_any (h.alloc _) _ _).mono ?_
    rw [he]
    rintro e w1 ⟨rfl, hw⟩
    have r1 : Row w1 w.heap.size 28 [.int .i64 0, .bool false, .bool false, .bool false, .bool false, .bool false, .bool false] := hw ▸ Row.new w _ _
    have B1 : Hid (Below w.heap.size w w1) := hw ▸ below_new w _ _
    obtain ⟨⟨c0, c1, c2, c3, c4, c5, c6⟩, hf⟩ := r1.seven
    clear hw r1 h he
    go_wp2_with fail
    exact bodyPost_ret (v := .tuple #[.agg #[.int .i64 0, .bool false, .bool false, .bool false, .bool false, .bool false, .bool false], .int .i64 3]) (by simp [results, Try.results57, go_sem, *]) rfl ⟨rfl, below_7 B1.out (Nat.le_refl _)⟩
theorem ptL_bad {t i c v : Int} (h : inT ws.length t i = false) : ptL ws t i c v = ws := by simp [ptL, h]
theorem ptL_err {t i c v : Int} (h : c ≠ 0) : ptL ws t i c v = ws := by simp [ptL, h]
set_option maxHeartbeats 800000 in
theorem put_entry (h : RamAt w a b T n ws) (t i f : Int) (p wr hu k u d : Bool) : Calls Try.prog 50 #[.pointer (some ⟨a, 0, none⟩), .int .i64 t, .int .i64 i, .agg #[.int .i64 f, .bool p, .bool wr, .bool hu, .bool k, .bool u, .bool d]] w
    fun e w' => e = .returned (.int .i64 (ptE n (chkI f p wr hu k u d) t i)) ∧ RamAt w' a b T n (ptL ws t i (chkI f p wr hu k u d) (packI f p wr hu k u d)) ∧ w.grownBy w' (some b) := by
  by_cases hi : inT n t i = true
  · have he := errT_in hi
    rw [show ptE n (chkI f p wr hu k u d) t i = chkI f p wr hu k u d by simp [ptE, hi]]
    obtain ⟨ta, ib, rfl, rfl, hta, hib⟩ := inT_nat hi
    have h8 := h.hi
    have hlo : ta ≤ 1024 := by omega
    have hio : ib ≤ 8 := by omega
    have HE := Lib.hid (addr_ok hta hib)
    have H := Lib.hid h
    by_cases hc : (chkI f p wr hu k u d != 0) = true
    · have HP : Hid (ptL ws ta ib (chkI f p wr hu k u d) (packI f p wr hu k u d) = ws) := ptL_err (by simpa using hc)
      clear hi h8 hta hib h
      go_enter Try.func50, Try.ntmps50
      go_wp2_with fail
      refine (wcheck_any (H.out.alloc _) _ _).mono ?_
      rw [he]
      rintro e w' ⟨rfl, rfl⟩
      go_wp2_with fail
      refine (pack_any _ _ _ _ _ _ _ _).mono ?_
      rintro e w1 ⟨rfl, hb⟩
      have B1 : Hid (Below w.heap.size w w1) := ((Below.refl _ _).alloc (Nat.le_refl _) _).trans (hb.mono (by simp))
      clear hb
      go_wp2_with fail
      go_ret
      refine ⟨rfl, ?_, grown_of_below B1.out⟩
      rw [HP.out]
      exact H.out.below B1.out H.out.top.lt H.out.row.lt
    · simp only [Bool.not_eq_true] at hc
      have hc0 := chk_zero hc
      have hr := chk_range hc0
      have hpk := packI_ok hc
      have hwb := word_bounds f p wr hu k u d hr.1 hr.2
      rw [hpk]
      have HP : Hid (stL ws ((ta : Int) * 64 + (ib : Int) * 8) (wordI f p wr hu k u d) = ptL ws ta ib (chkI f p wr hu k u d) (wordI f p wr hu k u d)) := by
        show _ = _
        rw [hc0]; exact addr_st (by rw [h.len]; exact hta) hib _
      have HK := Lib.hid hpk
      have HW := Lib.hid hwb
      have HC0 := Lib.hid hc0
      clear hi h8 hta hib h hr hpk hwb hc0
      go_enter Try.func50, Try.ntmps50
      go_wp2_with fail
      refine (wcheck_any (H.out.alloc _) _ _).mono ?_
      rw [he]
      rintro e w' ⟨rfl, rfl⟩
      go_wp2_with fail
      refine (pack_any _ _ _ _ _ _ _ _).mono ?_
      rw [HK.out]
      rintro e w1 ⟨rfl, hb⟩
      have B1 : Hid (Below w.heap.size w w1) := ((Below.refl _ _).alloc (Nat.le_refl _) _).trans (hb.mono (by simp))
      have H1 := Lib.hid (H.out.below B1.out H.out.top.lt H.out.row.lt)
      clear hb
      go_wp2_with fail
      refine (address_any ta ib hlo hio _).mono ?_
      rintro e w' ⟨rfl, rfl⟩
      go_wp2_with fail
      refine (store_any H1.out _ _ HW.out.1 HW.out.2).mono ?_
      rw [HE.out, HP.out]
      rintro e w2 ⟨rfl, h2, g2⟩
      have G2 := Lib.hid (grown_trans1 (grown_of_below B1.out) g2)
      have H2 := Lib.hid h2
      clear g2 h2 H1
      go_wp2_with fail
      go_ret
      exact ⟨ret_int HC0.out.symm, H2.out, G2.out⟩
  · simp only [Bool.not_eq_true] at hi
    have he := errT_out hi
    rw [show ptE n (chkI f p wr hu k u d) t i = 3 by simp [ptE, hi], ptL_bad (by rw [h.len]; exact hi)]
    clear hi
    go_enter Try.func50, Try.ntmps50
    go_wp2_with (go_at_call 44; refine (wcheck_any (h.alloc _) _ _).mono ?_; rw [he]; rintro e w' ⟨rfl, rfl⟩)
    go_ret
    exact ⟨rfl, h.alloc _, grown_of_below ((Below.refl _ _).alloc (Nat.le_refl _) _)⟩
end
end Go.Proofs.Ytpcpcgbejinlmaa
/- The contracts of the reference of package walk on one entry: what is read, what is laid. -/
namespace Go.Proofs.Ytpcpcgbejinlmaa
open Go.RowKit
section
variable {w : World} {a b n : Nat} {T : TypeId} {ws : List Int}
end
end Go.Proofs.Ytpcpcgbejinlmaa
