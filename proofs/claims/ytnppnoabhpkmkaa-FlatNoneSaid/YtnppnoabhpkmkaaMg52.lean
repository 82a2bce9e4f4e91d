/- Spaces: do both say the same? -/
import Derived.Test.YtnppnoabhpkmkaaMg51
import Derived.Test.YtnppnoabhpkmkaaMg48
import Derived.BigRegion
namespace Go.Proofs.Ytnppnoabhpkmkaa
open Go.RowKit
theorem arsF_len {F : Fl} (h : FlOk F) (i : Int) : (arsF F i).length ≤ 5000 := by
  unfold arsF
  split
  · have := (pcs_is (h.sp i).ps.ok 0 4096).len
    show (pcs _ _ _).length ≤ _; omega
  · simp
theorem fits_wrap64 (x : Int) : Fits (RowKit.wrap64 x) := by unfold Fits RowKit.wrap64; omega
theorem fits_wrapI (x : Int) : Fits (IntKind.i64.wrap x) := fits_wf (wf_wrap .i64 x)
end Go.Proofs.Ytnppnoabhpkmkaa
/- Spaces: FlatNone, walked, over the nil calls as one structure. -/
namespace Go.Proofs.Ytnppnoabhpkmkaa
open Go.RowKit
set_option maxHeartbeats 4000000 in
set_option maxRecDepth 100000 in
theorem none_walk (I : FlI) (N : NilI) (l : Rq) (w : World) : Calls Try.prog 3 #[.agg (rqCells l).toArray] w fun e w' => e = .returned (.bool true) ∧ Below w.heap.size w w' := by
  obtain ⟨W0, hW0⟩ : ∃ W0, W0 = w.alloc (.cells (opL l).toArray 24) := ⟨_, rfl⟩
  obtain ⟨q, hq⟩ : ∃ q, q = w.heap.size := ⟨_, rfl⟩
  have g0 : Below w.heap.size w W0 := by rw [hW0]; exact below_new _ _
  have rs : Lrow W0 q 24 (opL l) := by rw [hW0, hq]; exact Lrow.new w _ (opL l)
  have HG0 := Lib.hid g0
  have HRS := Lib.hid rs
  have HW := Lib.hid (And.intro hW0 hq)
  clear hW0 hq g0 rs
  obtain ⟨lk, ls, la, ln, lh, lp, lt, lc, lv⟩ := l
  dsimp only [rqCells, opL] at HRS HW ⊢
  have d1 : W0.cell? ⟨q, 1, none⟩ = some (.int .i64 ls) := HRS.out.cell 1
  have d2 : W0.cell? ⟨q, 2, none⟩ = some (.int .i64 la) := HRS.out.cell 2
  go_enter Try.func3, Try.ntmps3
  go_upto_region 2 with (fail)
  rw [← HW.out.1, ← HW.out.2]
  go_wp2_with fail
  refine (N.word _ _ _).mono ?_
  rintro e w1 ⟨rfl, hb1⟩
  have HB1 := Lib.hid hb1
  clear d1 d2 hb1
  go_wp2_with fail
  refine (awake_any I _).mono ?_
  rintro e w2 ⟨rfl, hb2⟩
  have HB2 : Hid (Below W0.heap.size W0 w2) := HB1.out.trans (hb2.mono HB1.out.size)
  have hrs := HRS.out.call HB2.out
  have d0 : w2.cell? ⟨q, 0, none⟩ = some (.int .i64 lk) := hrs.cell 0
  have d1 : w2.cell? ⟨q, 1, none⟩ = some (.int .i64 ls) := hrs.cell 1
  have d2 : w2.cell? ⟨q, 2, none⟩ = some (.int .i64 la) := hrs.cell 2
  have d3 : w2.cell? ⟨q, 3, none⟩ = some (.int .i64 ln) := hrs.cell 3
  have d4 : w2.cell? ⟨q, 4, none⟩ = some (.int .i64 lh) := hrs.cell 4
  have d5 : w2.cell? ⟨q, 5, none⟩ = some (.int .i64 lp) := hrs.cell 5
  have d6 : w2.cell? ⟨q, 6, none⟩ = some (.int .i64 lt) := hrs.cell 6
  have d7 : w2.cell? ⟨q, 7, none⟩ = some (.int .i64 lc) := hrs.cell 7
  have d8 : w2.cell? ⟨q, 8, none⟩ = some (.int .u64 lv) := hrs.cell 8
  clear hb2 hrs
  go_wp2_with fail
  refine (N.do_ _ _ _ _ _ _ _ _ _ _).mono ?_
  rintro e w3 ⟨rfl, hb3⟩
  have HB3 : Hid (Below W0.heap.size W0 w3) := HB2.out.trans (hb3.mono HB2.out.size)
  have hrs := HRS.out.call HB3.out
  have f1 : w3.cell? ⟨q, 1, none⟩ = some (.int .i64 ls) := hrs.cell 1
  clear hb3 hrs d0 d1 d2 d3 d4 d5 d6 d7 d8
  go_wp2_with fail
  refine (N.areas _ _).mono ?_
  rintro e w4 ⟨A4, c4, rfl, hb4⟩
  have HB4 : Hid (Below W0.heap.size W0 w4) := HB3.out.trans (hb4.mono HB3.out.size)
  clear hb4 f1
  go_wp2_with fail
  refine (N.spaces _).mono ?_
  rintro e w5 ⟨rfl, hb5⟩
  have HB5 : Hid (Below W0.heap.size W0 w5) := HB4.out.trans (hb5.mono HB4.out.size)
  clear hb5
  go_wp2_with fail
  go_ret
  exact ⟨rfl, HG0.out.trans (HB5.out.mono HG0.out.size)⟩
end Go.Proofs.Ytnppnoabhpkmkaa
