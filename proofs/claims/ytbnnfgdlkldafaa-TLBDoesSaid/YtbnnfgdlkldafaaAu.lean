/- The law TLBDoes, walked. -/
import Derived.Test.YtbnnfgdlkldafaaAs
namespace Go.Proofs.Ytbnnfgdlkldafaa
open Go.RowKit
set_option maxHeartbeats 4000000 in
set_option maxRecDepth 100000 in
theorem does9_walk (A : Option Addr) (n c : Nat) (z sp pg : Int) (w : World) (hA : Kls w w.heap.size A n) (hz : Fits z) (hp : Fits pg) :
    Calls Try.prog 3 #[.agg #[.int .i64 z, .slice A n c, .int .i64 sp, .int .i64 pg]] w fun e w' => e = .returned (.bool true) ∧ Below w.heap.size w w' := by
  obtain ⟨W0, hW0⟩ : ∃ W0, W0 = w.alloc (.cells #[.int .i64 z, .slice A n c, .int .i64 sp, .int .i64 pg] 24) := ⟨_, rfl⟩
  obtain ⟨s, hsz⟩ : ∃ s, s = w.heap.size := ⟨_, rfl⟩
  have g0 : Below w.heap.size w W0 := hW0 ▸ below_1 _
  have rs : Lrow W0 s 24 [.int .i64 z, .slice A n c, .int .i64 sp, .int .i64 pg] := by rw [hW0, hsz]; exact Lrow.new w _ _
  have HW := Lib.hid (And.intro hW0 hsz)
  have HG0 := Lib.hid (below_dN g0 1)
  have d0 : W0.cell? ⟨s, 0, none⟩ = some (.int .i64 z) := rs.cell 0
  have d1 : W0.cell? ⟨s, 1, none⟩ = some (.slice A n c) := rs.cell 1
  have d2 : W0.cell? ⟨s, 2, none⟩ = some (.int .i64 sp) := rs.cell 2
  have d3 : W0.cell? ⟨s, 3, none⟩ = some (.int .i64 pg) := rs.cell 3
  have HK := Lib.hid hA
  have HP := Lib.hid hp
  clear hW0 hsz g0 rs hA hp
  by_cases hin : 1 ≤ z ∧ z ≤ 64
  · obtain ⟨m, rfl⟩ : ∃ m : Nat, z = m := ⟨z.toNat, by omega⟩
    have HM := Lib.hid (made_any m (by omega) (by omega) A n c w.heap.size (W0.drewN 1) (HK.out.below HG0.out) HG0.out.size)
    clear hin hz
    go_enter Try.func3, Try.ntmps3
    go_upto_region 1 with (fail)
    rw [← HW.out.1, ← HW.out.2]
    go_region
    all_goals
      go_wp2_with fail
      refine HM.out.mono ?_
      rintro e w2 ⟨ta, xa, rfl, tv, xv, L, hst, hb2⟩
      have HST2 := Lib.hid hst
      have HB2 := Lib.hid (HG0.out.trans (hb2.mono HG0.out.size))
      clear hst hb2 d0 d1 d2 d3
      go_wp2_with fail
      refine (awake_any _).mono ?_
      rintro e w3 ⟨rfl, hb3⟩
      have HST3 := Lib.hid (HST2.out.call hb3)
      have HB3 := Lib.hid (HB2.out.trans (hb3.mono HB2.out.size))
      clear hb3
      have hlk := look_any HST3.out.t sp HP.out
      obtain ⟨k, hk⟩ : ∃ k, k = lkC (lkP L sp pg) := ⟨_, rfl⟩
      obtain ⟨bb, hbb⟩ : ∃ bb, bb = (lkP L sp pg).isSome := ⟨_, rfl⟩
      have HLR : Hid (∀ W, Below w3.heap.size w3 W → Calls Try.prog 12 #[.pointer (some ⟨xa, 0, none⟩), .int .i64 sp, .int .i64 pg] W fun e w' => e = .returned (.tuple #[cv k, .bool bb]) ∧ Below W.heap.size W w') := fun W hW => by
        have := refLook_any (HST3.out.r.call hW) HST3.out.t.good.ok (Nat.le_trans HST3.out.t.good.len HST3.out.t.z64) sp HP.out
        rw [← lk_same HST3.out.t.good.far, ← hk, ← hbb] at this
        exact this
      rw [← hk, ← hbb] at hlk
      have HKB := Lib.hid (And.intro hk hbb)
      clear hk hbb
      go_wp2_with fail
      refine hlk.mono ?_
      rintro e w4 ⟨rfl, hb4⟩
      obtain ⟨sc, hsc⟩ : ∃ sc, sc = w4.heap.size := ⟨_, rfl⟩
      obtain ⟨W5, hW5⟩ : ∃ W5, W5 = w4.alloc (.cells #[.int .i64 k.s, .int .i64 k.p, .int .i64 k.o, .int .i64 k.f, .bool k.w] 31) := ⟨_, rfl⟩
      have hb5 : Below w3.heap.size w3 W5 := by rw [hW5]; exact hb4.alloc hb4.size _
      have hr5 : Lrow W5 sc 31 [.int .i64 k.s, .int .i64 k.p, .int .i64 k.o, .int .i64 k.f, .bool k.w] := by rw [hW5, hsc]; exact Lrow.new w4 _ _
      have HB5 := Lib.hid hb5
      have HR5 := Lib.hid hr5
      have HW5 := Lib.hid (And.intro hW5 hsc)
      clear hlk hb4 hb5 hr5 hW5 hsc
      go_upto_region 6 with (fail)
      rw [← HW5.out.1, ← HW5.out.2]
      go_wp2_with fail
      refine (HLR.out _ HB5.out).mono ?_
      rintro e w6 ⟨rfl, hb6⟩
      obtain ⟨sd, hsd⟩ : ∃ sd, sd = w6.heap.size := ⟨_, rfl⟩
      obtain ⟨W7, hW7⟩ : ∃ W7, W7 = w6.alloc (.cells #[.int .i64 k.s, .int .i64 k.p, .int .i64 k.o, .int .i64 k.f, .bool k.w] 31) := ⟨_, rfl⟩
      have hb67 : Below W5.heap.size W5 W7 := by rw [hW7]; exact hb6.alloc hb6.size _
      have HRD : Hid (Lrow W7.drew sd 31 [.int .i64 k.s, .int .i64 k.p, .int .i64 k.o, .int .i64 k.f, .bool k.w]) := by
        show Lrow _ _ _ _
        rw [hW7, hsd]; exact (Lrow.new w6 _ _).drewN 1
      have HRC : Hid (Lrow W7.drew sc 31 [.int .i64 k.s, .int .i64 k.p, .int .i64 k.o, .int .i64 k.f, .bool k.w]) := (HR5.out.call hb67).drewN 1
      have hb37 : Below w3.heap.size w3 W7.drew := below_dN (HB5.out.trans (hb67.mono HB5.out.size)) 1
      have hstx := HST3.out.call hb37
      obtain ⟨Ax, cx, ex⟩ := hstx.r.own.form
      rw [ex] at hstx
      have HST := Lib.hid hstx
      have HB7 := Lib.hid (HB3.out.trans (hb37.mono HB3.out.size))
      have HW7 := Lib.hid (And.intro hW7 hsd)
      have l64 := Nat.le_trans HST3.out.t.good.len HST3.out.t.z64
      clear hb6 hb67 hb37 hstx hW7 hsd
      go_upto_region 7 with (fail)
      rw [← HW7.out.1, ← HW7.out.2]
      have HS0 : W7.drew.cell? ⟨xa, 1, none⟩ = some (.slice Ax L.length cx) ∧ W7.drew.cell? ⟨sc, 0, none⟩ = some (.int .i64 k.s) ∧ W7.drew.cell? ⟨sc, 1, none⟩ = some (.int .i64 k.p) ∧ W7.drew.cell? ⟨sc, 2, none⟩ = some (.int .i64 k.o) ∧ W7.drew.cell? ⟨sc, 3, none⟩ = some (.int .i64 k.f) ∧ W7.drew.cell? ⟨sc, 4, none⟩ = some (.bool k.w) ∧ W7.drew.cell? ⟨sd, 0, none⟩ = some (.int .i64 k.s) ∧ W7.drew.cell? ⟨sd, 1, none⟩ = some (.int .i64 k.p) ∧ W7.drew.cell? ⟨sd, 2, none⟩ = some (.int .i64 k.o) ∧ W7.drew.cell? ⟨sd, 3, none⟩ = some (.int .i64 k.f) ∧ W7.drew.cell? ⟨sd, 4, none⟩ = some (.bool k.w) := ⟨HST.out.r.c1, HRC.out.cell 0, HRC.out.cell 1, HRC.out.cell 2, HRC.out.cell 3, HRC.out.cell 4, HRD.out.cell 0, HRD.out.cell 1, HRD.out.cell 2, HRD.out.cell 3, HRD.out.cell 4⟩
      go_region_held3 (fun v => v.cell? ⟨xa, 1, none⟩ = some (.slice Ax L.length cx) ∧ v.cell? ⟨sc, 0, none⟩ = some (.int .i64 k.s) ∧ v.cell? ⟨sc, 1, none⟩ = some (.int .i64 k.p) ∧ v.cell? ⟨sc, 2, none⟩ = some (.int .i64 k.o) ∧ v.cell? ⟨sc, 3, none⟩ = some (.int .i64 k.f) ∧ v.cell? ⟨sc, 4, none⟩ = some (.bool k.w) ∧ v.cell? ⟨sd, 0, none⟩ = some (.int .i64 k.s) ∧ v.cell? ⟨sd, 1, none⟩ = some (.int .i64 k.p) ∧ v.cell? ⟨sd, 2, none⟩ = some (.int .i64 k.o) ∧ v.cell? ⟨sd, 3, none⟩ = some (.int .i64 k.f) ∧ v.cell? ⟨sd, 4, none⟩ = some (.bool k.w))
        (first | exact HS0 | exact HS1 | exact HS2)
        (first | (go_at_call 14; refine (lines_any HST.out.t).mono ?_; rintro e w8 ⟨A8, rfl, hln, hb8⟩; have rsc := HRC.out.call hb8; have rsd := HRD.out.call hb8; have hs8 := HST.out.call hb8; have HS1 : w8.cell? ⟨xa, 1, none⟩ = some (.slice Ax L.length cx) ∧ w8.cell? ⟨sc, 0, none⟩ = some (.int .i64 k.s) ∧ w8.cell? ⟨sc, 1, none⟩ = some (.int .i64 k.p) ∧ w8.cell? ⟨sc, 2, none⟩ = some (.int .i64 k.o) ∧ w8.cell? ⟨sc, 3, none⟩ = some (.int .i64 k.f) ∧ w8.cell? ⟨sc, 4, none⟩ = some (.bool k.w) ∧ w8.cell? ⟨sd, 0, none⟩ = some (.int .i64 k.s) ∧ w8.cell? ⟨sd, 1, none⟩ = some (.int .i64 k.p) ∧ w8.cell? ⟨sd, 2, none⟩ = some (.int .i64 k.o) ∧ w8.cell? ⟨sd, 3, none⟩ = some (.int .i64 k.f) ∧ w8.cell? ⟨sd, 4, none⟩ = some (.bool k.w) := ⟨(hs8.r).c1, rsc.cell 0, rsc.cell 1, rsc.cell 2, rsc.cell 3, rsc.cell 4, rsd.cell 0, rsd.cell 1, rsd.cell 2, rsd.cell 3, rsd.cell 4⟩) | (go_at_call 13; refine (same_any hln hs8.r.own.ln l64 l64).mono ?_; rintro e w9 ⟨rfl, hb9⟩; have qsc := rsc.call hb9; have qsd := rsd.call hb9; have hs9 := hs8.call hb9; have HS2 : w9.cell? ⟨xa, 1, none⟩ = some (.slice Ax L.length cx) ∧ w9.cell? ⟨sc, 0, none⟩ = some (.int .i64 k.s) ∧ w9.cell? ⟨sc, 1, none⟩ = some (.int .i64 k.p) ∧ w9.cell? ⟨sc, 2, none⟩ = some (.int .i64 k.o) ∧ w9.cell? ⟨sc, 3, none⟩ = some (.int .i64 k.f) ∧ w9.cell? ⟨sc, 4, none⟩ = some (.bool k.w) ∧ w9.cell? ⟨sd, 0, none⟩ = some (.int .i64 k.s) ∧ w9.cell? ⟨sd, 1, none⟩ = some (.int .i64 k.p) ∧ w9.cell? ⟨sd, 2, none⟩ = some (.int .i64 k.o) ∧ w9.cell? ⟨sd, 3, none⟩ = some (.int .i64 k.f) ∧ w9.cell? ⟨sd, 4, none⟩ = some (.bool k.w) := ⟨(hs9.r).c1, qsc.cell 0, qsc.cell 1, qsc.cell 2, qsc.cell 3, qsc.cell 4, qsd.cell 0, qsd.cell 1, qsd.cell 2, qsd.cell 3, qsd.cell 4⟩))
      go_wp2
      go_ret
      have t8 := HB7.out.trans (hb8.mono HB7.out.size)
      exact ⟨by simp, t8.trans (hb9.mono t8.size)⟩
  · have HM := Lib.hid (made_bad hin A n c (W0.drewN 1))
    clear hin hz
    go_enter Try.func3, Try.ntmps3
    go_upto_region 1 with (fail)
    rw [← HW.out.1, ← HW.out.2]
    go_region
    all_goals
      go_wp2_with fail
      refine HM.out.mono ?_
      rintro e w2 ⟨rfl, rfl⟩
      go_wp2_with fail
      refine (awake_any _).mono ?_
      rintro e w3 ⟨rfl, hb3⟩
      go_wp2_with fail
      refine (awake_any _).mono ?_
      rintro e w4 ⟨rfl, hb4⟩
      go_wp2_with fail
      go_ret
      have t3 := HG0.out.trans (hb3.mono HG0.out.size)
      exact ⟨rfl, t3.trans (hb4.mono t3.size)⟩
end Go.Proofs.Ytbnnfgdlkldafaa
