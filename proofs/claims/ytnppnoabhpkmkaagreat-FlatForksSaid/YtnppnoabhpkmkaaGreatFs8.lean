/- Spaces: FlatForks, walked. -/
import Derived.Test.YtnppnoabhpkmkaaGreatFs6
import Derived.Test.YtnppnoabhpkmkaaGreatFs7
import Derived.BigRegion
namespace Go.Proofs.YtnppnoabhpkmkaaGreat
open Go.RowKit
theorem run_fieldE (e v : Int) (w : World) : (Instr.field 33 (.agg #[.int .i64 e, .int .u64 v]) 0).run Tryz.prog w = .ok (.int .i64 e) w := by kernel_rfl
set_option maxHeartbeats 4000000 in
set_option maxRecDepth 100000 in
theorem forks_walk (I : FlI) (A : Option Addr) (n c : Nat) (l : Rq) (b : Int) (w : World) (hA : Rqs w w.heap.size A n) (hl : IsRq l) (hb : Fits b) :
    Calls Tryz.prog 5 #[.slice A n c, .agg (rqCells l).toArray, .int .i64 b] w fun e w' => e = .returned (.bool true) ∧ Below w.heap.size w w' := by
  obtain ⟨M, hM, hls⟩ := hA.list
  obtain ⟨W0, hW0⟩ : ∃ W0, W0 = w.alloc (.cells (opL l).toArray 25) := ⟨_, rfl⟩
  obtain ⟨q, hq⟩ : ∃ q, q = w.heap.size := ⟨_, rfl⟩
  have g0 : Below w.heap.size w W0 := by rw [hW0]; exact below_new _ _
  have rs : Lrow W0 q 25 (opL l) := by rw [hW0, hq]; exact Lrow.new w _ (opL l)
  have hm := made_any I A n c w.heap.size 40 M W0 hM (hls.below g0) g0.size (by decide)
  have HBF := Lib.hid (mdE_b M 40)
  generalize mdS (M.take 40) = F at hm HBF
  have HG0 := Lib.hid g0
  have HRS := Lib.hid rs
  have HW := Lib.hid (And.intro hW0 hq)
  have HF := Lib.hid (And.intro hl hb)
  clear hA hM hls hW0 hq g0 rs hl hb
  obtain ⟨lk, ls, la, ln, lh, lp, lt, lc, lv⟩ := l
  dsimp only [rqCells] at HW ⊢
  have HW' := HW.out.1
  dsimp only [opL] at HW'
  have HWA := Lib.hid HW'
  clear HW'
  go_enter Tryz.func5, Tryz.ntmps5
  go_upto_region 1 with (fail)
  rw [← HWA.out, ← HW.out.2]
  go_wp2_with fail
  refine hm.mono ?_
  rintro e w1 ⟨s, x, rfl, hst, hb1⟩
  have HST := Lib.hid hst
  have HB1 := Lib.hid hb1
  clear hm hst hb1
  go_wp2_with fail
  refine (awake_any I _).mono ?_
  rintro e w2 ⟨rfl, hb2⟩
  have HB2 : Hid (Below W0.heap.size W0 w2) := HB1.out.trans (hb2.mono HB1.out.size)
  have HR2 := Lib.hid (HRS.out.call HB2.out)
  have hqB : Hid (q < W0.heap.size) := HRS.out.lt
  have hst2 := HST.out.call hb2
  obtain ⟨X, T, ex, k1, k2, k3⟩ := hst2
  have hfit : Hid (Fits ls ∧ Fits la) := ⟨HF.out.1.s, HF.out.1.a⟩
  have hrf : Hid (IsRq ⟨7, ls, 0, 0, 0, 0, 0, 0, 0⟩) := by
    have z0 : Fits 0 := by unfold Fits; omega
    exact ⟨by show Fits 7; unfold Fits; omega, HF.out.1.s, z0, z0, z0, z0, z0, z0, by dsimp only; omega⟩
  have hdo := I.do9 k1 HBF.out (by decide) 7 ls 0 0 0 0 0 0 0 hrf.out
  have HK := Lib.hid (And.intro k1 (And.intro k2 (And.intro k3 ex)))
  have HGB : Hid (Below w.heap.size w w2) := HG0.out.trans (HB2.out.mono HG0.out.size)
  have d1 : w2.cell? ⟨q, 1, none⟩ = some (.int .i64 ls) := HR2.out.cell 1
  obtain ⟨E, hE⟩ : ∃ E, E = (stF F ⟨7, ls, 0, 0, 0, 0, 0, 0, 0⟩).1 := ⟨_, rfl⟩
  obtain ⟨V, hV⟩ : ∃ V, V = (stF F ⟨7, ls, 0, 0, 0, 0, 0, 0, 0⟩).2.1 := ⟨_, rfl⟩
  rw [← hE, ← hV] at hdo
  have HE := Lib.hid (And.intro hE hV)
  clear hb2 k1 k2 k3 ex hE hV
  go_wp2_with fail
  refine hdo.mono ?_
  rintro e w3 ⟨rfl, hd⟩
  obtain ⟨X3, m1, m2, m3, mb⟩ := half HK.out.1 HK.out.2.1 HK.out.2.2.1 hd
  obtain ⟨W3, hW3⟩ : ∃ W3, W3 = w3.alloc (.cells #[.int .i64 E, .int .u64 V] 33) := ⟨_, rfl⟩
  obtain ⟨b3, hb3⟩ : ∃ b, b = w3.heap.size := ⟨_, rfl⟩
  have g3 : Below w3.heap.size w3 W3 := by rw [hW3]; exact below_new _ _
  have r3 : Lrow W3 b3 33 [.int .i64 E, .int .u64 V] := by rw [hW3, hb3]; exact Lrow.new w3 _ [.int .i64 E, .int .u64 V]
  have HR3 : Hid (Lrow W3 q 25 (opL ⟨lk, ls, la, ln, lh, lp, lt, lc, lv⟩)) := by
    have : Lrow w3 q 25 (opL ⟨lk, ls, la, ln, lh, lp, lt, lc, lv⟩) := (mb.block q hqB.out).trans HR2.out
    exact this.call g3
  have HS3 := Lib.hid (And.intro (I.call m1 g3) (And.intro (m2.call g3) m3))
  have mb' : Below w.heap.size w2 w3 := mb.mono HG0.out.size
  have HB3 : Hid (Below w.heap.size w W3) := (HGB.out.trans mb').trans (g3.mono (HGB.out.trans mb').size)
  have HZ3 := Lib.hid (And.intro hW3 hb3)
  have c0 : W3.cell? ⟨b3, 0, none⟩ = some (.int .i64 E) := r3.cell 0
  have c1 : W3.cell? ⟨b3, 1, none⟩ = some (.int .u64 V) := r3.cell 1
  have HRR := Lib.hid r3
  clear hdo hd m1 m2 m3 mb mb' hW3 hb3 g3 r3 d1
  go_upto_region 5 with (fail)
  rw [← HZ3.out.1, ← HZ3.out.2]
  by_cases hE0 : E = 0
  · have ee : (E == 0) = true := by rw [hE0]; rfl
    obtain ⟨f1, f2, f3⟩ := fork_ok (by rw [← HE.out.1]; exact hE0)
    have hv := HE.out.2
    rw [f3] at hv
    dsimp only at hv
    obtain ⟨N, hN⟩ : ∃ N, N = F.L.length := ⟨_, rfl⟩
    rw [← hN] at hv f2
    have HN := Lib.hid (And.intro hN (And.intro f1 f3))
    subst hE0
    subst hv
    have N0 : (0 : Int) ≤ N := by omega
    have N1 : (N : Int) ≤ 15 := by omega
    have iwN : IntKind.i64.wrap (N : Int) = N := IntWalk.i64_in _ (by omega)
    have HBG : Hid (FlB (40 + 1) (fkG F ls)) := by
      have := HBF.out.step ⟨7, ls, 0, 0, 0, 0, 0, 0, 0⟩
      rw [f3] at this; exact this
    have k1 := HS3.out.1
    rw [f3] at k1
    have HK1 : Hid (I.Fo W0.heap.size W3 s X3 (fkG F ls)) := k1
    have hw1 := I.word HK1.out HBG.out.ok (Nat.le_trans HBG.out.ob (by decide)) ls b hfit.out.1 HF.out.2
    obtain ⟨E1, hE1⟩ : ∃ E, E = wdE (fkG F ls) ls b := ⟨_, rfl⟩
    obtain ⟨V1, hV1⟩ : ∃ V, V = wdV (fkG F ls) ls b := ⟨_, rfl⟩
    rw [← hE1, ← hV1] at hw1
    have HEV1 := Lib.hid (And.intro hE1 hV1)
    have d1 : W3.cell? ⟨q, 1, none⟩ = some (.int .i64 ls) := HR3.out.cell 1
    clear hN f1 f2 f3 k1 hE1 hV1
    go_wp2_with fail
    refine hw1.mono ?_
    rintro e w4 ⟨rfl, hb4⟩
    have HB4 : Hid (Below w.heap.size w w4) := HB3.out.trans (hb4.mono HB3.out.size)
    have HR4 := Lib.hid (HR3.out.call hb4)
    have HK4 := Lib.hid (And.intro (I.call HK1.out hb4) (HS3.out.2.1.call hb4))
    have hw2 := I.word HK4.out.1 HBG.out.ok (Nat.le_trans HBG.out.ob (by decide)) N b (by unfold Fits; omega) HF.out.2
    obtain ⟨E2, hE2⟩ : ∃ E, E = wdE (fkG F ls) N b := ⟨_, rfl⟩
    obtain ⟨V2, hV2⟩ : ∃ V, V = wdV (fkG F ls) N b := ⟨_, rfl⟩
    rw [← hE2, ← hV2] at hw2
    have HEV2 := Lib.hid (And.intro hE2 hV2)
    clear hw1 hb4 c0 c1 d1 hE2 hV2
    go_wp2_with fail
    refine hw2.mono ?_
    rintro e w5 ⟨rfl, hb5⟩
    have hr5 := HR4.out.call hb5
    have HB5 : Hid (Below w.heap.size w w5) := HB4.out.trans (hb5.mono HB4.out.size)
    have HS5 : Hid (St I W0.heap.size w5 s x (fkG F ls) F) := ⟨X3, T, HK.out.2.2.2, I.call HK4.out.1 hb5, HK4.out.2.call hb5, HS3.out.2.2⟩
    obtain ⟨W6, hW6⟩ : ∃ W6, W6 = w5.setCell ⟨q, 0, none⟩ (.int .i64 10) := ⟨_, rfl⟩
    have hr6 := box_put hr5 10
    have hst6 := HS5.out.put hr5 hqB.out (by decide) (by decide) 0 (.int .i64 10)
    rw [← hW6] at hr6 hst6
    have hf0 := hr5.frozen 0
    have he0 := hr5.cell 0
    have HB6 : Hid (Below w.heap.size w W6) := by
      show Below _ _ _
      rw [hW6]
      exact below_set HB5.out (by rw [HW.out.2]; exact Nat.le_refl _) _ _
    have HRL : Hid (IsRq ⟨10, ls, la, ln, lh, lp, lt, lc, lv⟩) := ⟨by show Fits 10; unfold Fits; omega, HF.out.1.s, HF.out.1.a, HF.out.1.n, HF.out.1.h, HF.out.1.p, HF.out.1.t, HF.out.1.c, HF.out.1.v⟩
    obtain ⟨X6, T6, ex6, k1, k2, k3⟩ := hst6
    have hdo := I.do9 k1 HBG.out (by decide) 10 ls la ln lh lp lt lc lv HRL.out
    have hbx := box9 hr6
    unfold Box9 at hbx
    obtain ⟨e0, e1, e2, e3, e4, e5, e6, e7, e8⟩ := hbx
    obtain ⟨E3, hE3⟩ : ∃ E, E = (stF (fkG F ls) ⟨10, ls, la, ln, lh, lp, lt, lc, lv⟩).1 := ⟨_, rfl⟩
    obtain ⟨V3, hV3⟩ : ∃ V, V = (stF (fkG F ls) ⟨10, ls, la, ln, lh, lp, lt, lc, lv⟩).2.1 := ⟨_, rfl⟩
    rw [← hE3, ← hV3] at hdo
    have HE3 := Lib.hid hE3
    have HR6 := Lib.hid hr6
    have HK6 := Lib.hid (And.intro k1 (And.intro k2 (And.intro k3 ex6)))
    have HZ6 := Lib.hid hW6
    have hcmp : Hid (E2 = 0 → E1 = 0 ∧ V2 = V1) := by
      show _ → _
      intro h
      rw [HEV2.out.1, HN.out.1] at h
      have := fk_read HN.out.2.1 h
      rw [HEV1.out.1, HEV1.out.2, HEV2.out.2, HN.out.1]
      exact this
    clear hw2 hb5 hr5 hr6 hE3 hV3 hW6 k1 k2 k3 ex6
    by_cases hE2 : E2 = 0
    case' pos =>
      obtain ⟨hE1, hV21⟩ := hcmp.out hE2
      clear hcmp
      subst hE2 hE1 hV21
    case' neg =>
      have ec2 : (E2 == 0) = false := by simpa using hE2
      clear hE2 hcmp
    all_goals
      go_upto_region 13 with (fail)
      rw [← HZ6.out]
      clear hf0 he0
      go_wp2_with fail
      refine hdo.mono ?_
      rintro e w7 ⟨rfl, hd⟩
      obtain ⟨X7, m1, m2, m3, mb⟩ := half HK6.out.1 HK6.out.2.1 HK6.out.2.2.1 hd
      have HR7 : Hid (Lrow w7 q 25 (opL ⟨10, ls, la, ln, lh, lp, lt, lc, lv⟩)) := (mb.block q hqB.out).trans HR6.out
      have HB7 : Hid (Below w.heap.size w w7) := HB6.out.trans (mb.mono HG0.out.size)
      have HM7 := Lib.hid (And.intro m1 (And.intro m2 m3))
      clear hdo hd m1 m2 m3 mb e0 e1 e2 e3 e4 e5 e6 e7 e8
      have hfl := run_fieldE
      by_cases hE3 : E3 = 0
      · obtain ⟨g3, ge, -, gst⟩ := st10 (F := fkG F ls) (r := ⟨10, ls, la, ln, lh, lp, lt, lc, lv⟩) rfl (by rw [← HE3.out]; exact hE3)
        dsimp only at g3 ge gst
        subst hE3
        obtain ⟨l0, l1, -⟩ := isS_get HN.out.2.1
        obtain ⟨j, rfl⟩ : ∃ j : Nat, ls = j := ⟨ls.toNat, by omega⟩
        have hj : j < F.L.length := by omega
        rw [fk_sp l0 l1] at ge
        have hk7 := HM7.out.1
        have hbg := HBG.out.step ⟨10, j, la, ln, lh, lp, lt, lc, lv⟩
        rw [gst] at hk7 hbg
        dsimp only at hk7 hbg
        have HK7 := Lib.hid hk7
        have HB42 := Lib.hid hbg
        have hfs := fk_store (v := lv) HBG.out.ok HN.out.2.1 ge
        rw [← HN.out.1] at hfs
        have hw4 := I.word HK7.out HB42.out.ok (Nat.le_trans HB42.out.ob (by decide)) N la (by unfold Fits; omega) hfit.out.2
        obtain ⟨E4, hE4⟩ : ∃ E, E = wdE (celS (fkG F j) j la lv) N la := ⟨_, rfl⟩
        obtain ⟨V4, hV4⟩ : ∃ V, V = wdV (celS (fkG F j) j la lv) N la := ⟨_, rfl⟩
        rw [← hE4, ← hV4] at hw4 hfs
        have HFS := Lib.hid hfs
        have HGE := Lib.hid ge
        have t2 : w7.cell? ⟨q, 2, none⟩ = some (.int .i64 la) := HR7.out.cell 2
        clear gst hk7 hbg hfs hE4 hV4 g3
        go_wp2_with fail
        refine hw4.mono ?_
        rintro e w8 ⟨rfl, hb8⟩
        have HB8 : Hid (Below w.heap.size w w8) := HB7.out.trans (hb8.mono HB7.out.size)
        have HR8 := Lib.hid (HR7.out.call hb8)
        have HT8 := Lib.hid (HM7.out.2.1.call hb8)
        clear hw4 t2 hb8
        obtain ⟨a0, a1, a2, a3⟩ := celE_ok ge
        obtain ⟨ka, rfl⟩ : ∃ k : Nat, la = k := ⟨la.toNat, by omega⟩
        obtain ⟨mm, hmm⟩ : ∃ m : Nat, (ka : Int) / 64 = m := ⟨ka / 64, by omega⟩
        obtain ⟨gL, cL, s1, gP, cP, -, -, y0, y1, y2, y3, y4⟩ := HT8.out.chain hj
        obtain ⟨u0, -⟩ := y4 mm (by omega)
        rw [HK6.out.2.2.2] at y0
        obtain ⟨h1, hh1⟩ : ∃ h, h = ((sp F j).P mm).h := ⟨_, rfl⟩
        rw [← hh1] at u0
        have t1 : w8.cell? ⟨q, 1, none⟩ = some (.int .i64 j) := HR8.out.cell 1
        have t2 : w8.cell? ⟨q, 2, none⟩ = some (.int .i64 ka) := HR8.out.cell 2
        have t8 : w8.cell? ⟨q, 8, none⟩ = some (.int .u64 lv) := HR8.out.cell 8
        obtain ⟨NL, hNL⟩ : ∃ N, N = F.L.length := ⟨_, rfl⟩
        rw [← hNL] at y0 hj
        obtain ⟨M4, hM4⟩ : ∃ M : Nat, M = 4096 := ⟨_, rfl⟩
        rw [← hM4] at y3
        have HC : Hid (∀ U, Below w8.heap.size w8 U → U.cell? ⟨x, 0, none⟩ = some (.slice (some ⟨gL, 0, none⟩) NL cL) ∧ U.cell? ⟨gL, j, none⟩ = some (.pointer (some ⟨s1.sb, 0, none⟩)) ∧ U.cell? ⟨s1.sb, 0, none⟩ = some (.pointer (some ⟨s1.ab, 0, none⟩)) ∧ U.cell? ⟨s1.ab, 0, none⟩ = some (.slice (some ⟨gP, 0, none⟩) M4 cP) ∧ U.cell? ⟨gP, mm * 4, none⟩ = some (.int .i64 h1) ∧ U.cell? ⟨q, 1, none⟩ = some (.int .i64 j) ∧ U.cell? ⟨q, 2, none⟩ = some (.int .i64 ka) ∧ U.cell? ⟨q, 8, none⟩ = some (.int .u64 lv)) := fun U hU => ⟨keepc hU y0, keepc hU y1, keepc hU y2, keepc hU y3, keepc hU u0, keepc hU t1, keepc hU t2, keepc hU t8⟩
        have j0 : (0 : Int) ≤ j := by omega
        have jN : (j : Int) < NL := by omega
        have m10 : (0 : Int) ≤ mm := by omega
        have m14 : (mm : Int) < M4 := by omega
        have ka0 : (0 : Int) ≤ ka := by omega
        have iw1 : IntKind.i64.wrap (mm : Int) = mm := IntWalk.i64_in _ (by omega)
        have hrw := rword_is (HT8.out.call (Below.refl w8.heap.size w8).drew) HBF.out.ok j ka
        rw [if_pos ⟨HN.out.2.1, ge⟩, if_pos HN.out.2.1, ge, HK6.out.2.2.2] at hrw
        obtain ⟨V5, hV5⟩ : ∃ V, V = celV F (sp F j) ka := ⟨_, rfl⟩
        rw [← hV5] at hrw
        obtain ⟨Z1, hZ1⟩ : ∃ Z, Z = szO h1 := ⟨_, rfl⟩
        obtain ⟨S1, hS1⟩ : ∃ S, S = decide (shr h1) := ⟨_, rfl⟩
        have hsz := size_is h1
        have hsh := shared_is h1
        rw [← hZ1] at hsz
        rw [← hS1] at hsh
        have HFR : Hid ((E4 ≠ 0 → 1 < Z1) ∧ (E4 = 0 → S1 = true → V4 = lv) ∧ (E4 = 0 → S1 = false → V4 = V5)) := by
          have hf := HFS.out
          rw [hmm, ← hh1, ← hZ1, ← hV5] at hf
          refine ⟨hf.1, fun e1 e2 => hf.2.1 e1 ?_, fun e1 e2 => hf.2.2 e1 ?_⟩
          · rw [hS1] at e2; exact of_decide_eq_true e2
          · rw [hS1] at e2; exact of_decide_eq_false e2
        have HS0 := HC.out _ ((Below.refl w8.heap.size w8).drew)
        have HBD : Hid (Below w.heap.size w w8.drew) := HB8.out.drew
        clear a0 a1 a2 a3 y4 hh1 hNL hM4 hZ1 hS1 hV5 ge HFS
        go_upto_region 16 with (fail)
        go_region_held3 (fun U => U.cell? ⟨x, 0, none⟩ = some (.slice (some ⟨gL, 0, none⟩) NL cL) ∧ U.cell? ⟨gL, j, none⟩ = some (.pointer (some ⟨s1.sb, 0, none⟩)) ∧ U.cell? ⟨s1.sb, 0, none⟩ = some (.pointer (some ⟨s1.ab, 0, none⟩)) ∧ U.cell? ⟨s1.ab, 0, none⟩ = some (.slice (some ⟨gP, 0, none⟩) M4 cP) ∧ U.cell? ⟨gP, mm * 4, none⟩ = some (.int .i64 h1) ∧ U.cell? ⟨q, 1, none⟩ = some (.int .i64 j) ∧ U.cell? ⟨q, 2, none⟩ = some (.int .i64 ka) ∧ U.cell? ⟨q, 8, none⟩ = some (.int .u64 lv))
          (first | exact HS0 | exact HC.out _ (by repeat (first | exact Below.refl _ _ | refine Below.drew ?_)))
          (first | (go_at_call 15; (with_reducible refine (hsh _).mono ?_); rintro e wz ⟨rfl, rfl⟩) | fail)
        all_goals
          clear y0 y1 y2 y3 u0 t1 t2 t8
          obtain ⟨y0, y1, y2, y3, u0, t1, t2, t8⟩ := HS0
          go_wp2_with fail
          refine hrw.mono ?_
          rintro e w9 ⟨rfl, hb9⟩
          have HB9 : Hid (Below w.heap.size w w9) := HBD.out.trans (hb9.mono HBD.out.size)
          have HC9 : Hid (∀ U, Below w9.heap.size w9 U → U.cell? ⟨x, 0, none⟩ = some (.slice (some ⟨gL, 0, none⟩) NL cL) ∧ U.cell? ⟨gL, j, none⟩ = some (.pointer (some ⟨s1.sb, 0, none⟩)) ∧ U.cell? ⟨s1.sb, 0, none⟩ = some (.pointer (some ⟨s1.ab, 0, none⟩)) ∧ U.cell? ⟨s1.ab, 0, none⟩ = some (.slice (some ⟨gP, 0, none⟩) M4 cP) ∧ U.cell? ⟨gP, mm * 4, none⟩ = some (.int .i64 h1) ∧ U.cell? ⟨q, 1, none⟩ = some (.int .i64 j) ∧ U.cell? ⟨q, 2, none⟩ = some (.int .i64 ka) ∧ U.cell? ⟨q, 8, none⟩ = some (.int .u64 lv)) := fun U hU => ⟨keepc hU (keepc hb9 y0), keepc hU (keepc hb9 y1), keepc hU (keepc hb9 y2), keepc hU (keepc hb9 y3), keepc hU (keepc hb9 u0), keepc hU (keepc hb9 t1), keepc hU (keepc hb9 t2), keepc hU (keepc hb9 t8)⟩
          have t8' := keepc hb9 t8
          clear hrw hb9 y0 y1 y2 y3 u0 t1 t2 t8
          by_cases hE4 : E4 = 0
          · subst hE4
            cases S1 with
            | true =>
              have hv4 := HFR.out.2.1 rfl rfl
              subst hv4
              go_wp2_with fail
              go_ret
              exact ⟨ret_bool (by simp), HB9.out⟩
            | false =>
              have hv4 := HFR.out.2.2 rfl rfl
              subst hv4
              go_wp2_with fail
              go_ret
              exact ⟨ret_bool (by simp), HB9.out⟩
          · have ee4 : (E4 == 0) = false := by simpa using hE4
            have hz1 := HFR.out.1 hE4
            have hz2 : decide (1 < Z1) = true := decide_eq_true hz1
            have HS9 := HC9.out _ ((Below.refl w9.heap.size w9).drew)
            have HB9D : Hid (Below w.heap.size w w9.drew) := HB9.out.drew
            clear hE4 hz1 t8'
            go_upto_region 19 with (fail)
            go_region_held3 (fun U => U.cell? ⟨x, 0, none⟩ = some (.slice (some ⟨gL, 0, none⟩) NL cL) ∧ U.cell? ⟨gL, j, none⟩ = some (.pointer (some ⟨s1.sb, 0, none⟩)) ∧ U.cell? ⟨s1.sb, 0, none⟩ = some (.pointer (some ⟨s1.ab, 0, none⟩)) ∧ U.cell? ⟨s1.ab, 0, none⟩ = some (.slice (some ⟨gP, 0, none⟩) M4 cP) ∧ U.cell? ⟨gP, mm * 4, none⟩ = some (.int .i64 h1) ∧ U.cell? ⟨q, 1, none⟩ = some (.int .i64 j) ∧ U.cell? ⟨q, 2, none⟩ = some (.int .i64 ka) ∧ U.cell? ⟨q, 8, none⟩ = some (.int .u64 lv))
              (first | exact HS9 | exact HC9.out _ (by repeat (first | exact Below.refl _ _ | refine Below.drew ?_)))
              (first | (go_at_call 18; (with_reducible refine (hsz _).mono ?_); rintro e wz ⟨rfl, rfl⟩) | fail)
            all_goals
              go_wp2_with fail
              go_ret
              first | exact ⟨rfl, HB9D.out⟩ | exact ⟨ret_bool hz2, HB9D.out⟩
      · have ee : (E3 == 0) = false := by simpa using hE3
        go_wp2_with fail
        go_ret
        exact ⟨rfl, HB7.out⟩
  · have ee : (E == 0) = false := by simpa using hE0
    have hrd := rdo9 (HS3.out.2.1.call (Below.refl W3.heap.size W3).drew) HBF.out (by decide) 7 ls 0 0 0 0 0 0 0 hrf.out
    rw [HK.out.2.2.2, ← HE.out.1, ← HE.out.2] at hrd
    have d1 : W3.cell? ⟨q, 1, none⟩ = some (.int .i64 ls) := HR3.out.cell 1
    have hbd := (Below.refl W3.heap.size W3).drew
    have hs0 : W3.drew.cell? ⟨b3, 0, none⟩ = some (.int .i64 E) ∧ W3.drew.cell? ⟨q, 1, none⟩ = some (.int .i64 ls) := ⟨keepc hbd c0, keepc hbd d1⟩
    have HRD := Lib.hid (HRR.out.call hbd)
    have HBD : Hid (Below w.heap.size w W3.drew) := HB3.out.drew
    have HRQ := Lib.hid (HR3.out.call hbd)
    have HS3' := Lib.hid (HS3.out.2.1.call hbd)
    have hfl := run_fieldE
    clear hE0 c1
    go_upto_region 6 with (fail)
    go_region_held3 (fun U => U.cell? ⟨b3, 0, none⟩ = some (.int .i64 E) ∧ U.cell? ⟨q, 1, none⟩ = some (.int .i64 ls))
      (first | exact hs0 | assumption | (dsimp only; assumption))
      (first | (go_at_call 16; (with_reducible refine hrd.mono ?_); rintro e w5 ⟨rfl, hd⟩; obtain ⟨T5, z0, z1, z2, z3⟩ := hd; have HR5 : Hid (Lrow w5 b3 33 [.int .i64 E, .int .u64 V]) := (z2.keep b3 HRD.out.lt (HS3'.out.other HRD.out (by decide))).trans HRD.out; have HQ5 : Hid (Lrow w5 q 25 (opL ⟨lk, ls, la, ln, lh, lp, lt, lc, lv⟩)) := (z2.keep q HRQ.out.lt (HS3'.out.other HRQ.out (by decide))).trans HRQ.out; have HB5 : Hid (Below w.heap.size w w5) := HBD.out.trans ((z2.below HS3'.out.lw fun k hk => HS3'.out.low k hk).mono HG0.out.size); have hs9 : w5.cell? ⟨b3, 0, none⟩ = some (.int .i64 E) ∧ w5.cell? ⟨q, 1, none⟩ = some (.int .i64 ls) := ⟨HR5.out.cell 0, HQ5.out.cell 1⟩; clear z0 z1 z2 z3) | fail)
    all_goals
      go_wp2_with fail
      go_ret
      exact ⟨ret_bool (by simp), HB5.out⟩
end Go.Proofs.YtnppnoabhpkmkaaGreat
