/- Spaces: FlatZaps, walked. -/
import Derived.Test.YtnppnoabhpkmkaaGreatFs6
import Derived.Test.YtnppnoabhpkmkaaGreatJs1
import Derived.BigRegion
namespace Go.Proofs.YtnppnoabhpkmkaaGreat
open Go.RowKit
theorem run_fieldZ (e v : Int) (w : World) : (Instr.field 33 (.agg #[.int .i64 e, .int .u64 v]) 0).run Tryz.prog w = .ok (.int .i64 e) w := by kernel_rfl
set_option maxHeartbeats 16000000 in
set_option maxRecDepth 100000 in
theorem zaps_walk (I : FlI) (A : Option Addr) (n c : Nat) (l : Rq) (w : World) (hA : Rqs w w.heap.size A n) (hl : IsRq l) :
    Calls Tryz.prog 7 #[.slice A n c, .agg (rqCells l).toArray] w fun e w' => e = .returned (.bool true) ∧ Below w.heap.size w w' := by
  obtain ⟨M, hM, hls⟩ := hA.list
  obtain ⟨W0, hW0⟩ : ∃ W0, W0 = w.alloc (.cells (opL l).toArray 25) := ⟨_, rfl⟩
  obtain ⟨q, hq⟩ : ∃ q, q = w.heap.size := ⟨_, rfl⟩
  have g0 : Below w.heap.size w W0 := by rw [hW0]; exact below_new _ _
  have rs : Lrow W0 q 25 (opL l) := by rw [hW0, hq]; exact Lrow.new w _ (opL l)
  have hm := made_any I A n c w.heap.size 40 M W0 hM (hls.below g0) g0.size (by decide)
  have HBF := Lib.hid (mdE_b M 40)
  generalize mdS (M.take 40) = F at hm HBF
  have HG0 := Lib.hid g0
  have HRS := Lib.hid rs
  have HW := Lib.hid (And.intro hW0 hq)
  have HF := Lib.hid hl
  clear hA hM hls hW0 hq g0 rs hl
  obtain ⟨lk, ls, la, ln, lh, lp, lt, lc, lv⟩ := l
  dsimp only [rqCells] at HW ⊢
  have HW' := HW.out.1
  dsimp only [opL] at HW'
  have HWA := Lib.hid HW'
  clear HW'
  go_enter Tryz.func7, Tryz.ntmps7
  go_upto_region 1 with (fail)
  rw [← HWA.out, ← HW.out.2]
  go_wp2_with fail
  refine hm.mono ?_
  rintro e w1 ⟨s, x, rfl, hst, hb1⟩
  have HST := Lib.hid hst
  have HB1 := Lib.hid hb1
  clear hm hst hb1
  go_wp2_with fail
  refine (awake_any I _).mono ?_
  rintro e w2 ⟨rfl, hb2⟩
  have HB2 : Hid (Below W0.heap.size W0 w2) := HB1.out.trans (hb2.mono HB1.out.size)
  have hr2 := HRS.out.call HB2.out
  have hqB : Hid (q < W0.heap.size) := HRS.out.lt
  have hst2 := HST.out.call hb2
  obtain ⟨W3, hW3⟩ : ∃ W, W = w2.setCell ⟨q, 0, none⟩ (.int .i64 5) := ⟨_, rfl⟩
  have hr3 := box_put hr2 5
  have hst3 := hst2.put hr2 hqB.out (by decide) (by decide) 0 (.int .i64 5)
  rw [← hW3] at hr3 hst3
  have hf0 := (hr2).frozen 0
  have he0 := (hr2).cell 0
  have HB3 : Hid (Below w.heap.size w W3) := by
    show Below _ _ _
    rw [hW3]
    exact below_set (HG0.out.trans (HB2.out.mono HG0.out.size)) (by rw [HW.out.2]; exact Nat.le_refl _) _ _
  have HRF : Hid (IsRq ⟨5, ls, la, ln, lh, lp, lt, lc, lv⟩) := ⟨by show Fits 5; unfold Fits; omega, HF.out.s, HF.out.a, HF.out.n, HF.out.h, HF.out.p, HF.out.t, HF.out.c, HF.out.v⟩
  obtain ⟨X, T, ex, k1, k2, k3⟩ := hst3
  have hdo := I.do9 k1 HBF.out (by decide) 5 ls la ln lh lp lt lc lv HRF.out
  have hbx := box9 hr3
  unfold Box9 at hbx
  obtain ⟨e0, e1, e2, e3, e4, e5, e6, e7, e8⟩ := hbx
  obtain ⟨E, hE⟩ : ∃ E, E = (stF F ⟨5, ls, la, ln, lh, lp, lt, lc, lv⟩).1 := ⟨_, rfl⟩
  obtain ⟨V, hV⟩ : ∃ V, V = (stF F ⟨5, ls, la, ln, lh, lp, lt, lc, lv⟩).2.1 := ⟨_, rfl⟩
  rw [← hE, ← hV] at hdo
  have HE := Lib.hid hE
  have HR3 := Lib.hid hr3
  have HK := Lib.hid (And.intro k1 (And.intro k2 (And.intro k3 ex)))
  have HZ3 := Lib.hid hW3
  have hfl := run_fieldZ
  clear hb2 hr2 hst2 hr3 hE hV hW3 k1 k2 k3 ex
  go_upto_region 5 with (fail)
  rw [← HZ3.out]
  clear hf0 he0
  go_wp2_with fail
  with_reducible refine hdo.mono ?_
  rintro e w5 ⟨rfl, hd⟩
  obtain ⟨X5, m1, m2, m3, mb⟩ := half HK.out.1 HK.out.2.1 HK.out.2.2.1 hd
  have HR5 : Hid (Lrow w5 q 25 (opL ⟨5, ls, la, ln, lh, lp, lt, lc, lv⟩)) := (mb.block q hqB.out).trans HR3.out
  have HB5 : Hid (Below w.heap.size w w5) := HB3.out.trans (mb.mono HG0.out.size)
  have HS5 : Hid (St I W0.heap.size w5 s x (stF F ⟨5, ls, la, ln, lh, lp, lt, lc, lv⟩).2.2 F) := ⟨X5, T, HK.out.2.2.2, m1, m2, m3⟩
  have HM5 := Lib.hid (And.intro m1 m2)
  have HBG := Lib.hid (HBF.out.step ⟨5, ls, la, ln, lh, lp, lt, lc, lv⟩)
  clear hdo hd m1 m2 m3 mb e0 e1 e2 e3 e4 e5 e6 e7 e8
  by_cases hE0 : E = 0
  · obtain ⟨p1, p2, p3, p4, p5⟩ := zap_reads (F := F) (by rw [← HE.out]; exact hE0)
    subst hE0
    obtain ⟨l0, l1, -⟩ := isS_get p1
    obtain ⟨j, hjl⟩ : ∃ j : Nat, ls = j := ⟨ls.toNat, by omega⟩
    obtain ⟨ka, hka⟩ : ∃ k : Nat, la = k := ⟨la.toNat, by omega⟩
    obtain ⟨nn, hnn⟩ : ∃ k : Nat, ln = k := ⟨ln.toNat, by omega⟩
    subst hjl hka hnn
    have hj : j < F.L.length := by omega
    obtain ⟨G, hG⟩ : ∃ G, G = (stF F ⟨5, j, ka, nn, lh, lp, lt, lc, lv⟩).2.2 := ⟨_, rfl⟩
    rw [← hG] at HS5 HM5 HBG p5
    obtain ⟨gL, cL, s1, gP, cP, -, -, y0, y1, y2, y3, y4⟩ := HM5.out.2.chain hj
    rw [HK.out.2.2.2] at y0
    obtain ⟨NL, hNL⟩ : ∃ N, N = F.L.length := ⟨_, rfl⟩
    rw [← hNL] at y0 hj
    obtain ⟨M4, hM4⟩ : ∃ M : Nat, M = 4096 := ⟨_, rfl⟩
    rw [← hM4] at y3
    have t1 : w5.cell? ⟨q, 1, none⟩ = some (.int .i64 j) := HR5.out.cell 1
    have t2 : w5.cell? ⟨q, 2, none⟩ = some (.int .i64 ka) := HR5.out.cell 2
    have t3 : w5.cell? ⟨q, 3, none⟩ = some (.int .i64 nn) := HR5.out.cell 3
    have HC : Hid (∀ U, Below w5.heap.size w5 U → ∀ m : Nat, m < M4 → ∀ h1, h1 = ((sp F j).P m).h → U.cell? ⟨x, 0, none⟩ = some (.slice (some ⟨gL, 0, none⟩) NL cL) ∧ U.cell? ⟨gL, j, none⟩ = some (.pointer (some ⟨s1.sb, 0, none⟩)) ∧ U.cell? ⟨s1.sb, 0, none⟩ = some (.pointer (some ⟨s1.ab, 0, none⟩)) ∧ U.cell? ⟨s1.ab, 0, none⟩ = some (.slice (some ⟨gP, 0, none⟩) M4 cP) ∧ U.cell? ⟨gP, m * 4, none⟩ = some (.int .i64 h1) ∧ U.cell? ⟨q, 1, none⟩ = some (.int .i64 j) ∧ U.cell? ⟨q, 2, none⟩ = some (.int .i64 ka)) := fun U hU m hm h1 e => ⟨keepc hU y0, keepc hU y1, keepc hU y2, keepc hU y3, by rw [e]; exact keepc hU (y4 m (by omega)).1, keepc hU t1, keepc hU t2⟩
    have HT3 : Hid (∀ U, Below w5.heap.size w5 U → U.cell? ⟨q, 3, none⟩ = some (.int .i64 nn) ∧ U.cell? ⟨q, 1, none⟩ = some (.int .i64 j) ∧ U.cell? ⟨q, 2, none⟩ = some (.int .i64 ka)) := fun U hU => ⟨keepc hU t3, keepc hU t1, keepc hU t2⟩
    have j0 : (0 : Int) ≤ j := by omega
    have jN : (j : Int) < NL := by omega
    have HP := Lib.hid (And.intro p2 (And.intro p3 (And.intro p4 p5)))
    have HM4 := Lib.hid hM4
    clear p1 p2 p3 p4 p5 l0 l1 y0 y1 y2 y3 y4 hNL hM4 hj hG t1 t2 t3
    go_wp2_with fail
    go_loopw [8] (fun i wr => ∃ k : Nat, k ≤ nn ∧ k ≤ 70 ∧ i = .int .i64 k ∧ Below w5.heap.size w5 wr) (fun i _ => nn - (RowKit.intOf i).toNat)
    case atStart => exact ⟨0, by omega, by omega, rfl, Below.refl _ _⟩
    case round =>
      obtain ⟨k, hk1, hk2, rfl, hbr⟩ := hrel
      have HBR := Lib.hid hbr
      obtain ⟨t3, t1, t2⟩ := HT3.out _ hbr
      by_cases hboth : k < nn ∧ k < 70
      · obtain ⟨h1, h2⟩ := hboth
        have dl1 : (k : Int) < nn := by omega
        have dl2 : (k : Int) < 70 := by omega
        obtain ⟨m, hm⟩ : ∃ m : Nat, (ka : Int) + k = m := ⟨ka + k, by omega⟩
        obtain ⟨rr, hrr⟩ : ∃ r : Nat, (k : Int) % 8 = r := ⟨k % 8, by omega⟩
        obtain ⟨at_, hat⟩ : ∃ t : Int, (m : Int) * 64 + 8 * rr = t := ⟨_, rfl⟩
        have hr8 : rr < 8 := by omega
        have hmM : m < 4096 := by have := HP.out.2.2.1; omega
        have iw0 : IntKind.i64.wrap ((ka : Int) + k) = m := by rw [hm]; exact IntWalk.i64_in _ (by omega)
        have iw1 : IntKind.i64.wrap ((m : Int) * 64) = (m : Int) * 64 := IntWalk.i64_in _ (by omega)
        have iw2 : IntKind.i64.wrap (8 * (rr : Int)) = 8 * (rr : Int) := IntWalk.i64_in _ (by omega)
        have iw3 : IntKind.i64.wrap ((m : Int) * 64 + 8 * (rr : Int)) = at_ := by rw [hat]; exact IntWalk.i64_in _ (by omega)
        have iwk : IntKind.i64.wrap ((k : Int) + 1) = (k : Int) + 1 := IntWalk.i64_in _ (by omega)
        have hrm : (k : Int).tmod 8 = rr := by rw [Int.tmod_eq_emod_of_nonneg (by omega)]; exact hrr
        obtain ⟨h1', hh1⟩ : ∃ h, h = ((sp F j).P m).h := ⟨_, rfl⟩
        have hz := HP.out.2.2.2 k (by omega) dl1
        rw [hm, hrr, hat, ← hh1] at hz
        obtain ⟨z1, z2, z3, z4⟩ := hz
        obtain ⟨V1, hV1⟩ : ∃ V, V = wdV G j at_ := ⟨_, rfl⟩
        obtain ⟨V2, hV2⟩ : ∃ V, V = wdV F j at_ := ⟨_, rfl⟩
        have hatf : Fits at_ := by unfold Fits; omega
        have hw := I.word (I.call HM5.out.1 hbr) HBG.out.ok (Nat.le_trans HBG.out.ob (by decide)) j at_ HF.out.s hatf
        rw [z1, ← hV1] at hw
        rw [← hV1] at z3
        rw [← hV1, ← hV2] at z4
        have HZ34 := Lib.hid (And.intro z3 z4)
        have HZ2 := Lib.hid (And.intro z2 hV2)
        have HLT := Lib.hid (And.intro h1 h2)
        have HH1 := Lib.hid hh1
        have HMM := Lib.hid hmM
        clear h1 h2 hk1 hk2 z1 z2 z3 z4 hV1 hV2 hatf hh1 hmM hat hr8 hm
        go_wp2_with fail
        with_reducible refine hw.mono ?_
        rintro e w6 ⟨rfl, hb6⟩
        have HB6r : Hid (Below w5.heap.size w5 w6) := HBR.out.trans (hb6.mono HBR.out.size)
        have hrw := rword_is (HM5.out.2.call HB6r.out) HBF.out.ok j at_
        have hrw : Calls Tryz.prog 17 #[.pointer (some ⟨T.xa, 0, none⟩), .int .i64 j, .int .i64 at_] w6 fun e w' => e = .returned (.tuple #[.int .u64 (wdV F j at_), .int .i64 (wdE F j at_)]) ∧ Below w6.heap.size w6 w' := hrw
        rw [HK.out.2.2.2, HZ2.out.1, ← HZ2.out.2] at hrw
        clear t1 t2 t3 hw hb6 hbr
        obtain ⟨t3, t1, t2⟩ := HT3.out _ HB6r.out
        go_wp2_with fail
        with_reducible refine hrw.mono ?_
        rintro e w7 ⟨rfl, hb7⟩
        have HB7r : Hid (Below w5.heap.size w5 w7) := HB6r.out.trans (hb7.mono HB6r.out.size)
        have HCR : Hid (∀ U, Below w7.heap.size w7 U → U.cell? ⟨x, 0, none⟩ = some (.slice (some ⟨gL, 0, none⟩) NL cL) ∧ U.cell? ⟨gL, j, none⟩ = some (.pointer (some ⟨s1.sb, 0, none⟩)) ∧ U.cell? ⟨s1.sb, 0, none⟩ = some (.pointer (some ⟨s1.ab, 0, none⟩)) ∧ U.cell? ⟨s1.ab, 0, none⟩ = some (.slice (some ⟨gP, 0, none⟩) M4 cP) ∧ U.cell? ⟨gP, m * 4, none⟩ = some (.int .i64 h1') ∧ U.cell? ⟨q, 1, none⟩ = some (.int .i64 j) ∧ U.cell? ⟨q, 2, none⟩ = some (.int .i64 ka)) := fun U hU => HC.out U (HB7r.out.trans (hU.mono HB7r.out.size)) m (by have := HM4.out; have := HMM.out; omega) h1' HH1.out
        have HS0 := HCR.out _ ((Below.refl w7.heap.size w7).drew)
        have HBD : Hid (Below w5.heap.size w5 w7.drew) := HB7r.out.drew
        have m10 : (0 : Int) ≤ m := by omega
        have m14 : (m : Int) < M4 := by have := HM4.out; have := HMM.out; omega
        have hsh := shared_is h1'
        obtain ⟨S1, hS1⟩ : ∃ S, S = decide (shr h1') := ⟨_, rfl⟩
        rw [← hS1] at hsh
        have HFR : Hid ((S1 = true → V1 = V2) ∧ (S1 = false → V1 = 0)) := by
          refine ⟨fun e => HZ34.out.2 ?_, fun e => HZ34.out.1 ?_⟩
          · rw [hS1] at e; exact of_decide_eq_true e
          · rw [hS1] at e; exact of_decide_eq_false e
        clear hrw hb7 t1 t2 t3 hS1
        go_upto_region 11 with (fail)
        go_region_held3 (fun U => U.cell? ⟨x, 0, none⟩ = some (.slice (some ⟨gL, 0, none⟩) NL cL) ∧ U.cell? ⟨gL, j, none⟩ = some (.pointer (some ⟨s1.sb, 0, none⟩)) ∧ U.cell? ⟨s1.sb, 0, none⟩ = some (.pointer (some ⟨s1.ab, 0, none⟩)) ∧ U.cell? ⟨s1.ab, 0, none⟩ = some (.slice (some ⟨gP, 0, none⟩) M4 cP) ∧ U.cell? ⟨gP, m * 4, none⟩ = some (.int .i64 h1') ∧ U.cell? ⟨q, 1, none⟩ = some (.int .i64 j) ∧ U.cell? ⟨q, 2, none⟩ = some (.int .i64 ka))
          (first | exact HS0 | exact HCR.out _ (by repeat (first | exact Below.refl _ _ | refine Below.drew ?_)))
          (first | (go_at_call 15; (with_reducible refine (hsh _).mono ?_); rintro e wz ⟨rfl, rfl⟩) | fail)
        all_goals
          cases S1 with
          | true =>
            have hv := HFR.out.1 rfl
            subst hv
            go_wp2_with fail
            go_roundw
            case rel => exact ⟨k + 1, HLT.out.1, HLT.out.2, by go_num, HBD.out⟩
            case measure => have := HLT.out; simp only [RowKit.intOf]; omega
          | false =>
            have hv := HFR.out.2 rfl
            subst hv
            go_wp2_with fail
            go_roundw
            case rel => exact ⟨k + 1, HLT.out.1, HLT.out.2, by go_num, HBD.out⟩
            case measure => have := HLT.out; simp only [RowKit.intOf]; omega
      · have HRz : Hid (Lrow wr q 25 (opL ⟨5, j, ka, nn, lh, lp, lt, lc, lv⟩)) := HR5.out.call hbr
        have HSTz := Lib.hid (HS5.out.call hbr)
        have HBz : Hid (Below w.heap.size w wr) := HB5.out.trans (hbr.mono HB5.out.size)
        by_cases h1 : k < nn
        case' pos =>
          have dl1 : (k : Int) < nn := by omega
          have dl2 : ¬ (k : Int) < 70 := by omega
        case' neg =>
          have dl1 : ¬ (k : Int) < nn := by omega
        all_goals
          clear hboth h1 hbr hk1 hk2 t1 t2
          obtain ⟨W6, hW6⟩ : ∃ W, W = wr.setCell ⟨q, 0, none⟩ (.int .i64 3) := ⟨_, rfl⟩
          have hr6 := box_put HRz.out 3
          have hst6 := HSTz.out.put HRz.out hqB.out (by decide) (by decide) 0 (.int .i64 3)
          rw [← hW6] at hr6 hst6
          have hf0 := (HRz.out).frozen 0
          have he0 := (HRz.out).cell 0
          have HB6 : Hid (Below w.heap.size w W6) := by
            show Below _ _ _
            rw [hW6]
            exact below_set HBz.out (by rw [HW.out.2]; exact Nat.le_refl _) _ _
          have HRL : Hid (IsRq ⟨3, (j : Int), (ka : Int), (nn : Int), lh, lp, lt, lc, lv⟩) := ⟨by show Fits 3; unfold Fits; omega, HF.out.s, HF.out.a, HF.out.n, HF.out.h, HF.out.p, HF.out.t, HF.out.c, HF.out.v⟩
          obtain ⟨X6, T6, ex6, k1, k2, k3⟩ := hst6
          have hdo := I.do9 k1 HBG.out (by decide) 3 (j : Int) (ka : Int) (nn : Int) lh lp lt lc lv HRL.out
          have hbx := box9 hr6
          unfold Box9 at hbx
          obtain ⟨e0, e1, e2, e3, e4, e5, e6, e7, e8⟩ := hbx
          obtain ⟨E3, hE3⟩ : ∃ E, E = (stF G ⟨3, (j : Int), (ka : Int), (nn : Int), lh, lp, lt, lc, lv⟩).1 := ⟨_, rfl⟩
          obtain ⟨V3, hV3⟩ : ∃ V, V = (stF G ⟨3, (j : Int), (ka : Int), (nn : Int), lh, lp, lt, lc, lv⟩).2.1 := ⟨_, rfl⟩
          rw [← hE3, ← hV3] at hdo
          have HE3 := Lib.hid hE3
          have HR6 := Lib.hid hr6
          have HK6 := Lib.hid (And.intro k1 (And.intro k2 (And.intro k3 ex6)))
          have HZ6 := Lib.hid hW6
          clear hr6 hE3 hV3 hW6 k1 k2 k3 ex6
          go_upto_region 15 with (fail)
          rw [← HZ6.out]
          clear hf0 he0
          go_wp2_with fail
          with_reducible refine hdo.mono ?_
          rintro e w7 ⟨rfl, hd⟩
          obtain ⟨X7, m1, m2, m3, mb⟩ := half HK6.out.1 HK6.out.2.1 HK6.out.2.2.1 hd
          have HR7 : Hid (Lrow w7 q 25 (opL ⟨3, (j : Int), (ka : Int), (nn : Int), lh, lp, lt, lc, lv⟩)) := (mb.block q hqB.out).trans HR6.out
          have HB7 : Hid (Below w.heap.size w w7) := HB6.out.trans (mb.mono HG0.out.size)
          have HM7 := Lib.hid (And.intro m1 (And.intro m2 m3))
          have HBG2 := Lib.hid (HBG.out.step ⟨3, (j : Int), (ka : Int), (nn : Int), lh, lp, lt, lc, lv⟩)
          clear hdo hd m1 m2 m3 mb e0 e1 e2 e3 e4 e5 e6 e7 e8
          by_cases hE3 : E3 = 0
          · obtain ⟨a1, n1, an, u1, u2, u3⟩ := unmap_then (by rw [← HE3.out]; exact hE3)
            subst hE3
            obtain ⟨G2, hG2⟩ : ∃ G2, G2 = (stF G ⟨3, (j : Int), (ka : Int), (nn : Int), lh, lp, lt, lc, lv⟩).2.2 := ⟨_, rfl⟩
            rw [← hG2] at HM7 HBG2 u1 u2 u3
            have iw : IntKind.i64.wrap ((ka : Int) * 64) = (ka : Int) * 64 := IntWalk.i64_in _ (by omega)
            have hw := I.word HM7.out.1 HBG2.out.ok (Nat.le_trans HBG2.out.ob (by decide)) (j : Int) ((ka : Int) * 64) HF.out.s (by unfold Fits; omega)
            obtain ⟨V4, hV4⟩ : ∃ V, V = wdV G2 (j : Int) ((ka : Int) * 64) := ⟨_, rfl⟩
            rw [u1, ← hV4] at hw
            have d1 : w7.cell? ⟨q, 1, none⟩ = some (.int .i64 (j : Int)) := HR7.out.cell 1
            have d2 : w7.cell? ⟨q, 2, none⟩ = some (.int .i64 (ka : Int)) := HR7.out.cell 2
            have HU := Lib.hid (And.intro u2 (And.intro u3 (And.intro a1 (And.intro n1 an))))
            clear hG2 hV4 u1 u2 u3 a1 n1 an
            go_wp2_with fail
            with_reducible refine hw.mono ?_
            rintro e w8 ⟨rfl, hb8⟩
            have HB8 : Hid (Below w.heap.size w w8) := HB7.out.trans (hb8.mono HB7.out.size)
            have HR8 := Lib.hid (HR7.out.call hb8)
            have HK8 := Lib.hid (And.intro (I.call HM7.out.1 hb8) (HM7.out.2.1.call hb8))
            have HRM : Hid (IsRq ⟨2, (j : Int), (ka : Int), (nn : Int), 1, 3, 0, 0, 0⟩) := ⟨by show Fits 2; unfold Fits; omega, HF.out.s, HF.out.a, HF.out.n, by show Fits 1; unfold Fits; omega, by show Fits 3; unfold Fits; omega, by show Fits 0; unfold Fits; omega, by show Fits 0; unfold Fits; omega, by dsimp only; omega⟩
            have hdo := I.do9 HK8.out.1 HBG2.out (by decide) 2 (j : Int) (ka : Int) (nn : Int) 1 3 0 0 0 HRM.out
            obtain ⟨E5, hE5⟩ : ∃ E, E = (stF G2 ⟨2, (j : Int), (ka : Int), (nn : Int), 1, 3, 0, 0, 0⟩).1 := ⟨_, rfl⟩
            obtain ⟨V5, hV5⟩ : ∃ V, V = (stF G2 ⟨2, (j : Int), (ka : Int), (nn : Int), 1, 3, 0, 0, 0⟩).2.1 := ⟨_, rfl⟩
            rw [← hE5, ← hV5] at hdo
            have HE5 := Lib.hid hE5
            have t1 : w8.cell? ⟨q, 1, none⟩ = some (.int .i64 (j : Int)) := HR8.out.cell 1
            have t2 : w8.cell? ⟨q, 2, none⟩ = some (.int .i64 (ka : Int)) := HR8.out.cell 2
            have t3 : w8.cell? ⟨q, 3, none⟩ = some (.int .i64 (nn : Int)) := HR8.out.cell 3
            clear hw hb8 d1 d2 hE5 hV5
            go_wp2_with fail
            with_reducible refine hdo.mono ?_
            rintro e w9 ⟨rfl, hd⟩
            obtain ⟨X9, m1, m2, m3, mb⟩ := half HK8.out.1 HK8.out.2 HM7.out.2.2 hd
            have HR9 : Hid (Lrow w9 q 25 (opL ⟨3, (j : Int), (ka : Int), (nn : Int), lh, lp, lt, lc, lv⟩)) := (mb.block q hqB.out).trans HR8.out
            have HB9 : Hid (Below w.heap.size w w9) := HB8.out.trans (mb.mono HG0.out.size)
            have HM9 := Lib.hid m1
            have HBG3 := Lib.hid (HBG2.out.step ⟨2, (j : Int), (ka : Int), (nn : Int), 1, 3, 0, 0, 0⟩)
            have d1 : w9.cell? ⟨q, 1, none⟩ = some (.int .i64 (j : Int)) := HR9.out.cell 1
            have d2 : w9.cell? ⟨q, 2, none⟩ = some (.int .i64 (ka : Int)) := HR9.out.cell 2
            clear hdo hd m1 m2 m3 mb t1 t2 t3
            by_cases hE5 : E5 = 0
            · obtain ⟨v1, v2⟩ := HU.out.1 (by rw [← HE5.out]; exact hE5)
              have hla : Fits ((ka : Int) * 64) := by have := HU.out.2.2; unfold Fits; omega
              have hw := I.word HM9.out HBG3.out.ok (Nat.le_trans HBG3.out.ob (by decide)) (j : Int) ((ka : Int) * 64) HF.out.s hla
              rw [v1, v2] at hw
              subst hE5
              clear v1 v2 hla
              go_wp2_with fail
              with_reducible refine hw.mono ?_
              rintro e w10 ⟨rfl, hb10⟩
              have HB10 : Hid (Below w.heap.size w w10) := HB9.out.trans (hb10.mono HB9.out.size)
              clear hw hb10 d1 d2
              go_wp2_with fail
              go_ret
              exact ⟨by first | rfl | exact ret_bool (by simp), HB10.out⟩
            · have e5 : (E5 == 0) = false := by simpa using hE5
              have hlen := HU.out.2.1 (by rw [← HE5.out]; exact hE5)
              have har := I.areas HM9.out HBG3.out.ok (j : Int) HF.out.s
              unfold ToldA at har
              generalize arsF (stF G2 ⟨2, (j : Int), (ka : Int), (nn : Int), 1, 3, 0, 0, 0⟩).2.2 (j : Int) = R at hlen har
              obtain ⟨NR, hNR⟩ : ∃ N, N = R.length := ⟨_, rfl⟩
              rw [← hNR] at hlen har
              have g63 : decide (63 ≤ (NR : Int)) = true := decide_eq_true (by omega)
              have HNR := Lib.hid hlen
              clear hNR hlen hE5
              go_wp2_with fail
              with_reducible refine har.mono ?_
              rintro e w10 ⟨A10, c10, rfl, -, hb10⟩
              have HB10 : Hid (Below w.heap.size w w10) := HB9.out.trans (hb10.mono HB9.out.size)
              clear har hb10 d1 d2
              go_wp2_with fail
              go_ret
              exact ⟨by first | rfl | exact ret_bool (by simp) | exact ret_bool (by have := HNR.out; simp; omega), HB10.out⟩
          · have e3 : (E3 == 0) = false := by simpa using hE3
            go_wp2_with fail
            go_ret
            exact ⟨rfl, HB7.out⟩
  · have ee : (E == 0) = false := by simpa using hE0
    obtain ⟨G, hG⟩ : ∃ G, G = (stF F ⟨5, ls, la, ln, lh, lp, lt, lc, lv⟩).2.2 := ⟨_, rfl⟩
    rw [← hG] at HS5 HBG
    have HRz := HR5
    have HSTz := HS5
    have HBz := HB5
    clear hG hE0
    obtain ⟨W6, hW6⟩ : ∃ W, W = w5.setCell ⟨q, 0, none⟩ (.int .i64 3) := ⟨_, rfl⟩
    have hr6 := box_put HRz.out 3
    have hst6 := HSTz.out.put HRz.out hqB.out (by decide) (by decide) 0 (.int .i64 3)
    rw [← hW6] at hr6 hst6
    have hf0 := (HRz.out).frozen 0
    have he0 := (HRz.out).cell 0
    have HB6 : Hid (Below w.heap.size w W6) := by
      show Below _ _ _
      rw [hW6]
      exact below_set HBz.out (by rw [HW.out.2]; exact Nat.le_refl _) _ _
    have HRL : Hid (IsRq ⟨3, ls, la, ln, lh, lp, lt, lc, lv⟩) := ⟨by show Fits 3; unfold Fits; omega, HF.out.s, HF.out.a, HF.out.n, HF.out.h, HF.out.p, HF.out.t, HF.out.c, HF.out.v⟩
    obtain ⟨X6, T6, ex6, k1, k2, k3⟩ := hst6
    have hdo := I.do9 k1 HBG.out (by decide) 3 ls la ln lh lp lt lc lv HRL.out
    have hbx := box9 hr6
    unfold Box9 at hbx
    obtain ⟨e0, e1, e2, e3, e4, e5, e6, e7, e8⟩ := hbx
    obtain ⟨E3, hE3⟩ : ∃ E, E = (stF G ⟨3, ls, la, ln, lh, lp, lt, lc, lv⟩).1 := ⟨_, rfl⟩
    obtain ⟨V3, hV3⟩ : ∃ V, V = (stF G ⟨3, ls, la, ln, lh, lp, lt, lc, lv⟩).2.1 := ⟨_, rfl⟩
    rw [← hE3, ← hV3] at hdo
    have HE3 := Lib.hid hE3
    have HR6 := Lib.hid hr6
    have HK6 := Lib.hid (And.intro k1 (And.intro k2 (And.intro k3 ex6)))
    have HZ6 := Lib.hid hW6
    clear hr6 hE3 hV3 hW6 k1 k2 k3 ex6
    go_upto_region 15 with (fail)
    rw [← HZ6.out]
    clear hf0 he0
    go_wp2_with fail
    with_reducible refine hdo.mono ?_
    rintro e w7 ⟨rfl, hd⟩
    obtain ⟨X7, m1, m2, m3, mb⟩ := half HK6.out.1 HK6.out.2.1 HK6.out.2.2.1 hd
    have HR7 : Hid (Lrow w7 q 25 (opL ⟨3, ls, la, ln, lh, lp, lt, lc, lv⟩)) := (mb.block q hqB.out).trans HR6.out
    have HB7 : Hid (Below w.heap.size w w7) := HB6.out.trans (mb.mono HG0.out.size)
    have HM7 := Lib.hid (And.intro m1 (And.intro m2 m3))
    have HBG2 := Lib.hid (HBG.out.step ⟨3, ls, la, ln, lh, lp, lt, lc, lv⟩)
    clear hdo hd m1 m2 m3 mb e0 e1 e2 e3 e4 e5 e6 e7 e8
    by_cases hE3 : E3 = 0
    · obtain ⟨a1, n1, an, u1, u2, u3⟩ := unmap_then (by rw [← HE3.out]; exact hE3)
      subst hE3
      obtain ⟨G2, hG2⟩ : ∃ G2, G2 = (stF G ⟨3, ls, la, ln, lh, lp, lt, lc, lv⟩).2.2 := ⟨_, rfl⟩
      rw [← hG2] at HM7 HBG2 u1 u2 u3
      have iw : IntKind.i64.wrap (la * 64) = la * 64 := IntWalk.i64_in _ (by omega)
      have hw := I.word HM7.out.1 HBG2.out.ok (Nat.le_trans HBG2.out.ob (by decide)) ls (la * 64) HF.out.s (by unfold Fits; omega)
      obtain ⟨V4, hV4⟩ : ∃ V, V = wdV G2 ls (la * 64) := ⟨_, rfl⟩
      rw [u1, ← hV4] at hw
      have d1 : w7.cell? ⟨q, 1, none⟩ = some (.int .i64 ls) := HR7.out.cell 1
      have d2 : w7.cell? ⟨q, 2, none⟩ = some (.int .i64 la) := HR7.out.cell 2
      have HU := Lib.hid (And.intro u2 (And.intro u3 (And.intro a1 (And.intro n1 an))))
      clear hG2 hV4 u1 u2 u3 a1 n1 an
      go_wp2_with fail
      with_reducible refine hw.mono ?_
      rintro e w8 ⟨rfl, hb8⟩
      have HB8 : Hid (Below w.heap.size w w8) := HB7.out.trans (hb8.mono HB7.out.size)
      have HR8 := Lib.hid (HR7.out.call hb8)
      have HK8 := Lib.hid (And.intro (I.call HM7.out.1 hb8) (HM7.out.2.1.call hb8))
      have HRM : Hid (IsRq ⟨2, ls, la, ln, 1, 3, 0, 0, 0⟩) := ⟨by show Fits 2; unfold Fits; omega, HF.out.s, HF.out.a, HF.out.n, by show Fits 1; unfold Fits; omega, by show Fits 3; unfold Fits; omega, by show Fits 0; unfold Fits; omega, by show Fits 0; unfold Fits; omega, by dsimp only; omega⟩
      have hdo := I.do9 HK8.out.1 HBG2.out (by decide) 2 ls la ln 1 3 0 0 0 HRM.out
      obtain ⟨E5, hE5⟩ : ∃ E, E = (stF G2 ⟨2, ls, la, ln, 1, 3, 0, 0, 0⟩).1 := ⟨_, rfl⟩
      obtain ⟨V5, hV5⟩ : ∃ V, V = (stF G2 ⟨2, ls, la, ln, 1, 3, 0, 0, 0⟩).2.1 := ⟨_, rfl⟩
      rw [← hE5, ← hV5] at hdo
      have HE5 := Lib.hid hE5
      have t1 : w8.cell? ⟨q, 1, none⟩ = some (.int .i64 ls) := HR8.out.cell 1
      have t2 : w8.cell? ⟨q, 2, none⟩ = some (.int .i64 la) := HR8.out.cell 2
      have t3 : w8.cell? ⟨q, 3, none⟩ = some (.int .i64 ln) := HR8.out.cell 3
      clear hw hb8 d1 d2 hE5 hV5
      go_wp2_with fail
      with_reducible refine hdo.mono ?_
      rintro e w9 ⟨rfl, hd⟩
      obtain ⟨X9, m1, m2, m3, mb⟩ := half HK8.out.1 HK8.out.2 HM7.out.2.2 hd
      have HR9 : Hid (Lrow w9 q 25 (opL ⟨3, ls, la, ln, lh, lp, lt, lc, lv⟩)) := (mb.block q hqB.out).trans HR8.out
      have HB9 : Hid (Below w.heap.size w w9) := HB8.out.trans (mb.mono HG0.out.size)
      have HM9 := Lib.hid m1
      have HBG3 := Lib.hid (HBG2.out.step ⟨2, ls, la, ln, 1, 3, 0, 0, 0⟩)
      have d1 : w9.cell? ⟨q, 1, none⟩ = some (.int .i64 ls) := HR9.out.cell 1
      have d2 : w9.cell? ⟨q, 2, none⟩ = some (.int .i64 la) := HR9.out.cell 2
      clear hdo hd m1 m2 m3 mb t1 t2 t3
      by_cases hE5 : E5 = 0
      · obtain ⟨v1, v2⟩ := HU.out.1 (by rw [← HE5.out]; exact hE5)
        have hla : Fits (la * 64) := by have := HU.out.2.2; unfold Fits; omega
        have hw := I.word HM9.out HBG3.out.ok (Nat.le_trans HBG3.out.ob (by decide)) ls (la * 64) HF.out.s hla
        rw [v1, v2] at hw
        subst hE5
        clear v1 v2 hla
        go_wp2_with fail
        with_reducible refine hw.mono ?_
        rintro e w10 ⟨rfl, hb10⟩
        have HB10 : Hid (Below w.heap.size w w10) := HB9.out.trans (hb10.mono HB9.out.size)
        clear hw hb10 d1 d2
        go_wp2_with fail
        go_ret
        exact ⟨by first | rfl | exact ret_bool (by simp), HB10.out⟩
      · have e5 : (E5 == 0) = false := by simpa using hE5
        have hlen := HU.out.2.1 (by rw [← HE5.out]; exact hE5)
        have har := I.areas HM9.out HBG3.out.ok ls HF.out.s
        unfold ToldA at har
        generalize arsF (stF G2 ⟨2, ls, la, ln, 1, 3, 0, 0, 0⟩).2.2 ls = R at hlen har
        obtain ⟨NR, hNR⟩ : ∃ N, N = R.length := ⟨_, rfl⟩
        rw [← hNR] at hlen har
        have g63 : decide (63 ≤ (NR : Int)) = true := decide_eq_true (by omega)
        have HNR := Lib.hid hlen
        clear hNR hlen hE5
        go_wp2_with fail
        with_reducible refine har.mono ?_
        rintro e w10 ⟨A10, c10, rfl, -, hb10⟩
        have HB10 : Hid (Below w.heap.size w w10) := HB9.out.trans (hb10.mono HB9.out.size)
        clear har hb10 d1 d2
        go_wp2_with fail
        go_ret
        exact ⟨by first | rfl | exact ret_bool (by simp) | exact ret_bool (by have := HNR.out; simp; omega), HB10.out⟩
    · have e3 : (E3 == 0) = false := by simpa using hE3
      go_wp2_with fail
      go_ret
      exact ⟨rfl, HB7.out⟩
end Go.Proofs.YtnppnoabhpkmkaaGreat
