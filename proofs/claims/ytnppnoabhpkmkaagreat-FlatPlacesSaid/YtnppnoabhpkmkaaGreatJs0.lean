/- Spaces: FlatPlaces, walked. -/
import Derived.Test.YtnppnoabhpkmkaaGreatFs6
import Derived.Test.YtnppnoabhpkmkaaGreatFs9
import Derived.BigRegion
namespace Go.Proofs.YtnppnoabhpkmkaaGreat
open Go.RowKit
set_option maxHeartbeats 4000000 in
set_option maxRecDepth 100000 in
theorem places_walk (I : FlI) (A : Option Addr) (n c : Nat) (l : Rq) (w : World) (hA : Rqs w w.heap.size A n) (hl : IsRq l) :
    Calls Tryz.prog 8 #[.slice A n c, .agg (rqCells l).toArray] w fun e w' => e = .returned (.bool true) ∧ Below w.heap.size w w' := by
  obtain ⟨M, hM, hls⟩ := hA.list
  obtain ⟨W0, hW0⟩ : ∃ W0, W0 = w.alloc (.cells (opL l).toArray 25) := ⟨_, rfl⟩
  obtain ⟨q, hq⟩ : ∃ q, q = w.heap.size := ⟨_, rfl⟩
  have g0 : Below w.heap.size w W0 := by rw [hW0]; exact below_new _ _
  have rs : Lrow W0 q 25 (opL l) := by rw [hW0, hq]; exact Lrow.new w _ (opL l)
  have hm := made_any I A n c w.heap.size 40 M W0 hM (hls.below g0) g0.size (by decide)
  have HBF := Lib.hid (mdE_b M 40)
  generalize mdS (M.take 40) = F at hm HBF
  have HG0 := Lib.hid g0
  have HRS := Lib.hid rs
  have HW := Lib.hid (And.intro hW0 hq)
  have HF := Lib.hid hl
  clear hA hM hls hW0 hq g0 rs hl
  obtain ⟨lk, ls, la, ln, lh, lp, lt, lc, lv⟩ := l
  dsimp only [rqCells] at HW ⊢
  have HW' := HW.out.1
  dsimp only [opL] at HW'
  have HWA := Lib.hid HW'
  clear HW'
  go_enter Tryz.func8, Tryz.ntmps8
  go_upto_region 1 with (fail)
  rw [← HWA.out, ← HW.out.2]
  go_wp2_with fail
  refine hm.mono ?_
  rintro e w1 ⟨s, x, rfl, hst, hb1⟩
  have HST := Lib.hid hst
  have HB1 := Lib.hid hb1
  clear hm hst hb1
  go_wp2_with fail
  refine (awake_any I _).mono ?_
  rintro e w2 ⟨rfl, hb2⟩
  have HB2 : Hid (Below W0.heap.size W0 w2) := HB1.out.trans (hb2.mono HB1.out.size)
  have hr2 := HRS.out.call HB2.out
  have hqB : Hid (q < W0.heap.size) := HRS.out.lt
  obtain ⟨W3, hW3⟩ : ∃ W3, W3 = w2.setCell ⟨q, 0, none⟩ (.int .i64 2) := ⟨_, rfl⟩
  obtain ⟨W4, hW4⟩ : ∃ W4, W4 = W3.setCell ⟨q, 2, none⟩ (.int .i64 0) := ⟨_, rfl⟩
  have hr3 := hr2.set_ 0 (.int .i64 2)
  rw [← hW3] at hr3
  have hr4 := hr3.set_ 2 (.int .i64 0)
  rw [← hW4] at hr4
  have HR4 : Hid (Lrow W4 q 25 (opL ⟨2, ls, 0, ln, lh, lp, lt, lc, lv⟩)) := hr4
  have hst3 := (HST.out.call hb2).put hr2 hqB.out (by decide) (by decide) 0 (.int .i64 2)
  rw [← hW3] at hst3
  have hst4 := hst3.put hr3 hqB.out (by decide) (by decide) 2 (.int .i64 0)
  rw [← hW4] at hst4
  have hf0 := hr2.frozen 0
  have he0 := hr2.cell 0
  have hf2 := hr3.frozen 2
  have he2 := hr3.cell 2
  have HGB : Hid (Below w.heap.size w W4) := by
    show Below _ _ _
    rw [hW4, hW3]
    exact below_set (below_set (HG0.out.trans (HB2.out.mono HG0.out.size)) (by rw [HW.out.2]; exact Nat.le_refl _) _ _) (by rw [HW.out.2]; exact Nat.le_refl _) _ _
  have HRF : Hid (IsRq ⟨2, ls, 0, ln, lh, lp, lt, lc, lv⟩) := ⟨by show Fits 2; unfold Fits; omega, HF.out.s, by show Fits 0; unfold Fits; omega, HF.out.n, HF.out.h, HF.out.p, HF.out.t, HF.out.c, HF.out.v⟩
  obtain ⟨X, T, ex, k1, k2, k3⟩ := hst4
  have hdo := I.do9 k1 HBF.out (by decide) 2 ls 0 ln lh lp lt lc lv HRF.out
  have hbx := box9 HR4.out
  unfold Box9 at hbx
  obtain ⟨e0, e1, e2, e3, e4, e5, e6, e7, e8⟩ := hbx
  have HK := Lib.hid (And.intro k1 (And.intro k2 (And.intro k3 ex)))
  have HZ := Lib.hid (And.intro hW3 hW4)
  obtain ⟨E, hE⟩ : ∃ E, E = (stF F ⟨2, ls, 0, ln, lh, lp, lt, lc, lv⟩).1 := ⟨_, rfl⟩
  obtain ⟨V, hV⟩ : ∃ V, V = (stF F ⟨2, ls, 0, ln, lh, lp, lt, lc, lv⟩).2.1 := ⟨_, rfl⟩
  rw [← hE, ← hV] at hdo
  have HE := Lib.hid (And.intro hE hV)
  clear hb2 hr2 hr3 hr4 hst3 k1 k2 k3 ex hW4 hE hV
  rw [hW3] at hf2 he2
  clear hW3
  go_upto_region 6 with (fail)
  rw [← HZ.out.1, ← HZ.out.2]
  clear hf0 he0 hf2 he2
  go_wp2_with fail
  refine hdo.mono ?_
  rintro e w5 ⟨rfl, hd⟩
  obtain ⟨X5, m1, m2, m3, mb⟩ := half HK.out.1 HK.out.2.1 HK.out.2.2.1 hd
  obtain ⟨W5, hW5⟩ : ∃ W5, W5 = w5.alloc (.cells #[.int .i64 E, .int .u64 V] 33) := ⟨_, rfl⟩
  obtain ⟨b5, hb5⟩ : ∃ b, b = w5.heap.size := ⟨_, rfl⟩
  have g5 : Below w5.heap.size w5 W5 := by rw [hW5]; exact below_new _ _
  have r5 : Lrow W5 b5 33 [.int .i64 E, .int .u64 V] := by rw [hW5, hb5]; exact Lrow.new w5 _ [.int .i64 E, .int .u64 V]
  have HR5 : Hid (Lrow W5 q 25 (opL ⟨2, ls, 0, ln, lh, lp, lt, lc, lv⟩)) := by
    have : Lrow w5 q 25 (opL ⟨2, ls, 0, ln, lh, lp, lt, lc, lv⟩) := (mb.block q hqB.out).trans HR4.out
    exact this.call g5
  have HS5 := Lib.hid (And.intro (I.call m1 g5) (m2.call g5))
  have mb' : Below w.heap.size W4 w5 := mb.mono HG0.out.size
  have HB5 : Hid (Below w.heap.size w W5) := (HGB.out.trans mb').trans (g5.mono (HGB.out.trans mb').size)
  have HZ5 := Lib.hid (And.intro hW5 hb5)
  have c0 : W5.cell? ⟨b5, 0, none⟩ = some (.int .i64 E) := r5.cell 0
  have c1 : W5.cell? ⟨b5, 1, none⟩ = some (.int .u64 V) := r5.cell 1
  clear hdo hd m1 m2 m3 mb mb' hW5 hb5 g5 r5 e0 e1 e2 e3 e4 e5 e6 e7 e8
  go_upto_region 7 with (fail)
  rw [← HZ5.out.1, ← HZ5.out.2]
  by_cases hE0 : E = 0
  · obtain ⟨b, p1, p2, p3, p4, p5, p6, p7, p8, p9, p10⟩ := place_ok (p := lp) (t := lt) (c := lc) (v := lv) (n := ln) (h := lh) (s := ls) HBF.out.ok (by rw [← HE.out.1]; exact hE0)
    have hv : V = b := HE.out.2.trans p2
    subst hE0 hv
    obtain ⟨l0, l1, -⟩ := isS_get p1
    obtain ⟨j, rfl⟩ : ∃ j : Nat, ls = j := ⟨ls.toNat, by omega⟩
    have hj : j < F.L.length := by omega
    obtain ⟨bb, rfl⟩ : ∃ k : Nat, V = k := ⟨V.toNat, by omega⟩
    obtain ⟨nn, rfl⟩ : ∃ k : Nat, ln = k := ⟨ln.toNat, by omega⟩
    obtain ⟨Z, hZ⟩ : ∃ Z, Z = szO lh := ⟨_, rfl⟩
    have hsz := size_is lh
    have hz3 := szO_pos lh
    rw [← hZ] at hsz p4 p8 hz3
    have z1 : ¬ Z = 0 := by omega
    obtain ⟨gL, cL, s1, gP, cP, -, -, y0, y1, y2, y3, y4⟩ := HS5.out.2.chain hj
    rw [HK.out.2.2.2] at y0
    obtain ⟨NL, hNL⟩ : ∃ N, N = F.L.length := ⟨_, rfl⟩
    rw [← hNL] at y0 hj
    obtain ⟨M4, hM4⟩ : ∃ M : Nat, M = 4096 := ⟨_, rfl⟩
    rw [← hM4] at y3
    have t1 : W5.cell? ⟨q, 1, none⟩ = some (.int .i64 j) := HR5.out.cell 1
    have t3 : W5.cell? ⟨q, 3, none⟩ = some (.int .i64 nn) := HR5.out.cell 3
    have t4 : W5.cell? ⟨q, 4, none⟩ = some (.int .i64 lh) := HR5.out.cell 4
    have HC : Hid (∀ U, Below W5.heap.size W5 U → ∀ k : Nat, k < M4 → U.cell? ⟨x, 0, none⟩ = some (.slice (some ⟨gL, 0, none⟩) NL cL) ∧ U.cell? ⟨gL, j, none⟩ = some (.pointer (some ⟨s1.sb, 0, none⟩)) ∧ U.cell? ⟨s1.sb, 0, none⟩ = some (.pointer (some ⟨s1.ab, 0, none⟩)) ∧ U.cell? ⟨s1.ab, 0, none⟩ = some (.slice (some ⟨gP, 0, none⟩) M4 cP) ∧ U.cell? ⟨gP, k * 4, none⟩ = some (.int .i64 ((sp F j).P k).h) ∧ U.cell? ⟨q, 1, none⟩ = some (.int .i64 j)) := fun U hU k hk => ⟨keepc hU y0, keepc hU y1, keepc hU y2, keepc hU y3, keepc hU (y4 k (by omega)).1, keepc hU t1⟩
    have HT3 : Hid (∀ U, Below W5.heap.size W5 U → U.cell? ⟨q, 3, none⟩ = some (.int .i64 nn)) := fun U hU => keepc hU t3
    have HT1 : Hid (∀ U, Below W5.heap.size W5 U → U.cell? ⟨q, 1, none⟩ = some (.int .i64 j)) := fun U hU => keepc hU t1
    have j0 : (0 : Int) ≤ j := by omega
    have jN : (j : Int) < NL := by omega
    have iwb : IntKind.i64.wrap (bb : Int) = bb := IntWalk.i64_in _ (by omega)
    have iw1 : IntKind.i64.wrap (4096 - (bb : Int)) = 4096 - bb := IntWalk.i64_in _ (by omega)
    have iw2 : IntKind.i64.wrap ((bb : Int) + nn) = (bb : Int) + nn := IntWalk.i64_in _ (by omega)
    have zb : 1 ≤ Z ∧ Z ≤ 64 := by omega
    have iw3 : IntKind.i64.wrap ((bb : Int) - Z) = (bb : Int) - Z := IntWalk.i64_in _ (by omega)
    have iw4 : IntKind.i64.wrap ((bb : Int) - Z + nn) = (bb : Int) - Z + nn := IntWalk.i64_in _ (by omega)
    have iw5 : IntKind.i64.wrap ((bb : Int) * 64) = (bb : Int) * 64 := IntWalk.i64_in _ (by omega)
    have f1 : decide ((bb : Int) < 1) = false := decide_eq_false (by omega)
    have f2 : decide (4096 - (bb : Int) < nn) = false := decide_eq_false (by omega)
    have hin := ris_is HS5.out.2 j
    rw [HK.out.2.2.2, p1] at hin
    have HP := Lib.hid (And.intro p3 (And.intro p5 (And.intro p6 (And.intro p7 p8))))
    have hfj : Fits (j : Int) := HF.out.s
    have HWW : Hid (∀ U, Below W5.heap.size W5 U → Calls Tryz.prog 14 #[.pointer (some ⟨s, 0, none⟩), .int .i64 j, .int .i64 ((bb : Int) * 64)] U fun e w' => e = .returned (.tuple #[.int .u64 0, .int .i64 0]) ∧ Below U.heap.size U w') := by
      intro U hU
      have := I.word (I.call HS5.out.1 hU) (HBF.out.step ⟨2, j, 0, nn, lh, lp, lt, lc, lv⟩).ok (Nat.le_trans (HBF.out.step _).ob (by decide)) j ((bb : Int) * 64) hfj (by unfold Fits; omega)
      rw [p9, p10] at this
      exact this
    have HZ3 := Lib.hid hz3
    have HM4 := Lib.hid hM4
    clear p1 p2 p3 p5 p6 p7 p8 p9 p10 l0 l1 y0 y1 y2 y3 y4 hNL hM4 hz3 hZ hj hfj
    go_wp2_with (first | (go_at_call 18; (with_reducible refine (hsz _).mono ?_); rintro e wz ⟨rfl, rfl⟩) | (go_at_call 19; (with_reducible refine hin.mono ?_); rintro e wz ⟨rfl, rfl⟩))
    go_loopw [11] (fun i wr => ∃ k : Nat, bb ≤ k ∧ k ≤ bb + nn ∧ i = .int .i64 k ∧ Below W5.heap.size W5 wr) (fun i _ => bb + nn - (RowKit.intOf i).toNat)
    case atStart => exact ⟨bb, Nat.le_refl _, by omega, rfl, Below.refl _ _⟩
    case round =>
      obtain ⟨k, hk1, hk2, rfl, hbr⟩ := hrel
      have HBR := Lib.hid hbr
      have t3r := HT3.out _ hbr
      have HK := Lib.hid (And.intro hk1 hk2)
      clear t1 t3 t4 c0 c1
      by_cases hlt : k < bb + nn
      · have dlt : decide ((k : Int) < (bb : Int) + nn) = true := decide_eq_true (by omega)
        have hlt' : (k : Int) < (bb : Int) + nn := by omega
        have hkM : k < M4 := by have := HP.out.2.2.1; have := HM4.out; omega
        have hph : ((sp F j).P k).h = 0 := HP.out.2.2.2.1 k (by omega) (by omega)
        have HCR : Hid (∀ U, Below wr.heap.size wr U → U.cell? ⟨x, 0, none⟩ = some (.slice (some ⟨gL, 0, none⟩) NL cL) ∧ U.cell? ⟨gL, j, none⟩ = some (.pointer (some ⟨s1.sb, 0, none⟩)) ∧ U.cell? ⟨s1.sb, 0, none⟩ = some (.pointer (some ⟨s1.ab, 0, none⟩)) ∧ U.cell? ⟨s1.ab, 0, none⟩ = some (.slice (some ⟨gP, 0, none⟩) M4 cP) ∧ U.cell? ⟨gP, k * 4, none⟩ = some (.int .i64 0) ∧ U.cell? ⟨q, 1, none⟩ = some (.int .i64 j)) := by
          show ∀ U, Below wr.heap.size wr U → _
          intro U hU
          have := HC.out U (HBR.out.trans (hU.mono HBR.out.size)) k hkM
          rw [hph] at this
          exact this
        have HS0 := HCR.out _ ((Below.refl wr.heap.size wr).drew)
        have k0 : (0 : Int) ≤ k := by omega
        have kM : (k : Int) < M4 := by omega
        have iwk : IntKind.i64.wrap ((k : Int) + 1) = (k : Int) + 1 := IntWalk.i64_in _ (by have := HP.out.2.2.1; omega)
        have HBD : Hid (Below W5.heap.size W5 wr.drew) := HBR.out.drew
        have HLT := Lib.hid hlt
        clear hbr hph hk1 hk2 hlt
        go_upto_region 16 with (fail)
        go_region_held3 (fun U => U.cell? ⟨x, 0, none⟩ = some (.slice (some ⟨gL, 0, none⟩) NL cL) ∧ U.cell? ⟨gL, j, none⟩ = some (.pointer (some ⟨s1.sb, 0, none⟩)) ∧ U.cell? ⟨s1.sb, 0, none⟩ = some (.pointer (some ⟨s1.ab, 0, none⟩)) ∧ U.cell? ⟨s1.ab, 0, none⟩ = some (.slice (some ⟨gP, 0, none⟩) M4 cP) ∧ U.cell? ⟨gP, k * 4, none⟩ = some (.int .i64 0) ∧ U.cell? ⟨q, 1, none⟩ = some (.int .i64 j))
          (first | exact HS0 | exact HCR.out _ (by repeat (first | exact Below.refl _ _ | refine Below.drew ?_)))
          (fail)
        all_goals
          go_wp2_with fail
          go_roundw
          case rel => exact ⟨k + 1, by have := HK.out.1; omega, HLT.out, by first | go_num | (rw [iwk]; rfl) | simp [iwk], HBD.out⟩
          case measure => have := HLT.out; simp only [RowKit.intOf]; omega
      · have dlt : decide ((k : Int) < (bb : Int) + nn) = false := decide_eq_false (by omega)
        have hlt' : ¬ (k : Int) < (bb : Int) + nn := by omega
        obtain ⟨T0, hT0⟩ : ∃ T0, ((bb : Int) == Z) = T0 := ⟨_, rfl⟩
        have HT0 := Lib.hid hT0
        clear hbr hk1 hk2 hlt
        go_wp2_with fail
        go_loopw [12, 13] (fun tk i wr => ∃ (k : Int) (Tk : Bool), tk = .bool Tk ∧ i = .int .i64 k ∧ (bb : Int) - Z ≤ k ∧ k ≤ (bb : Int) - Z + nn ∧ (Tk = true ↔ (T0 = true ∨ ∃ i' : Int, (bb : Int) - Z ≤ i' ∧ i' < k ∧ ((sp F j).P i').h ≠ 0)) ∧ Below W5.heap.size W5 wr) (fun _ i _ => ((bb : Int) - Z + nn - RowKit.intOf i).toNat)
        case atStart => exact ⟨(bb : Int) - Z, T0, rfl, rfl, Int.le_refl _, by omega, ⟨fun e => Or.inl e, fun e => e.elim id fun ⟨i', h1, h2, _⟩ => by omega⟩, HBR.out⟩
        case round =>
          obtain ⟨k, Tk, rfl, rfl, hk1, hk2, hT, hbr2⟩ := hrel
          have HBR2 := Lib.hid hbr2
          have t3q := HT3.out _ hbr2
          have t1q := HT1.out _ hbr2
          have HKT := Lib.hid (And.intro hk1 (And.intro hk2 hT))
          clear t3r
          by_cases hboth : 1 ≤ k ∧ k < (bb : Int) - Z + nn
          · obtain ⟨h1, h2⟩ := hboth
            obtain ⟨m, rfl⟩ : ∃ m : Nat, k = m := ⟨k.toNat, by omega⟩
            have d1 : decide (1 ≤ (m : Int)) = true := decide_eq_true h1
            have d2 : decide ((m : Int) < (bb : Int) - Z + nn) = true := decide_eq_true h2
            have hkM : m < M4 := by have := HP.out.2.2.1; have := HM4.out; omega
            have HCR : Hid (∀ U, Below wr.heap.size wr U → U.cell? ⟨x, 0, none⟩ = some (.slice (some ⟨gL, 0, none⟩) NL cL) ∧ U.cell? ⟨gL, j, none⟩ = some (.pointer (some ⟨s1.sb, 0, none⟩)) ∧ U.cell? ⟨s1.sb, 0, none⟩ = some (.pointer (some ⟨s1.ab, 0, none⟩)) ∧ U.cell? ⟨s1.ab, 0, none⟩ = some (.slice (some ⟨gP, 0, none⟩) M4 cP) ∧ U.cell? ⟨gP, m * 4, none⟩ = some (.int .i64 ((sp F j).P m).h) ∧ U.cell? ⟨q, 1, none⟩ = some (.int .i64 j)) := by
              show ∀ U, Below wr.heap.size wr U → _
              intro U hU
              exact HC.out U (HBR2.out.trans (hU.mono HBR2.out.size)) m hkM
            obtain ⟨ph, hph⟩ : ∃ ph, ph = ((sp F j).P m).h := ⟨_, rfl⟩
            rw [← hph] at HCR
            have HPH := Lib.hid hph
            have HS0 := HCR.out _ ((Below.refl wr.heap.size wr).drew)
            have k0 : (0 : Int) ≤ m := by omega
            have kM : (m : Int) < M4 := by omega
            have iwm : IntKind.i64.wrap ((m : Int) + 1) = (m : Int) + 1 := IntWalk.i64_in _ (by have := HP.out.2.2.1; omega)
            have HBD : Hid (Below W5.heap.size W5 wr.drew) := HBR2.out.drew
            have HLT := Lib.hid (And.intro h1 h2)
            have hnext : Hid (∀ T' : Bool, T' = (Tk || !(ph == 0)) → (T' = true ↔ (T0 = true ∨ ∃ i' : Int, (bb : Int) - Z ≤ i' ∧ i' < (m : Int) + 1 ∧ ((sp F j).P i').h ≠ 0))) := by
              show ∀ _, _ → _
              rintro T' rfl
              have hT := HKT.out.2.2
              rw [Bool.or_eq_true, hT]
              constructor
              · rintro ((e | ⟨i', q1, q2, q3⟩) | e)
                · exact Or.inl e
                · exact Or.inr ⟨i', q1, by omega, q3⟩
                · refine Or.inr ⟨m, HKT.out.1, by omega, ?_⟩
                  rw [← hph]; simpa using e
              · rintro (e | ⟨i', q1, q2, q3⟩)
                · exact Or.inl (Or.inl e)
                · by_cases hi : i' = m
                  · subst hi; right; rw [← hph] at q3; simpa using q3
                  · exact Or.inl (Or.inr ⟨i', q1, by omega, q3⟩)
            clear hbr2 hph hk1 hk2 hT h1 h2
            cases Tk with
            | true =>
              go_upto_region 22 with (fail)
              go_quiet (fail)
              all_goals
                go_wp2_with fail
                go_roundw
                case rel => exact ⟨(m : Int) + 1, true, rfl, by go_num, by have := HKT.out.1; omega, by have := HLT.out.2; omega, hnext.out true (by simp), below_dN HBR2.out _⟩
                case measure => have := HLT.out.2; simp only [RowKit.intOf]; omega
            | false =>
              by_cases hp0 : ph = 0
              case' pos => have ep : (ph == 0) = true := by simpa using hp0
              case' neg => have ep : (ph == 0) = false := by simpa using hp0
              all_goals
                clear hp0
                go_upto_region 22 with (fail)
                go_region_held3 (fun U => U.cell? ⟨x, 0, none⟩ = some (.slice (some ⟨gL, 0, none⟩) NL cL) ∧ U.cell? ⟨gL, j, none⟩ = some (.pointer (some ⟨s1.sb, 0, none⟩)) ∧ U.cell? ⟨s1.sb, 0, none⟩ = some (.pointer (some ⟨s1.ab, 0, none⟩)) ∧ U.cell? ⟨s1.ab, 0, none⟩ = some (.slice (some ⟨gP, 0, none⟩) M4 cP) ∧ U.cell? ⟨gP, m * 4, none⟩ = some (.int .i64 ph) ∧ U.cell? ⟨q, 1, none⟩ = some (.int .i64 j))
                  (first | exact HS0 | exact HCR.out _ (by repeat (first | exact Below.refl _ _ | refine Below.drew ?_)))
                  (fail)
                all_goals
                  go_wp2_with fail
                  go_roundw
                  case rel => exact ⟨(m : Int) + 1, _, rfl, by go_num, by have := HKT.out.1; omega, by have := HLT.out.2; omega, hnext.out _ rfl, HBD.out⟩
                  case measure => have := HLT.out.2; simp only [RowKit.intOf]; omega
          · have hTk : Tk = true := by
              rw [hT]
              rcases HP.out.2.2.2.2 with e | ⟨e1, i', e2, e3, e4⟩
              · left; rw [← HT0.out, e]; simp
              · exact Or.inr ⟨i', e2, by omega, e4⟩
            subst hTk
            have hww := HWW.out _ hbr2
            clear hT
            by_cases h1 : 1 ≤ k
            case' pos =>
              have d1 : decide (1 ≤ k) = true := decide_eq_true h1
              have d2 : decide (k < (bb : Int) - Z + nn) = false := decide_eq_false fun e => hboth ⟨h1, e⟩
            case' neg =>
              have d1 : decide (1 ≤ k) = false := decide_eq_false h1
            all_goals
              clear hboth h1 hbr2 hk1 hk2
              go_wp2_with fail
              refine hww.mono ?_
              rintro e w9 ⟨rfl, hb9⟩
              have HB9 : Hid (Below w.heap.size w w9) := (HB5.out.trans (HBR2.out.mono HB5.out.size)).trans (hb9.mono (HB5.out.trans (HBR2.out.mono HB5.out.size)).size)
              clear hww hb9 t3q t1q
              go_wp2_with fail
              go_ret
              exact ⟨by first | rfl | exact ret_bool (by simp), HB9.out⟩
  · have ee : (E == 0) = false := by simpa using hE0
    have hv : V = 0 := by
      have := stF_err (F := F) (r := ⟨2, ls, 0, ln, lh, lp, lt, lc, lv⟩) (by rw [← HE.out.1]; exact hE0)
      rw [HE.out.2, this]
    subst hv
    go_wp2_with fail
    go_ret
    exact ⟨by first | rfl | exact ret_bool (by simp), HB5.out⟩
end Go.Proofs.YtnppnoabhpkmkaaGreat
