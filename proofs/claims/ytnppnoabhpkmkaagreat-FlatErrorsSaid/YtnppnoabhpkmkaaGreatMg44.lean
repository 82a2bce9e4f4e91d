/- Spaces: FlatErrors, walked. -/
import Derived.Test.YtnppnoabhpkmkaaGreatMg43
namespace Go.Proofs.YtnppnoabhpkmkaaGreat
open Go.RowKit
set_option maxHeartbeats 4000000 in
set_option maxRecDepth 100000 in
theorem errors_walk (I : FlI) (A : Option Addr) (n c : Nat) (l : Rq) (w : World) (hA : Rqs w w.heap.size A n) (hl : IsRq l) :
    Calls Tryz.prog 3 #[.slice A n c, .agg (rqCells l).toArray] w fun e w' => e = .returned (.bool true) ∧ Below w.heap.size w w' := by
  obtain ⟨M, hM, hls⟩ := hA.list
  obtain ⟨W0, hW0⟩ : ∃ W0, W0 = w.alloc (.cells (opL l).toArray 25) := ⟨_, rfl⟩
  obtain ⟨q, hq⟩ : ∃ q, q = w.heap.size := ⟨_, rfl⟩
  have g0 : Below w.heap.size w W0 := by rw [hW0]; exact below_new _ _
  have rs : Lrow W0 q 25 (opL l) := by rw [hW0, hq]; exact Lrow.new w _ (opL l)
  have hm := made_any I A n c w.heap.size 40 M W0 hM (hls.below g0) g0.size (by decide)
  have HBF := Lib.hid (mdE_b M 40)
  generalize mdS (M.take 40) = F at hm HBF
  have HLS := Lib.hid (hls.below g0)
  have HM := Lib.hid hM
  have HG0 := Lib.hid g0
  have HRS := Lib.hid rs
  have HW := Lib.hid (And.intro hW0 hq)
  have HF := Lib.hid hl
  clear hA hM hls hW0 hq g0 rs hl
  obtain ⟨lk, ls, la, ln, lh, lp, lt, lc, lv⟩ := l
  dsimp only [rqCells, opL] at HRS HW ⊢
  go_enter Tryz.func3, Tryz.ntmps3
  go_upto_region 1 with (fail)
  rw [← HW.out.1, ← HW.out.2]
  go_wp2_with fail
  refine hm.mono ?_
  rintro e w1 ⟨s, x, rfl, hst, hb1⟩
  have HST := Lib.hid hst
  have HB1 := Lib.hid hb1
  clear hm hst hb1
  go_wp2_with fail
  refine (awake_any I _).mono ?_
  rintro e w2 ⟨rfl, hb2⟩
  have HB2 : Hid (Below W0.heap.size W0 w2) := HB1.out.trans (hb2.mono HB1.out.size)
  obtain ⟨X, T, ex, k1, k2, k3⟩ := HST.out.call hb2
  have hrs := HRS.out.call HB2.out
  have d0 : w2.cell? ⟨q, 0, none⟩ = some (.int .i64 lk) := hrs.cell 0
  have d1 : w2.cell? ⟨q, 1, none⟩ = some (.int .i64 ls) := hrs.cell 1
  have d2 : w2.cell? ⟨q, 2, none⟩ = some (.int .i64 la) := hrs.cell 2
  have d3 : w2.cell? ⟨q, 3, none⟩ = some (.int .i64 ln) := hrs.cell 3
  have d4 : w2.cell? ⟨q, 4, none⟩ = some (.int .i64 lh) := hrs.cell 4
  have d5 : w2.cell? ⟨q, 5, none⟩ = some (.int .i64 lp) := hrs.cell 5
  have d6 : w2.cell? ⟨q, 6, none⟩ = some (.int .i64 lt) := hrs.cell 6
  have d7 : w2.cell? ⟨q, 7, none⟩ = some (.int .i64 lc) := hrs.cell 7
  have d8 : w2.cell? ⟨q, 8, none⟩ = some (.int .u64 lv) := hrs.cell 8
  have hdo := I.do9 k1 HBF.out (by decide) lk ls la ln lh lp lt lc lv HF.out
  have HK := Lib.hid (And.intro k1 (And.intro k2 (And.intro k3 ex)))
  obtain ⟨E, hE⟩ : ∃ E, E = (stF F ⟨lk, ls, la, ln, lh, lp, lt, lc, lv⟩).1 := ⟨_, rfl⟩
  obtain ⟨V, hV⟩ : ∃ V, V = (stF F ⟨lk, ls, la, ln, lh, lp, lt, lc, lv⟩).2.1 := ⟨_, rfl⟩
  rw [← hE, ← hV] at hdo
  have HEV := Lib.hid (And.intro hE hV)
  clear hb2 hrs k1 k2 k3 ex hE hV
  go_wp2_with fail
  refine hdo.mono ?_
  rintro e w3 ⟨rfl, hd⟩
  obtain ⟨X3, m1, m2, m3, mb⟩ := half HK.out.1 HK.out.2.1 HK.out.2.2.1 hd
  obtain ⟨W3, hW3⟩ : ∃ W3, W3 = w3.alloc (.cells #[.int .i64 E, .int .u64 V] 33) := ⟨_, rfl⟩
  obtain ⟨b3, hb3⟩ : ∃ b, b = w3.heap.size := ⟨_, rfl⟩
  have g3 : Below w3.heap.size w3 W3 := by rw [hW3]; exact below_new _ _
  have r3 : Lrow W3 b3 33 [.int .i64 E, .int .u64 V] := by rw [hW3, hb3]; exact Lrow.new w3 _ [.int .i64 E, .int .u64 V]
  have HB3 : Hid (Below W0.heap.size W0 W3) := (HB2.out.trans mb).trans (g3.mono (HB2.out.trans mb).size)
  have HM3 := Lib.hid (And.intro (I.call m1 g3) (And.intro (m2.call g3) m3))
  have HZ := Lib.hid (And.intro hW3 hb3)
  have HR3 := Lib.hid r3
  have c0 := r3.cell 0
  have HE0 : Hid (Below w.heap.size w W3) := HG0.out.trans (HB3.out.mono HG0.out.size)
  clear hdo hd m1 m2 m3 mb hW3 hb3 g3 r3 d0 d1 d2 d3 d4 d5 d6 d7 d8
  go_upto_region 5 with (fail)
  rw [← HZ.out.1, ← HZ.out.2]
  by_cases hE0 : E = 0
  · have e0 : (E == 0) = true := by rw [hE0]; rfl
    clear hE0
    go_wp2_with fail
    go_ret
    exact ⟨rfl, HE0.out⟩
  · have e0 : (E == 0) = false := by simpa using hE0
    have HER := Lib.hid (stF_err (r := ⟨lk, ls, la, ln, lh, lp, lt, lc, lv⟩) (F := F) (by rw [← HEV.out.1]; exact hE0))
    have HV0 : Hid (V = 0) := by show _ = _; rw [HEV.out.2, HER.out]
    have k1 := HM3.out.1
    rw [HER.out] at k1
    have HS3 : Hid (St I W0.heap.size W3 s x F F) := ⟨X3, T, HK.out.2.2.2, k1, HM3.out.2.1, HM3.out.2.2⟩
    have HK1 := Lib.hid k1
    clear hE0 k1
    obtain ⟨AL, cL, hv⟩ := HM3.out.2.1.ls.form
    have x0 := HM3.out.2.1.c0
    obtain ⟨hn, -⟩ := HM3.out.2.1.ptr hv
    rw [hv] at x0
    rw [hn, HK.out.2.2.2] at x0
    obtain ⟨N, hN⟩ : ∃ N, N = F.L.length := ⟨_, rfl⟩
    rw [← hN] at x0
    have hN16 : N ≤ 16 := by rw [hN]; exact HBF.out.ok.few
    have HC : Hid (∀ U, Below W3.heap.size W3 U → U.cell? ⟨b3, 1, none⟩ = some (.int .u64 0) ∧ U.cell? ⟨x, 0, none⟩ = some (.slice AL N cL)) := fun U hU => by
      refine ⟨?_, ?_⟩
      · have := (HR3.out.call hU).cell 1
        rw [HV0.out] at this; exact this
      · have := (HM3.out.2.1.call hU).c0
        rw [hv, HK.out.2.2.2] at this
        rw [hN, ← hn]; exact this
    have HN := Lib.hid hN
    clear hv hn hN
    go_wp2_with fail
    go_loopw [9] (fun i wr => ∃ j : Nat, j ≤ N ∧ i = .int .i64 j ∧ Below W3.heap.size W3 wr) (fun i _ => N - (RowKit.intOf i).toNat)
    case atStart => exact ⟨0, by omega, rfl, Below.refl _ _⟩
    case round =>
      obtain ⟨j, hj, rfl, hb⟩ := hrel
      have HBL := Lib.hid hb
      obtain ⟨-, y0⟩ := HC.out _ hb
      by_cases hlt : j < N
      · have hjl : (j : Int) < N := by omega
        have hj0 : (0 : Int) ≤ j := by omega
        have hb0 : Below W0.heap.size W0 wr := HB3.out.trans (hb.mono HB3.out.size)
        have hal := alike_any (HS3.out.call hb) HBF.out (by decide) (j : Int) (by unfold Fits; omega) A n c w.heap.size M HM.out (HLS.out.below (hb0.mono HG0.out.size)) (Nat.le_trans HG0.out.size hb0.size)
        have HJ := Lib.hid hlt
        clear hb hb0 hlt
        go_wp2_with fail
        refine hal.mono ?_
        rintro e w5 ⟨rfl, hb5⟩
        have HB5 := Lib.hid (HBL.out.trans (hb5.mono HBL.out.size))
        clear hal hb5
        go_wp2_with fail
        go_roundw
        case rel => exact ⟨j + 1, HJ.out, by go_num, HB5.out⟩
        case measure => have := HJ.out; simp [RowKit.intOf]; omega
      · have hjl : ¬ (j : Int) < N := by omega
        have hbd : Below W3.heap.size W3 wr.drew := below_dN hb 1
        have hsp := I.spaces (I.call HK1.out hbd) HBF.out.ok
        rw [← HN.out] at hsp
        have z0 := HC.out _ hbd
        have HBD := Lib.hid hbd
        clear hb hbd
        go_wp2_with fail
        go_region_held3 (fun U => U.cell? ⟨b3, 1, none⟩ = some (.int .u64 0) ∧ U.cell? ⟨x, 0, none⟩ = some (.slice AL N cL))
          (first | assumption | (dsimp only; assumption))
          (first | (go_at_call 13; (with_reducible refine hsp.mono ?_); rintro e w5 ⟨rfl, hb5⟩; have z5 := HC.out w5 (HBD.out.trans (hb5.mono HBD.out.size)); have HB5 := Lib.hid (HBD.out.trans (hb5.mono HBD.out.size)); clear hb5) | fail)
        all_goals
          go_wp2_with fail
          go_ret
          exact ⟨ret_bool (by simp), HE0.out.trans (HB5.out.mono HE0.out.size)⟩
end Go.Proofs.YtnppnoabhpkmkaaGreat
