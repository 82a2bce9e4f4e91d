/- The law BuddyDoes. -/
import Derived.Test.YtgkjkjpeolhgbaaCi
namespace Go.Proofs.Ytgkjkjpeolhgbaa
open Go.RowKit

set_option maxHeartbeats 2000000 in
set_option maxRecDepth 100000 in
theorem does_walk (fr : Int) (A : Option Addr) (m c : Nat) (w : World) (hA : Acts w w.heap.size A m) :
    Calls Try.prog 3 #[.int .i64 fr, .slice A m c] w fun e w' => e = .returned (.bool true) ∧ Below w.heap.size w w' := by
  by_cases hf : fr < 8 ∨ 1024 < fr
  · have hsm : ∀ W', Calls Try.prog 11 #[.int .i64 fr] W' fun e w' => e = .returned (.int .i64 fr) ∧ W' = w' := fun W' => by
      have := small_any fr W'
      rw [smI_bad hf] at this
      exact this
    have hmd := fun W' => made_bad hf W'
    go_enter Try.func3, Try.ntmps3
    go_wp2_with (first | (go_at_call 11; refine (hsm _).mono ?_; rintro e w' ⟨rfl, rfl⟩) | (go_at_call 10; refine (hmd _).mono ?_; rintro e w' ⟨rfl, rfl⟩))
    refine (awake_any _).mono ?_
    rintro e w1 ⟨rfl, hb1⟩
    go_wp2_with fail
    refine (awake_any _).mono ?_
    rintro e w2 ⟨rfl, hb2⟩
    go_wp2
    go_ret
    exact ⟨rfl, hb1.trans (hb2.mono hb1.size)⟩
  · obtain ⟨n, hn, h8, h300⟩ := smI_good hf
    have hsm : ∀ W', Calls Try.prog 11 #[.int .i64 fr] W' fun e w' => e = .returned (.int .i64 n) ∧ W' = w' := fun W' => by
      have := small_any fr W'
      rw [hn] at this
      exact this
    have hmd := fun W' => made_any n h8 (by omega) W'
    have HA := Lib.hid hA
    clear hA hn hf
    go_enter Try.func3, Try.ntmps3
    go_wp2_with (first | (go_at_call 11; refine (hsm _).mono ?_; rintro e w' ⟨rfl, rfl⟩))
    refine (hmd _).mono ?_
    intro e w1 h1
    obtain ⟨s, a, x, y, rfl, hg1, hb1⟩ := h1.going
    clear h1 hsm hmd
    go_wp2_with fail
    refine (awake_any _).mono ?_
    rintro e w2 ⟨rfl, hb2⟩
    have HG := Lib.hid (hg1.call hb2)
    have HB1 := Lib.hid hb1
    clear hg1 hb2 hb1
    go_wp2_with fail
    go_loopw [7] (fun i wr => ∃ j : Nat, j ≤ m ∧ i = .int .i64 j ∧ Going w.heap.size s a x y n w1 wr) (fun i _ => m - (intOf i).toNat)
    case atStart => exact ⟨0, by omega, rfl, HG.out⟩
    case round =>
      obtain ⟨j, hj, rfl, hgo⟩ := hrel
      clear HG
      have hbw : Below w.heap.size w wr := HB1.out.trans hgo.below
      by_cases hboth : j < m ∧ j < 40
      · obtain ⟨hlt, hlim⟩ := hboth
        obtain ⟨ad, rfl, ac, ok, c0, c1, c2, c3, c4⟩ := acts_now HA.out hbw hlt
        obtain ⟨F, T, tv, hst, hhe, hsp⟩ := hgo
        obtain ⟨K, Fr, o, N, hfl⟩ := ac
        have hab : (ad.add (j * 5)).block < w.heap.size := by
          rw [block_add]
          obtain ⟨ad', e', hlt', -⟩ := HA.out (by omega)
          injection e' with e'
          rw [e']; exact hlt'
        have hs0 := And.intro (hst.drewN 1).c0 (And.intro (hst.drewN 1).c1 (And.intro c0 (And.intro c1 (And.intro c2 (And.intro c3 c4)))))
        have HS0 := Lib.hid (hst.drewN 1)
        have HH := Lib.hid hhe
        have HST1 := Lib.hid (hsp.trans (Step.call (below_dN (Below.refl _ _) 1) hst.lo _))
        have HOK := Lib.hid ok
        have hFl := ok.2.1.1
        have hFh := ok.2.1.2
        clear hst hhe hsp hbw ok c0 c1 c2 c3 c4
        go_wp2_with fail
        go_region_held3 (fun v => v.cell? ⟨s, 0, none⟩ = some (.pointer (some ⟨a, 0, none⟩)) ∧ v.cell? ⟨s, 1, none⟩ = some (.pointer (some ⟨x, 0, none⟩)) ∧ v.cell? (ad.add (j * 5)) = some (.int .i64 K) ∧ v.cell? ⟨(ad.add (j * 5)).block, (ad.add (j * 5)).off + 1, none⟩ = some (.int .i64 Fr) ∧ v.cell? ⟨(ad.add (j * 5)).block, (ad.add (j * 5)).off + 2, none⟩ = some (.int .i64 o) ∧ v.cell? ⟨(ad.add (j * 5)).block, (ad.add (j * 5)).off + 3, none⟩ = some (.int .i64 N) ∧ v.cell? ⟨(ad.add (j * 5)).block, (ad.add (j * 5)).off + 4, none⟩ = some (.bool hfl)) (first | exact hs0 | exact hs3 | exact hs5)
          (first | (go_at_call 13; refine (do_any HS0.out HH.out HOK.out).mono ?_; rintro e w3 ⟨rfl, F', T', tv', k1, k2, k3⟩; have hs3 := And.intro k1.c0 (And.intro k1.c1 (And.intro ((k3.below.cell hab).trans hs0.2.2.1) (And.intro ((k3.below.cell (p := ⟨_, _, none⟩) hab).trans hs0.2.2.2.1) (And.intro ((k3.below.cell (p := ⟨_, _, none⟩) hab).trans hs0.2.2.2.2.1) (And.intro ((k3.below.cell (p := ⟨_, _, none⟩) hab).trans hs0.2.2.2.2.2.1) ((k3.below.cell (p := ⟨_, _, none⟩) hab).trans hs0.2.2.2.2.2.2))))))) | (go_at_call 14; refine k1.free_.mono ?_; rintro e w4 ⟨rfl, rfl⟩) | (go_at_call 15; refine (refFree_any k1.ref).mono ?_; rintro e w4 ⟨rfl, rfl⟩) | (go_at_call 16; refine k1.greatest_.mono ?_; rintro e w4 ⟨rfl, rfl⟩) | (go_at_call 17; refine (refGreatest_any k1.ref).mono ?_; rintro e w5 ⟨rfl, hb5⟩; have k5 := k1.call hb5; have hbb := hb5.mono k1.lo; have hs5 := And.intro k5.c0 (And.intro k5.c1 (And.intro ((hbb.cell hab).trans hs3.2.2.1) (And.intro ((hbb.cell (p := ⟨_, _, none⟩) hab).trans hs3.2.2.2.1) (And.intro ((hbb.cell (p := ⟨_, _, none⟩) hab).trans hs3.2.2.2.2.1) (And.intro ((hbb.cell (p := ⟨_, _, none⟩) hab).trans hs3.2.2.2.2.2.1) ((hbb.cell (p := ⟨_, _, none⟩) hab).trans hs3.2.2.2.2.2.2))))))) )
        have HS5 := Lib.hid k5
        have HH6 := Lib.hid k2
        have HSP5 := Lib.hid ((HST1.out.trans k3).trans (Step.call hb5 k1.lo _))
        have hcs := k5.c0
        have hcf : w5.cell? ⟨(ad.add (j * 5)).block, (ad.add (j * 5)).off + 1, none⟩ = some (.int .i64 Fr) := hs5.2.2.2.1
        clear hs0 hs3 hs5 k1 k2 k3 k5 hb5 hbb HS0 HH HST1 HOK
        go_wp2_with fail
        refine (HS5.out.has_ Fr hFl hFh).mono ?_
        rintro e w6 ⟨rfl, hb6⟩
        have HS6 := Lib.hid (HS5.out.call hb6)
        have HSP6 := Lib.hid (HSP5.out.trans (Step.call hb6 HS5.out.lo _))
        have hc1 := HS6.out.c1
        have hcx := HS6.out.ref.field
        clear hb6 hcs hcf HS5 HSP5
        by_cases g1 : 0 ≤ Fr
        · by_cases g2 : Fr < n
          · obtain ⟨i, rfl⟩ : ∃ i : Nat, Fr = i := ⟨Fr.toNat, by omega⟩
            have hin : i < n := by omega
            obtain ⟨v, hv, hcv⟩ := HS6.out.ref.at_ hin
            rw [hasB_at hv]
            clear hv
            cases v with
            | true =>
              go_wp2
              go_roundw
              case rel => exact ⟨j + 1, by omega, by go_num, _, _, _, HS6.out, HH6.out, HSP6.out⟩
              case measure => simp [intOf]; omega
            | false =>
              go_wp2
              go_roundw
              case rel => exact ⟨j + 1, by omega, by go_num, _, _, _, HS6.out, HH6.out, HSP6.out⟩
              case measure => simp [intOf]; omega
          · rw [hasB_off (by have := HS6.out.len; omega)]
            go_wp2
            go_roundw
            case rel => exact ⟨j + 1, by omega, by go_num, _, _, _, HS6.out, HH6.out, HSP6.out⟩
            case measure => simp [intOf]; omega
        · rw [hasB_off (by omega)]
          go_wp2
          go_roundw
          case rel => exact ⟨j + 1, by omega, by go_num, _, _, _, HS6.out, HH6.out, HSP6.out⟩
          case measure => simp [intOf]; omega
      · obtain ⟨F, T, tv, hst, hhe, hsp⟩ := hgo
        have HST := Lib.hid hst
        have HH := Lib.hid hhe
        have HSP := Lib.hid hsp
        have HBW := Lib.hid hbw
        have hcz := hst.c0
        clear hst hhe hsp hbw HA
        by_cases hlt : j < m
        case' pos => have hlim : 40 ≤ j := by omega
        all_goals
          clear hboth
          go_wp2_with fail
          have hs9 := And.intro (HST.out.drewN 1).c0 (HST.out.drewN 1).c1
          have HS9 := Lib.hid (HST.out.drewN 1)
          have HB9 := Lib.hid (below_dN HBW.out 1)
          have hml : (bk F).length ≤ 4096 := by have := bk_len F; have := HST.out.le; omega
          clear HST HH HSP HBW hcz HB1 hlt
          try clear hlim
          clear hj
          go_region_held3 (fun v => v.cell? ⟨s, 0, none⟩ = some (.pointer (some ⟨a, 0, none⟩)) ∧ v.cell? ⟨s, 1, none⟩ = some (.pointer (some ⟨x, 0, none⟩))) (first | exact hs9 | exact hs10 | exact hs11 | exact hs12)
            (first | (go_at_call 20; refine (HS9.out.blocks_).mono ?_; rintro e w10 ⟨A1, c1, rfl, r1, hb10⟩; have k10 := HS9.out.call hb10; have hs10 := And.intro k10.c0 k10.c1) | (go_at_call 21; refine (refBlocks_any k10.ref).mono ?_; rintro e w11 ⟨A2, c2, rfl, r2, hb11⟩; have k11 := k10.call hb11; have r1' := r1.below hb11; have hs11 := And.intro k11.c0 k11.c1) | (go_at_call 19; refine (same_same r1' r2 hml).mono ?_; rintro e w12 ⟨rfl, q, rfl⟩; have hs12 := And.intro (k11.drewN q).c0 (k11.drewN q).c1))
          have HB11 := Lib.hid ((HB9.out.trans (hb10.mono HB9.out.size)).trans (hb11.mono (Nat.le_trans HB9.out.size hb10.size)))
          go_wp2
          go_ret
          exact ⟨rfl, below_dN HB11.out _⟩
end Go.Proofs.Ytgkjkjpeolhgbaa
