/- Frames: FramesNext, walked. -/
import Derived.Test.YtnbphpkcpipbkaaFrL
namespace Go.Proofs.Ytnbphpkcpipbkaa
open Go.RowKit
set_option maxHeartbeats 16000000 in
set_option maxRecDepth 100000 in
theorem next_walk (m : Int) (A : Option Addr) (n c : Nat) (y : Int) (w : World) (hA : Acs w w.heap.size A n) :
    Calls Try.prog 8 #[.int .i64 m, .slice A n c, .int .i64 y] w fun e w' => e = .returned (.bool true) ∧ Below w.heap.size w w' := by
  cases c0 : nwF m
  · clear hA
    have hm := made_no c0 (.slice A n c) w
    go_enter Try.func8, Try.ntmps8
    go_wp2_with fail
    refine hm.mono ?_
    rintro e w1 ⟨rfl, rfl⟩
    clear hm
    go_wp2_with fail
    refine (awake_any _).mono ?_
    rintro e w2 ⟨rfl, hb2⟩
    have HB2 := Lib.hid hb2
    clear hb2
    go_wp2_with fail
    refine (awake_any _).mono ?_
    rintro e w3 ⟨rfl, hb3⟩
    have HB3 := Lib.hid (HB2.out.trans (hb3.mono HB2.out.size))
    clear hb3
    go_wp2_with fail
    go_ret
    exact ⟨rfl, HB3.out⟩
  · obtain ⟨M, hM, hls⟩ := hA.list
    have hm := made_any c0 A n c w.heap.size M w hM hls (Nat.le_refl _)
    have hok := mdE_ok c0 M
    have hln := mdE_len m M
    have hm0 := of_decide_eq_true c0
    generalize mdE m M = S at hm hok hln
    obtain ⟨l, hl⟩ : ∃ l, l = S.length := ⟨_, rfl⟩
    obtain rfl : m = (l : Int) := by omega
    have l1 : l ≤ 1024 := by omega
    have l0 : 8 ≤ l := by omega
    have HOK := Lib.hid (And.intro hok hl)
    clear hA hM hls hok hln hl hm0 c0
    go_enter Try.func8, Try.ntmps8
    go_wp2_with fail
    refine hm.mono ?_
    rintro e w1 ⟨s, x, rfl, hst, hb1⟩
    have HS1 := Lib.hid hst
    have HB1 := Lib.hid hb1
    have hak := awake_any w1
    clear hm hst hb1
    go_wp2_with fail
    refine hak.mono ?_
    rintro e w2 ⟨rfl, hb2⟩
    have HB2 := Lib.hid (HB1.out.trans (hb2.mono HB1.out.size))
    obtain ⟨g, v, h1, h2, h3⟩ := HS1.out.call hb2
    obtain ⟨gr, cr, rfl⟩ := h2.form (by have := HOK.out.2; omega)
    have e0 := h2.1.cell 0
    rw [← HOK.out.2] at e0 h2 h3
    have H1 := Lib.hid (And.intro h1 (And.intro h2 h3))
    have hc0 : w2.cell? ⟨x, 0, none⟩ = some (.slice (some ⟨gr, 0, none⟩) l cr) := e0
    clear hak hb2 h1 h2 h3 e0
    have hrc := rcount H1.out.2.1 HOK.out.1.l1 y
    have hcc := count_f H1.out.1 HOK.out.1 y
    obtain ⟨cn, hcn⟩ : ∃ cn, cn = S.count y := ⟨_, rfl⟩
    rw [← hcn] at hrc hcc
    have HCN := Lib.hid hcn
    clear hcn
    go_wp2_with fail
    go_loopw [10, 11, 12] (fun r p k wr => ∃ (i : Nat) (q : Int), k = .int .i64 i ∧ r = .int .i64 i ∧ p = .int .i64 q ∧ -1 ≤ q ∧ q < l ∧ cnF S y (q + 1).toNat = i ∧ w2 = wr) (fun _ _ k _ => l + 1 - (RowKit.intOf k).toNat)
    case atStart => exact ⟨0, -1, rfl, rfl, rfl, by omega, by omega, rfl, rfl⟩
    case round =>
      obtain ⟨i, q, rfl, rfl, rfl, hq0, hq1, hcq, rfl⟩ := hrel
      have hil : i ≤ l := by have := cnF_len S y (q + 1).toNat; have := HOK.out.2; omega
      have HCQ := Lib.hid hcq
      obtain ⟨r, hr⟩ := nx_ex S (q + 1) y
      have hn := next_f H1.out.1 HOK.out.1.l1 (f := q + 1) ⟨by omega, by omega⟩ hr
      have hw1 : IntKind.i64.wrap (q + 1) = q + 1 := IntWalk.i64_in _ (by omega)
      have hw2 : IntKind.i64.wrap ((i : Int) + 1) = (i : Int) + 1 := IntWalk.i64_in _ (by omega)
      have i1 : ¬ (l : Int) < i := by omega
      have i2 : (i : Int) ≤ l := by omega
      rcases hr with ⟨rfl, hno⟩ | ⟨k, rfl, a1, a2, a3⟩
      · have HE : Hid (i = cn) := by
          show _ = _
          have h1 := cnF_gap S y (q + 1).toNat (l - (q + 1).toNat) fun z h1 h2 => hno z (by omega)
          rw [show (q + 1).toNat + (l - (q + 1).toNat) = l by omega, HOK.out.2, cnF_all, ← HCN.out, HCQ.out] at h1
          exact h1.symm
        clear hno hcq hil
        go_wp2_with fail
        refine hn.mono ?_
        rintro e w3 ⟨rfl, rfl⟩
        clear hn
        go_wp2_with fail
        refine hrc.mono ?_
        rintro e w3 ⟨rfl, rfl⟩
        have hie : ((i : Int) == (cn : Int)) = true := by rw [HE.out]; simp
        clear hrc
        go_wp2_with fail
        refine hcc.mono ?_
        rintro e w3 ⟨rfl, rfl⟩
        clear hcc
        go_wp2_with fail
        go_ret
        exact ⟨rfl, HB2.out⟩
      · obtain ⟨hkl, hky⟩ := List.getElem?_eq_some_iff.1 a2
        have hkl' : k < l := by have := HOK.out.2; omega
        have d0 := H1.out.2.1.get hkl
        rw [hky] at d0
        have HE : Hid (cnF S y (k + 1) = i + 1) := by
          show _ = _
          have h1 := cnF_gap S y (q + 1).toNat (k - (q + 1).toNat) fun z h1 h2 => a3 z (by omega) (by omega)
          rw [show (q + 1).toNat + (k - (q + 1).toNat) = k by omega, HCQ.out] at h1
          rw [cnF_succ, if_pos a2, h1]
        have k1 : (k : Int) < l := by omega
        have k0 : (0 : Int) ≤ k := by omega
        have k2 : ¬ (k : Int) < 0 := by omega
        have k3 : ¬ (k : Int) ≤ q := by omega
        have HKL := Lib.hid hkl'
        have HIL := Lib.hid hil
        clear hcq hil a1 a2 a3 hkl hky hkl' hrc hcc
        go_wp2_with fail
        refine hn.mono ?_
        rintro e w3 ⟨rfl, rfl⟩
        clear hn
        go_wp2_with fail
        go_roundw
        case rel => exact ⟨i + 1, (k : Int), by go_num, by go_num, rfl, by omega, by omega, by rw [show ((k : Int) + 1).toNat = k + 1 by omega]; exact HE.out, trivial⟩
        case measure => simp [RowKit.intOf]; have := HIL.out; omega
end Go.Proofs.Ytnbphpkcpipbkaa
