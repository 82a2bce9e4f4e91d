/- Frames: FramesDoes, walked. -/
import Derived.Test.YtnbphpkcpipbkaaFrL
namespace Go.Proofs.Ytnbphpkcpipbkaa
open Go.RowKit
set_option maxHeartbeats 16000000 in
set_option maxRecDepth 100000 in
theorem does_walk (m : Int) (A : Option Addr) (n c : Nat) (f y : Int) (w : World) (hF : Fits f) (hA : Acs w w.heap.size A n) :
    Calls Try.prog 3 #[.agg #[.int .i64 m, .slice A n c, .int .i64 f, .int .i64 y]] w fun e w' => e = .returned (.bool true) ∧ Below w.heap.size w w' := by
  obtain ⟨W00, hW0⟩ : ∃ W0, W0 = w.alloc (.cells #[.int .i64 m, .slice A n c, .int .i64 f, .int .i64 y] 24) := ⟨_, rfl⟩
  obtain ⟨q, hq⟩ : ∃ q, q = w.heap.size := ⟨_, rfl⟩
  have g00 : Below w.heap.size w W00 := by rw [hW0]; exact below_new _ _
  have rs : Lrow W00 q 24 [.int .i64 m, .slice A n c, .int .i64 f, .int .i64 y] := by rw [hW0, hq]; exact Lrow.new w _ _
  have q0 := rs.cell 0
  have q1 := rs.cell 1
  have q2 := rs.cell 2
  have q3 := rs.cell 3
  have HDN : Hid (∀ k, Below w.heap.size w (W00.drewN k)) := fun k => below_dN g00 k
  have HA0 := Lib.hid hA
  have HW := Lib.hid (And.intro hW0 hq)
  clear hW0 hq g00 rs hA
  cases c0 : nwF m
  · go_enter Try.func3, Try.ntmps3
    go_upto_region 1 with (fail)
    rw [← HW.out.1, ← HW.out.2]
    go_wp2_with fail
    go_quiet (fail)
    have HG0 : Hid (Below w.heap.size w (W00.drewN nq)) := HDN.out nq
    clear q0 q1 q2 q3
    generalize W00.drewN nq = W0 at *
    go_wp2_with fail
    refine (made_no c0 (.slice A n c) W0).mono ?_
    rintro e w1 ⟨rfl, rfl⟩
    go_wp2_with fail
    refine (awake_any _).mono ?_
    rintro e w2 ⟨rfl, hb2⟩
    have HB2 := Lib.hid hb2
    clear hb2
    go_wp2_with fail
    refine (awake_any _).mono ?_
    rintro e w3 ⟨rfl, hb3⟩
    have HB3 := Lib.hid (HB2.out.trans (hb3.mono HB2.out.size))
    clear hb3
    go_wp2_with fail
    go_ret
    exact ⟨rfl, HG0.out.trans (HB3.out.mono HG0.out.size)⟩
  · go_enter Try.func3, Try.ntmps3
    go_upto_region 1 with (fail)
    rw [← HW.out.1, ← HW.out.2]
    go_wp2_with fail
    go_quiet (fail)
    have HG0 : Hid (Below w.heap.size w (W00.drewN nq)) := HDN.out nq
    clear q0 q1 q2 q3
    generalize W00.drewN nq = W0 at *
    have hA : Acs W0 W0.heap.size A n := fun hn => by
      obtain ⟨p, e, hl, hc⟩ := (HA0.out.below HG0.out) hn
      exact ⟨p, e, Nat.lt_of_lt_of_le hl HG0.out.size, hc⟩
    obtain ⟨M, hM, hls⟩ := hA.list
    have hm := made_any c0 A n c W0.heap.size M W0 hM hls (Nat.le_refl _)
    have hok := mdE_ok c0 M
    have hln := mdE_len m M
    have hm0 := of_decide_eq_true c0
    generalize mdE m M = S at hm hok hln
    obtain ⟨l, hl⟩ : ∃ l, l = S.length := ⟨_, rfl⟩
    obtain rfl : m = (l : Int) := by omega
    have l1 : l ≤ 1024 := by omega
    have l0 : 8 ≤ l := by omega
    have HOK := Lib.hid (And.intro hok hl)
    clear hA hM hls hok hln hl hm0 c0
    go_wp2_with fail
    refine hm.mono ?_
    rintro e w1 ⟨s, x, rfl, hst, hb1⟩
    have HS1 := Lib.hid hst
    have HB1 := Lib.hid hb1
    have hak := awake_any w1
    clear hm hst hb1
    go_wp2_with fail
    refine hak.mono ?_
    rintro e w2 ⟨rfl, hb2⟩
    have HB2 := Lib.hid (HB1.out.trans (hb2.mono HB1.out.size))
    obtain ⟨g, v, h1, h2, h3⟩ := HS1.out.call hb2
    obtain ⟨gr, cr, rfl⟩ := h2.form (by have := HOK.out.2; omega)
    have e0 := h2.1.cell 0
    rw [← HOK.out.2] at e0 h2 h3
    have H1 := Lib.hid (And.intro h1 (And.intro h2 h3))
    have hc0 : w2.cell? ⟨x, 0, none⟩ = some (.slice (some ⟨gr, 0, none⟩) l cr) := e0
    clear hak hb2 h1 h2 h3 e0
    obtain ⟨r, hr⟩ := nx_ex S f y
    go_wp2_with fail
    go_loopw [10] (fun k wr => ∃ j : Nat, j ≤ l ∧ k = .int .i64 j ∧ Below w2.heap.size w2 wr) (fun k _ => l - (RowKit.intOf k).toNat)
    case atStart => exact ⟨0, by omega, rfl, Below.refl _ _⟩
    case round =>
      obtain ⟨j, hj, rfl, hz⟩ := hrel
      have HR1 : Hid (Fx W0.heap.size wr s g S ∧ Rx W0.heap.size wr x (.slice (some ⟨gr, 0, none⟩) l cr) S ∧ Below w.heap.size w wr) := by
        have hb := HG0.out.trans (HB2.out.mono HG0.out.size)
        exact ⟨H1.out.1.call hz, H1.out.2.1.call hz, hb.trans (hz.mono hb.size)⟩
      have HZ := Lib.hid hz
      have HI : Hid (∀ k (i : Int), Calls Try.prog 11 #[.pointer (some ⟨s, 0, none⟩), .int .i64 i] (wr.drewN k) fun e w' => e = .returned (.int .i64 (isV S i)) ∧ w' = wr.drewN k) := fun k i =>
        (is_f (HR1.out.1.call (below_dN (Below.refl _ _) k)) i).mono fun _ _ h => ⟨h.1, h.2.symm⟩
      have HC1 : Hid (∀ k, Calls Try.prog 12 #[.pointer (some ⟨s, 0, none⟩), .int .i64 y] (wr.drewN k) fun e w' => e = .returned (.int .i64 (S.count y : Nat)) ∧ w' = wr.drewN k) := fun k =>
        (count_f (HR1.out.1.call (below_dN (Below.refl _ _) k)) HOK.out.1 y).mono fun _ _ h => ⟨h.1, h.2.symm⟩
      have HC2 : Hid (∀ k, Calls Try.prog 13 #[.pointer (some ⟨x, 0, none⟩), .int .i64 y] (wr.drewN k) fun e w' => e = .returned (.int .i64 (S.count y : Nat)) ∧ w' = wr.drewN k) := fun k =>
        (rcount (HR1.out.2.1.call (below_dN (Below.refl _ _) k)) HOK.out.1.l1 y).mono fun _ _ h => ⟨h.1, h.2.symm⟩
      have HN1 : Hid (∀ k, Calls Try.prog 14 #[.pointer (some ⟨s, 0, none⟩), .int .i64 f, .int .i64 y] (wr.drewN k) fun e w' => e = .returned (.int .i64 r) ∧ w' = wr.drewN k) := fun k =>
        (next_f (HR1.out.1.call (below_dN (Below.refl _ _) k)) HOK.out.1.l1 hF hr).mono fun _ _ h => ⟨h.1, h.2.symm⟩
      have HN2 : Hid (∀ k, Calls Try.prog 15 #[.pointer (some ⟨x, 0, none⟩), .int .i64 f, .int .i64 y] (wr.drewN k) fun e w' => e = .returned (.int .i64 r) ∧ w' = wr.drewN k) := fun k =>
        (rnext (HR1.out.2.1.call (below_dN (Below.refl _ _) k)) HOK.out.1.l1 hr).mono fun _ _ h => ⟨h.1, h.2.symm⟩
      have HL1 : Hid (∀ k, Calls Try.prog 16 #[.pointer (some ⟨s, 0, none⟩)] (wr.drewN k) fun e w' => e = .returned (.int .i64 l) ∧ w' = wr.drewN k) := fun k => by
        have := len_f (HR1.out.1.call (below_dN (Below.refl _ _) k))
        rw [← HOK.out.2] at this
        exact this.mono fun _ _ h => ⟨h.1, h.2.symm⟩
      obtain ⟨cn, hcn⟩ : ∃ cn, cn = S.count y := ⟨_, rfl⟩
      rw [← hcn] at HC1 HC2
      have hc0 : wr.cell? ⟨x, 0, none⟩ = some (.slice (some ⟨gr, 0, none⟩) l cr) := HR1.out.2.1.1.cell 0
      clear hcn hz
      by_cases hlt : j < l
      · have hjl : j < S.length := by have := HOK.out.2; omega
        have d0 : wr.cell? ⟨gr, j, none⟩ = some (.int .i64 S[j]) := HR1.out.2.1.get hjl
        have hi := HI.out
        have hv : isV S j = S[j] := by
          unfold isV frB
          rw [decide_eq_true (show (0 : Int) ≤ j ∧ (j : Int) < S.length by omega), if_pos rfl, Int.toNat_natCast, List.getD_eq_getElem?_getD, List.getElem?_eq_getElem hjl]; rfl
        have HIJ : Hid (∀ k, Calls Try.prog 11 #[.pointer (some ⟨s, 0, none⟩), .int .i64 j] (wr.drewN k) fun e w' => e = .returned (.int .i64 S[j]) ∧ w' = wr.drewN k) := fun k => by
          have := hi k j
          rw [hv] at this
          exact this
        generalize S[j] = u at d0 HIJ
        have j1 : (j : Int) < l := by omega
        have j0 : (0 : Int) ≤ j := by omega
        have hw3 : IntKind.i64.wrap ((j : Int) + 1) = (j : Int) + 1 := IntWalk.i64_in _ (by omega)
        clear hjl hi hv
        go_wp2_with fail
        go_quiet ((go_at_call 11; exact Calls.quiet_of_same (HIJ.out _)))
        go_wp2_with fail
        go_roundw
        case rel => exact ⟨j + 1, by omega, by go_num, below_dN HZ.out _⟩
        case measure => simp [RowKit.intOf]; omega
      · have j1 : ¬ (j : Int) < l := by omega
        have hif := fun k => HI.out k f
        have HBZ : Hid (∀ k, Below w.heap.size w (wr.drewN k)) := fun k => below_dN HR1.out.2.2 k
        clear hj hlt
        by_cases cf : frB S f = true
        · have cf' := of_decide_eq_true cf
          obtain ⟨k, rfl⟩ : ∃ k : Nat, f = k := ⟨f.toNat, by omega⟩
          have hkl : k < S.length := by omega
          have hv : isV S k = S[k] := by
            unfold isV
            rw [cf, if_pos rfl, Int.toNat_natCast, List.getD_eq_getElem?_getD, List.getElem?_eq_getElem hkl]; rfl
          rw [hv] at hif
          have d0 : wr.cell? ⟨gr, k, none⟩ = some (.int .i64 S[k]) := HR1.out.2.1.get hkl
          generalize S[k] = u at d0 hif
          have k1 : (k : Int) < l := by have := HOK.out.2; omega
          have k0 : (0 : Int) ≤ k := by omega
          have HIF := Lib.hid hif
          clear cf cf' hkl hv hif
          go_wp2_with fail
          go_quiet ((first
            | (go_at_call 11; exact Calls.quiet_of_same (HIF.out _))
            | (go_at_call 12; exact Calls.quiet_of_same (HC1.out _))
            | (go_at_call 13; exact Calls.quiet_of_same (HC2.out _))
            | (go_at_call 14; exact Calls.quiet_of_same (HN1.out _))
            | (go_at_call 15; exact Calls.quiet_of_same (HN2.out _))
            | (go_at_call 16; exact Calls.quiet_of_same (HL1.out _))))
          go_wp2_with fail
          go_ret
          exact ⟨ret_bool (by simp), HBZ.out _⟩
        · have hv : isV S f = -1 := by unfold isV; rw [if_neg cf]
          rw [hv] at hif
          have cf' := of_decide_eq_false (Bool.eq_false_iff.2 cf)
          have HIF := Lib.hid hif
          by_cases k0 : 0 ≤ f
          · have k1 : ¬ f < l := by have := HOK.out.2; omega
            clear cf cf' hv hif
            go_wp2_with fail
            go_quiet ((first
            | (go_at_call 11; exact Calls.quiet_of_same (HIF.out _))
            | (go_at_call 12; exact Calls.quiet_of_same (HC1.out _))
            | (go_at_call 13; exact Calls.quiet_of_same (HC2.out _))
            | (go_at_call 14; exact Calls.quiet_of_same (HN1.out _))
            | (go_at_call 15; exact Calls.quiet_of_same (HN2.out _))
            | (go_at_call 16; exact Calls.quiet_of_same (HL1.out _))))
            go_wp2_with fail
            go_ret
            exact ⟨ret_bool (by simp), HBZ.out _⟩
          · clear cf cf' hv hif
            go_wp2_with fail
            go_quiet ((first
            | (go_at_call 11; exact Calls.quiet_of_same (HIF.out _))
            | (go_at_call 12; exact Calls.quiet_of_same (HC1.out _))
            | (go_at_call 13; exact Calls.quiet_of_same (HC2.out _))
            | (go_at_call 14; exact Calls.quiet_of_same (HN1.out _))
            | (go_at_call 15; exact Calls.quiet_of_same (HN2.out _))
            | (go_at_call 16; exact Calls.quiet_of_same (HL1.out _))))
            go_wp2_with fail
            go_ret
            exact ⟨ret_bool (by simp), HBZ.out _⟩
end Go.Proofs.Ytnbphpkcpipbkaa
