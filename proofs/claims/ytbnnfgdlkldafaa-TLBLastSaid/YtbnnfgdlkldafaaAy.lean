/- The law TLBLast, walked. -/
import Derived.Test.YtbnnfgdlkldafaaAz
namespace Go.Proofs.Ytbnnfgdlkldafaa
open Go.RowKit
set_option maxHeartbeats 4000000 in
set_option maxRecDepth 100000 in
theorem last9_walk (A : Option Addr) (n c : Nat) (z : Int) (k : Cd) (w : World) (hA : Kls w w.heap.size A n) (hz : 0 ≤ z ∧ z < 256) (hk : CFits k) :
    Calls Try.prog 6 #[.int .u8 z, .slice A n c, .agg #[.int .i64 k.s, .int .i64 k.p, .int .i64 k.o, .int .i64 k.f, .bool k.w]] w fun e w' => e = .returned (.bool true) ∧ Below w.heap.size w w' := by
  obtain ⟨m, rfl⟩ : ∃ m : Nat, z = m := ⟨z.toNat, by omega⟩
  obtain ⟨ks, kp, ko, kf, kw⟩ := k
  dsimp only
  obtain ⟨W0, hW0⟩ : ∃ W0, W0 = w.alloc (.cells #[.int .i64 ks, .int .i64 kp, .int .i64 ko, .int .i64 kf, .bool kw] 31) := ⟨_, rfl⟩
  obtain ⟨s, hsz⟩ : ∃ s, s = w.heap.size := ⟨_, rfl⟩
  have g0 : Below w.heap.size w W0 := hW0 ▸ below_1 _
  have rs : Lrow W0 s 31 [.int .i64 ks, .int .i64 kp, .int .i64 ko, .int .i64 kf, .bool kw] := by rw [hW0, hsz]; exact Lrow.new w _ _
  have HW := Lib.hid (And.intro hW0 hsz)
  have HG0 := Lib.hid g0
  have HRS := Lib.hid rs
  have HOK := Lib.hid hk
  have hm256 : (m : Int) < 256 := hz.2
  have hm := made_any (m % 64 + 1) (by omega) (by omega) A n c w.heap.size W0 (hA.below g0) (HG0.out).size
  rw [show ((m % 64 + 1 : Nat) : Int) = (m : Int) % 64 + 1 by omega] at hm
  have HM := Lib.hid hm
  have m0 : (0 : Int) ≤ (m : Int) % 64 := by omega
  have m64 : (m : Int) % 64 < 64 := by omega
  clear hm
  clear hW0 hsz g0 rs hA hz hk
  go_enter Try.func6, Try.ntmps6
  go_upto_region 1 with (fail)
  rw [← HW.out.1, ← HW.out.2]
  go_wp2_with fail
  refine HM.out.mono ?_
  rintro e w2 ⟨ta, xa, rfl, tv, xv, L, hst, hb2⟩
  have HST2 := Lib.hid hst
  have HZ2 := Lib.hid hb2
  have HB2 := Lib.hid ((HG0.out).trans (hb2.mono (HG0.out).size))
  clear hst hb2
  go_wp2_with fail
  refine (awake_any _).mono ?_
  rintro e w3 ⟨rfl, hb3⟩
  have HZ3 := Lib.hid hb3
  have HST3 := Lib.hid (HST2.out.call hb3)
  have HB3 := Lib.hid (HB2.out.trans (hb3.mono HB2.out.size))
  clear hb3
  have HR3 := Lib.hid ((HRS.out.call HZ2.out).call HZ3.out)
  have hln := lines_any HST3.out.t
  have HL64 := Lib.hid (Nat.le_trans HST3.out.t.good.len HST3.out.t.z64)
  obtain ⟨nL, hnL⟩ : ∃ nL, nL = L.length := ⟨_, rfl⟩
  have HNL := Lib.hid hnL
  have n64 : (nL : Int) ≤ 64 := by have := HL64.out; omega
  have HROK : Hid (∀ x ∈ L, ROk x) := HST3.out.t.good.ok
  rw [← hnL] at hln
  clear hnL
  go_wp2_with fail
  refine hln.mono ?_
  rintro e w4 ⟨A4, rfl, hl4, hb4⟩
  have r4 := HR3.out.call hb4
  have k0 : w4.cell? ⟨s, 0, none⟩ = some (.int .i64 ks) := r4.cell 0
  have k1 : w4.cell? ⟨s, 1, none⟩ = some (.int .i64 kp) := r4.cell 1
  have k2 : w4.cell? ⟨s, 2, none⟩ = some (.int .i64 ko) := r4.cell 2
  have k3 : w4.cell? ⟨s, 3, none⟩ = some (.int .i64 kf) := r4.cell 3
  have k4 : w4.cell? ⟨s, 4, none⟩ = some (.bool kw) := r4.cell 4
  have HT4 : Hid (Tb W0.heap.size w4 ta (m % 64 + 1) tv L) := (HST3.out.call hb4).t
  have HB4 := Lib.hid (HB3.out.trans (hb4.mono HB3.out.size))
  have HR4 := Lib.hid r4
  have hput0 := put_any HT4.out (c := ⟨ks, kp, ko, kf, kw⟩) HOK.out
  have hput : Calls Try.prog 19 #[.pointer (some ⟨ta, 0, none⟩), .agg #[.int .i64 ks, .int .i64 kp, .int .i64 ko, .int .i64 kf, .bool kw]] w4 fun e w5 => e = .returned (.int .i64 (putE ⟨ks, kp, ko, kf, kw⟩)) ∧ ∃ v5, Tb W0.heap.size w5 ta (m % 64 + 1) v5 (putL (m % 64 + 1) L ⟨ks, kp, ko, kf, kw⟩) ∧ Below W0.heap.size w4 w5 ∧ Ln w5 w3.heap.size A4 L := by
    refine hput0.mono ?_
    rintro e w5 ⟨rfl, v5, hT5, hF, -⟩
    refine ⟨rfl, v5, hT5, hF.below HT4.out.lw (fun b hb => HT4.out.hi hb), ln_keep hl4 hF.size fun g hg hgl => hF.keep g hgl ?_⟩
    rintro (rfl | e)
    · have := HST3.out.t.top.lt; omega
    · obtain ⟨vs, r, _⟩ := own_block HST3.out.t.own e
      have := r.lt
      omega
  clear hput0 hln hl4 hb4 r4
  by_cases hr : rgB ⟨ks, kp, ko, kf, kw⟩ = true
  · have hpe : putE ⟨ks, kp, ko, kf, kw⟩ = 0 := by unfold putE; rw [if_pos hr]
    obtain ⟨X, hX⟩ : ∃ X, X = cutL (m % 64 + 1) (flL L ks kp (szO ko)) := ⟨_, rfl⟩
    have hpl : putL (m % 64 + 1) L ⟨ks, kp, ko, kf, kw⟩ = X ++ [⟨ks, kp, ko, kf, kw⟩] := by unfold putL; rw [if_pos hr, hX]
    have hkok : ROk ⟨ks, kp, ko, kf, kw⟩ := of_decide_eq_true hr
    have hfine := lst_fine HST3.out.t.good ⟨ks, kp, ko, kf, kw⟩
    rw [show cutL (m % 64 + 1) (flL L (⟨ks, kp, ko, kf, kw⟩ : Cd).s (⟨ks, kp, ko, kf, kw⟩ : Cd).p (szO (⟨ks, kp, ko, kf, kw⟩ : Cd).o)) = X from hX.symm, ← HNL.out] at hfine
    rw [hpe, hpl] at hput
    have HFI := Lib.hid hfine
    have HKOK := Lib.hid hkok
    clear hfine hkok hX hpl hpe hr
    go_wp2_with fail
    refine hput.mono ?_
    rintro e w5 ⟨rfl, v5, hT5, hb5, hl5⟩
    obtain ⟨nM, hnM⟩ : ∃ nM, nM = (X ++ [(⟨ks, kp, ko, kf, kw⟩ : Cd)]).length := ⟨_, rfl⟩
    obtain ⟨nX, hnX⟩ : ∃ nX, nX = X.length := ⟨_, rfl⟩
    have hMX : nM = nX + 1 := by rw [hnM, hnX, List.length_append]; rfl
    have hM64 : nM ≤ 64 := by rw [hnM]; exact Nat.le_trans hT5.good.len hT5.z64
    have HNX := Lib.hid (And.intro hnM hnX)
    have HB5 := Lib.hid (HB4.out.trans (hb5.mono (by have := HG0.out.size; exact this)))
    have hR5 := HR4.out.below hb5 HRS.out.lt
    have hln5 := lines_any hT5
    rw [← hnM] at hln5
    have HT5 := Lib.hid hT5
    have HL5 := Lib.hid hl5
    have HR5 := Lib.hid hR5
    clear hput hT5 hb5 hl5 hR5 hnM hnX k0 k1 k2 k3 k4
    go_wp2_with fail
    refine hln5.mono ?_
    rintro e w6 ⟨A6, rfl, hl6, hb6⟩
    obtain ⟨g6, rfl, hgl6, -, hat6⟩ := hl6 (by rw [List.length_append]; exact Nat.succ_pos _)
    have r6 := HR5.out.call hb6
    have k0 : w6.cell? ⟨s, 0, none⟩ = some (.int .i64 ks) := r6.cell 0
    have k1 : w6.cell? ⟨s, 1, none⟩ = some (.int .i64 kp) := r6.cell 1
    have hlk := look_any (HT5.out.call hb6) ks (q := kp) HOK.out.p
    have hlk0 : lkP (X ++ [(⟨ks, kp, ko, kf, kw⟩ : Cd)]) ks kp = some ⟨ks, kp, ko, kf, kw⟩ := lk_mem HT5.out.good.far (c := ⟨ks, kp, ko, kf, kw⟩) (List.mem_append.2 (Or.inr (List.mem_singleton.2 rfl)))
    rw [hlk0] at hlk
    replace hlk : Calls Try.prog 11 #[.pointer (some ⟨ta, 0, none⟩), .int .i64 ks, .int .i64 kp] w6 fun e w' => e = .returned (.tuple #[.agg #[.int .i64 ks, .int .i64 kp, .int .i64 ko, .int .i64 kf, .bool kw], .bool true]) ∧ Below w6.heap.size w6 w' := hlk
    have HB6 := Lib.hid (HB5.out.trans (hb6.mono HB5.out.size))
    have HL6 := Lib.hid (HL5.out.call hb6)
    have HR6 := Lib.hid r6
    have HNOW : Hid (∀ W, Below w6.heap.size w6 W → ∀ i (h : i < (X ++ [(⟨ks, kp, ko, kf, kw⟩ : Cd)]).length), CdAt W ⟨g6, i * 5, none⟩ (X ++ [(⟨ks, kp, ko, kf, kw⟩ : Cd)])[i]) := fun W hW i h => (hat6 i h).call9 hW hgl6
    clear hln5 hl6 hb6 hgl6 hat6 r6 hlk0
    go_wp2_with fail
    refine hlk.mono ?_
    rintro e w7 ⟨rfl, hb7⟩
    obtain ⟨sc, hsc⟩ : ∃ sc, sc = w7.heap.size := ⟨_, rfl⟩
    obtain ⟨W8, hW8⟩ : ∃ W8, W8 = w7.alloc (.cells #[.int .i64 ks, .int .i64 kp, .int .i64 ko, .int .i64 kf, .bool kw] 31) := ⟨_, rfl⟩
    have hb8 : Below w6.heap.size w6 W8 := by rw [hW8]; exact hb7.alloc hb7.size _
    have hr8 : Lrow W8 sc 31 [.int .i64 ks, .int .i64 kp, .int .i64 ko, .int .i64 kf, .bool kw] := by rw [hW8, hsc]; exact Lrow.new w7 _ _
    have rb8 := HR6.out.call hb8
    have q0 : W8.cell? ⟨sc, 0, none⟩ = some (.int .i64 ks) := hr8.cell 0
    have q1 : W8.cell? ⟨sc, 1, none⟩ = some (.int .i64 kp) := hr8.cell 1
    have q2 : W8.cell? ⟨sc, 2, none⟩ = some (.int .i64 ko) := hr8.cell 2
    have q3 : W8.cell? ⟨sc, 3, none⟩ = some (.int .i64 kf) := hr8.cell 3
    have q4 : W8.cell? ⟨sc, 4, none⟩ = some (.bool kw) := hr8.cell 4
    have b0 : W8.cell? ⟨s, 0, none⟩ = some (.int .i64 ks) := rb8.cell 0
    have b1 : W8.cell? ⟨s, 1, none⟩ = some (.int .i64 kp) := rb8.cell 1
    have b2 : W8.cell? ⟨s, 2, none⟩ = some (.int .i64 ko) := rb8.cell 2
    have b3 : W8.cell? ⟨s, 3, none⟩ = some (.int .i64 kf) := rb8.cell 3
    have b4 : W8.cell? ⟨s, 4, none⟩ = some (.bool kw) := rb8.cell 4
    have hn8 : CdAt W8 ⟨g6, nX * 5, none⟩ ⟨ks, kp, ko, kf, kw⟩ := by
      have := HNOW.out W8 hb8 nX (by rw [← HNX.out.1]; omega)
      have e : (X ++ [(⟨ks, kp, ko, kf, kw⟩ : Cd)])[nX]'(by rw [← HNX.out.1]; omega) = ⟨ks, kp, ko, kf, kw⟩ := by
        rw [List.getElem_append_right (by have := HNX.out.2; omega)]
        simp
      rw [e] at this
      exact this
    have d0 := hn8.c0
    have d1 := hn8.c1
    have d2 := hn8.c2
    have d3 := hn8.c3
    have d4 := hn8.c4
    dsimp only at d0 d1 d2 d3 d4
    have HW8 := Lib.hid (And.intro hW8 hsc)
    have HB8 := Lib.hid (HB6.out.trans (hb8.mono HB6.out.size))
    have HL8 := Lib.hid (HL6.out.call hb8)
    have HR8 := Lib.hid rb8
    have HNOW8 : Hid (∀ W, Below W8.heap.size W8 W → ∀ i (h : i < (X ++ [(⟨ks, kp, ko, kf, kw⟩ : Cd)]).length), CdAt W ⟨g6, i * 5, none⟩ (X ++ [(⟨ks, kp, ko, kf, kw⟩ : Cd)])[i]) := fun W hW i h => HNOW.out W (hb8.trans (hW.mono hb8.size)) i h
    have hw1 : IntKind.i64.wrap ((nM : Int) - 1) = nX := (IntWalk.i64_in _ (by omega)).trans (by omega)
    have hxn : (nX : Int) < nM := by omega
    have hx0 : (0 : Int) ≤ nX := by omega
    have hx64 : (nX : Int) ≤ 64 := by omega
    have HMX := Lib.hid hMX
    clear hlk hb7 hb8 hr8 rb8 hn8 hW8 hsc k0 k1 hM64 hMX
    go_upto_region 9 with (fail)
    rw [← HW8.out.1, ← HW8.out.2]
    go_wp2_with fail
    go_region
    all_goals
      clear q0 q1 q2 q3 q4 b0 b1 b2 b3 b4 d0 d1 d2 d3 d4 hw1
      go_wp2_with fail
      go_loopw [14, 15] (fun lo i wr => ∃ j lc : Nat, j ≤ nL ∧ i = .int .i64 j ∧ lo = .int .i64 lc ∧ lc = (L.take j).countP (lstB X ⟨ks, kp, ko, kf, kw⟩) ∧ Below W8.heap.size W8 wr) (fun _ i _ => nL - (intOf i).toNat)
      case atStart => exact ⟨0, 0, by omega, rfl, rfl, by simp, below_dN (Below.refl _ _) 1⟩
      case round =>
        obtain ⟨j, lc, hj, rfl, rfl, hlc, hb⟩ := hrel
        have HB := Lib.hid hb
        by_cases hlt : j < nL
        · have hjl : j < L.length := by have := HNL.out; omega
          have hsn := lst_snoc X ⟨ks, kp, ko, kf, kw⟩ L hjl
          rw [← hlc] at hsn
          have hlcj : lc ≤ j := by rw [hlc]; exact Nat.le_trans (List.countP_le_length) (by rw [List.length_take]; exact Nat.min_le_left _ _)
          obtain ⟨g, rfl, hgl, -, hat⟩ := HL8.out (by omega)
          obtain ⟨x, hx⟩ : ∃ x, x = L[j] := ⟨_, rfl⟩
          have hxo : ROk x := hx ▸ HROK.out _ (List.getElem_mem _)
          have HXA : Hid (∀ W, Below W8.heap.size W8 W → CdAt W ⟨g, j * 5, none⟩ x) := fun W hW => by rw [hx]; exact (hat j hjl).call9 hW hgl
          rw [← hx] at hsn
          have HXO := Lib.hid hxo
          have hh1 := fun W => hold9_any HXO.out (s1 := ks) (q := kp) HOK.out.p W
          have hh2 := fun W => hold9_any HKOK.out (s1 := x.s) (q := x.p) ⟨by have := HXO.out.2.2.1; omega, by have := HXO.out.2.2.2.1; omega⟩ W
          unfold lstB at hsn
          obtain ⟨h1, e1⟩ : ∃ h1, h1 = hdB x ks kp := ⟨_, rfl⟩
          obtain ⟨h2, e2⟩ : ∃ h2, h2 = hdB ⟨ks, kp, ko, kf, kw⟩ x.s x.p := ⟨_, rfl⟩
          obtain ⟨fb, e3⟩ : ∃ fb, fb = X.any fun y => decide (y = x) := ⟨_, rfl⟩
          dsimp only at hsn
          rw [← e1, ← e2, ← e3] at hsn
          rw [← e1] at hh1
          rw [← e2] at hh2
          have HSN := Lib.hid hsn
          have HFB := Lib.hid e3
          have hjN : (j : Int) < nL := by omega
          have hj0 : (0 : Int) ≤ j := by omega
          have hlc0 : (0 : Int) ≤ lc := by omega
          have hlc64 : (lc : Int) ≤ 64 := by omega
          clear hsn e1 e2 e3 hxo hx hat hgl hjl hb hlc hlcj
          obtain ⟨xs, xp, xo, xf, xw⟩ := x
          replace hh1 : ∀ W, Calls Try.prog 15 #[.agg #[.int .i64 xs, .int .i64 xp, .int .i64 xo, .int .i64 xf, .bool xw], .int .i64 ks, .int .i64 kp] W fun e w' => e = .returned (.bool h1) ∧ Below W.heap.size W w' := hh1
          replace hh2 : ∀ W, Calls Try.prog 15 #[.agg #[.int .i64 ks, .int .i64 kp, .int .i64 ko, .int .i64 kf, .bool kw], .int .i64 xs, .int .i64 xp] W fun e w' => e = .returned (.bool h2) ∧ Below W.heap.size W w' := hh2
          go_wp2_with fail
          go_loopw [16, 17] (fun fo i wr => ∃ q : Nat, q ≤ nX ∧ i = .int .i64 q ∧ fo = .bool ((X.take q).any fun y => decide (y = ⟨xs, xp, xo, xf, xw⟩)) ∧ Below W8.heap.size W8 wr) (fun _ i _ => nX - (intOf i).toNat)
          case atStart => exact ⟨0, by omega, rfl, by simp, HB.out⟩
          case round =>
            obtain ⟨q, hq, rfl, rfl, hb⟩ := hrel
            have HBQ := Lib.hid hb
            by_cases hqx : q < nX
            · have hql : q < X.length := by have := HNX.out.2; omega
              obtain ⟨y, hy⟩ : ∃ y, y = X[q] := ⟨_, rfl⟩
              have hya : CdAt wr ⟨g6, q * 5, none⟩ y := by
                have := HNOW8.out wr hb q (by rw [← HNX.out.1]; have := HMX.out; omega)
                rw [List.getElem_append_left hql] at this
                rw [hy]; exact this
              have hsn := any_snoc X (fun y => decide (y = ⟨xs, xp, xo, xf, xw⟩)) hql
              rw [← hy] at hsn
              obtain ⟨th, hth⟩ : ∃ th, th = (X.take q).any fun y => decide (y = ⟨xs, xp, xo, xf, xw⟩) := ⟨_, rfl⟩
              rw [← hth] at hsn ⊢
              have HSQ := Lib.hid hsn
              have hax := HXA.out wr hb
              have c0 := hax.c0
              have c1 := hax.c1
              have c2 := hax.c2
              have c3 := hax.c3
              have c4 := hax.c4
              have d0 := hya.c0
              have d1 := hya.c1
              have d2 := hya.c2
              have d3 := hya.c3
              have d4 := hya.c4
              obtain ⟨ys, yp, yo, yf, yw⟩ := y
              dsimp only at c0 c1 c2 c3 c4 d0 d1 d2 d3 d4
              have hqM : (q : Int) + 1 < nM := by have := HMX.out; omega
              have hqM' : (q : Int) < nM := by omega
              have hq0 : (0 : Int) ≤ q := by omega
              have hqX : (q : Int) < nX := by omega
              clear hy hya hsn hth hax hql hb
              cases th
              · by_cases hxy : (⟨ys, yp, yo, yf, yw⟩ : Cd) = ⟨xs, xp, xo, xf, xw⟩
                · have HT : Hid (((X.take (q + 1)).any fun y => decide (y = ⟨xs, xp, xo, xf, xw⟩)) = true) := by
                    show _ = _
                    rw [HSQ.out, decide_eq_true hxy]; rfl
                  injection hxy with z1 z2 z3 z4 z5
                  subst z1 z2 z3 z4 z5
                  go_wp2_with fail
                  go_region
                  all_goals
                    go_wp2_with fail
                    go_roundw
                    case rel => exact ⟨q + 1, by omega, by go_num, by rw [HT.out], below_dN HBQ.out 1⟩
                    case measure => simp [intOf]; omega
                · have HT : Hid (((X.take (q + 1)).any fun y => decide (y = ⟨xs, xp, xo, xf, xw⟩)) = false) := by
                    show _ = _
                    rw [HSQ.out, decide_eq_false hxy]; rfl
                  have hcs := cd_ne hxy
                  clear hxy
                  rcases hcs with h | ⟨z1, h⟩ | ⟨z1, z2, h⟩ | ⟨z1, z2, z3, h⟩ | ⟨z1, z2, z3, z4, h⟩
                  all_goals
                    (try subst z1)
                    (try subst z2)
                    (try subst z3)
                    (try subst z4)
                    go_wp2_with fail
                    go_region
                    all_goals
                      go_wp2_with fail
                      go_roundw
                      case rel => exact ⟨q + 1, by omega, by go_num, by rw [HT.out], below_dN HBQ.out 1⟩
                      case measure => simp [intOf]; omega
              · have HT : Hid (((X.take (q + 1)).any fun y => decide (y = ⟨xs, xp, xo, xf, xw⟩)) = true) := by
                  show _ = _
                  rw [HSQ.out]; rfl
                clear c0 c1 c2 c3 c4 d0 d1 d2 d3 d4
                go_wp2_with fail
                go_region
                all_goals
                  go_wp2_with fail
                  go_roundw
                  case rel => exact ⟨q + 1, by omega, by go_num, by rw [HT.out], below_dN HBQ.out 1⟩
                  case measure => simp [intOf]; omega
            · have hqe : q = nX := by omega
              have hfo : ((X.take q).any fun y => decide (y = ⟨xs, xp, xo, xf, xw⟩)) = fb := by rw [hqe, HNX.out.2, List.take_length]; exact HFB.out.symm
              rw [hfo]
              have hqd : ¬ (q : Int) + 1 < nM := by have := HMX.out; omega
              have hq64 : (q : Int) ≤ 64 := by omega
              have hq0 : (0 : Int) ≤ q := by omega
              have hbd : Below W8.heap.size W8 wr.drew := below_dN hb 1
              have ax0 := HXA.out _ hbd
              have bx0 := HR8.out.call hbd
              have HS0 : wr.drew.cell? ⟨g, j * 5, none⟩ = some (.int .i64 xs) ∧ wr.drew.cell? ⟨g, j * 5 + 1, none⟩ = some (.int .i64 xp) ∧ wr.drew.cell? ⟨g, j * 5 + 2, none⟩ = some (.int .i64 xo) ∧ wr.drew.cell? ⟨g, j * 5 + 3, none⟩ = some (.int .i64 xf) ∧ wr.drew.cell? ⟨g, j * 5 + 4, none⟩ = some (.bool xw) ∧ wr.drew.cell? ⟨s, 0, none⟩ = some (.int .i64 ks) ∧ wr.drew.cell? ⟨s, 1, none⟩ = some (.int .i64 kp) ∧ wr.drew.cell? ⟨s, 2, none⟩ = some (.int .i64 ko) ∧ wr.drew.cell? ⟨s, 3, none⟩ = some (.int .i64 kf) ∧ wr.drew.cell? ⟨s, 4, none⟩ = some (.bool kw) := ⟨ax0.c0, ax0.c1, ax0.c2, ax0.c3, ax0.c4, bx0.cell 0, bx0.cell 1, bx0.cell 2, bx0.cell 3, bx0.cell 4⟩
              clear hfo hb hqe hq hqx
              cases fb
              · cases h1
                · cases h2
                  · go_wp2_with fail
                    go_region_held3 (fun v => v.cell? ⟨g, j * 5, none⟩ = some (.int .i64 xs) ∧ v.cell? ⟨g, j * 5 + 1, none⟩ = some (.int .i64 xp) ∧ v.cell? ⟨g, j * 5 + 2, none⟩ = some (.int .i64 xo) ∧ v.cell? ⟨g, j * 5 + 3, none⟩ = some (.int .i64 xf) ∧ v.cell? ⟨g, j * 5 + 4, none⟩ = some (.bool xw) ∧ v.cell? ⟨s, 0, none⟩ = some (.int .i64 ks) ∧ v.cell? ⟨s, 1, none⟩ = some (.int .i64 kp) ∧ v.cell? ⟨s, 2, none⟩ = some (.int .i64 ko) ∧ v.cell? ⟨s, 3, none⟩ = some (.int .i64 kf) ∧ v.cell? ⟨s, 4, none⟩ = some (.bool kw))
                      (first | with_reducible exact HS0 | with_reducible exact HS1 | with_reducible exact HS2)
                      (first | (go_at_call 15; (with_reducible refine (hh1 _).mono ?_); rintro e w9 ⟨rfl, hb9⟩; have t9 := hbd.trans (hb9.mono hbd.size); have ax1 := HXA.out _ t9; have bx1 := HR8.out.call t9; have HS1 : w9.cell? ⟨g, j * 5, none⟩ = some (.int .i64 xs) ∧ w9.cell? ⟨g, j * 5 + 1, none⟩ = some (.int .i64 xp) ∧ w9.cell? ⟨g, j * 5 + 2, none⟩ = some (.int .i64 xo) ∧ w9.cell? ⟨g, j * 5 + 3, none⟩ = some (.int .i64 xf) ∧ w9.cell? ⟨g, j * 5 + 4, none⟩ = some (.bool xw) ∧ w9.cell? ⟨s, 0, none⟩ = some (.int .i64 ks) ∧ w9.cell? ⟨s, 1, none⟩ = some (.int .i64 kp) ∧ w9.cell? ⟨s, 2, none⟩ = some (.int .i64 ko) ∧ w9.cell? ⟨s, 3, none⟩ = some (.int .i64 kf) ∧ w9.cell? ⟨s, 4, none⟩ = some (.bool kw) := ⟨ax1.c0, ax1.c1, ax1.c2, ax1.c3, ax1.c4, bx1.cell 0, bx1.cell 1, bx1.cell 2, bx1.cell 3, bx1.cell 4⟩) | (go_at_call 15; (with_reducible refine (hh2 _).mono ?_); rintro e w10 ⟨rfl, hb10⟩; have t10 := t9.trans (hb10.mono t9.size); have ax2 := HXA.out _ t10; have bx2 := HR8.out.call t10; have HS2 : w10.cell? ⟨g, j * 5, none⟩ = some (.int .i64 xs) ∧ w10.cell? ⟨g, j * 5 + 1, none⟩ = some (.int .i64 xp) ∧ w10.cell? ⟨g, j * 5 + 2, none⟩ = some (.int .i64 xo) ∧ w10.cell? ⟨g, j * 5 + 3, none⟩ = some (.int .i64 xf) ∧ w10.cell? ⟨g, j * 5 + 4, none⟩ = some (.bool xw) ∧ w10.cell? ⟨s, 0, none⟩ = some (.int .i64 ks) ∧ w10.cell? ⟨s, 1, none⟩ = some (.int .i64 kp) ∧ w10.cell? ⟨s, 2, none⟩ = some (.int .i64 ko) ∧ w10.cell? ⟨s, 3, none⟩ = some (.int .i64 kf) ∧ w10.cell? ⟨s, 4, none⟩ = some (.bool kw) := ⟨ax2.c0, ax2.c1, ax2.c2, ax2.c3, ax2.c4, bx2.cell 0, bx2.cell 1, bx2.cell 2, bx2.cell 3, bx2.cell 4⟩))
                    have HTT := Lib.hid t10
                    clear HS0 HS1 HS2 ax0 bx0 ax1 bx1 ax2 bx2 t9 t10 hb9 hb10 hbd
                    go_wp2_with fail
                    go_roundw
                    case rel => exact ⟨j + 1, lc + 1, by omega, by go_num, by first | rfl | go_num, HSN.out.symm, HTT.out⟩
                    case measure => simp [intOf]; omega
                  · go_wp2_with fail
                    go_region_held3 (fun v => v.cell? ⟨g, j * 5, none⟩ = some (.int .i64 xs) ∧ v.cell? ⟨g, j * 5 + 1, none⟩ = some (.int .i64 xp) ∧ v.cell? ⟨g, j * 5 + 2, none⟩ = some (.int .i64 xo) ∧ v.cell? ⟨g, j * 5 + 3, none⟩ = some (.int .i64 xf) ∧ v.cell? ⟨g, j * 5 + 4, none⟩ = some (.bool xw) ∧ v.cell? ⟨s, 0, none⟩ = some (.int .i64 ks) ∧ v.cell? ⟨s, 1, none⟩ = some (.int .i64 kp) ∧ v.cell? ⟨s, 2, none⟩ = some (.int .i64 ko) ∧ v.cell? ⟨s, 3, none⟩ = some (.int .i64 kf) ∧ v.cell? ⟨s, 4, none⟩ = some (.bool kw))
                      (first | with_reducible exact HS0 | with_reducible exact HS1 | with_reducible exact HS2)
                      (first | (go_at_call 15; (with_reducible refine (hh1 _).mono ?_); rintro e w9 ⟨rfl, hb9⟩; have t9 := hbd.trans (hb9.mono hbd.size); have ax1 := HXA.out _ t9; have bx1 := HR8.out.call t9; have HS1 : w9.cell? ⟨g, j * 5, none⟩ = some (.int .i64 xs) ∧ w9.cell? ⟨g, j * 5 + 1, none⟩ = some (.int .i64 xp) ∧ w9.cell? ⟨g, j * 5 + 2, none⟩ = some (.int .i64 xo) ∧ w9.cell? ⟨g, j * 5 + 3, none⟩ = some (.int .i64 xf) ∧ w9.cell? ⟨g, j * 5 + 4, none⟩ = some (.bool xw) ∧ w9.cell? ⟨s, 0, none⟩ = some (.int .i64 ks) ∧ w9.cell? ⟨s, 1, none⟩ = some (.int .i64 kp) ∧ w9.cell? ⟨s, 2, none⟩ = some (.int .i64 ko) ∧ w9.cell? ⟨s, 3, none⟩ = some (.int .i64 kf) ∧ w9.cell? ⟨s, 4, none⟩ = some (.bool kw) := ⟨ax1.c0, ax1.c1, ax1.c2, ax1.c3, ax1.c4, bx1.cell 0, bx1.cell 1, bx1.cell 2, bx1.cell 3, bx1.cell 4⟩) | (go_at_call 15; (with_reducible refine (hh2 _).mono ?_); rintro e w10 ⟨rfl, hb10⟩; have t10 := t9.trans (hb10.mono t9.size); have ax2 := HXA.out _ t10; have bx2 := HR8.out.call t10; have HS2 : w10.cell? ⟨g, j * 5, none⟩ = some (.int .i64 xs) ∧ w10.cell? ⟨g, j * 5 + 1, none⟩ = some (.int .i64 xp) ∧ w10.cell? ⟨g, j * 5 + 2, none⟩ = some (.int .i64 xo) ∧ w10.cell? ⟨g, j * 5 + 3, none⟩ = some (.int .i64 xf) ∧ w10.cell? ⟨g, j * 5 + 4, none⟩ = some (.bool xw) ∧ w10.cell? ⟨s, 0, none⟩ = some (.int .i64 ks) ∧ w10.cell? ⟨s, 1, none⟩ = some (.int .i64 kp) ∧ w10.cell? ⟨s, 2, none⟩ = some (.int .i64 ko) ∧ w10.cell? ⟨s, 3, none⟩ = some (.int .i64 kf) ∧ w10.cell? ⟨s, 4, none⟩ = some (.bool kw) := ⟨ax2.c0, ax2.c1, ax2.c2, ax2.c3, ax2.c4, bx2.cell 0, bx2.cell 1, bx2.cell 2, bx2.cell 3, bx2.cell 4⟩))
                    have HTT := Lib.hid t10
                    clear HS0 HS1 HS2 ax0 bx0 ax1 bx1 ax2 bx2 t9 t10 hb9 hb10 hbd
                    go_wp2_with fail
                    go_roundw
                    case rel => exact ⟨j + 1, lc + 0, by omega, by go_num, by first | rfl | go_num, HSN.out.symm, HTT.out⟩
                    case measure => simp [intOf]; omega
                · clear hh2 ax0 bx0
                  go_wp2_with fail
                  refine wp_region_noPanic ?_
                  refine wp_region_held_drew (S := fun v => v.cell? ⟨g, j * 5, none⟩ = some (.int .i64 xs) ∧ v.cell? ⟨g, j * 5 + 1, none⟩ = some (.int .i64 xp) ∧ v.cell? ⟨g, j * 5 + 2, none⟩ = some (.int .i64 xo) ∧ v.cell? ⟨g, j * 5 + 3, none⟩ = some (.int .i64 xf) ∧ v.cell? ⟨g, j * 5 + 4, none⟩ = some (.bool xw) ∧ v.cell? ⟨s, 0, none⟩ = some (.int .i64 ks) ∧ v.cell? ⟨s, 1, none⟩ = some (.int .i64 kp) ∧ v.cell? ⟨s, 2, none⟩ = some (.int .i64 ko) ∧ v.cell? ⟨s, 3, none⟩ = some (.int .i64 kf) ∧ v.cell? ⟨s, 4, none⟩ = some (.bool kw)) (by kernel_rfl) ?_ (fun hHeld => ?_)
                  focus (exact HS0)
                  clear HS0
                  refine wpAnyH_take (i := 0) (oi := _) (v := ?_) (at_lit rfl) (by kernel_rfl) (by kernel_rfl) (by kernel_rfl) (fun _ _ _ h => h) (Or.inl ⟨by rfl, ?_⟩) (by assumption) ?_
                  rotate_left
                  focus ((intro w5 hSw; (try dsimp only at hSw); go_simp; (try with_reducible rfl)); done)
                  (try simp only [Act.put, List.setIfInBounds_toArray, List.set_cons_zero, List.set_cons_succ])
                  refine wpAnyH_take (i := 1) (oi := _) (v := ?_) (at_lit rfl) (by kernel_rfl) (by kernel_rfl) (by kernel_rfl) (fun _ _ _ h => h) (Or.inl ⟨by rfl, ?_⟩) (by assumption) ?_
                  rotate_left
                  focus ((intro w5 hSw; (try dsimp only at hSw); go_simp; (try with_reducible rfl)); done)
                  (try simp only [Act.put, List.setIfInBounds_toArray, List.set_cons_zero, List.set_cons_succ])
                  refine wpAnyH_take (i := 2) (oi := _) (v := ?_) (at_lit rfl) (by kernel_rfl) (by kernel_rfl) (by kernel_rfl) (fun _ _ _ h => h) (Or.inl ⟨by rfl, ?_⟩) (by assumption) ?_
                  rotate_left
                  focus ((intro w5 hSw; (try dsimp only at hSw); go_simp; (try with_reducible rfl)); done)
                  (try simp only [Act.put, List.setIfInBounds_toArray, List.set_cons_zero, List.set_cons_succ])
                  refine wpAnyH_take (i := 3) (oi := _) (v := ?_) (at_lit rfl) (by kernel_rfl) (by kernel_rfl) (by kernel_rfl) (fun _ _ _ h => h) (Or.inl ⟨by rfl, ?_⟩) (by assumption) ?_
                  rotate_left
                  focus ((intro w5 hSw; (try dsimp only at hSw); go_simp; (try with_reducible rfl)); done)
                  (try simp only [Act.put, List.setIfInBounds_toArray, List.set_cons_zero, List.set_cons_succ])
                  refine wpAnyH_take (i := 4) (oi := _) (v := ?_) (at_lit rfl) (by kernel_rfl) (by kernel_rfl) (by kernel_rfl) (fun _ _ _ h => h) (Or.inl ⟨by rfl, ?_⟩) (by assumption) ?_
                  rotate_left
                  focus ((intro w5 hSw; (try dsimp only at hSw); go_simp; (try with_reducible rfl)); done)
                  (try simp only [Act.put, List.setIfInBounds_toArray, List.set_cons_zero, List.set_cons_succ])
                  refine wpAnyH_take (i := 5) (oi := _) (v := ?_) (at_lit rfl) (by kernel_rfl) (by kernel_rfl) (by kernel_rfl) (fun _ _ _ h => h) (Or.inl ⟨by rfl, ?_⟩) (by assumption) ?_
                  rotate_left
                  focus ((intro w5 hSw; (try dsimp only at hSw); go_simp; (try with_reducible rfl)); done)
                  (try simp only [Act.put, List.setIfInBounds_toArray, List.set_cons_zero, List.set_cons_succ])
                  refine wpAnyH_take (i := 6) (oi := _) (v := ?_) (at_lit rfl) (by kernel_rfl) (by kernel_rfl) (by kernel_rfl) (fun _ _ _ h => h) (Or.inl ⟨by rfl, ?_⟩) (by assumption) ?_
                  rotate_left
                  focus ((intro w5 hSw; (try dsimp only at hSw); go_simp; (try with_reducible rfl)); done)
                  (try simp only [Act.put, List.setIfInBounds_toArray, List.set_cons_zero, List.set_cons_succ])
                  refine wpAnyH_take (i := 7) (oi := _) (v := ?_) (at_lit rfl) (by kernel_rfl) (by kernel_rfl) (by kernel_rfl) (fun _ _ _ h => h) (Or.inl ⟨by rfl, ?_⟩) (by assumption) ?_
                  rotate_left
                  focus ((intro w5 hSw; (try dsimp only at hSw); go_simp; (try with_reducible rfl)); done)
                  (try simp only [Act.put, List.setIfInBounds_toArray, List.set_cons_zero, List.set_cons_succ])
                  refine wpAnyH_take (i := 8) (oi := _) (v := ?_) (at_lit rfl) (by kernel_rfl) (by kernel_rfl) (by kernel_rfl) (fun _ _ _ h => h) (Or.inl ⟨by rfl, ?_⟩) (by assumption) ?_
                  rotate_left
                  focus ((intro w5 hSw; (try dsimp only at hSw); go_simp; (try with_reducible rfl)); done)
                  (try simp only [Act.put, List.setIfInBounds_toArray, List.set_cons_zero, List.set_cons_succ])
                  refine wpAnyH_take (i := 9) (oi := _) (v := ?_) (at_lit rfl) (by kernel_rfl) (by kernel_rfl) (by kernel_rfl) (fun _ _ _ h => h) (Or.inl ⟨by rfl, ?_⟩) (by assumption) ?_
                  rotate_left
                  focus ((intro w5 hSw; (try dsimp only at hSw); go_simp; (try with_reducible rfl)); done)
                  (try simp only [Act.put, List.setIfInBounds_toArray, List.set_cons_zero, List.set_cons_succ])
                  refine wpAnyH_take (i := 10) (oi := _) (v := ?_) (at_lit rfl) (by kernel_rfl) (by kernel_rfl) (by kernel_rfl) (fun _ _ _ h => h) (Or.inl ⟨by rfl, ?_⟩) (by assumption) ?_
                  rotate_left
                  focus ((intro w5 hSw; (try dsimp only at hSw); go_simp; (try with_reducible rfl)); done)
                  (try simp only [Act.put, List.setIfInBounds_toArray, List.set_cons_zero, List.set_cons_succ])
                  refine wpAnyH_ready (rs := [11]) (by kernel_rfl) (by simp) ?_
                  refine AllReadyH.cons (o := _) (at_lit rfl) (fun K hK => ?_) ?_
                  · go_simp
                    go_at_call 15
                    refine (hh1 _).mono ?_
                    rintro e w9 ⟨rfl, hb9⟩
                    have t9 := hbd.trans (hb9.mono hbd.size)
                    have ax1 := HXA.out _ t9
                    have bx1 := HR8.out.call t9
                    have HS1 : w9.cell? ⟨g, j * 5, none⟩ = some (.int .i64 xs) ∧ w9.cell? ⟨g, j * 5 + 1, none⟩ = some (.int .i64 xp) ∧ w9.cell? ⟨g, j * 5 + 2, none⟩ = some (.int .i64 xo) ∧ w9.cell? ⟨g, j * 5 + 3, none⟩ = some (.int .i64 xf) ∧ w9.cell? ⟨g, j * 5 + 4, none⟩ = some (.bool xw) ∧ w9.cell? ⟨s, 0, none⟩ = some (.int .i64 ks) ∧ w9.cell? ⟨s, 1, none⟩ = some (.int .i64 kp) ∧ w9.cell? ⟨s, 2, none⟩ = some (.int .i64 ko) ∧ w9.cell? ⟨s, 3, none⟩ = some (.int .i64 kf) ∧ w9.cell? ⟨s, 4, none⟩ = some (.bool kw) := ⟨ax1.c0, ax1.c1, ax1.c2, ax1.c3, ax1.c4, bx1.cell 0, bx1.cell 1, bx1.cell 2, bx1.cell 3, bx1.cell 4⟩
                    have HTT := Lib.hid t9
                    go_wp2_with fail
                    refine hK.out _ _ ?_ (fun hHeld => ?_)
                    focus ((try dsimp only); exact HS1)
                    clear hK K ax1 bx1 t9 hb9 HS1
                    (try simp only [Act.put, List.setIfInBounds_toArray, List.set_cons_zero, List.set_cons_succ])
                    refine wpAnyH_take (i := 12) (oi := _) (v := ?_) (at_lit rfl) (by kernel_rfl) (by kernel_rfl) (by kernel_rfl) (fun _ _ _ h => h) (Or.inl ⟨by rfl, ?_⟩) (by assumption) ?_
                    rotate_left
                    focus ((intro w5 hSw; (try dsimp only at hSw); go_simp; (try with_reducible rfl)); done)
                    (try simp only [Act.put, List.setIfInBounds_toArray, List.set_cons_zero, List.set_cons_succ])
                    refine wpAnyH_take (i := 13) (oi := _) (v := ?_) (at_lit rfl) (by kernel_rfl) (by kernel_rfl) (by kernel_rfl) (fun _ _ _ h => h) (Or.inl ⟨by rfl, ?_⟩) (by assumption) ?_
                    rotate_left
                    focus ((intro w5 hSw; (try dsimp only at hSw); go_simp; (try with_reducible rfl)); done)
                    (try simp only [Act.put, List.setIfInBounds_toArray, List.set_cons_zero, List.set_cons_succ])
                    refine wpAnyH_take (i := 14) (oi := _) (v := ?_) (at_lit rfl) (by kernel_rfl) (by kernel_rfl) (by kernel_rfl) (fun _ _ _ h => h) (Or.inl ⟨by rfl, ?_⟩) (by assumption) ?_
                    rotate_left
                    focus ((intro w5 hSw; (try dsimp only at hSw); go_simp; (try with_reducible rfl)); done)
                    (try simp only [Act.put, List.setIfInBounds_toArray, List.set_cons_zero, List.set_cons_succ])
                    refine wpAnyH_take (i := 15) (oi := _) (v := undef) (at_lit rfl) (by kernel_rfl) (by kernel_rfl) (by kernel_rfl) (fun _ _ _ h => h) (Or.inr ⟨by rfl, rfl⟩) (by assumption) ?_
                    (try simp only [Act.put, List.setIfInBounds_toArray, List.set_cons_zero, List.set_cons_succ])
                    refine wpAnyH_take (i := 16) (oi := _) (v := undef) (at_lit rfl) (by kernel_rfl) (by kernel_rfl) (by kernel_rfl) (fun _ _ _ h => h) (Or.inr ⟨by rfl, rfl⟩) (by assumption) ?_
                    (try simp only [Act.put, List.setIfInBounds_toArray, List.set_cons_zero, List.set_cons_succ])
                    refine wpAnyH_take (i := 17) (oi := _) (v := undef) (at_lit rfl) (by kernel_rfl) (by kernel_rfl) (by kernel_rfl) (fun _ _ _ h => h) (Or.inr ⟨by rfl, rfl⟩) (by assumption) ?_
                    (try simp only [Act.put, List.setIfInBounds_toArray, List.set_cons_zero, List.set_cons_succ])
                    refine wpAnyH_take (i := 18) (oi := _) (v := undef) (at_lit rfl) (by kernel_rfl) (by kernel_rfl) (by kernel_rfl) (fun _ _ _ h => h) (Or.inr ⟨by rfl, rfl⟩) (by assumption) ?_
                    (try simp only [Act.put, List.setIfInBounds_toArray, List.set_cons_zero, List.set_cons_succ])
                    refine wpAnyH_take (i := 19) (oi := _) (v := undef) (at_lit rfl) (by kernel_rfl) (by kernel_rfl) (by kernel_rfl) (fun _ _ _ h => h) (Or.inr ⟨by rfl, rfl⟩) (by assumption) ?_
                    (try simp only [Act.put, List.setIfInBounds_toArray, List.set_cons_zero, List.set_cons_succ])
                    refine wpAnyH_take (i := 20) (oi := _) (v := undef) (at_lit rfl) (by kernel_rfl) (by kernel_rfl) (by kernel_rfl) (fun _ _ _ h => h) (Or.inr ⟨by rfl, rfl⟩) (by assumption) ?_
                    (try simp only [Act.put, List.setIfInBounds_toArray, List.set_cons_zero, List.set_cons_succ])
                    refine wpAnyH_take (i := 21) (oi := _) (v := undef) (at_lit rfl) (by kernel_rfl) (by kernel_rfl) (by kernel_rfl) (fun _ _ _ h => h) (Or.inr ⟨by rfl, rfl⟩) (by assumption) ?_
                    (try simp only [Act.put, List.setIfInBounds_toArray, List.set_cons_zero, List.set_cons_succ])
                    refine wpAnyH_take (i := 22) (oi := _) (v := undef) (at_lit rfl) (by kernel_rfl) (by kernel_rfl) (by kernel_rfl) (fun _ _ _ h => h) (Or.inr ⟨by rfl, rfl⟩) (by assumption) ?_
                    (try simp only [Act.put, List.setIfInBounds_toArray, List.set_cons_zero, List.set_cons_succ])
                    refine wpAnyH_take (i := 23) (oi := _) (v := undef) (at_lit rfl) (by kernel_rfl) (by kernel_rfl) (by kernel_rfl) (fun _ _ _ h => h) (Or.inr ⟨by rfl, rfl⟩) (by assumption) ?_
                    (try simp only [Act.put, List.setIfInBounds_toArray, List.set_cons_zero, List.set_cons_succ])
                    refine wpAnyH_take (i := 24) (oi := _) (v := undef) (at_lit rfl) (by kernel_rfl) (by kernel_rfl) (by kernel_rfl) (fun _ _ _ h => h) (Or.inr ⟨by rfl, rfl⟩) (by assumption) ?_
                    (try simp only [Act.put, List.setIfInBounds_toArray, List.set_cons_zero, List.set_cons_succ])
                    refine wpAnyH_take (i := 25) (oi := _) (v := undef) (at_lit rfl) (by kernel_rfl) (by kernel_rfl) (by kernel_rfl) (fun _ _ _ h => h) (Or.inr ⟨by rfl, rfl⟩) (by assumption) ?_
                    (try simp only [Act.put, List.setIfInBounds_toArray, List.set_cons_zero, List.set_cons_succ])
                    refine wpAnyH_take (i := 26) (oi := _) (v := undef) (at_lit rfl) (by kernel_rfl) (by kernel_rfl) (by kernel_rfl) (fun _ _ _ h => h) (Or.inr ⟨by rfl, rfl⟩) (by assumption) ?_
                    (try simp only [Act.put, List.setIfInBounds_toArray, List.set_cons_zero, List.set_cons_succ])
                    refine wpAnyH_take (i := 27) (oi := _) (v := undef) (at_lit rfl) (by kernel_rfl) (by kernel_rfl) (by kernel_rfl) (fun _ _ _ h => h) (Or.inr ⟨by rfl, rfl⟩) (by assumption) ?_
                    (try simp only [Act.put, List.setIfInBounds_toArray, List.set_cons_zero, List.set_cons_succ])
                    refine wpAnyH_take (i := 28) (oi := _) (v := ?_) (at_lit rfl) (by kernel_rfl) (by kernel_rfl) (by kernel_rfl) (fun _ _ _ h => h) (Or.inl ⟨by rfl, ?_⟩) (by assumption) ?_
                    rotate_left
                    focus ((intro w5 hSw; (try dsimp only at hSw); go_simp; (try with_reducible rfl)); done)
                    (try simp only [Act.put, List.setIfInBounds_toArray, List.set_cons_zero, List.set_cons_succ])
                    refine wpAnyH_done (by kernel_rfl) ?_ _
                    refine NoPanic.normal ?_
                    go_wp2_with fail
                    go_roundw
                    case rel => exact ⟨j + 1, lc + 0, by omega, by go_num, by first | rfl | go_num, HSN.out.symm, HTT.out⟩
                    case measure => simp [intOf]; omega
                  exact AllReadyH.nil
              · clear HS0 ax0 bx0 hh1 hh2
                have HTT := Lib.hid hbd
                clear hbd
                go_wp2_with fail
                refine wp_region_noPanic ?_
                refine wp_region_held_drew (S := fun _ => True) (by kernel_rfl) trivial (fun hHeld => ?_)
                refine wpAnyH_take (i := 0) (oi := _) (v := ?_) (at_lit rfl) (by kernel_rfl) (by kernel_rfl) (by kernel_rfl) (fun _ _ _ h => h) (Or.inl ⟨by rfl, ?_⟩) (by assumption) ?_
                rotate_left
                focus ((intro w5 hSw; (try dsimp only at hSw); go_simp; (try with_reducible rfl)); done)
                (try simp only [Act.put, List.setIfInBounds_toArray, List.set_cons_zero, List.set_cons_succ])
                refine wpAnyH_take (i := 1) (oi := _) (v := ?_) (at_lit rfl) (by kernel_rfl) (by kernel_rfl) (by kernel_rfl) (fun _ _ _ h => h) (Or.inl ⟨by rfl, ?_⟩) (by assumption) ?_
                rotate_left
                focus ((intro w5 hSw; (try dsimp only at hSw); go_simp; (try with_reducible rfl)); done)
                (try simp only [Act.put, List.setIfInBounds_toArray, List.set_cons_zero, List.set_cons_succ])
                refine wpAnyH_take (i := 2) (oi := _) (v := ?_) (at_lit rfl) (by kernel_rfl) (by kernel_rfl) (by kernel_rfl) (fun _ _ _ h => h) (Or.inl ⟨by rfl, ?_⟩) (by assumption) ?_
                rotate_left
                focus ((intro w5 hSw; (try dsimp only at hSw); go_simp; (try with_reducible rfl)); done)
                (try simp only [Act.put, List.setIfInBounds_toArray, List.set_cons_zero, List.set_cons_succ])
                refine wpAnyH_take (i := 3) (oi := _) (v := undef) (at_lit rfl) (by kernel_rfl) (by kernel_rfl) (by kernel_rfl) (fun _ _ _ h => h) (Or.inr ⟨by rfl, rfl⟩) (by assumption) ?_
                (try simp only [Act.put, List.setIfInBounds_toArray, List.set_cons_zero, List.set_cons_succ])
                refine wpAnyH_take (i := 4) (oi := _) (v := undef) (at_lit rfl) (by kernel_rfl) (by kernel_rfl) (by kernel_rfl) (fun _ _ _ h => h) (Or.inr ⟨by rfl, rfl⟩) (by assumption) ?_
                (try simp only [Act.put, List.setIfInBounds_toArray, List.set_cons_zero, List.set_cons_succ])
                refine wpAnyH_take (i := 5) (oi := _) (v := undef) (at_lit rfl) (by kernel_rfl) (by kernel_rfl) (by kernel_rfl) (fun _ _ _ h => h) (Or.inr ⟨by rfl, rfl⟩) (by assumption) ?_
                (try simp only [Act.put, List.setIfInBounds_toArray, List.set_cons_zero, List.set_cons_succ])
                refine wpAnyH_take (i := 6) (oi := _) (v := undef) (at_lit rfl) (by kernel_rfl) (by kernel_rfl) (by kernel_rfl) (fun _ _ _ h => h) (Or.inr ⟨by rfl, rfl⟩) (by assumption) ?_
                (try simp only [Act.put, List.setIfInBounds_toArray, List.set_cons_zero, List.set_cons_succ])
                refine wpAnyH_take (i := 7) (oi := _) (v := undef) (at_lit rfl) (by kernel_rfl) (by kernel_rfl) (by kernel_rfl) (fun _ _ _ h => h) (Or.inr ⟨by rfl, rfl⟩) (by assumption) ?_
                (try simp only [Act.put, List.setIfInBounds_toArray, List.set_cons_zero, List.set_cons_succ])
                refine wpAnyH_take (i := 8) (oi := _) (v := undef) (at_lit rfl) (by kernel_rfl) (by kernel_rfl) (by kernel_rfl) (fun _ _ _ h => h) (Or.inr ⟨by rfl, rfl⟩) (by assumption) ?_
                (try simp only [Act.put, List.setIfInBounds_toArray, List.set_cons_zero, List.set_cons_succ])
                refine wpAnyH_take (i := 9) (oi := _) (v := undef) (at_lit rfl) (by kernel_rfl) (by kernel_rfl) (by kernel_rfl) (fun _ _ _ h => h) (Or.inr ⟨by rfl, rfl⟩) (by assumption) ?_
                (try simp only [Act.put, List.setIfInBounds_toArray, List.set_cons_zero, List.set_cons_succ])
                refine wpAnyH_take (i := 10) (oi := _) (v := undef) (at_lit rfl) (by kernel_rfl) (by kernel_rfl) (by kernel_rfl) (fun _ _ _ h => h) (Or.inr ⟨by rfl, rfl⟩) (by assumption) ?_
                (try simp only [Act.put, List.setIfInBounds_toArray, List.set_cons_zero, List.set_cons_succ])
                refine wpAnyH_take (i := 11) (oi := _) (v := undef) (at_lit rfl) (by kernel_rfl) (by kernel_rfl) (by kernel_rfl) (fun _ _ _ h => h) (Or.inr ⟨by rfl, rfl⟩) (by assumption) ?_
                (try simp only [Act.put, List.setIfInBounds_toArray, List.set_cons_zero, List.set_cons_succ])
                refine wpAnyH_take (i := 12) (oi := _) (v := undef) (at_lit rfl) (by kernel_rfl) (by kernel_rfl) (by kernel_rfl) (fun _ _ _ h => h) (Or.inr ⟨by rfl, rfl⟩) (by assumption) ?_
                (try simp only [Act.put, List.setIfInBounds_toArray, List.set_cons_zero, List.set_cons_succ])
                refine wpAnyH_take (i := 13) (oi := _) (v := ?_) (at_lit rfl) (by kernel_rfl) (by kernel_rfl) (by kernel_rfl) (fun _ _ _ h => h) (Or.inl ⟨by rfl, ?_⟩) (by assumption) ?_
                rotate_left
                focus ((intro w5 hSw; (try dsimp only at hSw); go_simp; (try with_reducible rfl)); done)
                (try simp only [Act.put, List.setIfInBounds_toArray, List.set_cons_zero, List.set_cons_succ])
                refine wpAnyH_take (i := 14) (oi := _) (v := ?_) (at_lit rfl) (by kernel_rfl) (by kernel_rfl) (by kernel_rfl) (fun _ _ _ h => h) (Or.inl ⟨by rfl, ?_⟩) (by assumption) ?_
                rotate_left
                focus ((intro w5 hSw; (try dsimp only at hSw); go_simp; (try with_reducible rfl)); done)
                (try simp only [Act.put, List.setIfInBounds_toArray, List.set_cons_zero, List.set_cons_succ])
                refine wpAnyH_take (i := 15) (oi := _) (v := undef) (at_lit rfl) (by kernel_rfl) (by kernel_rfl) (by kernel_rfl) (fun _ _ _ h => h) (Or.inr ⟨by rfl, rfl⟩) (by assumption) ?_
                (try simp only [Act.put, List.setIfInBounds_toArray, List.set_cons_zero, List.set_cons_succ])
                refine wpAnyH_take (i := 16) (oi := _) (v := undef) (at_lit rfl) (by kernel_rfl) (by kernel_rfl) (by kernel_rfl) (fun _ _ _ h => h) (Or.inr ⟨by rfl, rfl⟩) (by assumption) ?_
                (try simp only [Act.put, List.setIfInBounds_toArray, List.set_cons_zero, List.set_cons_succ])
                refine wpAnyH_take (i := 17) (oi := _) (v := undef) (at_lit rfl) (by kernel_rfl) (by kernel_rfl) (by kernel_rfl) (fun _ _ _ h => h) (Or.inr ⟨by rfl, rfl⟩) (by assumption) ?_
                (try simp only [Act.put, List.setIfInBounds_toArray, List.set_cons_zero, List.set_cons_succ])
                refine wpAnyH_take (i := 18) (oi := _) (v := undef) (at_lit rfl) (by kernel_rfl) (by kernel_rfl) (by kernel_rfl) (fun _ _ _ h => h) (Or.inr ⟨by rfl, rfl⟩) (by assumption) ?_
                (try simp only [Act.put, List.setIfInBounds_toArray, List.set_cons_zero, List.set_cons_succ])
                refine wpAnyH_take (i := 19) (oi := _) (v := undef) (at_lit rfl) (by kernel_rfl) (by kernel_rfl) (by kernel_rfl) (fun _ _ _ h => h) (Or.inr ⟨by rfl, rfl⟩) (by assumption) ?_
                (try simp only [Act.put, List.setIfInBounds_toArray, List.set_cons_zero, List.set_cons_succ])
                refine wpAnyH_take (i := 20) (oi := _) (v := undef) (at_lit rfl) (by kernel_rfl) (by kernel_rfl) (by kernel_rfl) (fun _ _ _ h => h) (Or.inr ⟨by rfl, rfl⟩) (by assumption) ?_
                (try simp only [Act.put, List.setIfInBounds_toArray, List.set_cons_zero, List.set_cons_succ])
                refine wpAnyH_take (i := 21) (oi := _) (v := undef) (at_lit rfl) (by kernel_rfl) (by kernel_rfl) (by kernel_rfl) (fun _ _ _ h => h) (Or.inr ⟨by rfl, rfl⟩) (by assumption) ?_
                (try simp only [Act.put, List.setIfInBounds_toArray, List.set_cons_zero, List.set_cons_succ])
                refine wpAnyH_take (i := 22) (oi := _) (v := undef) (at_lit rfl) (by kernel_rfl) (by kernel_rfl) (by kernel_rfl) (fun _ _ _ h => h) (Or.inr ⟨by rfl, rfl⟩) (by assumption) ?_
                (try simp only [Act.put, List.setIfInBounds_toArray, List.set_cons_zero, List.set_cons_succ])
                refine wpAnyH_take (i := 23) (oi := _) (v := undef) (at_lit rfl) (by kernel_rfl) (by kernel_rfl) (by kernel_rfl) (fun _ _ _ h => h) (Or.inr ⟨by rfl, rfl⟩) (by assumption) ?_
                (try simp only [Act.put, List.setIfInBounds_toArray, List.set_cons_zero, List.set_cons_succ])
                refine wpAnyH_take (i := 24) (oi := _) (v := undef) (at_lit rfl) (by kernel_rfl) (by kernel_rfl) (by kernel_rfl) (fun _ _ _ h => h) (Or.inr ⟨by rfl, rfl⟩) (by assumption) ?_
                (try simp only [Act.put, List.setIfInBounds_toArray, List.set_cons_zero, List.set_cons_succ])
                refine wpAnyH_take (i := 25) (oi := _) (v := undef) (at_lit rfl) (by kernel_rfl) (by kernel_rfl) (by kernel_rfl) (fun _ _ _ h => h) (Or.inr ⟨by rfl, rfl⟩) (by assumption) ?_
                (try simp only [Act.put, List.setIfInBounds_toArray, List.set_cons_zero, List.set_cons_succ])
                refine wpAnyH_take (i := 26) (oi := _) (v := undef) (at_lit rfl) (by kernel_rfl) (by kernel_rfl) (by kernel_rfl) (fun _ _ _ h => h) (Or.inr ⟨by rfl, rfl⟩) (by assumption) ?_
                (try simp only [Act.put, List.setIfInBounds_toArray, List.set_cons_zero, List.set_cons_succ])
                refine wpAnyH_take (i := 27) (oi := _) (v := undef) (at_lit rfl) (by kernel_rfl) (by kernel_rfl) (by kernel_rfl) (fun _ _ _ h => h) (Or.inr ⟨by rfl, rfl⟩) (by assumption) ?_
                (try simp only [Act.put, List.setIfInBounds_toArray, List.set_cons_zero, List.set_cons_succ])
                refine wpAnyH_take (i := 28) (oi := _) (v := ?_) (at_lit rfl) (by kernel_rfl) (by kernel_rfl) (by kernel_rfl) (fun _ _ _ h => h) (Or.inl ⟨by rfl, ?_⟩) (by assumption) ?_
                rotate_left
                focus ((intro w5 hSw; (try dsimp only at hSw); go_simp; (try with_reducible rfl)); done)
                (try simp only [Act.put, List.setIfInBounds_toArray, List.set_cons_zero, List.set_cons_succ])
                refine wpAnyH_done (by kernel_rfl) ?_ _
                refine NoPanic.normal ?_
                go_wp2_with fail
                go_roundw
                case rel => exact ⟨j + 1, lc + 0, by omega, by go_num, by first | rfl | go_num, HSN.out.symm, HTT.out⟩
                case measure => simp [intOf]; omega
        · have hjN : j = nL := by omega
          have hcount : lc = L.countP (lstB X ⟨ks, kp, ko, kf, kw⟩) := by rw [hlc, hjN, HNL.out, List.take_length]
          have hf := HFI.out
          rw [← hcount] at hf
          have hd : ¬ (j : Int) < nL := by omega
          have HEND := Lib.hid (HB8.out.trans (HB.out.mono HB8.out.size))
          obtain ⟨f1, f2⟩ := hf
          clear hb hlc hcount hlt hj
          rcases Nat.eq_zero_or_pos lc with h0 | h0
          · subst h0
            clear f1 f2
            go_wp2_with fail
            go_ret
            exact ⟨rfl, HEND.out⟩
          · have h1 : lc = 1 := by omega
            have hnz : (nL : Int) = (m : Int) % 64 + 1 := by rcases f2 with f2 | f2 <;> omega
            subst h1
            have hbq : ((nL : Int) == (m : Int) % 64 + 1) = true := by simpa using hnz
            clear f1 f2 h0 hnz
            go_wp2_with fail
            go_ret
            exact ⟨rfl, HEND.out⟩
  · have hr' : rgB ⟨ks, kp, ko, kf, kw⟩ = false := by simpa using hr
    have hpe : putE ⟨ks, kp, ko, kf, kw⟩ = 2 := by unfold putE; rw [if_neg hr]
    have hpl : putL (m % 64 + 1) L ⟨ks, kp, ko, kf, kw⟩ = L := by unfold putL; rw [if_neg hr]
    have hri := fun W => right9_any ⟨ks, kp, ko, kf, kw⟩ W
    rw [hr'] at hri
    rw [hpe, hpl] at hput
    clear hpe hpl hr hr'
    go_wp2_with fail
    refine hput.mono ?_
    rintro e w5 ⟨rfl, v5, hT5, hb5, hl5⟩
    have hR5 := HR4.out.below hb5 HRS.out.lt
    have q0 : w5.cell? ⟨s, 0, none⟩ = some (.int .i64 ks) := hR5.cell 0
    have q1 : w5.cell? ⟨s, 1, none⟩ = some (.int .i64 kp) := hR5.cell 1
    have q2 : w5.cell? ⟨s, 2, none⟩ = some (.int .i64 ko) := hR5.cell 2
    have q3 : w5.cell? ⟨s, 3, none⟩ = some (.int .i64 kf) := hR5.cell 3
    have q4 : w5.cell? ⟨s, 4, none⟩ = some (.bool kw) := hR5.cell 4
    have HB5 := Lib.hid (HB4.out.trans (hb5.mono (by have := HG0.out.size; exact this)))
    have HT5 := Lib.hid hT5
    have HL5 := Lib.hid hl5
    have HLNS : Hid (∀ W, Below w5.heap.size w5 W → Calls Try.prog 14 #[.pointer (some ⟨ta, 0, none⟩)] W fun e w' => ∃ A, e = .returned (.slice A nL nL) ∧ Ln w' W.heap.size A L ∧ Below W.heap.size W w') := fun W hW => by
      have := lines_any (HT5.out.call hW)
      rw [← HNL.out] at this
      exact this
    have HSAME : Hid (∀ W A7 b, Below w5.heap.size w5 W → Ln W b A7 L → Calls Try.prog 13 #[.slice A4 nL nL, .slice A7 nL nL] W fun e w' => e = .returned (.bool true) ∧ Below W.heap.size W w') := fun W A7 b hW hl => by
      have := same_any (c := nL) (c' := nL) (HL5.out.call hW) hl HL64.out HL64.out
      rw [decide_eq_true rfl, ← HNL.out] at this
      exact this
    clear hput hT5 hb5 hl5 hR5 k0 k1 k2 k3 k4
    go_wp2_with (first | (go_at_call 16; refine (hri _).mono ?_; rintro e w6 ⟨rfl, hb6⟩) | (go_at_call 14; refine (HLNS.out _ hb6).mono ?_; rintro e w7 ⟨A7, rfl, hl7, hb7⟩; have t7 := hb6.trans (hb7.mono hb6.size)) | (go_at_call 13; refine (HSAME.out _ _ _ t7 hl7).mono ?_; rintro e w8 ⟨rfl, hb8⟩))
    go_ret
    have t8 := t7.trans (hb8.mono t7.size)
    exact ⟨rfl, HB5.out.trans (t8.mono HB5.out.size)⟩
end Go.Proofs.Ytbnnfgdlkldafaa
