/- Memory: MemoryDoes, walked. -/
import Derived.Test.YtklhcgekagimkaaGreatMg48
namespace Go.Proofs.YtklhcgekagimkaaGreat
open Go.RowKit
theorem kdZ_nat {n i : Nat} (S : List Nat) (h : i < n) : kdZ n S i = (knd S i : Nat) := by unfold kdZ; rw [if_pos (by omega), Int.toNat_natCast]
set_option maxHeartbeats 16000000 in
set_option maxRecDepth 100000 in
theorem does_walk (m mk : Int) (A : Option Addr) (n c : Nat) (w : World) (hA : Acs w w.heap.size A n) :
    Calls Tryz.prog 3 #[.int .i64 m, .int .i64 mk, .slice A n c] w fun e w' => e = .returned (.bool true) ∧ Below w.heap.size w w' := by
  cases c0 : mwB (mnN m) mk
  · have h1 := made_no c0 (.slice A n c) w
    clear c0 hA
    go_enter Tryz.func3, Tryz.ntmps3
    go_wp2_with fail
    refine h1.mono ?_
    rintro e w1 ⟨rfl, hb1⟩
    have HB1 := Lib.hid hb1
    have h2 := awake_any w1
    clear h1 hb1
    go_wp2_with fail
    refine h2.mono ?_
    rintro e w2 ⟨rfl, hb2⟩
    have HB2 := Lib.hid (HB1.out.trans (hb2.mono HB1.out.size))
    have h3 := awake_any w2
    clear h2 hb2
    go_wp2_with fail
    refine h3.mono ?_
    rintro e w3 ⟨rfl, hb3⟩
    have HB3 := Lib.hid (HB2.out.trans (hb3.mono HB2.out.size))
    clear h3 hb3
    go_wp2_with fail
    go_ret
    exact ⟨rfl, HB3.out⟩
  · have hm := of_decide_eq_true c0
    obtain ⟨k, hk⟩ : ∃ k : Nat, mnN m = k := ⟨(mnN m).toNat, by omega⟩
    rw [hk] at hm
    obtain ⟨mk, rfl⟩ : ∃ j : Nat, mk = j := ⟨mk.toNat, by omega⟩
    obtain ⟨k8, k1, hkm⟩ : 8 ≤ k ∧ k ≤ 1024 ∧ mk ≤ k := by omega
    have k80 : k ≤ 80 := by
      rcases mn_cases m with ⟨c1, c2, c3⟩ | ⟨c1, c2, c3⟩ | ⟨c1, c3⟩ <;> omega
    clear c0 hm
    obtain ⟨L, hL, hA⟩ := hA.list
    have hmade := made_any hk k8 k1 hkm A n c w.heap.size L w hL hA (Nat.le_refl _)
    have hok := mdE_ok k8 k1 mk L
    generalize mdE k mk L = M at *
    have HOK := Lib.hid (And.intro hok (And.intro k8 (And.intro k80 hkm)))
    clear hA hL k8 k1 hkm hk hok
    go_enter Tryz.func3, Tryz.ntmps3
    go_wp2_with fail
    refine hmade.mono ?_
    rintro e w1 ⟨p, r, rfl, hst, hb1⟩
    have HS1 := Lib.hid (And.intro hst hb1)
    have h2 := awake_any w1
    clear hmade hst hb1
    go_wp2_with fail
    refine h2.mono ?_
    rintro e w2 ⟨rfl, hb2⟩
    have HB2 := Lib.hid (HS1.out.2.trans (hb2.mono HS1.out.2.size))
    obtain ⟨X, v, hp, hr, hd⟩ := HS1.out.1.call hb2
    obtain ⟨g, cc, rfl, hvb⟩ := hr.form HOK.out.1.i (by have := HOK.out.2.1; omega)
    have H2 := Lib.hid (And.intro hp (And.intro hr (And.intro hd hvb)))
    have c2 := hr.c2
    clear h2 hb2 hp hr hd hvb
    go_wp2_with fail
    have HKM : Hid (mk ≤ k) := HOK.out.2.2.2
    go_loopw [10] (fun t wr => ∃ i : Nat, i ≤ k ∧ t = .int .i64 i ∧ Below w2.heap.size w2 wr) (fun t _ => k - (RowKit.intOf t).toNat)
    case atStart => exact ⟨0, Nat.zero_le _, rfl, Below.refl _ _⟩
    case round =>
      obtain ⟨i, hi, rfl, hb⟩ := hrel
      have hpr := H2.out.1.call hb
      have hrr := H2.out.2.1.call hb
      have c2 := hrr.c2
      by_cases hlt : i < k
      · obtain ⟨y, hy⟩ : ∃ y, M.I[i]? = some y := ⟨_, List.getElem?_eq_getElem (by rw [HOK.out.1.i]; exact hlt)⟩
        have i1 : (i : Int) < (k : Int) := by omega
        have i0 : (0 : Int) ≤ i := by omega
        have hw3 : IntKind.i64.wrap ((i : Int) + 1) = (i : Int) + 1 := IntWalk.i64_in _ (by have := HOK.out.2.2.1; omega)
        have hp1 := hpr.drewN 1
        have hr1 := hrr.drewN 1
        have hI : Calls Tryz.prog 11 #[.pointer (some ⟨p.m, 0, none⟩), .int .i64 i] (wr.drewN 1) fun e w' => e = .returned (.int .i64 y) ∧ Below (wr.drewN 1).heap.size (wr.drewN 1) w' := by
          have := is_m hp1 i
          rw [isV_at hy] at this
          exact this
        obtain ⟨kd, hkd⟩ : ∃ kd, kd = knd M.S i := ⟨_, rfl⟩
        have hKd : ∀ U, Below (wr.drewN 1).heap.size (wr.drewN 1) U → Calls Tryz.prog 12 #[.pointer (some ⟨p.m, 0, none⟩), .int .i64 i] U fun e w' => e = .returned (.int .i64 kd) ∧ Below U.heap.size U w' := fun U hU => by
          have := kind_m (hp1.call hU) i
          rw [kdZ_nat M.S hlt, ← hkd] at this
          exact this
        have hOf : ∀ U, Below (wr.drewN 1).heap.size (wr.drewN 1) U → Calls Tryz.prog 13 #[.pointer (some ⟨r.z, 0, none⟩), .int .i64 i] U fun e w' => e = .returned (.int .i64 kd) ∧ U = w' := fun U hU => by
          have := refOf_any (hr1.call hU).kin hlt (by have := HOK.out.2.2.1; omega)
          rw [← hkd] at this
          exact this
        have hSS : ∀ U, Below (wr.drewN 1).heap.size (wr.drewN 1) U → U.cell? ⟨r.x, 2, none⟩ = some (.slice (some ⟨g, 0, none⟩) k cc) ∧ U.cell? ⟨g, i, none⟩ = some (.int .i64 y) ∧ U.cell? ⟨r.x, 0, none⟩ = some (.pointer (some ⟨r.z, 0, none⟩)) := fun U hU => ⟨(hr1.call hU).c2, (hr1.call hU).at2 HOK.out.1.i hlt hy, (hr1.call hU).c0⟩
        have S0 := hSS _ (Below.refl _ _)
        have HR := Lib.hid (And.intro hp1 (And.intro hr1 (And.intro (below_dN hb 1) hlt)))
        clear hpr hrr hp1 hr1 hb hi hlt hy hkd
        go_wp2_with fail
        go_region_held3 (fun v => v.cell? ⟨r.x, 2, none⟩ = some (.slice (some ⟨g, 0, none⟩) k cc) ∧ v.cell? ⟨g, i, none⟩ = some (.int .i64 y) ∧ v.cell? ⟨r.x, 0, none⟩ = some (.pointer (some ⟨r.z, 0, none⟩)))
          (first | exact S0 | exact S1 | exact S2)
          (first | (go_at_call 11; refine hI.mono ?_; rintro e w5 ⟨rfl, hb5⟩; have S1 := hSS _ hb5) | (go_at_call 12; refine (hKd _ hb5).mono ?_; rintro e w6 ⟨rfl, hb6'⟩; have hb6 := hb5.trans (hb6'.mono hb5.size); have S2 := hSS _ hb6) | (go_at_call 13; refine (hOf _ hb6).mono ?_; rintro e w7 ⟨rfl, rfl⟩))
        all_goals
          have HP5 := Lib.hid (HR.out.1.call hb6)
          have HR5 := Lib.hid (HR.out.2.1.call hb6)
          have HB5 := Lib.hid (HR.out.2.2.1.trans (hb6.mono HR.out.2.2.1.size))
          clear S0 S1 S2 hSS hI hKd hOf hb5 hb6 hb6' c2
          go_wp2_with fail
          go_loopw [11] (fun t wq => ∃ j : Nat, j ≤ 8 ∧ t = .int .i64 j ∧ Below w6.heap.size w6 wq) (fun t _ => 8 - (RowKit.intOf t).toNat)
          case atStart => exact ⟨0, by omega, rfl, Below.refl _ _⟩
          case round =>
            obtain ⟨j, hj, rfl, hbi⟩ := hrel
            by_cases hlj : j < 8
            · have hRm := ram_m (HP5.out.call hbi)
              obtain ⟨z1, z2⟩ := ld_at HP5.out.ram.len HR.out.2.2.2 hlj
              have i80 : i < 80 := by have := HR.out.2.2.2; have := HOK.out.2.2.1; omega
              obtain ⟨zz, hzz⟩ : ∃ zz, zz = 64 * i + 8 * j := ⟨_, rfl⟩
              obtain ⟨z8, hz8⟩ : ∃ z8, z8 = 8 * i + j := ⟨_, rfl⟩
              obtain ⟨wl, hwl⟩ : ∃ wl, wl = k * 8 := ⟨_, rfl⟩
              have ha1 : IntKind.i64.wrap (64 * (i : Int)) = 64 * (i : Int) := IntWalk.i64_in _ (by omega)
              have ha2 : IntKind.i64.wrap (8 * (j : Int)) = 8 * (j : Int) := IntWalk.i64_in _ (by omega)
              have ha3 : IntKind.i64.wrap (64 * (i : Int) + 8 * (j : Int)) = (zz : Int) := by rw [IntWalk.i64_in _ (by omega)]; omega
              have ha4 : IntKind.i64.wrap (8 * (i : Int)) = 8 * (i : Int) := IntWalk.i64_in _ (by omega)
              have ha5 : IntKind.i64.wrap (8 * (i : Int) + (j : Int)) = (z8 : Int) := by rw [IntWalk.i64_in _ (by omega)]; omega
              have ha6 : (z8 : Int) < wl := by have := HR.out.2.2.2; omega
              have ha7 : (0 : Int) ≤ z8 := by omega
              rw [show (64 : Int) * i + 8 * j = (zz : Int) by omega] at z1 z2
              rw [← hz8] at z1
              have hw4 : IntKind.i64.wrap ((j : Int) + 1) = (j : Int) + 1 := IntWalk.i64_in _ (by omega)
              have j1 : (j : Int) < 8 := by omega
              have hz8l : z8 < k * 8 := by rw [← hwl]; omega
              have u0 : ∀ U, Below w6.heap.size w6 U → U.cell? ⟨r.d, z8, none⟩ = some (.int .u64 (M.W.getD z8 0)) ∧ U.cell? ⟨r.c, 0, none⟩ = some (.slice (some ⟨r.d, 0, none⟩) wl wl) ∧ U.cell? ⟨r.x, 1, none⟩ = some (.pointer (some ⟨r.c, 0, none⟩)) := fun U hU => ⟨(HR5.out.call hU).ram.word hz8l, by rw [hwl]; exact (HR5.out.call hU).ram.field, (HR5.out.call hU).c1⟩
              obtain ⟨u, hu⟩ : ∃ u, u = M.W.getD z8 0 := ⟨_, rfl⟩
              rw [← hu] at z1 u0
              have HBI := Lib.hid hbi
              have HZ := Lib.hid (And.intro z1 (And.intro z2 u0))
              have HL := Lib.hid hlj
              clear hbi hj hlj z1 z2 hzz hz8 i80 hz8l u0 hu hwl
              go_wp2_with fail
              refine hRm.mono ?_
              rintro e w7 ⟨rfl, hb7⟩
              have HB7 := Lib.hid (HBI.out.trans (hb7.mono HBI.out.size))
              have hL := load_any (HP5.out.call HB7.out).ram zz
              rw [HZ.out.1, HZ.out.2.1] at hL
              obtain ⟨u7, u8, u9⟩ := HZ.out.2.2 _ HB7.out
              clear hRm hb7
              go_wp2_with fail
              refine hL.mono ?_
              rintro e w8 ⟨rfl, rfl⟩
              clear hL
              go_wp2_with fail
              go_roundw
              case rel => exact ⟨j + 1, HL.out, by go_num, HB7.out⟩
              case measure => simp [RowKit.intOf]; have := HL.out; omega
            · have HBI := Lib.hid hbi
              have j1 : ¬ (j : Int) < 8 := by omega
              clear hbi hj hlj
              go_wp2_with fail
              go_roundw
              case rel => exact ⟨i + 1, HR.out.2.2.2, by go_num, HB5.out.trans (HBI.out.mono HB5.out.size)⟩
              case measure => simp [RowKit.intOf]; have := HR.out.2.2.2; omega
      · have i1 : ¬ (i : Int) < (k : Int) := by omega
        have HW3 := Lib.hid hb
        clear hb hpr hrr hi hlt
        go_wp2_with fail
        clear c2
        go_loopw [14] (fun t wq => ∃ j : Nat, j ≤ 6 ∧ t = .int .i64 j ∧ Below w2.heap.size w2 wq) (fun t _ => 6 - (RowKit.intOf t).toNat)
        case atStart => exact ⟨0, by omega, rfl, HW3.out⟩
        case round =>
          obtain ⟨j, hj, rfl, hb⟩ := hrel
          have hpq := H2.out.1.call hb
          have hrq := H2.out.2.1.call hb
          by_cases hlt : j < 6
          · have c2 := hrq.c2
            obtain ⟨W4, hW4⟩ : ∃ W4, W4 = wr.alloc (.cells #[.slice (some ⟨g, 0, none⟩) k cc] 44) := ⟨_, rfl⟩
            obtain ⟨q4, hq4⟩ : ∃ q4, q4 = wr.heap.size := ⟨_, rfl⟩
            have hrow : Lrow W4 q4 44 [.slice (some ⟨g, 0, none⟩) k cc] := by rw [hW4, hq4]; exact Lrow.new wr _ _
            have hb4 : Below wr.heap.size wr W4 := by rw [hW4]; exact below_new _ _
            have hRx : Rx w.heap.size W4 q4 (.slice (some ⟨g, 0, none⟩) k cc) M.I := ⟨hrow, (hrq.call hb4).own, by rw [hq4]; exact hrq.size⟩
            have hC := count_m (hpq.call hb4) HOK.out.1.ok (j : Int)
            obtain ⟨cn, hcn⟩ : ∃ cn, cn = M.I.count (j : Int) := ⟨_, rfl⟩
            rw [← hcn] at hC
            have hC2 : ∀ U, Below W4.heap.size W4 U → Calls Tryz.prog 17 #[.pointer (some ⟨q4, 0, none⟩), .int .i64 j] U fun e w' => e = .returned (.int .i64 cn) ∧ U = w' := fun U hU => by
              have := rcount (hRx.call hU) HOK.out.1.ok.l1 (j : Int)
              rw [← hcn] at this
              exact this
            have j1 : (j : Int) < 6 := by omega
            have hw4 : IntKind.i64.wrap ((j : Int) + 1) = (j : Int) + 1 := IntWalk.i64_in _ (by omega)
            have HB := Lib.hid (And.intro (hb.trans (hb4.mono hb.size)) hlt)
            have HC2 := Lib.hid hC2
            have HW := Lib.hid (And.intro hW4 hq4)
            clear hpq hrq hW4 hq4 hrow hb4 hRx hcn hC2 hb hj hlt
            go_upto_region 19 with (fail)
            rw [← HW.out.1, ← HW.out.2]
            clear c2
            go_wp2_with fail
            refine hC.mono ?_
            rintro e w7 ⟨rfl, hb7⟩
            have hC3 := HC2.out _ hb7
            have HB7 := Lib.hid (HB.out.1.trans (hb7.mono HB.out.1.size))
            clear hC hb7
            go_wp2_with fail
            refine hC3.mono ?_
            rintro e w8 ⟨rfl, rfl⟩
            clear hC3
            go_wp2_with fail
            go_roundw
            case rel => exact ⟨j + 1, HB.out.2, by go_num, HB7.out⟩
            case measure => simp [RowKit.intOf]; have := HB.out.2; omega
          · have j1 : ¬ (j : Int) < 6 := by omega
            have hp9 := hpq.drewN 1
            have hr9 := hrq.drewN 1
            obtain ⟨W9, hW9⟩ : ∃ W9, W9 = wr.drewN 1 := ⟨_, rfl⟩
            have HB9 : Hid (Below w.heap.size w W9) := by rw [hW9]; exact below_dN (HB2.out.trans (hb.mono HB2.out.size)) 1
            rw [← hW9] at hp9 hr9
            have hml : (bk M.F).length ≤ 4096 := by have := bk_len M.F; have := HOK.out.1.f; have := HOK.out.1.hi; omega
            have hSp := spare_m hp9 HKM.out
            have hRS : ∀ U, Below W9.heap.size W9 U → Calls Tryz.prog 19 #[.pointer (some ⟨r.x, 0, none⟩)] U fun e w' => e = .returned (.int .i64 (spN M mk : Nat)) ∧ Below U.heap.size U w' := fun U hU => rspare_any (hr9.call hU) HOK.out.1 HKM.out
            have hFr : ∀ U, Below W9.heap.size W9 U → Calls Tryz.prog 20 #[.pointer (some ⟨p.m, 0, none⟩)] U fun e w' => e = .returned (.int .i64 (M.F.count true : Nat)) ∧ Below U.heap.size U w' := fun U hU => free_m (hp9.call hU)
            have hRF : ∀ U, Below W9.heap.size W9 U → Calls Tryz.prog 21 #[.pointer (some ⟨r.p, 0, none⟩)] U fun e w' => e = .returned (.int .i64 (M.F.count true : Nat)) ∧ U = w' := fun U hU => refFree_any (hr9.call hU).kin.ref
            have hBl : ∀ U, Below W9.heap.size W9 U → Calls Tryz.prog 23 #[.pointer (some ⟨p.m, 0, none⟩)] U (Lists (bk M.F) U) := fun U hU => blocks_m (hp9.call hU)
            have hRB : ∀ U, Below W9.heap.size W9 U → Calls Tryz.prog 24 #[.pointer (some ⟨r.p, 0, none⟩)] U (Lists (bk M.F) U) := fun U hU => refBlocks_any (hr9.call hU).kin.ref
            have hIs : ∀ U, Below W9.heap.size W9 U → Calls Tryz.prog 11 #[.pointer (some ⟨p.m, 0, none⟩), .int .i64 (-1)] U fun e w' => e = .returned (.int .i64 (-1)) ∧ Below U.heap.size U w' := fun U hU => by
              have := is_m (hp9.call hU) (-1)
              rw [show isV M.I (-1) = -1 by unfold isV frB; rw [if_neg (by simp)]] at this
              exact this
            have hSS : ∀ U, Below W9.heap.size W9 U → U.cell? ⟨r.x, 0, none⟩ = some (.pointer (some ⟨r.z, 0, none⟩)) ∧ U.cell? ⟨r.z, 0, none⟩ = some (.pointer (some ⟨r.p, 0, none⟩)) := fun U hU => ⟨(hr9.call hU).c0, (hr9.call hU).kin.c0⟩
            have S0 := hSS _ (Below.refl _ _)
            generalize bk M.F = LL at *
            generalize spN M mk = sp at *
            generalize M.F.count true = fc at *
            clear hpq hrq hp9 hr9 hb hj hlt
            subst hW9
            go_wp2_with fail
            go_region_held3 (fun v => v.cell? ⟨r.x, 0, none⟩ = some (.pointer (some ⟨r.z, 0, none⟩)) ∧ v.cell? ⟨r.z, 0, none⟩ = some (.pointer (some ⟨r.p, 0, none⟩)))
              (first | exact S0 | exact S1 | exact S2 | exact S3 | exact S5 | exact S6 | exact S7 | exact S8)
              (first | (go_at_call 18; refine hSp.mono ?_; rintro e v1 ⟨rfl, b1⟩; have S1 := hSS v1 b1) | (go_at_call 19; refine (hRS _ b1).mono ?_; rintro e v2 ⟨rfl, b2'⟩; have b2 := b1.trans (b2'.mono b1.size); have S2 := hSS v2 b2) | (go_at_call 20; refine (hFr _ b2).mono ?_; rintro e v3 ⟨rfl, b3'⟩; have b3 := b2.trans (b3'.mono b2.size); have S3 := hSS v3 b3) | (go_at_call 21; refine (hRF _ b3).mono ?_; rintro e v4 ⟨rfl, rfl⟩) | (go_at_call 23; refine (hBl _ b3).mono ?_; rintro e v5 ⟨A1, e1, rfl, r1, b5'⟩; have b5 := b3.trans (b5'.mono b3.size); have S5 := hSS v5 b5) | (go_at_call 24; refine (hRB _ b5).mono ?_; rintro e v6 ⟨A3, e2, rfl, r2, b6'⟩; have b6 := b5.trans (b6'.mono b5.size); have r1' := r1.below b6'; have S6 := hSS v6 b6) | (go_at_call 22; refine (same_same r1' r2 hml).mono ?_; rintro e v7 ⟨rfl, q7, rfl⟩; have b7 := below_dN b6 q7; have S7 := hSS _ b7) | (go_at_call 11; refine (hIs _ b7).mono ?_; rintro e v8 ⟨rfl, b8'⟩; have b8 := b7.trans (b8'.mono b7.size); have S8 := hSS v8 b8))
            all_goals
              have HB10 := Lib.hid (HB9.out.trans (b8.mono HB9.out.size))
              clear S0 S1 S2 S3 S5 S6 S7 S8 b1 b2 b3 b5 b6 b7 b8 b2' b3' b5' b6' b8' r1 r2 r1' hSp hRS hFr hRF hBl hRB hIs hSS
              go_wp2_with fail
              go_ret
              exact ⟨ret_bool (by simp), HB10.out⟩
end Go.Proofs.YtklhcgekagimkaaGreat
/- Memory: MemorySpare, walked. -/
namespace Go.Proofs.YtklhcgekagimkaaGreat
open Go.RowKit
set_option maxHeartbeats 16000000 in
set_option maxRecDepth 100000 in
theorem spare_walk (m mk : Int) (A : Option Addr) (n c : Nat) (pg : Int) (w0 : World) (hA00 : Acs w0 w0.heap.size A n) (hpg : 0 ≤ pg ∧ pg < 256) :
    Calls Tryz.prog 5 #[.agg #[.int .i64 m, .int .i64 mk, .slice A n c, .int .u8 pg]] w0 fun e w' => e = .returned (.bool true) ∧ Below w0.heap.size w0 w' := by
  obtain ⟨pg, rfl⟩ : ∃ g : Nat, pg = g := ⟨pg.toNat, by omega⟩
  obtain ⟨W0, hW0⟩ : ∃ W0, W0 = w0.alloc (.cells #[.int .i64 m, .int .i64 mk, .slice A n c, .int .u8 pg] 61) := ⟨_, rfl⟩
  obtain ⟨q, hq⟩ : ∃ q, q = w0.heap.size := ⟨_, rfl⟩
  have g00 : Below w0.heap.size w0 W0 := by rw [hW0]; exact below_new _ _
  have rs : Lrow W0 q 61 [.int .i64 m, .int .i64 mk, .slice A n c, .int .u8 pg] := by rw [hW0, hq]; exact Lrow.new w0 _ _
  have q0 := rs.cell 0
  have q1 := rs.cell 1
  have q2 := rs.cell 2
  have q3 := rs.cell 3
  have HDN : Hid (∀ k, Below w0.heap.size w0 (W0.drewN k)) := fun k => below_dN g00 k
  have HA0 := Lib.hid hA00
  have HW := Lib.hid (And.intro hW0 hq)
  clear hW0 hq g00 rs hA00
  cases c0 : mwB (mnN m) mk
  · have HM1 : Hid (∀ w, Calls Tryz.prog 9 #[.int .i64 m, .int .i64 mk, .slice A n c] w fun e w' => e = .returned (.tuple #[.pointer none, .pointer none, .bool true]) ∧ Below w.heap.size w w') := fun w => made_no c0 (.slice A n c) w
    clear c0
    go_enter Tryz.func5, Tryz.ntmps5
    go_upto_region 1 with (fail)
    rw [← HW.out.1, ← HW.out.2]
    go_wp2_with fail
    go_quiet (fail)
    have HG0 : Hid (Below w0.heap.size w0 (W0.drewN nq)) := HDN.out nq
    clear q0 q1 q2 q3
    generalize W0.drewN nq = w at *
    have h1 := HM1.out w
    go_wp2_with fail
    refine h1.mono ?_
    rintro e w1 ⟨rfl, hb1⟩
    have HB1 := Lib.hid hb1
    have h2 := awake_any w1
    clear h1 hb1 HM1
    go_wp2_with fail
    refine h2.mono ?_
    rintro e w2 ⟨rfl, hb2⟩
    have HB2 := Lib.hid (HB1.out.trans (hb2.mono HB1.out.size))
    have h3 := awake_any w2
    clear h2 hb2
    go_wp2_with fail
    refine h3.mono ?_
    rintro e w3 ⟨rfl, hb3⟩
    have HB3 := Lib.hid (HB2.out.trans (hb3.mono HB2.out.size))
    clear h3 hb3
    go_wp2_with fail
    go_ret
    exact ⟨rfl, HG0.out.trans (HB3.out.mono HG0.out.size)⟩
  · have hm := of_decide_eq_true c0
    obtain ⟨k, hk⟩ : ∃ k : Nat, mnN m = k := ⟨(mnN m).toNat, by omega⟩
    rw [hk] at hm
    obtain ⟨mk, rfl⟩ : ∃ j : Nat, mk = j := ⟨mk.toNat, by omega⟩
    obtain ⟨k8, k1, hkm⟩ : 8 ≤ k ∧ k ≤ 1024 ∧ mk ≤ k := by omega
    have k80 : k ≤ 80 := by
      rcases mn_cases m with ⟨c1, c2, c3⟩ | ⟨c1, c2, c3⟩ | ⟨c1, c3⟩ <;> omega
    clear c0 hm
    have HK := Lib.hid (And.intro hk (And.intro k8 (And.intro k1 (And.intro hkm k80))))
    clear k8 k1 hkm hk k80
    go_enter Tryz.func5, Tryz.ntmps5
    go_upto_region 1 with (fail)
    rw [← HW.out.1, ← HW.out.2]
    go_wp2_with fail
    go_quiet (fail)
    have HG0 : Hid (Below w0.heap.size w0 (W0.drewN nq)) := HDN.out nq
    clear q0 q1 q2 q3
    generalize W0.drewN nq = w at *
    have hA : Acs w w.heap.size A n := fun hn => by
      obtain ⟨p, e, hl, hc⟩ := (HA0.out.below HG0.out) hn
      exact ⟨p, e, Nat.lt_of_lt_of_le hl HG0.out.size, hc⟩
    obtain ⟨L, hL, hA⟩ := hA.list
    obtain ⟨hk, k8, k1, hkm, k80⟩ := HK.out
    have hmade := made_any hk k8 k1 hkm A n c w.heap.size L w hL hA (Nat.le_refl _)
    have hok := mdE_ok k8 k1 mk L
    generalize mdE k mk L = M at *
    have HOK := Lib.hid (And.intro hok (And.intro k8 (And.intro k80 hkm)))
    clear hA hL k8 k1 hkm hk hok k80
    go_wp2_with fail
    refine hmade.mono ?_
    rintro e w1 ⟨p, r, rfl, hst, hb1⟩
    have HS1 := Lib.hid (And.intro hst hb1)
    have h2 := awake_any w1
    clear hmade hst hb1
    go_wp2_with fail
    refine h2.mono ?_
    rintro e w2 ⟨rfl, hb2⟩
    have HB2 := Lib.hid (HS1.out.2.trans (hb2.mono HS1.out.2.size))
    obtain ⟨X, v, hp, hr, hd⟩ := HS1.out.1.call hb2
    have H2 := Lib.hid hp
    clear h2 hb2 hp hr hd
    go_wp2_with fail
    have hsp0 : spN M mk ≤ 80 := by have := spN_le M mk HOK.out.1.kin; rw [HOK.out.1.f] at this; have := HOK.out.2.2.1; omega
    obtain ⟨kd, hkd⟩ : ∃ kd, kd = pg % 3 := ⟨_, rfl⟩
    have kd2 : kd ≤ 2 := by omega
    have hkm : (pg : Int) % 3 = (kd : Int) := by omega
    have hku : IntKind.u8.wrap (kd : Int) = (kd : Int) := by
      have h3 : kd = 0 ∨ kd = 1 ∨ kd = 2 := by omega
      rcases h3 with h | h | h <;> rw [h] <;> rfl
    have HKD := Lib.hid (And.intro kd2 hkd)
    clear hkd kd2
    go_loopw [10] (fun i wr => ∃ (j : Nat) (Mj : Me) (Xj : Nat → Prop), j + spN Mj mk ≤ 80 ∧ i = .int .i64 j ∧ MeOk k Mj ∧ PmX w.heap.size wr p Xj k mk Mj ∧ Below w.heap.size w wr) (fun i _ => 100 - (RowKit.intOf i).toNat)
    case atStart => exact ⟨0, M, X, by omega, rfl, HOK.out.1, H2.out, HB2.out⟩
    case round =>
      obtain ⟨j, Mj, Xj, hj, rfl, okj, hp, hb⟩ := hrel
      have hS := spare_m hp HOK.out.2.2.2
      have HR := Lib.hid (And.intro hp (And.intro hb okj))
      have j1 : (j : Int) < 100 := by omega
      have hw3 : IntKind.i64.wrap ((j : Int) + 1) = (j : Int) + 1 := IntWalk.i64_in _ (by omega)
      by_cases hz : spN Mj mk = 0
      · have he := one_none HKD.out.1 hz
        rw [hz] at hS
        have HE := Lib.hid he
        clear hp hb okj hj hz he
        go_wp2_with fail
        refine hS.mono ?_
        rintro e w3 ⟨rfl, hb3⟩
        have hO := one_m (HR.out.1.call hb3) HR.out.2.2 HOK.out.2.2.2 kd 2
        rw [HE.out] at hO
        have HB3 := Lib.hid (HR.out.2.1.trans (hb3.mono HR.out.2.1.size))
        have HP3 := Lib.hid (HR.out.1.call hb3)
        clear hb3 hS
        go_wp2_with fail
        refine hO.mono ?_
        rintro e w4 ⟨rfl, hd4⟩
        have HB4 := Lib.hid (HB3.out.trans (PDid.below HP3.out hd4))
        clear hO hd4
        go_wp2_with fail
        go_ret
        exact ⟨rfl, HG0.out.trans (HB4.out.mono HG0.out.size)⟩
      · obtain ⟨f, hf, he, hv, hs, hi, hW⟩ := one_some okj HKD.out.1 (by omega : 0 < spN Mj mk)
        obtain ⟨s, hss⟩ : ∃ s, s = spN (blM Mj mk 0 kd 2) mk := ⟨_, rfl⟩
        have hS1 : spN Mj mk = s + 1 := by omega
        rw [hS1] at hS
        have s80 : s ≤ 80 := by omega
        have hws : IntKind.i64.wrap (((s + 1 : Nat) : Int) - 1) = (s : Int) := by rw [IntWalk.i64_in _ (by omega)]; omega
        have hws2 : IntKind.i64.wrap ((s : Int) + 1 - 1) = (s : Int) := by rw [IntWalk.i64_in _ (by omega)]; omega
        have s1 : ¬ ((s + 1 : Nat) : Int) < 1 := by omega
        have s2 : ¬ (s : Int) + 1 < 1 := by omega
        have HF := Lib.hid (And.intro hf (And.intro he (And.intro hv (And.intro hi (And.intro hW hss)))))
        have HJ : Hid (j + 1 + s ≤ 80) := by show _ ≤ _; omega
        have okn := okj.block mk 0 kd 2
        obtain ⟨Mn, hMn⟩ : ∃ Mn, Mn = blM Mj mk 0 kd 2 := ⟨_, rfl⟩
        rw [← hMn] at HF okn
        have HOKN := Lib.hid (And.intro okn hMn)
        clear hp hb okj hj hz hf he hv hs hi hW hss hS1 okn hMn
        go_wp2_with fail
        refine hS.mono ?_
        rintro e w3 ⟨rfl, hb3⟩
        have hO := one_m (HR.out.1.call hb3) HR.out.2.2 HOK.out.2.2.2 kd 2
        rw [HF.out.2.1, HF.out.2.2.1, ← HOKN.out.2] at hO
        have HB3 := Lib.hid (HR.out.2.1.trans (hb3.mono HR.out.2.1.size))
        have HP3 := Lib.hid (HR.out.1.call hb3)
        clear hb3 hS
        go_wp2_with fail
        refine hO.mono ?_
        rintro e w4 ⟨rfl, hd4⟩
        have HB4 := Lib.hid (HB3.out.trans (PDid.below HP3.out hd4))
        obtain ⟨X4, hp4, hf4, hx4⟩ := hd4
        have hS := spare_m hp4 HOK.out.2.2.2
        rw [← HF.out.2.2.2.2.2] at hS
        have HP4 := Lib.hid hp4
        clear hO hp4 hf4 hx4
        go_wp2_with fail
        refine hS.mono ?_
        rintro e w5 ⟨rfl, hb5⟩
        have hI := is_m (HP4.out.call hb5) f
        rw [HF.out.2.2.2.1] at hI
        have HB5 := Lib.hid hb5
        clear hS hb5
        go_wp2_with fail
        refine hI.mono ?_
        rintro e w6 ⟨rfl, hb6⟩
        have HB6 := Lib.hid (HB5.out.trans (hb6.mono HB5.out.size))
        have HP6 := Lib.hid (HP4.out.call HB6.out)
        clear hI hb6
        go_wp2_with fail
        go_loopw [14] (fun i wq => ∃ i0 : Nat, i0 ≤ 8 ∧ i = .int .i64 i0 ∧ Below w6.heap.size w6 wq) (fun i _ => 8 - (RowKit.intOf i).toNat)
        case atStart => exact ⟨0, by omega, rfl, Below.refl _ _⟩
        case round =>
          obtain ⟨i0, hi0, rfl, hbi⟩ := hrel
          by_cases hlt : i0 < 8
          · have hRm := ram_m (HP6.out.call hbi)
            obtain ⟨z1, z2⟩ := ze_clear HP3.out.ram.len HF.out.1 hlt (by have := HOK.out.2.2.1; omega)
            rw [← HF.out.2.2.2.2.1] at z1
            obtain ⟨zz, hzz⟩ : ∃ z, z = f * 64 + 8 * i0 := ⟨_, rfl⟩
            have hf1024 : f < 80 := by have := HF.out.1; have := HOK.out.2.2.1; omega
            have ha1 : IntKind.i64.wrap (64 * (f : Int)) = 64 * (f : Int) := IntWalk.i64_in _ (by omega)
            have ha2 : IntKind.i64.wrap (8 * (i0 : Int)) = 8 * (i0 : Int) := IntWalk.i64_in _ (by omega)
            have ha3 : IntKind.i64.wrap (64 * (f : Int) + 8 * (i0 : Int)) = (zz : Int) := by rw [IntWalk.i64_in _ (by omega)]; omega
            rw [show (64 : Int) * f + 8 * i0 = (zz : Int) by omega] at z1 z2
            have hw4 : IntKind.i64.wrap ((i0 : Int) + 1) = (i0 : Int) + 1 := IntWalk.i64_in _ (by omega)
            have i1 : (i0 : Int) < 8 := by omega
            have HBI := Lib.hid hbi
            have HZ := Lib.hid (And.intro z1 z2)
            have HL := Lib.hid hlt
            clear hbi hi0 hlt z1 z2 hzz hf1024
            go_wp2_with fail
            refine hRm.mono ?_
            rintro e w7 ⟨rfl, hb7⟩
            have HB7 := Lib.hid (HBI.out.trans (hb7.mono HBI.out.size))
            have hL := load_any (HP6.out.call HB7.out).ram zz
            rw [HZ.out.1, HZ.out.2] at hL
            clear hRm hb7
            go_wp2_with fail
            refine hL.mono ?_
            rintro e w8 ⟨rfl, rfl⟩
            clear hL
            go_wp2_with fail
            go_roundw
            case rel => exact ⟨i0 + 1, HL.out, by go_num, HB7.out⟩
            case measure => simp [RowKit.intOf]; have := HL.out; omega
          · have HBI := Lib.hid hbi
            have i1 : ¬ (i0 : Int) < 8 := by omega
            clear hbi hi0 hlt
            go_wp2_with fail
            go_roundw
            case rel => exact ⟨j + 1, Mn, X4, by rw [← HF.out.2.2.2.2.2]; exact HJ.out, by go_num, HOKN.out.1, HP6.out.call HBI.out, HB4.out.trans ((HB6.out.trans (HBI.out.mono HB6.out.size)).mono HB4.out.size)⟩
            case measure => simp [RowKit.intOf]; have := HJ.out; omega
end Go.Proofs.YtklhcgekagimkaaGreat
