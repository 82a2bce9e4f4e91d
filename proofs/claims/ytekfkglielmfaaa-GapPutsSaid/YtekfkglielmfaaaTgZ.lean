/- GapBack, walked. -/
import Derived.Test.YtekfkglielmfaaaTgY
namespace Go.Proofs.Ytekfkglielmfaaa
open Go.RowKit
set_option maxHeartbeats 16000000 in
set_option maxRecDepth 100000 in
theorem back_walk (A : Option Addr) (n c : Nat) (f z : Int) (w : World) (hA : Acs w w.heap.size A n) : Calls Try.prog 8 #[.slice A n c, .int .i64 f, .int .i64 z] w fun e w' => e = .returned (.bool true) ∧ Below w.heap.size w w' := by
  obtain ⟨M, hM, hA⟩ := hA.list
  have hmade := made_any A n c w.heap.size M w hM hA (Nat.le_refl _)
  clear hA hM
  go_enter Try.func8, Try.ntmps8
  go_wp2_with fail
  refine hmade.mono ?_
  rintro e w1 ⟨t, x, rfl, L, hlen, hst, b1⟩
  have HS1 := Lib.hid (And.intro hst b1)
  have HLN := Lib.hid hlen
  have h2 := awake_any w1
  clear hmade hst hlen b1
  go_wp2_with fail
  refine h2.mono ?_
  rintro e w2 ⟨rfl, b2⟩
  have HB2 := Lib.hid (HS1.out.2.trans (b2.mono HS1.out.2.size))
  have hst := HS1.out.1.call b2
  have HS2 := Lib.hid hst
  clear h2 b2 HS1
  clear hst
  go_upto_region 4 with (fail)
  go_cut [47] from 26 to 47 (fun s47 wx => s47 = .bool false ∧ StT w.heap.size wx t x L ∧ Below w.heap.size w wx)
  case first =>
    have hst := HS2.out
    obtain ⟨v, hv⟩ := hst.2.1
    obtain ⟨A2, c2, hv2⟩ := hv.2.1.form
    subst hv2
    have hs : w2.cell? ⟨x, 0, none⟩ = some (.slice A2 L.length c2) := hv.1.cell 0
    have hl : L.length ≤ 1000 := by have := HLN.out; omega
    by_cases he : ptE L f z = 0
    · have hp := put_back he
      have hxt : ¬ x = t := fun e => by
        obtain ⟨o, r⟩ := hst.1.row
        exact r.apart hv.1 (by decide) e.symm
      have hpd := hst.1.call (below_dN (Below.refl w2.heap.size w2) 1)
      have hvd := hv.call (below_dN (Below.refl w2.heap.size w2) 1)
      have cP := put_p (w := w2.drew) hpd f z
      rw [he] at cP
      have HD : Hid (∀ W, PrT w.heap.size W t (ptS L f z) → Calls Try.prog 26 #[.pointer (some ⟨t, 0, none⟩), .int .i64 f, .int .i64 z] W fun e w' => e = .returned (.int .i64 0) ∧ PrT w.heap.size w' t L ∧ Foot (fun k => k = t) W w') := fun W h => by
        have := del_p h f z
        rw [hp.1, hp.2] at this
        exact this
      have hBt : w.heap.size ≤ t := hst.2.2.1
      have HBt := Lib.hid (And.intro hBt hst.2.2)
      clear he hp hst hBt
      go_region_held3 (fun v => v.cell? ⟨x, 0, none⟩ = some (.slice A2 L.length c2))
        (first | exact hs | exact hsp | exact hsd | exact hsa | exact hsb)
        (first | (go_at_call 23; (with_reducible refine cP.mono ?_); rintro e wp ⟨rfl, hp1, fp⟩; have hsp := foot_cell fp hs hxt; have hv1 := hvd.prog hpd fp) | (go_at_call 26; (with_reducible refine (HD.out _ hp1).mono ?_); rintro e wd ⟨rfl, hp2, fd⟩; have hsd := foot_cell fd hsp hxt; have hv2 := hv1.prog hp1 fd) | (go_at_call 15; (with_reducible refine (all_w hp2 _ (Below.refl _ _)).mono ?_); rintro e wa ⟨A1, c1, rfl, ho1, ba0, ba⟩; have hsa := keep_cell ba hsd) | (go_at_call 14; (with_reducible refine (same_w hv2 hl _ _ _ ba ho1).mono ?_); rintro e wb ⟨rfl, bb0, bb⟩; have hsb := keep_cell bb hsd) | fail)
      all_goals
        go_wp2_with fail
        go_meet
        have hq0 := foot_blw fp (below_dN HB2.out 1) HB2.out.size HBt.out.1
        have hq1 := foot_blw fd hq0 hq0.size HBt.out.1
        have hs4 : StT w.heap.size wd t x L := ⟨hp2, ⟨_, hv2⟩, HBt.out.2⟩
        exact ⟨rfl, hs4.call bb, hq1.trans (bb.mono hq1.size)⟩
    · have hP : ∀ W, W.heap = w2.heap → Calls Try.prog 23 #[.pointer (some ⟨t, 0, none⟩), .int .i64 f, .int .i64 z] W fun e w' => e = .returned (.int .i64 (ptE L f z)) ∧ w' = W := fun W e => put_same (hst.1.heap_ e) he
      have he' : (ptE L f z == 0) = false := by simpa using he
      generalize ptE L f z = E at hP he he'
      clear hst hv hl hs
      go_quiet ((go_at_call 23; with_reducible exact Calls.quiet_of_same (hP _ rfl)))
      go_wp2_with fail
      go_meet
      exact ⟨rfl, HS2.out.call (below_dN (Below.refl _ _) _), below_dN HB2.out _⟩
  case rest =>
    obtain ⟨rfl, hst, hb⟩ := hcut
    have HB3 := Lib.hid hb
    have HS3 := Lib.hid hst
    have hC := cut_p hst.1 f z
    clear hst hb HS2
    by_cases hw : wrS f z = 0
    · have hw' := hw
      rw [hw] at hC
      obtain ⟨a, b, rfl, rfl, h1, h2, h3⟩ := wrS_ok hw
      have hgone := cut_gone HS3.out.ok hw'
      have hput := gone_put hw' hgone
      have HG := Lib.hid (And.intro hgone hput)
      obtain ⟨C, hCC⟩ : ∃ C, C = ctS L a b := ⟨_, rfl⟩
      rw [← hCC] at hC HG
      clear hw hw' hgone hput hCC
      go_upto_region 9 with (first | (go_at_call 27; (with_reducible refine hC.mono ?_); rintro e w4 ⟨rfl, hp4, f4⟩) | fail)
      have b4 := foot_blw f4 HB3.out HB3.out.size HS3.out.2.2.1
      have HG4 := Lib.hid (And.intro hp4 b4)
      have ha0 : (0 : Int) ≤ a := by omega
      have ha1 : (a : Int) ≤ 4096 := by omega
      have hb1 : (b : Int) ≤ 4096 := by omega
      clear hC hp4 f4 b4
      go_loopw [10] (fun i wr => ∃ k : Nat, a ≤ k ∧ k ≤ b ∧ i = .int .i64 k ∧ PrT w.heap.size wr t C ∧ Below w.heap.size w wr) (fun i _ => b - (RowKit.intOf i).toNat)
      case atStart => exact ⟨a, Nat.le_refl _, by omega, rfl, HG4.out.1, HG4.out.2⟩
      case round =>
        obtain ⟨k, hk1, hk2, rfl, hp, hb⟩ := hrel
        have HP := Lib.hid (And.intro hp hb)
        have hw2 : IntKind.i64.wrap ((k : Int) - a) = (k : Int) - a := IntWalk.i64_in _ (by omega)
        by_cases hboth : k < b ∧ k - a < 40
        · obtain ⟨hlt, hlim⟩ := hboth
          have c1 : (k : Int) < b := by omega
          have c2 : (k : Int) - a < 40 := by omega
          have hF := find_p hp k
          have hw3 : IntKind.i64.wrap ((k : Int) + 1) = (k : Int) + 1 := IntWalk.i64_in _ (by omega)
          clear hp hb
          go_upto_region 12 with (first | (go_at_call 12; (with_reducible refine hF.mono ?_); rintro e w5 ⟨y0, y1, vv, rfl, hfd, n5, rfl⟩) | fail)
          have hvv := gone_find HG.out.1 (p := k) (by omega) hfd
          subst hvv
          clear hfd hF
          go_wp2_with fail
          go_roundw
          case rel => exact ⟨k + 1, by omega, by omega, by go_num, HP.out.1.call (below_dN (Below.refl _ _) n5), below_dN HP.out.2 n5⟩
          case measure => simp [RowKit.intOf]; omega
        · have hfin := put_p hp a b
          rw [HG.out.2] at hfin
          have hdec : (¬ (k : Int) < b) ∨ ((k : Int) < b ∧ ¬ (k : Int) - a < 40) := by omega
          clear hp hb
          rcases hdec with g1 | ⟨g1, g2⟩
          all_goals
            clear hboth
            go_wp2_with (first | (go_at_call 23; (with_reducible refine hfin.mono ?_); rintro e w6 ⟨rfl, -, f6⟩) | fail)
            go_ret
            exact ⟨rfl, foot_blw f6 HP.out.2 HP.out.2.size HS3.out.2.2.1⟩
    · have e3 := wrS_no hw
      have e4 : ctS L f z = L := by unfold ctS; rw [if_pos hw]
      rw [e3, e4] at hC
      clear hw e3 e4
      go_upto_region 7 with (first | (go_at_call 27; (with_reducible refine hC.mono ?_); rintro e w4 ⟨rfl, hp4, f4⟩) | fail)
      have hst := HS3.out
      obtain ⟨v, hv⟩ := hst.2.1
      have hv4 := hv.prog hst.1 f4
      obtain ⟨A2, c2, hv2⟩ := hv4.2.1.form
      subst hv2
      have hs : w4.cell? ⟨x, 0, none⟩ = some (.slice A2 L.length c2) := hv4.1.cell 0
      have hl : L.length ≤ 1000 := by have := HLN.out; omega
      have b4 := foot_blw f4 HB3.out HB3.out.size HS3.out.2.2.1
      have HB4 := Lib.hid b4
      clear hC hst hv f4 b4
      go_region_held3 (fun v => v.cell? ⟨x, 0, none⟩ = some (.slice A2 L.length c2))
        (first | exact hs | exact hsa | exact hsb)
        (first | (go_at_call 15; (with_reducible refine (all_w hp4 _ ?_).mono ?_); (focus exact below_dN (Below.refl _ _) _); rintro e wa ⟨A1, c1, rfl, ho1, ba0, ba⟩; have hsa := keep_cell ba hs) | (go_at_call 14; (with_reducible refine (same_w hv4 hl _ _ _ ba ho1).mono ?_); rintro e wb ⟨rfl, bb0, bb⟩; have hsb := keep_cell bb hs) | fail)
      all_goals
        go_wp2_with fail
        go_ret
        exact ⟨rfl, HB4.out.trans (bb.mono HB4.out.size)⟩
end Go.Proofs.Ytekfkglielmfaaa
