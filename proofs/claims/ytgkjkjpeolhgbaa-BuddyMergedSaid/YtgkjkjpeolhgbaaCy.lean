/- The law BuddyMerged. -/
import Derived.Test.YtgkjkjpeolhgbaaCx
namespace Go.Proofs.Ytgkjkjpeolhgbaa
open Go.RowKit

set_option maxHeartbeats 2000000 in
set_option maxRecDepth 100000 in
theorem merged_walk (fr : Int) (A : Option Addr) (m c : Nat) (w : World) (hA : Acts w w.heap.size A m) :
    Calls Try.prog 9 #[.int .i64 fr, .slice A m c] w fun e w' => e = .returned (.bool true) ∧ Below w.heap.size w w' := by
  by_cases hf : fr < 8 ∨ 1024 < fr
  · have hsm : ∀ W', Calls Try.prog 11 #[.int .i64 fr] W' fun e w' => e = .returned (.int .i64 fr) ∧ W' = w' := fun W' => by
      have := small_any fr W'
      rw [smI_bad hf] at this
      exact this
    have hmd := fun W' => made_bad hf W'
    go_enter Try.func9, Try.ntmps9
    go_wp2_with (first | (go_at_call 11; refine (hsm _).mono ?_; rintro e w' ⟨rfl, rfl⟩) | (go_at_call 10; refine (hmd _).mono ?_; rintro e w' ⟨rfl, rfl⟩))
    refine (awake_any _).mono ?_
    rintro e w1 ⟨rfl, hb1⟩
    go_wp2_with fail
    refine (awake_any _).mono ?_
    rintro e w2 ⟨rfl, hb2⟩
    go_wp2
    go_ret
    exact ⟨rfl, hb1.trans (hb2.mono hb1.size)⟩
  · obtain ⟨n, hn, h8, h300⟩ := smI_good hf
    have hsm : ∀ W', Calls Try.prog 11 #[.int .i64 fr] W' fun e w' => e = .returned (.int .i64 n) ∧ W' = w' := fun W' => by
      have := small_any fr W'
      rw [hn] at this
      exact this
    have hmd := fun W' => made_any n h8 (by omega) W'
    have HA := Lib.hid hA
    clear hA hn hf
    go_enter Try.func9, Try.ntmps9
    go_wp2_with (first | (go_at_call 11; refine (hsm _).mono ?_; rintro e w' ⟨rfl, rfl⟩))
    refine (hmd _).mono ?_
    intro e w1 h1
    obtain ⟨s, a, x, y, rfl, hg1, hb1⟩ := h1.going
    clear h1 hsm hmd
    go_wp2_with fail
    refine (awake_any _).mono ?_
    rintro e w2 ⟨rfl, hb2⟩
    have HG := Lib.hid (hg1.call hb2)
    have HB1 := Lib.hid hb1
    clear hg1 hb2 hb1
    go_wp2_with fail
    go_loopw [7] (fun i wr => ∃ j : Nat, j ≤ m ∧ i = .int .i64 j ∧ Going w.heap.size s a x y n w1 wr) (fun i _ => m - (intOf i).toNat)
    case atStart => exact ⟨0, by omega, rfl, HG.out⟩
    case round =>
      obtain ⟨j, hj, rfl, hgo⟩ := hrel
      clear HG
      have hbw : Below w.heap.size w wr := HB1.out.trans hgo.below
      by_cases hboth : j < m ∧ j < 60
      · obtain ⟨hlt, hlim⟩ := hboth
        obtain ⟨ad, rfl, ac, ok, c0, c1, c2, c3, c4⟩ := acts_now HA.out hbw hlt
        go_wp2_with fail
        refine (hgo.do_ ok).mono ?_
        rintro e w' ⟨rfl, hgo'⟩
        clear hgo hbw c0 c1 c2 c3 c4
        go_wp2
        go_roundw
        case rel => exact ⟨j + 1, by omega, by go_num, hgo'⟩
        case measure => simp [intOf]; omega
      · obtain ⟨F, T, tv, hst, hhe, hsp⟩ := hgo
        have HST := Lib.hid hst
        have HH := Lib.hid hhe
        have HSP := Lib.hid hsp
        have HBW := Lib.hid hbw
        have hcz := hst.c0
        clear hst hhe hsp hbw HA
        by_cases hlt : j < m
        case' pos => have hlim : 60 ≤ j := by omega
        all_goals
          clear hboth
          go_wp2_with fail
          obtain ⟨L, hL, hGd⟩ := HST.out.bud
          refine Calls.mono (blocks_any hL hGd (by have := HST.out.len; have := HST.out.n10; omega)) ?_
          rintro e w3 ⟨A3, c3, rfl, hr3, hb3⟩
          have HB3 := Lib.hid (HBW.out.trans (hb3.mono HBW.out.size))
          have HR := Lib.hid hr3
          have HL := Lib.hid (bk_len F)
          have hn1 : F.length ≤ 1024 := by have := HST.out.len; have := HST.out.n10; omega
          have hml : (bk F).length ≤ 1024 := by have := bk_len F; omega
          have HM := Lib.hid (fun (a k : Nat) => (bk_mem (F := F) (b := a) (j := k)).1)
          clear hL hGd hb3 hr3 hcz HST HH HSP HBW HL HB1 hlt
          try clear hlim
          clear hj
          obtain ⟨M, hM⟩ : ∃ M, M = bk F := ⟨_, rfl⟩
          rw [← hM] at HR HM hml
          obtain ⟨mm, hmm⟩ : ∃ mm, mm = M.length := ⟨_, rfl⟩
          rw [← hM, ← hmm]
          rw [← hmm] at hml
          have HMM := Lib.hid hmm
          clear hM hmm
          have HN := Lib.hid hn1
          clear hn1
          go_wp2_with fail
          go_loopw [9] (fun i wr => ∃ j q : Nat, j ≤ mm ∧ i = .int .i64 ((j : Int) + 1) ∧ wr = w3.drewN q) (fun i _ => mm + 1 - (intOf i).toNat)
          case atStart => exact ⟨0, 0, by omega, by simp, rfl⟩
          case round =>
            obtain ⟨j, q, hj, rfl, rfl⟩ := hrel
            by_cases hlt : j + 1 < mm
            · have hjM : j + 1 < M.length := by rw [← HMM.out]; exact hlt
              have hjM0 : j < M.length := by omega
              obtain ⟨g, hA3, hgs, hc10, hc11⟩ := blk_cell HR.out hjM
              obtain ⟨g', hA3', -, hc00, hc01⟩ := blk_cell HR.out hjM0
              rw [hA3] at hA3'
              injection hA3' with e1
              injection e1 with e1
              subst e1
              subst hA3
              have hx1 : Mx F (M[j + 1].1) (M[j + 1].2) := HM.out _ _ (List.getElem_mem hjM)
              have hx0 : Mx F (M[j].1) (M[j].2) := HM.out _ _ (List.getElem_mem hjM0)
              obtain ⟨z1, ez1⟩ : ∃ z : Int, z = (M[j + 1].2 : Nat) := ⟨_, rfl⟩
              obtain ⟨z0, ez0⟩ : ∃ z : Int, z = (M[j].2 : Nat) := ⟨_, rfl⟩
              obtain ⟨u1, eu1⟩ : ∃ z : Int, z = (M[j + 1].1 : Nat) := ⟨_, rfl⟩
              obtain ⟨u0, eu0⟩ : ∃ z : Int, z = (M[j].1 : Nat) := ⟨_, rfl⟩
              rw [← ez1] at hc11
              rw [← ez0] at hc01
              rw [← eu1] at hc10
              rw [← eu0] at hc00
              obtain ⟨sz, esz⟩ : ∃ z : Int, z = (2 ^ M[j + 1].2 : Nat) := ⟨_, rfl⟩
              have hS : ∀ W', Calls Try.prog 25 #[.int .i64 z1] W' fun e w' => e = .returned (.int .i64 sz) ∧ W' = w' := fun W' => by
                have := size_any hx1.1 W'
                rw [← ez1, ← esz] at this
                exact this
              have hl1 := mx_lt hx1
              have hl0 := mx_lt hx0
              have hsz1 : 1 ≤ sz := by have := two_pos M[j + 1].2; omega
              have hsz2 : sz ≤ 256 := by
                have := Nat.pow_le_pow_right (by omega : 0 < 2) hx1.1
                omega
              have hu1 : 0 ≤ u1 ∧ u1 ≤ 1024 := by have := HN.out; omega
              have hu0 : 0 ≤ u0 ∧ u0 ≤ 1024 := by have := HN.out; have := two_pos M[j].2; omega
              have iw1 : IntKind.i64.wrap ((j : Int) + 1 - 1) = j := by rw [IntWalk.i64_in _ (by omega)]; omega
              have iw2 : IntKind.i64.wrap (u1 - sz) = u1 - sz := IntWalk.i64_in _ (by omega)
              have iw3 : IntKind.i64.wrap (2 * sz) = 2 * sz := IntWalk.i64_in _ (by omega)
              have hz2 : ¬ 2 * sz = 0 := by omega
              have it1 : ((j : Int) + 1).toNat = j + 1 := by omega
              have j0 : (0 : Int) ≤ (j : Int) + 1 := by omega
              have jm : (j : Int) + 1 < mm := by omega
              have jm0 : (j : Int) < mm := by omega
              have hjm0 : j < mm := by omega
              have hno : ¬ (z1 < 8 ∧ z0 = z1 ∧ u0 = u1 - sz ∧ u0 % (2 * sz) = 0) := by
                rintro ⟨h1, h2, h3, h4⟩
                have e0 : M[j].2 = M[j + 1].2 := by omega
                rw [e0] at hx0
                refine mx_merged hx0 hx1 (by omega) (by omega) ?_
                have h5 : u0 % ((2 * 2 ^ M[j + 1].2 : Nat) : Int) = 0 := by
                  rw [← h4]
                  congr 1
                  rw [esz]; simp
                rw [eu0] at h5
                exact_mod_cast h5
              have HNO := Lib.hid hno
              have HSZ := Lib.hid hS
              clear hx1 hx0 ez1 ez0 eu1 eu0 esz hS hl1 hl0 hno hjM hjM0
              go_wp2_with (first | (go_at_call 25; refine (HSZ.out _).mono ?_; rintro e w' ⟨rfl, rfl⟩))
              by_cases g1 : z1 < 8
              · have d1 : decide (z1 < 8) = true := by simpa using g1
                by_cases g2 : z0 = z1
                · have d2 : decide (z0 = z1) = true := by simpa using g2
                  have b2 : (z0 == z1) = true := by simpa using g2
                  by_cases g3 : u0 = u1 - sz
                  · have d3 : decide (u0 = u1 - sz) = true := by simpa using g3
                    have b3 : (u0 == u1 - sz) = true := by simpa using g3
                    have g4 : ¬ u0 % (2 * sz) = 0 := fun h => HNO.out ⟨g1, g2, g3, h⟩
                    have d4 : decide (u0 % (2 * sz) = 0) = false := by simpa using g4
                    have b4 : (u0 % (2 * sz) == 0) = false := beq_false_of_ne g4
                    clear g1 g2 g3
                    go_quiet (fail)
                    go_wp2
                    go_roundw
                    case rel => exact ⟨j + 1, _, by omega, by go_num, rfl⟩
                    case measure => simp [intOf]; omega
                  · have d3 : decide (u0 = u1 - sz) = false := by simpa using g3
                    have b3 : (u0 == u1 - sz) = false := beq_false_of_ne g3
                    clear g1 g2
                    go_quiet (fail)
                    go_wp2
                    go_roundw
                    case rel => exact ⟨j + 1, _, by omega, by go_num, rfl⟩
                    case measure => simp [intOf]; omega
                · have d2 : decide (z0 = z1) = false := by simpa using g2
                  have b2 : (z0 == z1) = false := beq_false_of_ne g2
                  clear g1
                  go_quiet (fail)
                  go_wp2
                  go_roundw
                  case rel => exact ⟨j + 1, _, by omega, by go_num, rfl⟩
                  case measure => simp [intOf]; omega
              · have d1 : decide (z1 < 8) = false := by simpa using g1
                go_quiet (fail)
                go_wp2
                go_roundw
                case rel => exact ⟨j + 1, _, by omega, by go_num, rfl⟩
                case measure => simp [intOf]; omega
            · have hlt' : ¬ (j : Int) + 1 < mm := by omega
              go_wp2
              go_ret
              exact ⟨rfl, below_dN HB3.out _⟩
end Go.Proofs.Ytgkjkjpeolhgbaa
