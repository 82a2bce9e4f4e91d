/- The law PickDoes, walked. -/
import Derived.Test.YtgkliffhdibghaaUx
import Derived.Deep.CutBlock
import Derived.Deep.LoopGhost
namespace Go.Proofs.Ytgkliffhdibghaa
open Go.RowKit

set_option maxHeartbeats 16000000 in
set_option maxRecDepth 100000 in
theorem does_walk (A : Option Addr) (n c : Nat) (w : World) (hA : Acts w w.heap.size A n) :
    Calls Try.prog 3 #[.slice A n c] w fun e w' => e = .returned (.bool true) ∧ Below w.heap.size w w' := by
  have HA := Lib.hid hA
  clear hA
  go_enter Try.func3, Try.ntmps3
  go_wp2_with fail
  refine (new_any _).mono ?_
  rintro e w1 ⟨p, q, m, iv, rfl, h1, b1⟩
  go_wp2_with fail
  refine (awake_any _).mono ?_
  rintro e w2 ⟨rfl, b2⟩
  have HG : Hid (Going w.heap.size p q m w1.heap.size w 0 w2) := ⟨iv, _, [], (St.call (w := w1.alloc (.cells #[.slice none 0 0] 28)) ⟨h1.alloc _, RefX.new w1 b1.size, List.Pairwise.nil, b1.alloc b1.size _⟩ b2), Nat.le_refl _⟩
  generalize w1.heap.size = x at HG ⊢
  clear h1 b1 b2
  go_wp2_with fail
  go_loopg [5] (n + 1) (fun g i wr => ∃ j : Nat, j ≤ n ∧ j ≤ 200 ∧ n - j ≤ g ∧ i = .int .i64 j ∧ Going w.heap.size p q m x w j wr)
  case atStart => exact ⟨0, by omega, by omega, by omega, rfl, HG.out⟩
  case round =>
    obtain ⟨j, hj, hjl200, hgh, rfl, hgo⟩ := hrel
    clear HG
    by_cases hboth : j < n ∧ j < 200
    · obtain ⟨hlt, hlim⟩ := hboth
      obtain ⟨ad, rfl, hab, ac, ok, c0, c1, c2⟩ := acts_now HA.out hgo.below hlt
      obtain ⟨K, F, V⟩ := ac
      obtain ⟨iv1, rv1, N, hst, hlN⟩ := hgo
      have HOK := Lib.hid ok
      have hjl : (j : Int) < n := by omega
      have hj0 : (0 : Int) ≤ j := by omega
      have hl4 : N.length < 5000 := by omega
      have hl5 : N.length ≤ 5000 := by omega
      obtain ⟨W, hW⟩ : ∃ W, W = wr.alloc (.cells #[.int .i64 K, .int .i64 F, .int .i64 V] 31) := ⟨_, rfl⟩
      obtain ⟨ab, hab2⟩ : ∃ ab, ab = wr.heap.size := ⟨_, rfl⟩
      have HS : Hid (St w.heap.size w W p q m x iv1 rv1 N) := by
        show St _ _ _ _ _ _ _ _ _ _
        rw [hW]; exact hst.alloc _
      have HX : Hid (Lrow W ab 31 [.int .i64 K, .int .i64 F, .int .i64 V]) := by
        show Lrow _ _ _ _
        rw [hW, hab2]; exact Lrow.new wr _ _
      have hs0 : W.drew.cell? ⟨ab, 1, none⟩ = some (.int .i64 F) ∧ W.drew.cell? ⟨ab, 2, none⟩ = some (.int .i64 V) := ⟨(HX.out.drewN 1).cell 1, (HX.out.drewN 1).cell 2⟩
      have HW := Lib.hid hW
      have HAB := Lib.hid hab2
      clear hst ok hab hW hab2
      go_upto_block 2 with (fail)
      rw [← HAB.out, ← HW.out]
      clear c0 c1 c2
      go_cut [7] from 30 to 181 (fun s7 wx => s7 = .bool true ∧ ∃ iv rv N', St w.heap.size w wx p q m x iv rv N' ∧ N'.length ≤ j + 1 ∧ Lrow wx ab 31 [.int .i64 K, .int .i64 F, .int .i64 V])
      case first =>
        by_cases k012 : K = 0 ∨ K = 1 ∨ K = 2
        · rcases k012 with rfl | rfl | rfl
          all_goals
            go_wp2_with fail
            go_region_held3 (fun v => v.cell? ⟨ab, 1, none⟩ = some (.int .i64 F) ∧ v.cell? ⟨ab, 2, none⟩ = some (.int .i64 V)) (first | exact hs0 | exact And.intro (x1.cell 1) (x1.cell 2) | exact And.intro (x2.cell 1) (x2.cell 2))
              (first | (go_at_call 11; refine (pickPut_any HS.out.drew.pick (fits_i64 HOK.out.2.2) hl4).mono ?_; intro e w3 hd; obtain ⟨rfl, iv2, k1, g1⟩ := HS.out.drew.half hd; have x1 := g1.row HS.out.drew.pick.qs HX.out (by decide) (by decide)) | (go_at_call 12; refine (refPut_any k1.ref hl5 k1.dst F V).mono ?_; intro e w4 hd4; obtain ⟨rfl, rv2, k2, g2⟩ := k1.whole hd4 (HS.out.dst.put F V); have x2 := g2.row k1.ref x1 (by decide) (by decide)))
            have hl2 := putL_len N F V
            have HZ : Hid (∃ iv rv N, St w.heap.size w w4 p q m x iv rv N ∧ N.length ≤ j + 1) := ⟨_, _, _, k2, by omega⟩
            have HX2 := Lib.hid x2
            clear hd hd4 k1 k2 g1 g2 x1 x2 hl2 hs0
            obtain ⟨iv6, rv6, M, hst6, hlM⟩ := HZ.out
            go_wp2_with fail
            go_meet
            exact ⟨rfl, iv6, rv6, M, hst6, hlM, HX2.out⟩
        · by_cases k3 : K = 3
          · subst k3
            clear k012
            go_wp2_with fail
            go_region_held3 (fun v => v.cell? ⟨ab, 1, none⟩ = some (.int .i64 F)) (first | exact hs0.1 | exact x1.cell 1 | exact x2.cell 1)
              (first | (go_at_call 13; refine (pickDrop_any HS.out.drew.pick (fits_i64 HOK.out.2.1)).mono ?_; intro e w3 hd; obtain ⟨rfl, iv2, k1, g1⟩ := HS.out.drew.half hd; have x1 := g1.row HS.out.drew.pick.qs HX.out (by decide) (by decide)) | (go_at_call 14; refine (refDrop_any k1.ref hl5 F).mono ?_; intro e w4 hd4; obtain ⟨rfl, rv2, k2, g2⟩ := k1.whole hd4 (HS.out.dst.drop F); have x2 := g2.row k1.ref x1 (by decide) (by decide)))
            have hl2 := dropL_le N F
            have HZ : Hid (∃ iv rv N, St w.heap.size w w4 p q m x iv rv N ∧ N.length ≤ j + 1) := ⟨_, _, _, k2, by omega⟩
            have HX2 := Lib.hid x2
            clear hd hd4 k1 k2 g1 g2 x1 x2 hl2 hs0
            obtain ⟨iv6, rv6, M, hst6, hlM⟩ := HZ.out
            go_wp2_with fail
            go_meet
            exact ⟨rfl, iv6, rv6, M, hst6, hlM, HX2.out⟩
          · by_cases k4 : K = 4
            · subst k4
              clear k012 k3
              have HP := Lib.hid (pickPop_any HS.out.pick)
              have hdl := dropL_le N (lst N).1
              have hdst := HS.out.dst.drop (lst N).1
              go_wp2_with fail
              refine Calls.mono HP.out ?_
              intro e w3 hd
              obtain ⟨rfl, iv2, k1, g1⟩ := HS.out.half hd
              have x1 := g1.row HS.out.pick.qs HX.out (by decide) (by decide)
              have HK := Lib.hid k1
              clear k1 g1 hd hs0
              go_wp2_with fail
              refine (refFirst_any HK.out.ref hl5).mono ?_
              rintro e w5 ⟨rfl, hb5⟩
              have HK5 := Lib.hid (HK.out.call (hb5.trans ((Below.refl _ _).alloc hb5.size (.cells #[.int .i64 (lst N).1, .int .i64 (lst N).2] 38))))
              have X5 := Lib.hid ((x1.call hb5).alloc (.cells #[.int .i64 (lst N).1, .int .i64 (lst N).2] 38))
              clear hb5 x1
              obtain ⟨a, ea⟩ : ∃ a, a = (lst N).1 := ⟨_, rfl⟩
              obtain ⟨b, eb⟩ : ∃ b, b = (lst N).2 := ⟨_, rfl⟩
              rw [← ea] at hdl hdst HK5 X5 ⊢
              rw [← eb] at HK5 X5 ⊢
              clear ea eb HP
              generalize noE N = ne at *
              go_wp2_with fail
              refine (refDrop_any HK5.out.ref hl5 a).mono ?_
              intro e w4 hd4
              obtain ⟨rfl, rv2, k2, g2⟩ := HK5.out.whole hd4 hdst
              have HX2 := Lib.hid (g2.row HK5.out.ref X5.out (by decide) (by decide))
              have HZ : Hid (∃ iv rv N, St w.heap.size w w4 p q m x iv rv N ∧ N.length ≤ j + 1) := ⟨_, _, _, k2, by omega⟩
              clear hd4 k2 g2 HK5 X5 hdl hdst
              obtain ⟨iv6, rv6, M, hst6, hlM⟩ := HZ.out
              go_wp2_with fail
              go_meet
              exact ⟨rfl, iv6, rv6, M, hst6, hlM, HX2.out⟩
            · have n0 : (K == 0) = false := by simpa using (by omega : ¬ K = 0)
              have n1 : (K == 1) = false := by simpa using (by omega : ¬ K = 1)
              have n2 : (K == 2) = false := by simpa using (by omega : ¬ K = 2)
              have n3 : (K == 3) = false := by simpa using k3
              have n4 : (K == 4) = false := by simpa using k4
              clear k012 k3 k4
              have HP := Lib.hid (pickFirst_any HS.out.pick)
              go_wp2_with fail
              refine Calls.mono HP.out ?_
              rintro e w3 ⟨rfl, hb3⟩
              have HK := Lib.hid (HS.out.call hb3)
              have x1 := HX.out.call hb3
              clear hb3 hs0
              go_wp2_with fail
              refine (refFirst_any HK.out.ref hl5).mono ?_
              rintro e w5 ⟨rfl, hb5⟩
              have HZ0 := Lib.hid (HK.out.call (hb5.trans ((Below.refl _ _).alloc hb5.size (.cells #[.int .i64 (lst N).1, .int .i64 (lst N).2] 38))))
              have HX2 := Lib.hid ((x1.call hb5).alloc (.cells #[.int .i64 (lst N).1, .int .i64 (lst N).2] 38))
              have HZ : Hid (∃ iv rv N', St w.heap.size w (w5.alloc (.cells #[.int .i64 (lst N).1, .int .i64 (lst N).2] 38)) p q m x iv rv N' ∧ N'.length ≤ j + 1) := ⟨_, _, _, HZ0.out, by omega⟩
              clear hb5 x1 HZ0 HP
              generalize (lst N).1 = a at *
              generalize (lst N).2 = b at *
              generalize noE N = ne at *
              obtain ⟨iv6, rv6, M, hst6, hlM⟩ := HZ.out
              go_wp2_with fail
              go_meet
              exact ⟨rfl, iv6, rv6, M, hst6, hlM, HX2.out⟩
      case rest =>
        obtain ⟨rfl, iv6, rv6, M, hst6, hlM, x2⟩ := hcut
        have HX2 := Lib.hid x2
        clear x2
        have HS6 := Lib.hid hst6
        have HWO := Lib.hid (pickWorth_any hst6.pick (fits_i64 HOK.out.2.1))
        have HAT := Lib.hid (refAt_any hst6.ref (by omega) F)
        have HLN : ∀ k, Calls Try.prog 20 #[.pointer (some ⟨p, 0, none⟩)] (wc.drewN k) fun e w' => e = .returned (.int .i64 M.length) ∧ w' = wc.drewN k := fun k => (pickLen_any (hst6.pick.drewN k)).mono fun _ _ h => And.intro h.1 h.2.symm
        obtain ⟨Ar, cr, er⟩ := own_form hst6.ref.own
        subst er
        have hcx := hst6.ref.c0
        have hca : wc.cell? ⟨ab, 1, none⟩ = some (.int .i64 F) := HX2.out.cell 1
        by_cases hh : hasF M F = true
        · have hk := ix_lt.2 hh
          have hN : 0 < M.length := by omega
          obtain ⟨g, hA2, hgl, -, hit⟩ := hst6.ref.items hN
          subst hA2
          obtain ⟨-, a2⟩ := hit _ hk
          have e1 : (at' M (ix M F)).2 = worV M F := by simp [worV, hh]
          have e2 : dropE M F = 0 := by simp [dropE, hh]
          have e3 : atI M F = (ix M F : Int) := by simp [atI, hh]
          rw [e1] at a2
          rw [e2] at HWO
          rw [e3] at HAT
          have i0 : (0 : Int) ≤ (ix M F : Nat) := by omega
          have il : ((ix M F : Nat) : Int) < M.length := by omega
          generalize ix M F = ii at *
          generalize worV M F = u at *
          obtain ⟨n6, hn6⟩ : ∃ n6, n6 = M.length := ⟨_, rfl⟩
          rw [← hn6] at HLN
          rw [← hn6] at hcx il
          have HLN := Lib.hid HLN
          clear hst6 hh hN hit hk e1 e2 e3 hn6 hgl
          go_wp2_with (first | (go_at_call 18; refine Calls.mono HWO.out ?_; rintro e w' ⟨rfl, rfl⟩) | (go_at_call 19; refine Calls.mono HAT.out ?_; rintro e w' ⟨rfl, rfl⟩))
          go_quiet ((go_at_call 20; exact Calls.quiet_of_same (HLN.out _)))
          go_wp2
          go_roundg (n - (j + 1))
          case measure => omega
          case rel => exact ⟨j + 1, by omega, by omega, Nat.le_refl _, by go_num, _, _, _, HS6.out.drewN _, hlM⟩
        · have hno : hasF M F = false := by simpa using hh
          have e1 : worV M F = 0 := by simp [worV, hno]
          have e2 : dropE M F = 6 := by simp [dropE, hno]
          have e3 : atI M F = -1 := by simp [atI, hno]
          rw [e1, e2] at HWO
          rw [e3] at HAT
          obtain ⟨n6, hn6⟩ : ∃ n6, n6 = M.length := ⟨_, rfl⟩
          rw [← hn6] at HLN
          rw [← hn6] at hcx
          have HLN := Lib.hid HLN
          clear hst6 hh hno e1 e2 e3 hn6
          go_wp2_with (first | (go_at_call 18; refine Calls.mono HWO.out ?_; rintro e w' ⟨rfl, rfl⟩) | (go_at_call 19; refine Calls.mono HAT.out ?_; rintro e w' ⟨rfl, rfl⟩))
          go_quiet ((go_at_call 20; exact Calls.quiet_of_same (HLN.out _)))
          go_wp2
          go_roundg (n - (j + 1))
          case measure => omega
          case rel => exact ⟨j + 1, by omega, by omega, Nat.le_refl _, by go_num, _, _, _, HS6.out.drewN _, hlM⟩
    · have HB := Lib.hid hgo.below
      clear hgo HA
      by_cases hlt : j < n
      case' pos => have hlim : 200 ≤ j := by omega
      all_goals
        clear hboth hj
        go_wp2
        go_ret
        exact ⟨rfl, HB.out⟩
end Go.Proofs.Ytgkliffhdibghaa
