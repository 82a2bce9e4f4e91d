/- The law BuddyTakes. -/
import Derived.Test.YtgkjkjpeolhgbaaCi
import Derived.BigQuiet
namespace Go.Proofs.Ytgkjkjpeolhgbaa
open Go.RowKit

/-- A block that is taken where it is, and given back. -/
theorem takes_case (F : List Bool) (f k : Nat) (hk : k ≤ 8) (hf : f % 2 ^ k = 0) :
    (F.length < f + 2 ^ k ∧ chE F f k false = 3) ∨ (f + 2 ^ k ≤ F.length ∧ allB F f (2 ^ k) true = false ∧ chE F f k false = 12 ∧ chL F f k false = F) ∨
      (f + 2 ^ k ≤ F.length ∧ allB F f (2 ^ k) true = true ∧ chE F f k false = 0 ∧ hasB (chL F f k false) f = false ∧ chE (chL F f k false) f k true = 0 ∧ chL (chL F f k false) f k true = F) := by
  by_cases hr : f + 2 ^ k ≤ F.length
  · have hg := chE_good (F := F) false (ckE_zero hk hf hr)
    rw [Bool.not_false] at hg
    cases ha : allB F f (2 ^ k) true with
    | false =>
      rw [ha] at hg
      simp only [Bool.false_eq_true, if_false] at hg
      refine Or.inr (Or.inl ⟨hr, rfl, hg, ?_⟩)
      unfold chL; rw [if_neg (by rw [hg]; decide)]
    | true =>
      rw [ha] at hg
      simp only [if_true] at hg
      obtain ⟨h1, h2⟩ := ch_back hg
      rw [Bool.not_false] at h1 h2
      refine Or.inr (Or.inr ⟨hr, rfl, hg, ?_, h1, h2⟩)
      have hL : chL F f k false = setR F f (2 ^ k) false := by
        have := chL_of hg
        rwa [Int.toNat_natCast, Int.toNat_natCast] at this
      refine hasB_at ?_
      rw [hL, setR_get _ _ _ _ hr, if_pos ⟨Nat.le_refl _, by have := two_pos k; omega⟩]
  · refine Or.inl ⟨by omega, ?_⟩
    have e : ((f : Int) % (2 ^ k : Nat)) = ((f % 2 ^ k : Nat) : Int) := by simp
    unfold chE
    rw [if_neg (by rw [orB_nat hk]; decide), Int.toNat_natCast, two_zpow, e, hf, if_pos (by rfl), if_pos (by omega)]
set_option maxHeartbeats 2000000 in
set_option maxRecDepth 100000 in
theorem takes_walk (fr : Int) (A : Option Addr) (m c : Nat) (t o : Int) (w : World) (hA : Acts w w.heap.size A m) (hfr : I64 fr) (ht0 : 0 ≤ t) (ht1 : t < 256) (ho0 : 0 ≤ o) (_ : o < 256) :
    Calls Try.prog 7 #[.agg #[.int .i64 fr, .slice A m c, .int .u8 t, .int .u8 o]] w fun e w' => e = .returned (.bool true) ∧ Below w.heap.size w w' := by
  have _ := hfr
  clear hfr
  obtain ⟨k, hk⟩ : ∃ k : Nat, o % 9 = k := ⟨(o % 9).toNat, by omega⟩
  have hk8 : k ≤ 8 := by omega
  have hkt : o.tmod 9 = k := by rw [Int.tmod_eq_emod_of_nonneg ho0]; exact hk
  by_cases hf : fr < 8 ∨ 1024 < fr
  · have hsm : ∀ W', Calls Try.prog 11 #[.int .i64 fr] W' fun e w' => e = .returned (.int .i64 fr) ∧ W' = w' := fun W' => by
      have := small_any fr W'
      rw [smI_bad hf] at this
      exact this
    have hmd := fun W' => made_bad hf W'
    go_enter Try.func7, Try.ntmps7
    go_wp2_with fail
    go_quiet (fail)
    go_wp2_with (first | (go_at_call 11; refine (hsm _).mono ?_; rintro e w' ⟨rfl, rfl⟩) | (go_at_call 10; refine (hmd _).mono ?_; rintro e w' ⟨rfl, rfl⟩))
    refine (awake_any _).mono ?_
    rintro e w1 ⟨rfl, hb1⟩
    go_wp2_with fail
    refine (awake_any _).mono ?_
    rintro e w2 ⟨rfl, hb2⟩
    go_wp2
    go_ret
    exact ⟨rfl, ((below_dN ((Below.refl w.heap.size w).alloc (Nat.le_refl _) _) _).trans (hb1.mono (by simp))).trans (hb2.mono (Nat.le_trans (by simp) hb1.size))⟩
  · obtain ⟨n, hn, h8, h300⟩ := smI_good hf
    have hsm : ∀ W', Calls Try.prog 11 #[.int .i64 fr] W' fun e w' => e = .returned (.int .i64 n) ∧ W' = w' := fun W' => by
      have := small_any fr W'
      rw [hn] at this
      exact this
    have hmd := fun W' => made_any n h8 (by omega) W'
    have HA := Lib.hid hA
    clear hA hn hf
    go_enter Try.func7, Try.ntmps7
    go_wp2_with fail
    go_quiet (fail)
    go_wp2_with (first | (go_at_call 11; refine (hsm _).mono ?_; rintro e w' ⟨rfl, rfl⟩))
    refine (hmd _).mono ?_
    intro e w1 h1
    obtain ⟨s, a, x, y, rfl, hg1, hb1⟩ := h1.going
    obtain ⟨B0, hBw, hg1, hb1⟩ : ∃ B0, w.heap.size ≤ B0 ∧ Going B0 s a x y n w1 w1 ∧ Below w.heap.size w w1 := ⟨_, by simp, hg1, (below_dN ((Below.refl w.heap.size w).alloc (Nat.le_refl _) _) _).trans (hb1.mono (by simp))⟩
    clear h1 hsm hmd
    go_wp2_with fail
    refine (awake_any _).mono ?_
    rintro e w2 ⟨rfl, hb2⟩
    have HG := Lib.hid (hg1.call hb2)
    have HB1 := Lib.hid hb1
    clear hg1 hb2 hb1
    go_wp2_with fail
    go_loopw [9] (fun i wr => ∃ j : Nat, j ≤ m ∧ i = .int .i64 j ∧ Going B0 s a x y n w1 wr) (fun i _ => m - (intOf i).toNat)
    case atStart => exact ⟨0, by omega, rfl, HG.out⟩
    case round =>
      obtain ⟨j, hj, rfl, hgo⟩ := hrel
      clear HG
      have hbw : Below w.heap.size w wr := HB1.out.trans (hgo.below.mono hBw)
      by_cases hboth : j < m ∧ j < 60
      · obtain ⟨hlt, hlim⟩ := hboth
        obtain ⟨ad, rfl, ac, ok, c0, c1, c2, c3, c4⟩ := acts_now HA.out hbw hlt
        go_wp2_with fail
        refine (hgo.do_ ok).mono ?_
        rintro e w' ⟨rfl, hgo'⟩
        clear hgo hbw c0 c1 c2 c3 c4
        go_wp2
        go_roundw
        case rel => exact ⟨j + 1, by omega, by go_num, hgo'⟩
        case measure => simp [intOf]; omega
      · obtain ⟨F, T, tv, hst, hhe, hsp⟩ := hgo
        have HST := Lib.hid hst
        have HH := Lib.hid hhe
        have HSP := Lib.hid hsp
        have HBW := Lib.hid hbw
        have hcz := hst.c0
        clear hst hhe hsp hbw HA
        by_cases hlt : j < m
        case' pos => have hlim : 60 ≤ j := by omega
        all_goals
          clear hboth
          go_wp2_with fail
          obtain ⟨szN, hsz⟩ : ∃ sz, sz = 2 ^ k := ⟨_, rfl⟩
          have hs1 : 0 < szN := by have := two_pos k; omega
          have hs2 : szN ≤ 256 := by have := Nat.pow_le_pow_right (by omega : 0 < 2) hk8; omega
          obtain ⟨tN, htN⟩ : ∃ tN : Nat, t = tN := ⟨t.toNat, by omega⟩
          obtain ⟨fN, hfN⟩ : ∃ fN, fN = tN / szN * szN := ⟨_, rfl⟩
          have hfm : fN % 2 ^ k = 0 := by rw [hfN, ← hsz]; exact Nat.mul_mod_left _ _
          have hfl : fN ≤ tN := by rw [hfN]; exact Nat.div_mul_le_self _ _
          obtain ⟨sz, hszI⟩ : ∃ sz : Int, sz = szN := ⟨_, rfl⟩
          obtain ⟨q, hq⟩ : ∃ q : Int, q = (tN / szN : Nat) := ⟨_, rfl⟩
          obtain ⟨f, hf⟩ : ∃ f : Int, f = fN := ⟨_, rfl⟩
          have hq1 : t / sz = q := by rw [htN, hszI, hq]; simp
          have hq2 : t.tdiv sz = q := by rw [Int.tdiv_eq_ediv_of_nonneg ht0]; exact hq1
          have hqm : q * sz = f := by rw [hq, hszI, hf, hfN]; simp
          have hq0 : 0 ≤ q ∧ q ≤ t := by
            refine ⟨by rw [hq]; exact Int.natCast_nonneg _, ?_⟩
            rw [hq, htN]
            exact_mod_cast Nat.div_le_self tN szN
          have iwq : IntKind.i64.wrap q = q := IntWalk.i64_in _ (by omega)
          have iwt : IntKind.i64.wrap t = t := IntWalk.i64_in _ (by omega)
          have iwm : IntKind.i64.wrap (q * sz) = f := by rw [hqm]; exact IntWalk.i64_in _ (by omega)
          have iwd : IntKind.i64.wrap ((n : Int) - f) = n - f := IntWalk.i64_in _ (by omega)
          have hsz0 : ¬ sz = 0 := by omega
          have hSZ : ∀ W', Calls Try.prog 25 #[.int .i64 k] W' fun e w' => e = .returned (.int .i64 sz) ∧ W' = w' := fun W' => by
            have := size_any hk8 W'
            rw [← hsz, ← hszI] at this
            exact this
          have HSZ := Lib.hid hSZ
          have HSZQ := Lib.hid (fun W' => (hSZ W').mono (fun e w' (h : e = .returned (.int .i64 sz) ∧ W' = w') => (⟨h.1, h.2.symm⟩ : e = .returned (.int .i64 sz) ∧ w' = W')))
          have hca := takes_case F fN k hk8 hfm
          rw [← hf, ← hsz, HST.out.len] at hca
          have hll : -9223372036854775808 ≤ f ∧ f ≤ 9223372036854775807 := by omega
          have hfr : 0 ≤ f ∧ f ≤ 256 ∧ f + szN = f + sz := by omega
          have HFN := Lib.hid (And.intro hf (And.intro hsz hfl))
          have HML : Hid ((bk F).length ≤ 4096) := by
            show _ ≤ _
            have := bk_len F; have := HST.out.le; omega
          have HWM : Hid (wrap64 (q * sz) = f) := (IntWalk.i64_left _).symm.trans iwm
          have HG := Lib.hid (show (szN : Int) = sz from hszI.symm)
          have HG2 := Lib.hid (show (fN : Int) = f from hf.symm)
          clear hSZ hsz htN hfN hfm hq hqm hfl HB1 hlt hk hkt hq0 hszI hf
          try clear hlim
          clear hj HSP HH
          have HAL : Hid (∀ W, RefAt W x y n F → Calls Try.prog 26 #[.pointer (some ⟨x, 0, none⟩), .int .i64 f, .int .i64 k, .bool true] W fun e w' => e = .returned (.bool (allB F fN szN true)) ∧ W = w') := fun W hW => by
            have := all_any hW hk8 (a := fN) (by have := HG2.out; omega) true
            rw [← HFN.out.1, ← HFN.out.2.1] at this
            exact this
          go_quiet ((go_at_call 25; exact Calls.quiet_of_same (HSZQ.out _)))
          try rw [HWM.out]
          go_wp2_with fail
          refine (HST.out.drewN _).blocks_.mono ?_
          rintro e w4 ⟨A1, c1, rfl, r1, hb4⟩
          have K4 := Lib.hid ((HST.out.drewN _).call hb4)
          have HB4 := Lib.hid ((below_dN HBW.out _).trans (hb4.mono HBW.out.size))
          have R4 := Lib.hid r1
          have hc4 := K4.out.c0
          clear hb4 r1 HST HBW hcz
          go_wp2_with fail
          refine (K4.out.takeAt_ f k hll.1 hll.2).mono ?_
          rintro e w5 ⟨rfl, k5, ht5⟩
          have K5 := Lib.hid k5
          have HB5 := Lib.hid (HB4.out.trans (ht5.below.mono hBw))
          have R5 := Lib.hid (fun q => (R4.out.turn ht5).below (below_dN (Below.refl _ _) q))
          have hc50 := K5.out.c0
          have hc51 := K5.out.c1
          have hc5x := K5.out.ref.field
          clear k5 ht5 K4 HB4 R4 hc4
          rcases hca with ⟨hr, hE⟩ | ⟨hr, ha, hE, hL⟩ | ⟨hr, ha, hE, hh, hE2, hL2⟩
          · rw [hE]
            clear hE
            have hszI := HG.out
            have hf := HG2.out
            by_cases g1 : (n : Int) ≤ f
            · have d1 : decide ((n : Int) ≤ f) = true := by simpa using g1
              clear hszI hf
              go_wp2_with fail
              go_quiet (fail)
              go_wp2
              go_ret
              exact ⟨rfl, below_dN HB5.out _⟩
            · have d1 : decide ((n : Int) ≤ f) = false := by simpa using g1
              have g2 : (n : Int) - f < sz := by omega
              have d2 : decide ((n : Int) - f < sz) = true := by simpa using g2
              clear hszI hf
              go_wp2_with fail
              go_quiet ((go_at_call 25; exact Calls.quiet_of_same (HSZQ.out _)))
              go_wp2
              go_ret
              exact ⟨rfl, below_dN HB5.out _⟩
          · rw [hE]
            rw [hL] at K5
            have hszI := HG.out
            have hf := HG2.out
            have g1 : ¬ (n : Int) ≤ f := by omega
            have d1 : decide ((n : Int) ≤ f) = false := by simpa using g1
            have g2 : ¬ (n : Int) - f < sz := by omega
            have d2 : decide ((n : Int) - f < sz) = false := by simpa using g2
            clear hszI hf
            have HAF := Lib.hid ha
            clear hE hL ha
            go_wp2_with fail
            go_quiet ((go_at_call 25; exact Calls.quiet_of_same (HSZQ.out _)))
            go_wp2_with fail
            refine (HAL.out _ (K5.out.drewN _).ref).mono ?_
            rintro e w' ⟨rfl, rfl⟩
            rw [HAF.out]
            go_wp2_with fail
            refine (K5.out.drewN _).blocks_.mono ?_
            rintro e w6 ⟨A2, c2, rfl, r6, hb6⟩
            have HB6 := Lib.hid ((below_dN HB5.out _).trans (hb6.mono HB5.out.size))
            have R6 := Lib.hid r6
            have R56 := Lib.hid ((R5.out _).below hb6)
            clear r6 hb6 hc50 hc51 hc5x
            go_wp2_with fail
            refine (same_same R56.out R6.out HML.out).mono ?_
            rintro e w7 ⟨rfl, q7, rfl⟩
            go_wp2
            go_ret
            exact ⟨rfl, below_dN HB6.out _⟩
          · rw [hE]
            have hszI := HG.out
            have hf := HG2.out
            have g1 : ¬ (n : Int) ≤ f := by omega
            have d1 : decide ((n : Int) ≤ f) = false := by simpa using g1
            have g2 : ¬ (n : Int) - f < sz := by omega
            have d2 : decide ((n : Int) - f < sz) = false := by simpa using g2
            clear hszI hf
            have HAF := Lib.hid ha
            have HH2 := Lib.hid hh
            have HE2 := Lib.hid hE2
            have HL2 := Lib.hid hL2
            clear hE ha hh hE2 hL2
            generalize chL F f k false = F1 at K5 HH2 HE2 HL2
            go_wp2_with fail
            go_quiet ((go_at_call 25; exact Calls.quiet_of_same (HSZQ.out _)))
            go_wp2_with fail
            refine (HAL.out _ (K5.out.drewN _).ref).mono ?_
            rintro e w' ⟨rfl, rfl⟩
            rw [HAF.out]
            go_wp2_with fail
            refine ((K5.out.drewN _).has_ f hll.1 hll.2).mono ?_
            rintro e w6 ⟨rfl, hb6⟩
            rw [HH2.out]
            have K6 := Lib.hid ((K5.out.drewN _).call hb6)
            have HB6 := Lib.hid ((below_dN HB5.out _).trans (hb6.mono HB5.out.size))
            have R6 := Lib.hid ((R5.out _).below hb6)
            have hc6 := K6.out.c0
            clear hb6 hc50 hc51 hc5x K5
            go_wp2_with fail
            refine (K6.out.give_ f k hll.1 hll.2).mono ?_
            rintro e w7 ⟨rfl, k7, ht7⟩
            rw [HE2.out]
            rw [HL2.out] at k7
            have K7 := Lib.hid k7
            have HB7 := Lib.hid (HB6.out.trans (ht7.below.mono hBw))
            have R7 := Lib.hid (R6.out.turn ht7)
            have hc7 := K7.out.c0
            clear k7 ht7 hc6 K6
            go_wp2_with fail
            refine K7.out.blocks_.mono ?_
            rintro e w8 ⟨A2, c2, rfl, r8, hb8⟩
            have HB8 := Lib.hid (HB7.out.trans (hb8.mono HB7.out.size))
            have R8 := Lib.hid r8
            have R78 := Lib.hid (R7.out.below hb8)
            clear r8 hb8 hc7
            go_wp2_with fail
            refine (same_same R78.out R8.out HML.out).mono ?_
            rintro e w9 ⟨rfl, q9, rfl⟩
            go_wp2
            go_ret
            exact ⟨rfl, below_dN HB8.out _⟩
end Go.Proofs.Ytgkjkjpeolhgbaa
