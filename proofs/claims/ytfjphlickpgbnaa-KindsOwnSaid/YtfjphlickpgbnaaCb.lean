/- The contract of Give. -/
import Derived.Test.YtfjphlickpgbnaaCa
namespace Go.Proofs.Ytfjphlickpgbnaa
variable {Xc : Nat → Prop}
open Go.RowKit
section
variable {w : World} {B a n : Nat} {L : Nat → List Nat} {F : List Bool}
theorem give_any (h : BudAt Xc B w a n L) (hG : Good F L) (hn : F.length = n) (h10 : n ≤ 1024) (f o : Int) (hl : -9223372036854775808 ≤ f) (hh : f ≤ 9223372036854775807) :
    Calls Try.prog 42 #[.pointer (some ⟨a, 0, none⟩), .int .i64 f, .int .i64 o] w (Chg Xc B a n (chE F f o true) (chL F f o true) w) := by
  have hC := check_any h h10 f o hl hh
  by_cases hk : ckE n f o = 0
  · obtain ⟨x, k, rfl, rfl, hk8, hal, hfit⟩ := ckE_ok hk
    have hce : chE F x k true = (if allB F x (2 ^ k) false = true then 0 else 12) := chE_good true (by rw [hn]; exact hk)
    rw [hk] at hC
    have HX := Lib.hid h
    have HG := Lib.hid hG
    have HN := Lib.hid hn
    have HCE := Lib.hid hce
    clear h hG hk hce hn
    go_enter Try.func42, Try.ntmps42
    go_wp2_with fail
    refine Calls.mono hC ?_
    rintro e w1 ⟨rfl, q, hq⟩
    have HX1 : Hid (BudAt Xc B w1 a n L) := by
      rw [hq]; exact HX.out.drewN q
    have HT1 : Hid (Turn Xc B w w1) := by
      rw [hq]; exact (Turn.refl B w).drewN q
    clear hq
    obtain ⟨M, hM⟩ : ∃ M : Nat, M = 2 ^ k := ⟨_, rfl⟩
    have hM1 : 1 ≤ M := by rw [hM]; exact two_pos k
    have hM2 : M ≤ 256 := by rw [hM]; exact Nat.pow_le_pow_right (by omega : 0 < 2) hk8
    have hxM : x + M ≤ n := by rw [hM]; exact hfit
    have hsv : Value.int .i64 (wrap64 (2 ^ k)) = Value.int .i64 (M : Int) := by
      rw [two_zpow, ← hM]; congr 1; unfold wrap64; omega
    have HM := Lib.hid hM
    have HS := Lib.hid hsv
    clear hM hfit hsv
    go_wp2_with fail
    rw [HS.out]
    go_loopw [18] (fun s wr => ∃ i : Nat, i ≤ M ∧ s = .int .i64 i ∧ (∀ j, j < i → F[x + j]? = some false) ∧ BudAt Xc B wr a n L ∧ Turn Xc B w wr) (fun s _ => M - (intOf s).toNat)
    case atStart => exact ⟨0, Nat.zero_le _, rfl, fun j hj => by omega, HX1.out, HT1.out⟩
    case round =>
      obtain ⟨i, hi, rfl, hq, hx, ht⟩ := hrel
      have HQ := Lib.hid hq
      have HXr := Lib.hid hx
      have HTr := Lib.hid ht
      clear hq hx ht
      by_cases hlt : i < M
      · have hF := has_frame HXr.out HG.out (by rw [HN.out]; exact h10) ((x : Int) + i) (by omega) (by omega)
        have hlo := HXr.out.lo
        cases hv : hasB F ((x : Int) + i) with
        | true =>
          rw [hv] at hF
          have HE : Hid (12 = chE F x k true) := by
            show _ = _
            rw [HCE.out, if_neg]
            rw [allB_iff]
            intro ha
            have h1 := ha (x + i) (by omega) (by rw [← HM.out]; omega)
            unfold hasB at hv
            rw [show ((x : Int) + i).toNat = x + i by omega, h1] at hv
            simp at hv
          have HL : Hid (chL F x k true = F) := by
            show _ = _
            unfold chL
            rw [← HE.out, if_neg (by decide)]
          clear hv
          go_wp2_with (go_at_call 44; refine hF.mono ?_; rintro e w2 ⟨rfl, hb⟩; have HB := Lib.hid hb; clear hb)
          go_ret
          exact ⟨ret_int HE.out, HTr.out.trans (Turn.of_below HB.out hlo), _, HXr.out.call HB.out, by rw [HL.out]; exact HG.out⟩
        | false =>
          rw [hv] at hF
          have HV : Hid (F[x + i]? = some false) := by
            show _ = _
            have hlF : x + i < F.length := by rw [HN.out]; omega
            unfold hasB at hv
            rw [show ((x : Int) + i).toNat = x + i by omega, List.getElem?_eq_getElem hlF] at hv
            rw [List.getElem?_eq_getElem hlF]
            cases hb : F[x + i] with
            | true => rw [hb] at hv; simp at hv; omega
            | false => rfl
          clear hv
          go_wp2_with (go_at_call 44; refine hF.mono ?_; rintro e w2 ⟨rfl, hb⟩; have HB := Lib.hid hb; clear hb)
          go_roundw
          case rel => exact ⟨i + 1, by omega, by go_num, fun j hj => by
              rcases Nat.lt_or_ge j i with g | g
              · exact HQ.out j g
              · rw [show j = i by omega]; exact HV.out, HXr.out.call HB.out, HTr.out.trans (Turn.of_below HB.out hlo)⟩
          case measure => simp [intOf]; omega
      · have hall : Alq F x (2 ^ k) false := fun j h1 h2 => by
          rw [← HM.out] at h2
          have := HQ.out (j - x) (by omega)
          rwa [show x + (j - x) = j by omega] at this
        have HE : Hid (0 = chE F x k true) := by
          show _ = _
          rw [HCE.out, if_pos (allB_iff.2 hall)]
        have hL : chL F x k true = setR F x (2 ^ k) true := by
          have := chL_of (F := F) (f := x) (o := k) (v := true) HE.out.symm
          simpa using this
        have hJ : Join (chL F x k true) F x k := ⟨hk8, hal, by rw [HN.out, ← HM.out]; exact hxM, hall, hL.symm⟩
        have HJ := Lib.hid hJ
        clear hall hL hJ
        go_wp2_with fail
        refine Calls.mono (join_any HXr.out HG.out (by rw [chL_length, HN.out]; exact h10) HJ.out) ?_
        rintro e w2 ⟨rfl, ht2, L2, hx2, hg2⟩
        have HX2 := Lib.hid hx2
        have HG2 := Lib.hid hg2
        have HT2 := Lib.hid (HTr.out.trans ht2)
        clear ht2 hx2 hg2
        go_wp2
        go_ret
        exact ⟨ret_int HE.out, HT2.out, _, HX2.out, HG2.out⟩
  · obtain ⟨e1, e2⟩ := chE_bad true (by rw [hn]; exact hk)
    rw [e1, e2, hn]
    have hk' : (ckE n f o != 0) = true := by simpa using hk
    have HX := Lib.hid h
    have HG := Lib.hid hG
    clear h hG hk e1 e2 hn
    generalize ckE n f o = E at hC hk' ⊢
    go_enter Try.func42, Try.ntmps42
    go_wp2_with (go_at_call 56; refine hC.mono ?_; rintro e w' ⟨rfl, q, rfl⟩)
    go_ret
    exact ⟨rfl, (Turn.refl B w).drewN _, _, HX.out.drewN _, HG.out⟩
end
end Go.Proofs.Ytfjphlickpgbnaa
