/- The contracts of Has, TakeAt and Give. -/
import Derived.Test.YtklhcgekagimkaaGreatMg11
import Derived.Deep.MidRow
namespace Go.Proofs.YtklhcgekagimkaaGreat
variable {Xc : Nat → Prop}
open Go.RowKit

theorem memX_some {x : Int} {l : List Nat} (h : memX x l = true) : ∃ y : Nat, x = y ∧ y ∈ l := by
  unfold memX nint at h
  rw [List.contains_iff_mem, List.mem_map] at h
  obtain ⟨y, hy, e⟩ := h
  exact ⟨y, e.symm, hy⟩
theorem two_zpow (k : Nat) : ((2 : Int) ^ k) = ((2 ^ k : Nat) : Int) := by simp
section
variable {F : List Bool} {L : Nat → List Nat}
theorem hasB_yes (hG : Good F L) {f : Int} {j : Nat} (hj : j ≤ 8) (h : memX (dnZ f j) (L j) = true) : hasB F f = true := by
  obtain ⟨y, e, hy⟩ := memX_some h
  have hm := (hG.mem j hj y).1 hy
  have hp := two_pos j
  unfold dnZ at e
  rw [two_zpow] at e
  have h1 : 0 ≤ f % ((2 ^ j : Nat) : Int) := Int.emod_nonneg _ (by omega)
  have h2 : f % ((2 ^ j : Nat) : Int) < ((2 ^ j : Nat) : Int) := Int.emod_lt_of_pos _ (by omega)
  have h3 := hm.2.1.2 f.toNat (by omega) (by omega)
  unfold hasB
  rw [h3]
  simp; omega
theorem hasB_no (hG : Good F L) {f : Int} (h : ∀ j : Nat, 0 ≤ j → j ≤ 8 → memX (dnZ f j) (L j) = false) : hasB F f = false := by
  rw [← Bool.not_eq_true]
  intro hh
  unfold hasB at hh
  rw [Bool.and_eq_true, decide_eq_true_eq] at hh
  obtain ⟨x, rfl⟩ : ∃ x : Nat, f = x := ⟨f.toNat, by omega⟩
  have hx : F[x]? = some true := by simpa using hh.2
  have hf : Fre F x 0 := ⟨Nat.mod_one x, fun i h1 h2 => by rw [Nat.pow_zero] at h2; rw [show i = x by omega]; exact hx⟩
  obtain ⟨j, _, hj, hm⟩ := fre_dn hG (by omega) hf
  have := h j (Nat.zero_le _) hj
  rw [dnZ_nat, memX_nat] at this
  simp [hm] at this
end
section
variable {w : World} {B a n : Nat} {L : Nat → List Nat} {F : List Bool}
theorem has_nil (f : Int) (w : World) : Calls Tryz.prog 84 #[.pointer none, .int .i64 f] w fun e w' => e = .returned (.bool false) ∧ w = w' := by
  go_enter Tryz.func84, Tryz.ntmps84
  go_wp2
  go_ret
  exact ⟨rfl, rfl⟩
theorem has_frame (h : BudAt Xc B w a n L) (hG : Good F L) (hn : F.length ≤ 1024) (f : Int) (hl : -9223372036854775808 ≤ f) (hh : f ≤ 9223372036854775807) :
    Calls Tryz.prog 84 #[.pointer (some ⟨a, 0, none⟩), .int .i64 f] w fun e w' => e = .returned (.bool (hasB F f)) ∧ Below w.heap.size w w' := by
  have hA := around_any h (hG.fine hn) f (k := 0) (by omega) hl hh
  have HG := Lib.hid hG
  clear h hG
  go_enter Tryz.func84, Tryz.ntmps84
  go_wp2_with fail
  refine Calls.mono hA ?_
  rintro e w2 ⟨hb, ⟨j, _, hj, hm, rfl⟩ | ⟨hm, rfl⟩⟩
  · have HE := Lib.hid (hasB_yes HG.out hj hm)
    clear hm
    have HB := Lib.hid hb
    clear hb
    go_wp2
    go_ret
    exact ⟨ret_bool HE.out.symm, HB.out.alloc HB.out.size _⟩
  · have HE := Lib.hid (hasB_no HG.out hm)
    clear hm
    have HB := Lib.hid hb
    clear hb
    go_wp2
    go_ret
    exact ⟨ret_bool HE.out.symm, HB.out.alloc HB.out.size _⟩
/-- A change: what it answers, and the frames behind it. -/
def Chg (Xc : Nat → Prop) (B a n : Nat) (E : Int) (G : List Bool) (w : World) (e : Ending) (w' : World) : Prop := e = .returned (.int .i64 E) ∧ Turn Xc B w w' ∧ ∃ L', BudAt Xc B w' a n L' ∧ Good G L'
theorem takeAt_nil (f o : Int) (w : World) : Calls Tryz.prog 93 #[.pointer none, .int .i64 f, .int .i64 o] w fun e w' => e = .returned (.int .i64 1) ∧ ∃ q, w' = w.drewN q := by
  go_enter Tryz.func93, Tryz.ntmps93
  go_wp2_with (go_at_call 107; refine (check_nil _ _ _).mono ?_; rintro e w' ⟨rfl, q, rfl⟩)
  go_ret
  exact ⟨rfl, _, rfl⟩
theorem give_nil (f o : Int) (w : World) : Calls Tryz.prog 85 #[.pointer none, .int .i64 f, .int .i64 o] w fun e w' => e = .returned (.int .i64 1) ∧ ∃ q, w' = w.drewN q := by
  go_enter Tryz.func85, Tryz.ntmps85
  go_wp2_with (go_at_call 107; refine (check_nil _ _ _).mono ?_; rintro e w' ⟨rfl, q, rfl⟩)
  go_ret
  exact ⟨rfl, _, rfl⟩
theorem takeAt_any (h : BudAt Xc B w a n L) (hG : Good F L) (hn : F.length = n) (h10 : n ≤ 1024) (f o : Int) (hl : -9223372036854775808 ≤ f) (hh : f ≤ 9223372036854775807) :
    Calls Tryz.prog 93 #[.pointer (some ⟨a, 0, none⟩), .int .i64 f, .int .i64 o] w (Chg Xc B a n (chE F f o false) (chL F f o false) w) := by
  have hC := check_any h h10 f o hl hh
  by_cases hk : ckE n f o = 0
  · obtain ⟨x, k, rfl, rfl, hk8, hal, hfit⟩ := ckE_ok hk
    have hce : chE F x k false = (if allB F x (2 ^ k) true = true then 0 else 12) := chE_good false (by rw [hn]; exact hk)
    rw [hk] at hC
    have HX := Lib.hid h
    have HG := Lib.hid hG
    have HN := Lib.hid hn
    have HCE := Lib.hid hce
    clear h hG hk hce hn
    go_enter Tryz.func93, Tryz.ntmps93
    go_wp2_with fail
    refine Calls.mono hC ?_
    rintro e w1 ⟨rfl, q, hq⟩
    have HX1 : Hid (BudAt Xc B w1 a n L) := by
      rw [hq]; exact HX.out.drewN q
    have HT1 : Hid (Turn Xc B w w1) := by
      rw [hq]; exact (Turn.refl B w).drewN q
    clear hq
    go_wp2_with fail
    have hA := around_any (HX1.out.alloc (.cells #[.int .i64 x, .int .i64 k] 92)) (HG.out.fine (by rw [HN.out]; exact h10)) x hk8 hl hh
    refine Calls.mono hA ?_
    rintro e w2 ⟨hb, ⟨j, hkj, hj, hm, rfl⟩ | ⟨hm, rfl⟩⟩
    · have hP : Part F x k (dn x j) j := part_dn HG.out hkj hj hal (by rw [dnZ_nat, memX_nat] at hm; simpa using hm)
      have hmem : dn x j ∈ L j := by rw [dnZ_nat, memX_nat] at hm; simpa using hm
      have HE : Hid (0 = chE F x k false) := by
        show _ = _
        rw [HCE.out, if_pos (allB_iff.2 hP.free.2)]
      have HL : Hid (chL F x k false = setR F x (2 ^ k) false) := by
        show _ = _
        have := chL_of (F := F) (f := x) (o := k) (v := false) HE.out.symm
        simpa using this
      have HX2 := Lib.hid ((HX1.out.alloc (.cells #[.int .i64 x, .int .i64 k] 92)).call hb)
      have HT2 := Lib.hid ((HT1.out.alloc HX1.out.lo (.cells #[.int .i64 x, .int .i64 k] 92)).trans (Turn.of_below hb (by have := HX1.out.lo; simp; omega)))
      have hr := (Lrow.new w1 92 [.int .i64 x, .int .i64 k]).call hb
      have c0 := hr.cell 0
      have c1 := hr.cell 1
      have hlt := hr.lt
      have hne : ¬ w1.heap.size = w2.heap.size := by omega
      have HM := Lib.hid hmem
      have HP := Lib.hid hP
      rw [dnZ_nat]
      clear hA hb hm hP hmem hr
      go_wp2_with fail
      refine Calls.mono (carve_any (HX2.out.alloc _) HG.out (by rw [HN.out]; exact h10) HP.out HM.out) ?_
      rintro e w3 ⟨rfl, ht3, L3, hx3, hg3⟩
      have HX3 := Lib.hid hx3
      have HG3 := Lib.hid hg3
      have HT3 := Lib.hid ((HT2.out.alloc HX2.out.lo _).trans ht3)
      clear ht3 hx3 hg3
      go_wp2
      go_ret
      exact ⟨ret_int HE.out, HT3.out, _, HX3.out, by rw [HL.out]; exact HG3.out⟩
    · have HE : Hid (12 = chE F x k false) := by
        show _ = _
        rw [HCE.out, if_neg]
        rw [allB_iff]
        intro hq
        obtain ⟨j, h1, h2, h3⟩ := fre_dn HG.out hk8 ⟨hal, hq⟩
        have := hm j h1 h2
        rw [dnZ_nat, memX_nat] at this
        simp [h3] at this
      have HL : Hid (chL F x k false = F) := by
        show _ = _
        unfold chL
        rw [← HE.out, if_neg (by decide)]
      have HX2 := Lib.hid ((HX1.out.alloc (.cells #[.int .i64 x, .int .i64 k] 92)).call hb)
      have HT2 := Lib.hid ((HT1.out.alloc HX1.out.lo (.cells #[.int .i64 x, .int .i64 k] 92)).trans (Turn.of_below hb (by have := HX1.out.lo; simp; omega)))
      clear hA hb hm
      go_wp2
      go_ret
      exact ⟨ret_int HE.out, HT2.out.alloc HX2.out.lo _, _, HX2.out.alloc _, by rw [HL.out]; exact HG.out⟩
  · obtain ⟨e1, e2⟩ := chE_bad false (by rw [hn]; exact hk)
    rw [e1, e2, hn]
    have hk' : (ckE n f o != 0) = true := by simpa using hk
    have HX := Lib.hid h
    have HG := Lib.hid hG
    clear h hG hk e1 e2 hn
    generalize ckE n f o = E at hC hk' ⊢
    go_enter Tryz.func93, Tryz.ntmps93
    go_wp2_with (go_at_call 107; refine hC.mono ?_; rintro e w' ⟨rfl, q, rfl⟩)
    go_ret
    exact ⟨rfl, (Turn.refl B w).drewN _, _, HX.out.drewN _, HG.out⟩
end
end Go.Proofs.YtklhcgekagimkaaGreat
/- The contract of Give. -/
namespace Go.Proofs.YtklhcgekagimkaaGreat
variable {Xc : Nat → Prop}
open Go.RowKit
section
variable {w : World} {B a n : Nat} {L : Nat → List Nat} {F : List Bool}
theorem give_any (h : BudAt Xc B w a n L) (hG : Good F L) (hn : F.length = n) (h10 : n ≤ 1024) (f o : Int) (hl : -9223372036854775808 ≤ f) (hh : f ≤ 9223372036854775807) :
    Calls Tryz.prog 85 #[.pointer (some ⟨a, 0, none⟩), .int .i64 f, .int .i64 o] w (Chg Xc B a n (chE F f o true) (chL F f o true) w) := by
  have hC := check_any h h10 f o hl hh
  by_cases hk : ckE n f o = 0
  · obtain ⟨x, k, rfl, rfl, hk8, hal, hfit⟩ := ckE_ok hk
    have hce : chE F x k true = (if allB F x (2 ^ k) false = true then 0 else 12) := chE_good true (by rw [hn]; exact hk)
    rw [hk] at hC
    have HX := Lib.hid h
    have HG := Lib.hid hG
    have HN := Lib.hid hn
    have HCE := Lib.hid hce
    clear h hG hk hce hn
    go_enter Tryz.func85, Tryz.ntmps85
    go_wp2_with fail
    refine Calls.mono hC ?_
    rintro e w1 ⟨rfl, q, hq⟩
    have HX1 : Hid (BudAt Xc B w1 a n L) := by
      rw [hq]; exact HX.out.drewN q
    have HT1 : Hid (Turn Xc B w w1) := by
      rw [hq]; exact (Turn.refl B w).drewN q
    clear hq
    obtain ⟨M, hM⟩ : ∃ M : Nat, M = 2 ^ k := ⟨_, rfl⟩
    have hM1 : 1 ≤ M := by rw [hM]; exact two_pos k
    have hM2 : M ≤ 256 := by rw [hM]; exact Nat.pow_le_pow_right (by omega : 0 < 2) hk8
    have hxM : x + M ≤ n := by rw [hM]; exact hfit
    have hsv : Value.int .i64 (wrap64 (2 ^ k)) = Value.int .i64 (M : Int) := by
      rw [two_zpow, ← hM]; congr 1; unfold wrap64; omega
    have HM := Lib.hid hM
    have HS := Lib.hid hsv
    clear hM hfit hsv
    go_wp2_with fail
    rw [HS.out]
    go_loopw [18] (fun s wr => ∃ i : Nat, i ≤ M ∧ s = .int .i64 i ∧ (∀ j, j < i → F[x + j]? = some false) ∧ BudAt Xc B wr a n L ∧ Turn Xc B w wr) (fun s _ => M - (intOf s).toNat)
    case atStart => exact ⟨0, Nat.zero_le _, rfl, fun j hj => by omega, HX1.out, HT1.out⟩
    case round =>
      obtain ⟨i, hi, rfl, hq, hx, ht⟩ := hrel
      have HQ := Lib.hid hq
      have HXr := Lib.hid hx
      have HTr := Lib.hid ht
      clear hq hx ht
      by_cases hlt : i < M
      · have hF := has_frame HXr.out HG.out (by rw [HN.out]; exact h10) ((x : Int) + i) (by omega) (by omega)
        have hlo := HXr.out.lo
        cases hv : hasB F ((x : Int) + i) with
        | true =>
          rw [hv] at hF
          have HE : Hid (12 = chE F x k true) := by
            show _ = _
            rw [HCE.out, if_neg]
            rw [allB_iff]
            intro ha
            have h1 := ha (x + i) (by omega) (by rw [← HM.out]; omega)
            unfold hasB at hv
            rw [show ((x : Int) + i).toNat = x + i by omega, h1] at hv
            simp at hv
          have HL : Hid (chL F x k true = F) := by
            show _ = _
            unfold chL
            rw [← HE.out, if_neg (by decide)]
          clear hv
          go_wp2_with (go_at_call 84; refine hF.mono ?_; rintro e w2 ⟨rfl, hb⟩; have HB := Lib.hid hb; clear hb)
          go_ret
          exact ⟨ret_int HE.out, HTr.out.trans (Turn.of_below HB.out hlo), _, HXr.out.call HB.out, by rw [HL.out]; exact HG.out⟩
        | false =>
          rw [hv] at hF
          have HV : Hid (F[x + i]? = some false) := by
            show _ = _
            have hlF : x + i < F.length := by rw [HN.out]; omega
            unfold hasB at hv
            rw [show ((x : Int) + i).toNat = x + i by omega, List.getElem?_eq_getElem hlF] at hv
            rw [List.getElem?_eq_getElem hlF]
            cases hb : F[x + i] with
            | true => rw [hb] at hv; simp at hv; omega
            | false => rfl
          clear hv
          go_wp2_with (go_at_call 84; refine hF.mono ?_; rintro e w2 ⟨rfl, hb⟩; have HB := Lib.hid hb; clear hb)
          go_roundw
          case rel => exact ⟨i + 1, by omega, by go_num, fun j hj => by
              rcases Nat.lt_or_ge j i with g | g
              · exact HQ.out j g
              · rw [show j = i by omega]; exact HV.out, HXr.out.call HB.out, HTr.out.trans (Turn.of_below HB.out hlo)⟩
          case measure => simp [intOf]; omega
      · have hall : Alq F x (2 ^ k) false := fun j h1 h2 => by
          rw [← HM.out] at h2
          have := HQ.out (j - x) (by omega)
          rwa [show x + (j - x) = j by omega] at this
        have HE : Hid (0 = chE F x k true) := by
          show _ = _
          rw [HCE.out, if_pos (allB_iff.2 hall)]
        have hL : chL F x k true = setR F x (2 ^ k) true := by
          have := chL_of (F := F) (f := x) (o := k) (v := true) HE.out.symm
          simpa using this
        have hJ : Join (chL F x k true) F x k := ⟨hk8, hal, by rw [HN.out, ← HM.out]; exact hxM, hall, hL.symm⟩
        have HJ := Lib.hid hJ
        clear hall hL hJ
        go_wp2_with fail
        refine Calls.mono (join_any HXr.out HG.out (by rw [chL_length, HN.out]; exact h10) HJ.out) ?_
        rintro e w2 ⟨rfl, ht2, L2, hx2, hg2⟩
        have HX2 := Lib.hid hx2
        have HG2 := Lib.hid hg2
        have HT2 := Lib.hid (HTr.out.trans ht2)
        clear ht2 hx2 hg2
        go_wp2
        go_ret
        exact ⟨ret_int HE.out, HT2.out, _, HX2.out, HG2.out⟩
  · obtain ⟨e1, e2⟩ := chE_bad true (by rw [hn]; exact hk)
    rw [e1, e2, hn]
    have hk' : (ckE n f o != 0) = true := by simpa using hk
    have HX := Lib.hid h
    have HG := Lib.hid hG
    clear h hG hk e1 e2 hn
    generalize ckE n f o = E at hC hk' ⊢
    go_enter Tryz.func85, Tryz.ntmps85
    go_wp2_with (go_at_call 107; refine hC.mono ?_; rintro e w' ⟨rfl, q, rfl⟩)
    go_ret
    exact ⟨rfl, (Turn.refl B w).drewN _, _, HX.out.drewN _, HG.out⟩
end
end Go.Proofs.YtklhcgekagimkaaGreat
/- The contracts of Free and Greatest. -/
namespace Go.Proofs.YtklhcgekagimkaaGreat
variable {Xc : Nat → Prop}
open Go.RowKit
section
variable {w : World} {B a n : Nat} {L : Nat → List Nat} {F : List Bool}
theorem orB_nat {k : Nat} (hk : k ≤ 8) : orB k = true := by simp [orB]; omega
theorem idx0 (v0 v1 v2 v3 v4 v5 v6 v7 v8 : Value) (w : World) : (Instr.index 130 (.agg #[v0, v1, v2, v3, v4, v5, v6, v7, v8]) (.int .i64 0)).run Tryz.prog w = .ok v0 w := by kernel_rfl
theorem idx1 (v0 v1 v2 v3 v4 v5 v6 v7 v8 : Value) (w : World) : (Instr.index 130 (.agg #[v0, v1, v2, v3, v4, v5, v6, v7, v8]) (.int .i64 1)).run Tryz.prog w = .ok v1 w := by kernel_rfl
theorem idx2 (v0 v1 v2 v3 v4 v5 v6 v7 v8 : Value) (w : World) : (Instr.index 130 (.agg #[v0, v1, v2, v3, v4, v5, v6, v7, v8]) (.int .i64 2)).run Tryz.prog w = .ok v2 w := by kernel_rfl
theorem idx3 (v0 v1 v2 v3 v4 v5 v6 v7 v8 : Value) (w : World) : (Instr.index 130 (.agg #[v0, v1, v2, v3, v4, v5, v6, v7, v8]) (.int .i64 3)).run Tryz.prog w = .ok v3 w := by kernel_rfl
theorem idx4 (v0 v1 v2 v3 v4 v5 v6 v7 v8 : Value) (w : World) : (Instr.index 130 (.agg #[v0, v1, v2, v3, v4, v5, v6, v7, v8]) (.int .i64 4)).run Tryz.prog w = .ok v4 w := by kernel_rfl
theorem idx5 (v0 v1 v2 v3 v4 v5 v6 v7 v8 : Value) (w : World) : (Instr.index 130 (.agg #[v0, v1, v2, v3, v4, v5, v6, v7, v8]) (.int .i64 5)).run Tryz.prog w = .ok v5 w := by kernel_rfl
theorem idx6 (v0 v1 v2 v3 v4 v5 v6 v7 v8 : Value) (w : World) : (Instr.index 130 (.agg #[v0, v1, v2, v3, v4, v5, v6, v7, v8]) (.int .i64 6)).run Tryz.prog w = .ok v6 w := by kernel_rfl
theorem idx7 (v0 v1 v2 v3 v4 v5 v6 v7 v8 : Value) (w : World) : (Instr.index 130 (.agg #[v0, v1, v2, v3, v4, v5, v6, v7, v8]) (.int .i64 7)).run Tryz.prog w = .ok v7 w := by kernel_rfl
theorem idx8 (v0 v1 v2 v3 v4 v5 v6 v7 v8 : Value) (w : World) : (Instr.index 130 (.agg #[v0, v1, v2, v3, v4, v5, v6, v7, v8]) (.int .i64 8)).run Tryz.prog w = .ok v8 w := by kernel_rfl
theorem sumL_mono (L : Nat → List Nat) {j k : Nat} (h : j ≤ k) : sumL L j ≤ sumL L k := by
  induction k with
  | zero => rw [show j = 0 by omega]; exact Nat.le_refl _
  | succ k ih =>
    by_cases hj : j = k + 1
    · rw [hj]; exact Nat.le_refl _
    · have := ih (by omega)
      simp only [sumL]
      omega
theorem foldl_max (l : List (Nat × Nat)) : ∀ (z : Int), z ≤ l.foldl (fun k x => max k (x.2 : Int)) z ∧ (∀ x ∈ l, (x.2 : Int) ≤ l.foldl (fun k x => max k (x.2 : Int)) z) ∧ (l.foldl (fun k x => max k (x.2 : Int)) z = z ∨ ∃ x ∈ l, l.foldl (fun k x => max k (x.2 : Int)) z = x.2) := by
  induction l with
  | nil => intro z; exact ⟨Int.le_refl _, fun x hx => by (cases hx), Or.inl rfl⟩
  | cons y r ih =>
    intro z
    obtain ⟨h1, h2, h3⟩ := ih (max z y.2)
    simp only [List.foldl_cons]
    refine ⟨by omega, fun x hx => ?_, ?_⟩
    · rcases List.mem_cons.1 hx with rfl | hx
      · omega
      · exact h2 x hx
    · rcases h3 with h3 | ⟨x, hx, h3⟩
      · rcases Int.le_total z y.2 with g | g
        · right; exact ⟨y, List.mem_cons_self, by rw [h3]; omega⟩
        · left; rw [h3]; omega
      · right; exact ⟨x, List.mem_cons_of_mem _ hx, h3⟩
theorem grt_of {F : List Bool} {x m : Nat} (h : (x, m) ∈ bk F) (hm : ∀ y ∈ bk F, y.2 ≤ m) : grt F = m := by
  obtain ⟨h1, h2, h3⟩ := foldl_max (bk F) (-1)
  have h4 := h2 (x, m) h
  unfold grt
  rcases h3 with h3 | ⟨y, hy, h3⟩
  · simp only at h4; omega
  · have := hm y hy
    simp only at h4; omega
theorem free_nil (w : World) : Calls Tryz.prog 75 #[.pointer none] w fun e w' => e = .returned (.int .i64 0) ∧ w = w' := by
  go_enter Tryz.func75, Tryz.ntmps75
  go_wp2
  go_ret
  exact ⟨rfl, rfl⟩
theorem blocks_nil (w : World) : Calls Tryz.prog 76 #[.pointer none] w fun e w' => e = .returned (.slice none 0 0) ∧ w = w' := by
  go_enter Tryz.func76, Tryz.ntmps76
  go_wp2
  go_ret
  exact ⟨rfl, rfl⟩
set_option maxRecDepth 100000 in
theorem free_any (h : BudAt Xc B w a n L) (hG : Good F L) (hn : F.length ≤ 1024) :
    Calls Tryz.prog 75 #[.pointer (some ⟨a, 0, none⟩)] w fun e w' => e = .returned (.int .i64 (F.count true : Nat)) ∧ w = w' := by
  obtain ⟨p, c, hX⟩ := h
  have c0 := hX.field (k := 0) (by omega)
  have c1 := hX.field (k := 1) (by omega)
  have c2 := hX.field (k := 2) (by omega)
  have c3 := hX.field (k := 3) (by omega)
  have c4 := hX.field (k := 4) (by omega)
  have c5 := hX.field (k := 5) (by omega)
  have c6 := hX.field (k := 6) (by omega)
  have c7 := hX.field (k := 7) (by omega)
  have c8 := hX.field (k := 8) (by omega)
  have hsum : ∀ k, k < 9 → sumL L k + (L k).length * 2 ^ k ≤ 1024 := fun k hk => by
    have h1 := sumL_mono L (show k + 1 ≤ 9 by omega)
    have h2 := hG.cnt
    have h3 : F.count true ≤ F.length := List.count_le_length
    simp only [sumL] at h1 h2
    omega
  have HC := Lib.hid hG.cnt
  have HS := Lib.hid hsum
  clear hX hsum hG hn
  simp only [Nat.reduceAdd] at c0 c1 c2 c3 c4 c5 c6 c7 c8
  go_enter Tryz.func75, Tryz.ntmps75
  go_wp2
  clear c0 c1 c2 c3 c4 c5 c6 c7 c8
  go_loop [3, 12] (fun s i => ∃ k : Nat, k ≤ 9 ∧ i = .int .i64 k ∧ s = .int .i64 (sumL L k : Nat)) (fun _ i => 9 - (intOf i).toNat)
  case atStart => exact ⟨0, by omega, rfl, rfl⟩
  case round =>
    obtain ⟨k, hk, rfl, rfl⟩ := hrel
    by_cases hlt : k < 9
    · have hs := HS.out k hlt
      have HE := Lib.hid (show ((sumL L (k + 1) : Nat) : Int) = (sumL L k : Nat) + (L k).length * 2 ^ k by simp [sumL])
      have hl : ∃ m, m = sumL L k := ⟨_, rfl⟩
      obtain ⟨m, hm⟩ := hl
      rw [← hm] at hs ⊢
      have HM := Lib.hid hm
      clear hm
      rcases pow9 (show k ≤ 8 by omega) with rfl | rfl | rfl | rfl | rfl | rfl | rfl | rfl | rfl
      · simp only [Nat.reducePow] at hs
        have hx := idx0 (.slice (slA (p 0)) (L 0).length (c 0)) (.slice (slA (p 1)) (L 1).length (c 1)) (.slice (slA (p 2)) (L 2).length (c 2)) (.slice (slA (p 3)) (L 3).length (c 3)) (.slice (slA (p 4)) (L 4).length (c 4)) (.slice (slA (p 5)) (L 5).length (c 5)) (.slice (slA (p 6)) (L 6).length (c 6)) (.slice (slA (p 7)) (L 7).length (c 7)) (.slice (slA (p 8)) (L 8).length (c 8))
        go_wp2
        go_round
        case rel => exact ⟨1, by omega, rfl, by rw [HE.out, ← HM.out, Int.pow_zero, Int.mul_one]⟩
        case measure => simp [intOf]
      · simp only [Nat.reducePow] at hs
        have hx := idx1 (.slice (slA (p 0)) (L 0).length (c 0)) (.slice (slA (p 1)) (L 1).length (c 1)) (.slice (slA (p 2)) (L 2).length (c 2)) (.slice (slA (p 3)) (L 3).length (c 3)) (.slice (slA (p 4)) (L 4).length (c 4)) (.slice (slA (p 5)) (L 5).length (c 5)) (.slice (slA (p 6)) (L 6).length (c 6)) (.slice (slA (p 7)) (L 7).length (c 7)) (.slice (slA (p 8)) (L 8).length (c 8))
        go_wp2
        go_round
        case rel => exact ⟨2, by omega, rfl, by rw [HE.out, ← HM.out]; rfl⟩
        case measure => simp [intOf]
      · simp only [Nat.reducePow] at hs
        have hx := idx2 (.slice (slA (p 0)) (L 0).length (c 0)) (.slice (slA (p 1)) (L 1).length (c 1)) (.slice (slA (p 2)) (L 2).length (c 2)) (.slice (slA (p 3)) (L 3).length (c 3)) (.slice (slA (p 4)) (L 4).length (c 4)) (.slice (slA (p 5)) (L 5).length (c 5)) (.slice (slA (p 6)) (L 6).length (c 6)) (.slice (slA (p 7)) (L 7).length (c 7)) (.slice (slA (p 8)) (L 8).length (c 8))
        go_wp2
        go_round
        case rel => exact ⟨3, by omega, rfl, by rw [HE.out, ← HM.out]; rfl⟩
        case measure => simp [intOf]
      · simp only [Nat.reducePow] at hs
        have hx := idx3 (.slice (slA (p 0)) (L 0).length (c 0)) (.slice (slA (p 1)) (L 1).length (c 1)) (.slice (slA (p 2)) (L 2).length (c 2)) (.slice (slA (p 3)) (L 3).length (c 3)) (.slice (slA (p 4)) (L 4).length (c 4)) (.slice (slA (p 5)) (L 5).length (c 5)) (.slice (slA (p 6)) (L 6).length (c 6)) (.slice (slA (p 7)) (L 7).length (c 7)) (.slice (slA (p 8)) (L 8).length (c 8))
        go_wp2
        go_round
        case rel => exact ⟨4, by omega, rfl, by rw [HE.out, ← HM.out]; rfl⟩
        case measure => simp [intOf]
      · simp only [Nat.reducePow] at hs
        have hx := idx4 (.slice (slA (p 0)) (L 0).length (c 0)) (.slice (slA (p 1)) (L 1).length (c 1)) (.slice (slA (p 2)) (L 2).length (c 2)) (.slice (slA (p 3)) (L 3).length (c 3)) (.slice (slA (p 4)) (L 4).length (c 4)) (.slice (slA (p 5)) (L 5).length (c 5)) (.slice (slA (p 6)) (L 6).length (c 6)) (.slice (slA (p 7)) (L 7).length (c 7)) (.slice (slA (p 8)) (L 8).length (c 8))
        go_wp2
        go_round
        case rel => exact ⟨5, by omega, rfl, by rw [HE.out, ← HM.out]; rfl⟩
        case measure => simp [intOf]
      · simp only [Nat.reducePow] at hs
        have hx := idx5 (.slice (slA (p 0)) (L 0).length (c 0)) (.slice (slA (p 1)) (L 1).length (c 1)) (.slice (slA (p 2)) (L 2).length (c 2)) (.slice (slA (p 3)) (L 3).length (c 3)) (.slice (slA (p 4)) (L 4).length (c 4)) (.slice (slA (p 5)) (L 5).length (c 5)) (.slice (slA (p 6)) (L 6).length (c 6)) (.slice (slA (p 7)) (L 7).length (c 7)) (.slice (slA (p 8)) (L 8).length (c 8))
        go_wp2
        go_round
        case rel => exact ⟨6, by omega, rfl, by rw [HE.out, ← HM.out]; rfl⟩
        case measure => simp [intOf]
      · simp only [Nat.reducePow] at hs
        have hx := idx6 (.slice (slA (p 0)) (L 0).length (c 0)) (.slice (slA (p 1)) (L 1).length (c 1)) (.slice (slA (p 2)) (L 2).length (c 2)) (.slice (slA (p 3)) (L 3).length (c 3)) (.slice (slA (p 4)) (L 4).length (c 4)) (.slice (slA (p 5)) (L 5).length (c 5)) (.slice (slA (p 6)) (L 6).length (c 6)) (.slice (slA (p 7)) (L 7).length (c 7)) (.slice (slA (p 8)) (L 8).length (c 8))
        go_wp2
        go_round
        case rel => exact ⟨7, by omega, rfl, by rw [HE.out, ← HM.out]; rfl⟩
        case measure => simp [intOf]
      · simp only [Nat.reducePow] at hs
        have hx := idx7 (.slice (slA (p 0)) (L 0).length (c 0)) (.slice (slA (p 1)) (L 1).length (c 1)) (.slice (slA (p 2)) (L 2).length (c 2)) (.slice (slA (p 3)) (L 3).length (c 3)) (.slice (slA (p 4)) (L 4).length (c 4)) (.slice (slA (p 5)) (L 5).length (c 5)) (.slice (slA (p 6)) (L 6).length (c 6)) (.slice (slA (p 7)) (L 7).length (c 7)) (.slice (slA (p 8)) (L 8).length (c 8))
        go_wp2
        go_round
        case rel => exact ⟨8, by omega, rfl, by rw [HE.out, ← HM.out]; rfl⟩
        case measure => simp [intOf]
      · simp only [Nat.reducePow] at hs
        have hx := idx8 (.slice (slA (p 0)) (L 0).length (c 0)) (.slice (slA (p 1)) (L 1).length (c 1)) (.slice (slA (p 2)) (L 2).length (c 2)) (.slice (slA (p 3)) (L 3).length (c 3)) (.slice (slA (p 4)) (L 4).length (c 4)) (.slice (slA (p 5)) (L 5).length (c 5)) (.slice (slA (p 6)) (L 6).length (c 6)) (.slice (slA (p 7)) (L 7).length (c 7)) (.slice (slA (p 8)) (L 8).length (c 8))
        go_wp2
        go_round
        case rel => exact ⟨9, by omega, rfl, by rw [HE.out, ← HM.out]; rfl⟩
        case measure => simp [intOf]
    · obtain rfl : k = 9 := by omega
      go_wp2
      go_ret
      exact ⟨ret_int (by rw [HC.out]), rfl⟩
end
end Go.Proofs.YtklhcgekagimkaaGreat
