/- The contracts of Has, TakeAt and Give. -/
import Derived.Test.YtfjphlickpgbnaaBz
namespace Go.Proofs.Ytfjphlickpgbnaa
variable {Xc : Nat → Prop}
open Go.RowKit

theorem memX_some {x : Int} {l : List Nat} (h : memX x l = true) : ∃ y : Nat, x = y ∧ y ∈ l := by
  unfold memX nint at h
  rw [List.contains_iff_mem, List.mem_map] at h
  obtain ⟨y, hy, e⟩ := h
  exact ⟨y, e.symm, hy⟩
theorem two_zpow (k : Nat) : ((2 : Int) ^ k) = ((2 ^ k : Nat) : Int) := by simp
section
variable {F : List Bool} {L : Nat → List Nat}
theorem hasB_yes (hG : Good F L) {f : Int} {j : Nat} (hj : j ≤ 8) (h : memX (dnZ f j) (L j) = true) : hasB F f = true := by
  obtain ⟨y, e, hy⟩ := memX_some h
  have hm := (hG.mem j hj y).1 hy
  have hp := two_pos j
  unfold dnZ at e
  rw [two_zpow] at e
  have h1 : 0 ≤ f % ((2 ^ j : Nat) : Int) := Int.emod_nonneg _ (by omega)
  have h2 : f % ((2 ^ j : Nat) : Int) < ((2 ^ j : Nat) : Int) := Int.emod_lt_of_pos _ (by omega)
  have h3 := hm.2.1.2 f.toNat (by omega) (by omega)
  unfold hasB
  rw [h3]
  simp; omega
theorem hasB_no (hG : Good F L) {f : Int} (h : ∀ j : Nat, 0 ≤ j → j ≤ 8 → memX (dnZ f j) (L j) = false) : hasB F f = false := by
  rw [← Bool.not_eq_true]
  intro hh
  unfold hasB at hh
  rw [Bool.and_eq_true, decide_eq_true_eq] at hh
  obtain ⟨x, rfl⟩ : ∃ x : Nat, f = x := ⟨f.toNat, by omega⟩
  have hx : F[x]? = some true := by simpa using hh.2
  have hf : Fre F x 0 := ⟨Nat.mod_one x, fun i h1 h2 => by rw [Nat.pow_zero] at h2; rw [show i = x by omega]; exact hx⟩
  obtain ⟨j, _, hj, hm⟩ := fre_dn hG (by omega) hf
  have := h j (Nat.zero_le _) hj
  rw [dnZ_nat, memX_nat] at this
  simp [hm] at this
end
section
variable {w : World} {B a n : Nat} {L : Nat → List Nat} {F : List Bool}
theorem has_nil (f : Int) (w : World) : Calls Try.prog 44 #[.pointer none, .int .i64 f] w fun e w' => e = .returned (.bool false) ∧ w = w' := by
  go_enter Try.func44, Try.ntmps44
  go_wp2
  go_ret
  exact ⟨rfl, rfl⟩
theorem has_frame (h : BudAt Xc B w a n L) (hG : Good F L) (hn : F.length ≤ 1024) (f : Int) (hl : -9223372036854775808 ≤ f) (hh : f ≤ 9223372036854775807) :
    Calls Try.prog 44 #[.pointer (some ⟨a, 0, none⟩), .int .i64 f] w fun e w' => e = .returned (.bool (hasB F f)) ∧ Below w.heap.size w w' := by
  have hA := around_any h (hG.fine hn) f (k := 0) (by omega) hl hh
  have HG := Lib.hid hG
  clear h hG
  go_enter Try.func44, Try.ntmps44
  go_wp2_with fail
  refine Calls.mono hA ?_
  rintro e w2 ⟨hb, ⟨j, _, hj, hm, rfl⟩ | ⟨hm, rfl⟩⟩
  · have HE := Lib.hid (hasB_yes HG.out hj hm)
    clear hm
    have HB := Lib.hid hb
    clear hb
    go_wp2
    go_ret
    exact ⟨ret_bool HE.out.symm, HB.out.alloc HB.out.size _⟩
  · have HE := Lib.hid (hasB_no HG.out hm)
    clear hm
    have HB := Lib.hid hb
    clear hb
    go_wp2
    go_ret
    exact ⟨ret_bool HE.out.symm, HB.out.alloc HB.out.size _⟩
/-- A change: what it answers, and the frames behind it. -/
def Chg (Xc : Nat → Prop) (B a n : Nat) (E : Int) (G : List Bool) (w : World) (e : Ending) (w' : World) : Prop := e = .returned (.int .i64 E) ∧ Turn Xc B w w' ∧ ∃ L', BudAt Xc B w' a n L' ∧ Good G L'
theorem takeAt_nil (f o : Int) (w : World) : Calls Try.prog 37 #[.pointer none, .int .i64 f, .int .i64 o] w fun e w' => e = .returned (.int .i64 1) ∧ ∃ q, w' = w.drewN q := by
  go_enter Try.func37, Try.ntmps37
  go_wp2_with (go_at_call 56; refine (check_nil _ _ _).mono ?_; rintro e w' ⟨rfl, q, rfl⟩)
  go_ret
  exact ⟨rfl, _, rfl⟩
theorem give_nil (f o : Int) (w : World) : Calls Try.prog 42 #[.pointer none, .int .i64 f, .int .i64 o] w fun e w' => e = .returned (.int .i64 1) ∧ ∃ q, w' = w.drewN q := by
  go_enter Try.func42, Try.ntmps42
  go_wp2_with (go_at_call 56; refine (check_nil _ _ _).mono ?_; rintro e w' ⟨rfl, q, rfl⟩)
  go_ret
  exact ⟨rfl, _, rfl⟩
theorem takeAt_any (h : BudAt Xc B w a n L) (hG : Good F L) (hn : F.length = n) (h10 : n ≤ 1024) (f o : Int) (hl : -9223372036854775808 ≤ f) (hh : f ≤ 9223372036854775807) :
    Calls Try.prog 37 #[.pointer (some ⟨a, 0, none⟩), .int .i64 f, .int .i64 o] w (Chg Xc B a n (chE F f o false) (chL F f o false) w) := by
  have hC := check_any h h10 f o hl hh
  by_cases hk : ckE n f o = 0
  · obtain ⟨x, k, rfl, rfl, hk8, hal, hfit⟩ := ckE_ok hk
    have hce : chE F x k false = (if allB F x (2 ^ k) true = true then 0 else 12) := chE_good false (by rw [hn]; exact hk)
    rw [hk] at hC
    have HX := Lib.hid h
    have HG := Lib.hid hG
    have HN := Lib.hid hn
    have HCE := Lib.hid hce
    clear h hG hk hce hn
    go_enter Try.func37, Try.ntmps37
    go_wp2_with fail
    refine Calls.mono hC ?_
    rintro e w1 ⟨rfl, q, hq⟩
    have HX1 : Hid (BudAt Xc B w1 a n L) := by
      rw [hq]; exact HX.out.drewN q
    have HT1 : Hid (Turn Xc B w w1) := by
      rw [hq]; exact (Turn.refl B w).drewN q
    clear hq
    go_wp2_with fail
    have hA := around_any (HX1.out.alloc (.cells #[.int .i64 x, .int .i64 k] 53)) (HG.out.fine (by rw [HN.out]; exact h10)) x hk8 hl hh
    refine Calls.mono hA ?_
    rintro e w2 ⟨hb, ⟨j, hkj, hj, hm, rfl⟩ | ⟨hm, rfl⟩⟩
    · have hP : Part F x k (dn x j) j := part_dn HG.out hkj hj hal (by rw [dnZ_nat, memX_nat] at hm; simpa using hm)
      have hmem : dn x j ∈ L j := by rw [dnZ_nat, memX_nat] at hm; simpa using hm
      have HE : Hid (0 = chE F x k false) := by
        show _ = _
        rw [HCE.out, if_pos (allB_iff.2 hP.free.2)]
      have HL : Hid (chL F x k false = setR F x (2 ^ k) false) := by
        show _ = _
        have := chL_of (F := F) (f := x) (o := k) (v := false) HE.out.symm
        simpa using this
      have HX2 := Lib.hid ((HX1.out.alloc (.cells #[.int .i64 x, .int .i64 k] 53)).call hb)
      have HT2 := Lib.hid ((HT1.out.alloc HX1.out.lo (.cells #[.int .i64 x, .int .i64 k] 53)).trans (Turn.of_below hb (by have := HX1.out.lo; simp; omega)))
      have hr := (Lrow.new w1 53 [.int .i64 x, .int .i64 k]).call hb
      have c0 := hr.cell 0
      have c1 := hr.cell 1
      have hlt := hr.lt
      have hne : ¬ w1.heap.size = w2.heap.size := by omega
      have HM := Lib.hid hmem
      have HP := Lib.hid hP
      rw [dnZ_nat]
      clear hA hb hm hP hmem hr
      go_wp2_with fail
      refine Calls.mono (carve_any (HX2.out.alloc _) HG.out (by rw [HN.out]; exact h10) HP.out HM.out) ?_
      rintro e w3 ⟨rfl, ht3, L3, hx3, hg3⟩
      have HX3 := Lib.hid hx3
      have HG3 := Lib.hid hg3
      have HT3 := Lib.hid ((HT2.out.alloc HX2.out.lo _).trans ht3)
      clear ht3 hx3 hg3
      go_wp2
      go_ret
      exact ⟨ret_int HE.out, HT3.out, _, HX3.out, by rw [HL.out]; exact HG3.out⟩
    · have HE : Hid (12 = chE F x k false) := by
        show _ = _
        rw [HCE.out, if_neg]
        rw [allB_iff]
        intro hq
        obtain ⟨j, h1, h2, h3⟩ := fre_dn HG.out hk8 ⟨hal, hq⟩
        have := hm j h1 h2
        rw [dnZ_nat, memX_nat] at this
        simp [h3] at this
      have HL : Hid (chL F x k false = F) := by
        show _ = _
        unfold chL
        rw [← HE.out, if_neg (by decide)]
      have HX2 := Lib.hid ((HX1.out.alloc (.cells #[.int .i64 x, .int .i64 k] 53)).call hb)
      have HT2 := Lib.hid ((HT1.out.alloc HX1.out.lo (.cells #[.int .i64 x, .int .i64 k] 53)).trans (Turn.of_below hb (by have := HX1.out.lo; simp; omega)))
      clear hA hb hm
      go_wp2
      go_ret
      exact ⟨ret_int HE.out, HT2.out.alloc HX2.out.lo _, _, HX2.out.alloc _, by rw [HL.out]; exact HG.out⟩
  · obtain ⟨e1, e2⟩ := chE_bad false (by rw [hn]; exact hk)
    rw [e1, e2, hn]
    have hk' : (ckE n f o != 0) = true := by simpa using hk
    have HX := Lib.hid h
    have HG := Lib.hid hG
    clear h hG hk e1 e2 hn
    generalize ckE n f o = E at hC hk' ⊢
    go_enter Try.func37, Try.ntmps37
    go_wp2_with (go_at_call 56; refine hC.mono ?_; rintro e w' ⟨rfl, q, rfl⟩)
    go_ret
    exact ⟨rfl, (Turn.refl B w).drewN _, _, HX.out.drewN _, HG.out⟩
end
end Go.Proofs.Ytfjphlickpgbnaa
