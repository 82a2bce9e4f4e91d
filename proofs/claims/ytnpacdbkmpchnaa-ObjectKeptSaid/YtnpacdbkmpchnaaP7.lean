/- Objects: ObjectOne, walked. -/
import Derived.Test.YtnpacdbkmpchnaaP6
import Derived.BigQuiet
import Derived.Deep.QuietTactic
namespace Go.Proofs.Ytnpacdbkmpchnaa
open Go.RowKit
set_option maxHeartbeats 4000000 in
set_option maxRecDepth 100000 in
theorem one_walk (I : ObI) (A : Option Addr) (n c : Nat) (w : World) (hA : Acs w w.heap.size A n) :
    Calls Try.prog 3 #[.slice A n c] w fun e w' => e = .returned (.bool true) ∧ Below w.heap.size w w' := by
  obtain ⟨M, hM, hls⟩ := hA.list
  have hm := made_any I A n c w.heap.size M w hM hls (Nat.le_refl _)
  have HBD := Lib.hid (mdE_bnd M)
  generalize (mdE M).1 = H at hm HBD
  generalize (mdE M).2 = L at hm HBD
  clear hA hM hls M
  go_enter Try.func3, Try.ntmps3
  go_wp2_with fail
  refine hm.mono ?_
  rintro e w1 ⟨s, x, rfl, hst, hb⟩
  have HST := Lib.hid hst
  have HB1 := Lib.hid hb
  clear hm hst hb
  go_wp2_with fail
  refine (awake_any I _).mono ?_
  rintro e w2 ⟨rfl, hb2⟩
  have HB2 : Hid (Below w.heap.size w w2) := HB1.out.trans (hb2.mono HB1.out.size)
  obtain ⟨X, vh, vl, h1, h2, h3⟩ := HST.out.call hb2
  obtain ⟨Ah, ch, hv⟩ := h2.hel.form
  obtain ⟨m, hm⟩ : ∃ m, m = H.length := ⟨_, rfl⟩
  rw [← hm] at hv
  subst hv
  have hm60 : m ≤ 60 := by rw [hm]; exact HBD.out.hl
  have hmk : (Instr.makeSlice 28 (.int .i64 1024) (.int .i64 1024)).run Try.prog w2 = .ok (.slice (some ⟨w2.heap.size, 0, none⟩) 1024 1024) (w2.alloc (.cells (madeCells #[.bool false] 1024) 4)) :=
    run_make_row' (P := Try.prog) 28 4 (.bool false) 1 Try.underlying28 info_bool rfl .i64 .i64 1024 (by omega) (by omega) w2
  have HA0 : Hid (OneAt I w.heap.size (w2.alloc (.cells (madeCells #[.bool false] 1024) 4)) s x (.slice Ah m ch) vl H L w2.heap.size (List.replicate 1024 false)) := by
    have := OneAt.new (I := I) HB2.out.size h1 h2 (List.replicate 1024 false)
    rw [← made_bools, Array.toArray_toList] at this
    exact this
  have HB3 : Hid (Below w.heap.size w (w2.alloc (.cells (madeCells #[.bool false] 1024) 4))) := HB2.out.alloc HB2.out.size _
  have HMT : Hid (MetR L ((0 : Nat) : Int) [] (List.replicate 1024 false)) := ⟨List.length_replicate, fun f hf => by
    rw [List.getElem?_replicate] at hf
    split at hf <;> simp at hf⟩
  clear hb2 h1 h2 h3 hm HST
  go_wp2_with fail
  clear hmk HB1
  generalize w2.heap.size = b at HA0 ⊢
  generalize w2.alloc (.cells (madeCells #[.bool false] 1024) 4) = w3 at HA0 HB3 ⊢
  generalize List.replicate 1024 false = M0 at HA0 HMT
  go_loopw [7] (fun i wr => ∃ j : Nat, ∃ M, j ≤ m ∧ i = .int .i64 j ∧ OneAt I w.heap.size wr s x (.slice Ah m ch) vl H L b M ∧ MetR L (j : Int) [] M ∧ Below w.heap.size w wr) (fun i _ => m - (RowKit.intOf i).toNat)
  case atStart => exact ⟨0, M0, by omega, rfl, HA0.out, HMT.out, HB3.out⟩
  case round =>
    obtain ⟨j, M, hj, rfl, hat, hmt, hb⟩ := hrel
    have HBL := Lib.hid hb
    have hj0 : 0 ≤ (j : Int) := by omega
    obtain ⟨X1, h1, h2, h3⟩ := hat
    have c0 := h2.c0
    have HAT := Lib.hid (show OneAt I w.heap.size wr s x (.slice Ah m ch) vl H L b M from ⟨X1, h1, h2, h3⟩)
    have HMR := Lib.hid hmt
    clear HA0 HMT HB3 hb h2 hmt
    by_cases hlt : j < m
    · have hjl : (j : Int) < m := by omega
      have hf : Fits (j : Int) := by unfold Fits; omega
      have hfs := I.frames h1 (HBD.out.mono (by decide)) (j : Int) hf
      unfold ToldI at hfs
      have HLN := Lib.hid (frs_len L (j : Int))
      obtain ⟨r, hr⟩ : ∃ r, r = (frs L (j : Int)).length := ⟨_, rfl⟩
      rw [← hr] at hfs HLN
      have HR := Lib.hid hr
      obtain ⟨D, hD⟩ : ∃ D, D = wr.heap.size := ⟨_, rfl⟩
      have HD := Lib.hid hD
      have HWB : Hid (b < D) := by rw [hD]; exact h3.1.lt
      clear h1 h3 hf hr hD
      go_wp2_with fail
      refine hfs.mono ?_
      rintro e w7 ⟨A7, c7, rfl, ho7, hb7⟩
      have HB7 := Lib.hid (HBL.out.trans (hb7.mono HBL.out.size))
      rw [← HD.out] at ho7
      have HO7 := Lib.hid ho7
      have HA7 := Lib.hid (HAT.out.call hb7)
      have hr4 : r ≤ 1024 := HLN.out
      clear hfs ho7 hb7 HAT c0 HD
      go_wp2_with fail
      go_loopw [9] (fun i wq => ∃ k : Nat, ∃ M, k ≤ r ∧ i = .int .i64 k ∧ OneAt I w.heap.size wq s x (.slice Ah m ch) vl H L b M ∧ MetR L (j : Int) ((frs L (j : Int)).take k) M ∧ EI.Own D wq (.slice A7 r c7) (frs L (j : Int)) ∧ Below w.heap.size w wq) (fun i _ => r - (RowKit.intOf i).toNat)
      case atStart => exact ⟨0, M, by omega, rfl, HA7.out, HMR.out, HO7.out, HB7.out⟩
      case round =>
        obtain ⟨k, M2, hk, rfl, ⟨X2, k1, k2, k3⟩, hmt, ho, hb⟩ := hrel
        have HBQ := Lib.hid hb
        have HOQ := Lib.hid ho
        have HMQ := Lib.hid hmt
        have HAQ := Lib.hid (show OneAt I w.heap.size wr s x (.slice Ah m ch) vl H L b M2 from ⟨X2, k1, k2, k3⟩)
        have hk0 : 0 ≤ (k : Int) := by omega
        clear HA7 HO7 HB7 HMR hb
        by_cases hkr : k < r
        · have hkl : (k : Int) < r := by omega
          have hkL : k < (frs L (j : Int)).length := by have := HR.out; omega
          obtain ⟨f, p, e1, e2, e3, e4, e5, e6, e7, e8, e9, e10, e11⟩ := one_step HBD.out.good hkL hmt
          obtain ⟨g, rfl, hg, hgl, -, hat⟩ := ho.some_ (by omega)
          have HC : Hid (∀ w', Below wr.heap.size wr w' → w'.cell? ⟨g, k, none⟩ = some (.int .i64 f)) := fun w' hb' => by
            have := ((hat k hkL).heap (w' := w') (hb'.block g hgl)) 0 (by decide)
            rw [show k * EI.sz + 0 = k by show k * 1 + 0 = k; omega, e1] at this
            exact this
          have HC1 : Hid (∀ k1 : Nat, k = k1 + 1 → ∃ q : Int, q < f ∧ Fits q ∧ ∀ w', Below wr.heap.size wr w' → w'.cell? ⟨g, k1, none⟩ = some (.int .i64 q)) := fun i hi => by
            subst hi
            have hil : i < (frs L (j : Int)).length := by omega
            refine ⟨(frs L (j : Int))[i], ?_, ?_, fun w' hb' => ?_⟩
            · have := pw_get (frs_up L (j : Int)) (show i < i + 1 by omega) hkL
              omega
            · obtain ⟨y, hy, _, q2⟩ := (frs_mem HBD.out.good).1 (List.getElem_mem hil)
              have := HBD.out.good.rg y hy
              unfold Fits; omega
            · have := ((hat i hil).heap (w' := w') (hb'.block g hgl)) 0 (by decide)
              rw [show i * EI.sz + 0 = i by show i * 1 + 0 = i; omega] at this
              exact this
          have HCM : Hid (∀ w', Below wr.heap.size wr w' → w'.cell? ⟨b, f, none⟩ = some (.bool false) ∧ w'.frozen? ⟨b, f, none⟩ = false) := fun w' hb' => by
            have hr := k3.1.call hb'
            exact ⟨by rw [hr.cell, bcl_get, e10]; rfl, hr.frozen f⟩
          have HM3 := Lib.hid e11
          have HWL : Hid (w.heap.size ≤ b) := k3.2.1
          have c0 := HC.out wr (Below.refl _ _)
          have hf0 : 0 ≤ (f : Int) := by omega
          have hf4 : (f : Int) < 1024 := by omega
          have how := I.owner k1 (HBD.out.mono (by decide)) (f : Int) (by unfold Fits; omega)
          rw [e5, e6, e7] at how
          have HFP : Hid (Fits (j : Int) ∧ Fits p) := ⟨by unfold Fits; omega, by unfold Fits; omega⟩
          have HFV : Hid (frV L (j : Int) p = f ∧ frE L (j : Int) p = 0) := ⟨e8, e9⟩
          have HGB : Hid (g ≠ b) := fun e => by have := HWB.out; omega
          clear k1 k2 k3 hat hgl hg ho hmt e1 e3 e4 e5 e6 e7 e8 e9 e10 e11 hkL
          go_wp2_with fail
          refine how.mono ?_
          rintro e w8 ⟨rfl, hb8⟩
          have HQ8 := Lib.hid hb8
          obtain ⟨X8, k1, k2, k3⟩ := HAQ.out.call hb8
          have hfr := I.frame k1 (HBD.out.mono (by decide)) (j : Int) p HFP.out.1 HFP.out.2
          rw [HFV.out.1, HFV.out.2] at hfr
          clear how hb8 k1 k2 k3 c0
          go_wp2_with fail
          refine hfr.mono ?_
          rintro e w9 ⟨rfl, hb9⟩
          have HQ9 : Hid (Below wr.heap.size wr w9) := HQ8.out.trans (hb9.mono HQ8.out.size)
          have c0 := HC.out _ HQ9.out
          have cm := (HCM.out _ HQ9.out).1
          have cz : ∀ q, (w9.drewN q).cell? ⟨g, k, none⟩ = some (.int .i64 f) := fun q => HC.out _ (below_dN HQ9.out q)
          have cy : ∀ q, (w9.drewN q).cell? ⟨b, f, none⟩ = some (.bool false) ∧ (w9.drewN q).frozen? ⟨b, f, none⟩ = false := fun q => HCM.out _ (below_dN HQ9.out q)
          clear hfr hb9
          have cq : (w9.drewN 1).cell? ⟨g, k, none⟩ = some (.int .i64 f) := cz 1
          by_cases hz : k = 0
          · have d1 : decide ((0 : Int) < k) = false := by simp only [decide_eq_false_iff_not]; omega
            have d2 : ¬ (0 : Int) < k := by omega
            have d3 : decide (0 < k) = false := by simp only [decide_eq_false_iff_not]; omega
            have d4 : ¬ 0 < k := by omega
            clear hz HC1
            go_wp2_with fail
            go_quiet (fail)
            obtain ⟨w10, hw10⟩ : ∃ w10, w10 = w9.drewN nq := ⟨_, rfl⟩
            have HA10 : Hid (OneAt I w.heap.size w10 s x (.slice Ah m ch) vl H L b M2) := by rw [hw10]; exact HAQ.out.call (below_dN HQ9.out nq)
            have HB10 : Hid (Below w.heap.size w w10) := by rw [hw10]; exact HBQ.out.trans ((below_dN HQ9.out nq).mono HBQ.out.size)
            have HO10 : Hid (EI.Own D w10 (.slice (some ⟨g, 0, none⟩) r c7) (frs L (j : Int))) := by rw [hw10]; exact HOQ.out.call (below_dN HQ9.out nq)
            have ca := cz nq
            have cb := (cy nq).1
            have cd := (cy nq).2
            rw [← hw10] at ca cb cd ⊢
            clear hw10 cz cy cq c0 cm
            go_wp2_with fail
            go_roundw
            case rel => exact ⟨k + 1, M2.set f true, by omega, by go_num, HA10.out.store f true, HM3.out, HO10.out.heap (fun gg e => by obtain ⟨vs, rr, hlo⟩ := HO10.out.block e; exact (grown_set w10 b f (.bool true)).block gg rr.lt (fun e2 => by injection e2 with e2; have := HWB.out; omega)), HB10.out.setCell HWL.out _⟩
            case measure => simp [RowKit.intOf]; omega
          · obtain ⟨k1, rfl⟩ : ∃ k1, k = k1 + 1 := ⟨k - 1, by omega⟩
            obtain ⟨q, hq, -, hqc⟩ := HC1.out k1 rfl
            have d1 : decide ((0 : Int) < ((k1 + 1 : Nat) : Int)) = true := by simp only [decide_eq_true_eq]; omega
            have d2 : decide ((f : Int) ≤ q) = false := by simp only [decide_eq_false_iff_not]; omega
            have cp := hqc _ HQ9.out
            have hw : IntKind.i64.wrap (((k1 + 1 : Nat) : Int) - 1) = k1 := by rw [IntWalk.i64_in _ (by omega)]; omega
            clear hz HC1 hqc
            go_wp2_with fail
            go_quiet (fail)
            obtain ⟨w10, hw10⟩ : ∃ w10, w10 = w9.drewN nq := ⟨_, rfl⟩
            have HA10 : Hid (OneAt I w.heap.size w10 s x (.slice Ah m ch) vl H L b M2) := by rw [hw10]; exact HAQ.out.call (below_dN HQ9.out nq)
            have HB10 : Hid (Below w.heap.size w w10) := by rw [hw10]; exact HBQ.out.trans ((below_dN HQ9.out nq).mono HBQ.out.size)
            have HO10 : Hid (EI.Own D w10 (.slice (some ⟨g, 0, none⟩) r c7) (frs L (j : Int))) := by rw [hw10]; exact HOQ.out.call (below_dN HQ9.out nq)
            have ca := cz nq
            have cb := (cy nq).1
            have cd := (cy nq).2
            rw [← hw10] at ca cb cd ⊢
            clear hw10 cz cy cq c0 cm cp hw
            go_wp2_with fail
            go_roundw
            case rel => exact ⟨k1 + 1 + 1, M2.set f true, by omega, by go_num, HA10.out.store f true, HM3.out, HO10.out.heap (fun gg e => by obtain ⟨vs, rr, hlo⟩ := HO10.out.block e; exact (grown_set w10 b f (.bool true)).block gg rr.lt (fun e2 => by injection e2 with e2; have := HWB.out; omega)), HB10.out.setCell HWL.out _⟩
            case measure => simp [RowKit.intOf]; omega
        · have hkl : ¬ (k : Int) < r := by omega
          have HZ : Hid (MetR L ((j + 1 : Nat) : Int) [] M2) := by
            have e : (frs L (j : Int)).take k = frs L (j : Int) := List.take_of_length_le (by have := HR.out; omega)
            rw [e] at hmt
            exact hmt.next HBD.out.good
          clear k1 k2 k3 ho hmt
          go_wp2_with fail
          go_roundw
          case rel => exact ⟨j + 1, M2, by omega, by go_num, HAQ.out, HZ.out, HBQ.out⟩
          case measure => simp [RowKit.intOf]; omega
    · have hjl : ¬ (j : Int) < m := by omega
      clear h1 h3
      go_wp2_with fail
      go_ret
      exact ⟨rfl, HBL.out⟩
end Go.Proofs.Ytnpacdbkmpchnaa
