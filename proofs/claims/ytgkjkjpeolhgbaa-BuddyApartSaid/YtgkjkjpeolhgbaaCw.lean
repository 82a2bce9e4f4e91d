/- A call of both sides: a giving back of a named block; and any call. -/
import Derived.Test.YtgkjkjpeolhgbaaCu
import Derived.BigQuiet
namespace Go.Proofs.Ytgkjkjpeolhgbaa
open Go.RowKit

section
variable {w : World} {B s a x y n : Nat} {F G : List Bool} {T : List (Nat × Nat)} {tv : Value}
theorem back_case (F : List Bool) (z o : Int) : (chE F z o true = 0 → 0 ≤ o ∧ o ≤ 8 ∧ 0 ≤ z ∧ z < F.length) ∧ (chE F z o true ≠ 0 → chL F z o true = F) := by
  refine ⟨fun h => ?_, fun h => by unfold chL; rw [if_neg h]⟩
  obtain ⟨f, k, rfl, rfl, hk, ha, hr, hq, hL⟩ := chE_ok h
  have := two_pos k
  omega
set_option maxHeartbeats 1000000 in
set_option maxRecDepth 100000 in
theorem do_other (h : St B w s a x y n F F T tv) (hH : Held F T) {K Fr o N : Int} {hf : Bool} (k0 : ¬ K = 0) (k1 : ¬ K = 1) (k2 : ¬ K = 2) (k3 : ¬ K = 3) (k4 : ¬ K = 4) (hlo : -9223372036854775808 ≤ Fr) (hhi : Fr ≤ 9223372036854775807) :
    Calls Try.prog 13 #[.pointer (some ⟨s, 0, none⟩), .agg #[.int .i64 K, .int .i64 Fr, .int .i64 o, .int .i64 N, .bool hf]] w (Did B s a x y n tv w) := by
  have hln : (chL F Fr o true).length = n := by rw [chL_length]; exact h.len
  have hca := back_case F Fr o
  rw [h.len] at hca
  have hTB : ∀ w1, St B w1 s a x y n F F T tv → Calls Try.prog 28 #[.pointer (some ⟨a, 0, none⟩), .int .i64 Fr, .int .i64 o] w1 (Chg B a n (chE F Fr o true) (chL F Fr o true) w1) := fun w1 h1 => by
    obtain ⟨L, hL, hG⟩ := h1.bud
    exact give_any hL hG h1.len h1.n10 Fr o hlo hhi
  have hTR : ∀ w1, RefAt w1 x y n F → Calls Try.prog 31 #[.pointer (some ⟨x, 0, none⟩), .int .i64 Fr, .int .i64 o, .bool true] w1 (RefChg x y n (chE F Fr o true) (chL F Fr o true) w1) := fun w1 h1 => refChange_any h1 Fr o hlo hhi true
  have hTF : chE F Fr o true = 0 → ∀ w1, RefAt w1 x y n (chL F Fr o true) → Calls Try.prog 31 #[.pointer (some ⟨x, 0, none⟩), .int .i64 Fr, .int .i64 o, .bool false] w1 (RefChg x y n 0 F w1) := fun h0 w1 h1 => by
    obtain ⟨e1, e2⟩ := ch_back h0
    have := refChange_any h1 Fr o hlo hhi false
    rw [Bool.not_true] at e1 e2
    rw [e1, e2] at this
    exact this
  generalize chE F Fr o true = E at hca hTB hTR hTF
  generalize chL F Fr o true = F' at hca hTB hTR hTF hln
  have HS := Lib.hid h
  have HLN := Lib.hid hln
  have HTB := Lib.hid hTB
  have HTR := Lib.hid hTR
  have HTF := Lib.hid hTF
  have HCA := Lib.hid hca
  have HH := Lib.hid hH
  clear h hln hTB hTR hTF hca hH
  obtain ⟨q0, hq0⟩ : ∃ q0, q0 = w.heap.size := ⟨_, rfl⟩
  obtain ⟨W, hW⟩ : ∃ W, W = w.alloc (.cells #[.int .i64 K, .int .i64 Fr, .int .i64 o, .int .i64 N, .bool hf] 30) := ⟨_, rfl⟩
  have HSq : Hid (∀ q, St B (W.drewN q) s a x y n F F T tv) := by
    show ∀ _, _
    rw [hW]; exact fun q => (HS.out.alloc _).drewN q
  have HQq : Hid (∀ q, Lrow (W.drewN q) q0 30 [.int .i64 K, .int .i64 Fr, .int .i64 o, .int .i64 N, .bool hf]) := by
    show ∀ _, _
    rw [hW, hq0]; exact fun q => (Lrow.new w _ _).drewN q
  have HSTq : Hid (∀ q, Step B w (W.drewN q) tv tv) := by
    show ∀ _, _
    rw [hW]; exact fun q => Step.call (below_dN ((Below.refl w.heap.size w).alloc (Nat.le_refl _) _) q) HS.out.lo _
  have HS1 : Hid (St B W.drew s a x y n F F T tv) := HSq.out 1
  have HQ1 : Hid (Lrow W.drew q0 30 [.int .i64 K, .int .i64 Fr, .int .i64 o, .int .i64 N, .bool hf]) := HQq.out 1
  have HST1 : Hid (Step B w W.drew tv tv) := HSTq.out 1
  have HW := Lib.hid hW
  have HQ0 := Lib.hid hq0
  clear hW hq0 HS
  go_enter Try.func13, Try.ntmps13
  go_wp2_with fail
  rw [← HW.out, ← HQ0.out]
  have hs1 := And.intro HS1.out.c1 (And.intro (HQ1.out.cell 1) (And.intro (HQ1.out.cell 2) HS1.out.ref.field))
  have hc1 : W.cell? ⟨s, 1, none⟩ = some (.pointer (some ⟨x, 0, none⟩)) := HS1.out.c1
  have hc2 : W.cell? ⟨q0, 1, none⟩ = some (.int .i64 Fr) := HQ1.out.cell 1
  have hc3 : W.cell? ⟨q0, 2, none⟩ = some (.int .i64 o) := HQ1.out.cell 2
  have hc4 : W.cell? ⟨x, 0, none⟩ = some (.slice (some ⟨y, 0, none⟩) n n) := HS1.out.ref.field
  have e0 : (K == 0) = false := beq_false_of_ne k0
  have e1 : (K == 1) = false := beq_false_of_ne k1
  have e2 : (K == 2) = false := beq_false_of_ne k2
  have e3 : (K == 3) = false := beq_false_of_ne k3
  have e4 : (K == 4) = false := beq_false_of_ne k4
  rw [e0, e1, e2, e3, e4]
  go_cut [157] from 120 to 157 (fun v wx => (v = .bool (decide (E = 0)) ∧ (E = 0 → St B wx s a x y n F F' T tv) ∧ (¬ E = 0 → St B wx s a x y n F F T tv)) ∧ Lrow wx q0 30 [.int .i64 K, .int .i64 Fr, .int .i64 o, .int .i64 N, .bool hf] ∧ Step B w wx tv tv)
  case first =>
    by_cases g1 : 0 ≤ o
    · have d1 : decide (0 ≤ o) = true := by simpa using g1
      by_cases g2 : o ≤ 8
      · have d2 : decide (o ≤ 8) = true := by simpa using g2
        by_cases g3 : 0 ≤ Fr
        · have d3 : decide (0 ≤ Fr) = true := by simpa using g3
          by_cases g4 : Fr < n
          · have d4 : decide (Fr < n) = true := by simpa using g4
            go_region_held3 (fun v => v.cell? ⟨s, 1, none⟩ = some (.pointer (some ⟨x, 0, none⟩)) ∧ v.cell? ⟨q0, 1, none⟩ = some (.int .i64 Fr) ∧ v.cell? ⟨q0, 2, none⟩ = some (.int .i64 o) ∧ v.cell? ⟨x, 0, none⟩ = some (.slice (some ⟨y, 0, none⟩) n n)) (first | exact hs1 | exact ⟨hs3.c1, q3.cell 1, q3.cell 2, hs3.ref.field⟩)
              (first | (go_at_call 31; refine Calls.mono (HTR.out _ HS1.out.ref) ?_; rintro e w3 ⟨rfl, hr3, hg3⟩; have hs3 := HS1.out.refGrown hg3 hr3; have q3 := lrow_grown_ne HS1.out.ref.row hg3 HQ1.out (by decide)))
            go_wp2_with fail
            go_meet
            exact ⟨⟨rfl, fun _ => hs3, fun hne => by rw [HCA.out.2 hne] at hs3; exact hs3⟩, q3, HST1.out.trans (Step.grown HS1.out.ref.row (Or.inr (Or.inr (Or.inr (Or.inr rfl)))) HS1.out.ly hg3 _)⟩
          · have d4 : decide (Fr < n) = false := by simpa using g4
            have hE : ¬ E = 0 := fun h0 => g4 (HCA.out.1 h0).2.2.2
            have dE : decide (E = 0) = false := by simpa using hE
            go_quiet (fail)
            go_wp2_with fail
            go_meet
            exact ⟨⟨by rw [dE], fun h0 => absurd h0 hE, fun _ => HSq.out _⟩, HQq.out _, HSTq.out _⟩
        · have d3 : decide (0 ≤ Fr) = false := by simpa using g3
          have hE : ¬ E = 0 := fun h0 => g3 (HCA.out.1 h0).2.2.1
          have dE : decide (E = 0) = false := by simpa using hE
          go_quiet (fail)
          go_wp2_with fail
          go_meet
          exact ⟨⟨by rw [dE], fun h0 => absurd h0 hE, fun _ => HSq.out _⟩, HQq.out _, HSTq.out _⟩
      · have d2 : decide (o ≤ 8) = false := by simpa using g2
        have hE : ¬ E = 0 := fun h0 => g2 (HCA.out.1 h0).2.1
        have dE : decide (E = 0) = false := by simpa using hE
        go_quiet (fail)
        go_wp2_with fail
        go_meet
        exact ⟨⟨by rw [dE], fun h0 => absurd h0 hE, fun _ => HSq.out _⟩, HQq.out _, HSTq.out _⟩
    · have d1 : decide (0 ≤ o) = false := by simpa using g1
      have hE : ¬ E = 0 := fun h0 => g1 (HCA.out.1 h0).1
      have dE : decide (E = 0) = false := by simpa using hE
      go_quiet (fail)
      go_wp2_with fail
      go_meet
      exact ⟨⟨by rw [dE], fun h0 => absurd h0 hE, fun _ => HSq.out _⟩, HQq.out _, HSTq.out _⟩
  case rest =>
    obtain ⟨⟨hv, hz, hne⟩, hq, hst⟩ := hcut
    have HQ3 := Lib.hid (hq.drewN 1)
    by_cases hE : E = 0
    · have dE : decide (E = 0) = true := by simpa using hE
      rw [dE] at hv
      subst hv
      have hs3 := hz hE
      have HS3 := Lib.hid (hs3.drewN 1)
      have HST3 := Lib.hid (hst.trans (Step.call (below_dN (Below.refl _ _) 1) hs3.lo _))
      have HTF2 := Lib.hid (HTF.out hE)
      clear hz hne hq hst hs3 hs1 hc1 hc2 hc3 hc4 HS1 HQ1 HST1 HSq HQq HSTq HTF HTR HTB dE
      have hs4 := And.intro HS3.out.c1 (And.intro (HQ3.out.cell 1) (HQ3.out.cell 2))
      go_wp2_with fail
      go_region_held3 (fun v => v.cell? ⟨s, 1, none⟩ = some (.pointer (some ⟨x, 0, none⟩)) ∧ v.cell? ⟨q0, 1, none⟩ = some (.int .i64 Fr) ∧ v.cell? ⟨q0, 2, none⟩ = some (.int .i64 o)) (first | exact hs4 | exact ⟨hs5.c1, q5.cell 1, q5.cell 2⟩)
        (first | (go_at_call 31; refine Calls.mono (HTF2.out _ HS3.out.ref) ?_; rintro e w5 ⟨rfl, hr5, hg5⟩; have hs5 := HS3.out.refGrown hg5 hr5; have q5 := lrow_grown_ne HS3.out.ref.row hg5 HQ3.out (by decide)))
      have HS5 := Lib.hid hs5
      have HST5 := Lib.hid (HST3.out.trans (Step.grown HS3.out.ref.row (Or.inr (Or.inr (Or.inr (Or.inr rfl)))) HS3.out.ly hg5 _))
      clear hs5 q5 hr5 hg5 hs4
      go_wp2
      go_ret
      exact ⟨rfl, _, _, _, HS5.out, HH.out, HST5.out⟩
    · have dE : decide (E = 0) = false := by simpa using hE
      rw [dE] at hv
      subst hv
      have hs3 := hne hE
      have HS3 := Lib.hid (hs3.drewN 1)
      have HST3 := Lib.hid (hst.trans (Step.call (below_dN (Below.refl _ _) 1) hs3.lo _))
      have hFF := HCA.out.2 hE
      subst hFF
      clear hz hne hq hst hs3 hs1 hc1 hc2 hc3 hc4 HS1 HQ1 HST1 HSq HQq HSTq HTF dE
      have hs4 := And.intro HS3.out.c0 (And.intro HS3.out.c1 (And.intro (HQ3.out.cell 1) (HQ3.out.cell 2)))
      go_wp2_with fail
      go_region_held3 (fun v => v.cell? ⟨s, 0, none⟩ = some (.pointer (some ⟨a, 0, none⟩)) ∧ v.cell? ⟨s, 1, none⟩ = some (.pointer (some ⟨x, 0, none⟩)) ∧ v.cell? ⟨q0, 1, none⟩ = some (.int .i64 Fr) ∧ v.cell? ⟨q0, 2, none⟩ = some (.int .i64 o)) (first | exact hs4 | exact ⟨hs5.c0, hs5.c1, q5.cell 1, q5.cell 2⟩ | exact ⟨hs6.c0, hs6.c1, q6.cell 1, q6.cell 2⟩)
        (first | (go_at_call 28; refine Calls.mono (HTB.out _ HS3.out) ?_; rintro e w5 ⟨rfl, ht5, L5, hx5, hg5⟩; have hs5 := HS3.out.budTurn ht5 hx5 hg5 HLN.out; have q5 := ht5.row _ _ _ HQ3.out (by decide) (by decide)) | (go_at_call 31; refine Calls.mono (HTR.out _ hs5.ref) ?_; rintro e w6 ⟨rfl, hr6, hg6⟩; have hs6 := hs5.refGrown hg6 hr6; have q6 := lrow_grown_ne hs5.ref.row hg6 q5 (by decide)))
      have HS6 := Lib.hid hs6
      have HST6 := Lib.hid (HST3.out.trans ((Step.turn ht5 _).trans (Step.grown hs5.ref.row (Or.inr (Or.inr (Or.inr (Or.inr rfl)))) HS3.out.ly hg6 _)))
      clear hs5 q5 hs6 q6 ht5 hx5 hg5 hr6 hg6 hs4
      go_wp2
      go_ret
      exact ⟨rfl, _, _, _, HS6.out, HH.out, HST6.out⟩
end
end Go.Proofs.Ytgkjkjpeolhgbaa
