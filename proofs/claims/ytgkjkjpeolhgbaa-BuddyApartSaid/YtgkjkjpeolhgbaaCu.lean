/- A call of both sides: a taking of a named block. -/
import Derived.Test.YtgkjkjpeolhgbaaCt
namespace Go.Proofs.Ytgkjkjpeolhgbaa
open Go.RowKit

section
variable {w : World} {B s a x y n : Nat} {F G : List Bool} {T : List (Nat × Nat)} {tv : Value}
theorem at_case (hH : Held F T) (z o : Int) : (∃ f k : Nat, z = f ∧ o = k ∧ chE F z o false = 0 ∧ Held (chL F z o false) (T ++ [(f, k)])) ∨ (chE F z o false ≠ 0 ∧ chL F z o false = F) := by
  by_cases h : chE F z o false = 0
  · obtain ⟨f, k, rfl, rfl, hk, ha, hr, hq, hL⟩ := chE_ok h
    refine Or.inl ⟨f, k, rfl, rfl, h, ?_⟩
    rw [hL]
    exact hH.take hk ha hr hq
  · exact Or.inr ⟨h, by unfold chL; rw [if_neg h]⟩
set_option maxHeartbeats 1000000 in
set_option maxRecDepth 100000 in
theorem do_at (h : St B w s a x y n F F T tv) (hH : Held F T) {K Fr o N : Int} {hf : Bool} (hK : K = 3) (hlo : -9223372036854775808 ≤ Fr) (hhi : Fr ≤ 9223372036854775807) :
    Calls Try.prog 13 #[.pointer (some ⟨s, 0, none⟩), .agg #[.int .i64 K, .int .i64 Fr, .int .i64 o, .int .i64 N, .bool hf]] w (Did B s a x y n tv w) := by
  obtain ⟨A, c, hv⟩ := own_form h.own
  subst hv
  have hT10 : T.length ≤ 1024 := by have := hH.len_n; have := h.len; have := h.n10; omega
  have hca := at_case hH Fr o
  have hln : (chL F Fr o false).length = n := by rw [chL_length]; exact h.len
  have hTB : ∀ w1 G T tv, St B w1 s a x y n F G T tv → Calls Try.prog 27 #[.pointer (some ⟨a, 0, none⟩), .int .i64 Fr, .int .i64 o] w1 (Chg B a n (chE F Fr o false) (chL F Fr o false) w1) := fun w1 G T tv h1 => by
    obtain ⟨L, hL, hG⟩ := h1.bud
    exact takeAt_any hL hG h1.len h1.n10 Fr o hlo hhi
  have hTR : ∀ w1, RefAt w1 x y n F → Calls Try.prog 31 #[.pointer (some ⟨x, 0, none⟩), .int .i64 Fr, .int .i64 o, .bool false] w1 (RefChg x y n (chE F Fr o false) (chL F Fr o false) w1) := fun w1 h1 => refChange_any h1 Fr o hlo hhi false
  generalize chE F Fr o false = E at hca hTB hTR
  generalize chL F Fr o false = F' at hca hTB hTR hln
  obtain ⟨m1, hm1⟩ : ∃ m1, m1 = T.length := ⟨_, rfl⟩
  rw [← hm1] at h hT10 ⊢
  have HM1 := Lib.hid hm1
  have HS := Lib.hid h
  have HLN := Lib.hid hln
  have HTB := Lib.hid hTB
  have HTR := Lib.hid hTR
  have HH := Lib.hid hH
  clear hm1 h hln hTB hTR hH
  obtain ⟨q0, hq0⟩ : ∃ q0, q0 = w.heap.size := ⟨_, rfl⟩
  obtain ⟨W, hW⟩ : ∃ W, W = w.alloc (.cells #[.int .i64 K, .int .i64 Fr, .int .i64 o, .int .i64 N, .bool hf] 30) := ⟨_, rfl⟩
  have HS1 : Hid (St B W.drew s a x y n F F T (.slice A m1 c)) := by
    rw [hW]; exact (HS.out.alloc _).drewN 1
  have HQ1 : Hid (Lrow W.drew q0 30 [.int .i64 K, .int .i64 Fr, .int .i64 o, .int .i64 N, .bool hf]) := by
    rw [hW, hq0]; exact (Lrow.new w _ _).drewN 1
  have HST1 : Hid (Step B w W.drew (.slice A m1 c) (.slice A m1 c)) := by
    rw [hW]; exact Step.call (below_dN ((Below.refl w.heap.size w).alloc (Nat.le_refl _) _) 1) HS.out.lo _
  have HW := Lib.hid hW
  have HQ0 := Lib.hid hq0
  clear hW hq0 HS
  subst hK
  all_goals
    go_enter Try.func13, Try.ntmps13
    go_wp2_with fail
    rw [← HW.out, ← HQ0.out]
    have hs1 := And.intro HS1.out.c0 (And.intro (HQ1.out.cell 1) (HQ1.out.cell 2))
    go_region_held3 (fun v => v.cell? ⟨s, 0, none⟩ = some (.pointer (some ⟨a, 0, none⟩)) ∧ v.cell? ⟨q0, 1, none⟩ = some (.int .i64 Fr) ∧ v.cell? ⟨q0, 2, none⟩ = some (.int .i64 o)) (first | exact hs1 | exact ⟨hs2'.c0, q2.cell 1, q2.cell 2⟩)
      (first | (go_at_call 27; refine Calls.mono (HTB.out _ _ _ _ HS1.out) ?_; rintro e w2 ⟨rfl, ht2, L2, hx2, hg2⟩; have hs2' := HS1.out.budTurn ht2 hx2 hg2 HLN.out; have q2 := ht2.row _ _ _ HQ1.out (by decide) (by decide)))
    have HS2 := Lib.hid (hs2'.drewN 1)
    have HQ2 := Lib.hid (q2.drewN 1)
    have HST2 := Lib.hid (HST1.out.trans ((Step.turn ht2 _).trans (Step.call (below_dN (Below.refl _ _) 1) hs2'.lo _)))
    clear hs2' q2 hs1 ht2 hx2 hg2 HS1 HQ1 HST1 HTB
    have hs2 := And.intro HS2.out.c1 (And.intro (HQ2.out.cell 1) (HQ2.out.cell 2))
    go_wp2_with fail
    go_region_held3 (fun v => v.cell? ⟨s, 1, none⟩ = some (.pointer (some ⟨x, 0, none⟩)) ∧ v.cell? ⟨q0, 1, none⟩ = some (.int .i64 Fr) ∧ v.cell? ⟨q0, 2, none⟩ = some (.int .i64 o)) (first | exact hs2 | exact ⟨hs3.c1, q3.cell 1, q3.cell 2⟩)
      (first | (go_at_call 31; refine Calls.mono (HTR.out _ HS2.out.ref) ?_; rintro e w3 ⟨rfl, hr3, hg3⟩; have hs3 := HS2.out.refGrown hg3 hr3; have q3 := lrow_grown_ne HS2.out.ref.row hg3 HQ2.out (by decide)))
    have HS3 := Lib.hid hs3
    have HQ3 := Lib.hid q3
    have HST3 := Lib.hid (HST2.out.trans (Step.grown HS2.out.ref.row (Or.inr (Or.inr (Or.inr (Or.inr rfl)))) HS2.out.ly hg3 _))
    clear hs3 q3 hs2 hr3 hg3 HS2 HQ2 HST2 HTR
    rcases hca with ⟨f, k, rfl, rfl, rfl, hh⟩ | ⟨hE0, rfl⟩
    · have HH2 := Lib.hid hh
      clear hh HH
      obtain ⟨A5, c5, W5, r5, o5, g5, t5⟩ := took_run HS3.out (by rw [← HM1.out]; exact hT10) f k
      rw [← HM1.out] at r5 o5 t5
      have hcz := HS3.out.c2
      have hs4 : s < w3.heap.size := HS3.out.top.lt
      have hsn4 : ¬ s = w3.heap.size := by omega
      have hq4 : q0 < w3.heap.size := HQ3.out.lt
      have hqn4 : ¬ q0 = w3.heap.size := by omega
      have hqf : w3.cell? ⟨q0, 1, none⟩ = some (.int .i64 f) := HQ3.out.cell 1
      have hqk : w3.cell? ⟨q0, 2, none⟩ = some (.int .i64 k) := HQ3.out.cell 2
      have htk := HS3.out.taken g5 (T' := T ++ [(f, k)]) o5 t5
      have hno : ∀ b t vs, Lrow w3 b t vs → t ≠ 59 → Lrow W5 b t vs := fun b t vs r hne => taken_far HS3.out g5 r hne
      have hc5 : W5.cell? ⟨s, 2, none⟩ = some (.slice A m1 c) := (hno _ _ _ HS3.out.top (by decide)).cell 2
      have hf5 := (hno _ _ _ HS3.out.top (by decide)).frozen 2
      have HTK := Lib.hid htk
      clear o5 g5 t5 htk hno
      go_wp2_with fail
      go_cut [82] from 82 to 95 (fun s82 wx => wx = W5.setCell ⟨s, 2, none⟩ (.slice A5 (m1 + 1) c5))
      case first =>
        go_region_law (refine step_append_run (by rfl) _ _ 33 (by rfl) (.slice A m1 c) (.slice (some ⟨w3.heap.size, 0, none⟩) 1 1) (by simp [Act.eval]) (by simp [Act.eval]) r5 ?_)
        all_goals
          go_wp2_with fail
          go_meet
          rfl
      case rest =>
        subst hcut
        have HS5 := Lib.hid HTK.out.1
        have HSTEP5 := Lib.hid (HST3.out.trans HTK.out.2)
        clear hcz hc5 hf5 hqf hqk hs4 hsn4 hq4 hqn4 r5 HTK
        generalize W5.setCell ⟨s, 2, none⟩ (.slice A5 (m1 + 1) c5) = W6 at HS5 HSTEP5 ⊢
        go_wp2
        go_ret
        exact ⟨rfl, _, _, _, HS5.out, HH2.out, HSTEP5.out⟩
    · have hE1 : ¬ E = 0 := hE0
      go_wp2
      go_ret
      exact ⟨rfl, _, _, _, HS3.out, HH.out, HST3.out⟩
end
end Go.Proofs.Ytgkjkjpeolhgbaa
