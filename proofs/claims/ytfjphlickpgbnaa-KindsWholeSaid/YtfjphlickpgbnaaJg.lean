/- A call of both sides: a taking, a setting, a taking of a named block. -/
import Derived.Test.YtfjphlickpgbnaaJf
namespace Go.Proofs.Ytfjphlickpgbnaa
open Go.RowKit

section
variable {w : World} {B : Nat} {m : Nms} {F : List Bool} {S : List Nat} {T : List (Nat × Nat)} {tv : Value}
/-- What a call of both comes to: it answers true, and both sides have the same frames and sections. -/
def Did (B : Nat) (m : Nms) (tv : Value) (w : World) (e : Ending) (w' : World) : Prop :=
  e = .returned (.bool true) ∧ ∃ F' S' T' tv', St B w' m F' F' S' S' T' tv' ∧ Held F' T' ∧ Step B w w' tv tv'
theorem row_ownt {W : World} {C n q : Nat} {v : Value} {xs : List Value} (h : W.ownsRow C 53 2 v n xs) (e : v.ownBlock = some q) : C ≤ q ∧ ∃ vs, Lrow W q 53 vs := by
  rcases h.2 with ⟨e2, _⟩ | ⟨q', cap, cur, e2, hb, hq, _⟩
  · rw [e2] at e; simp [Value.ownBlock] at e
  · rw [e2] at e
    simp only [Value.ownBlock, Option.some.injEq] at e
    subst e
    exact ⟨hb, cur.toList, hq⟩
theorem not_own {W : World} {C n q : Nat} {v : Value} {xs vs : List Value} {t : TypeId} (h : W.ownsRow C 53 2 v n xs) (r : Lrow W q t vs) (hne : t ≠ 53) : some q ≠ v.ownBlock := fun e => by
  obtain ⟨_, us, r2⟩ := row_ownt h e.symm
  exact r.apart r2 hne rfl
/-- A taking either takes, or leaves all as it is. -/
theorem ktook_case (hH : Held F T) (S : List Nat) (o kd : Int) : (∃ f k : Nat, o = k ∧ ktV F S o kd = f ∧ ktE F S o kd = 0 ∧ Held (ktF F S o kd) (T ++ [(f, k)])) ∨ (ktE F S o kd ≠ 0 ∧ ktF F S o kd = F) := by
  cases hb : okB o kd with
  | false =>
    obtain ⟨r1, -, r3, -⟩ := ktk_bad (F := F) (S := S) hb
    exact Or.inr ⟨by rw [r1]; decide, r3⟩
  | true =>
    unfold okB at hb
    rw [decide_eq_true_eq] at hb
    obtain ⟨o, rfl⟩ : ∃ x : Nat, o = x := ⟨o.toNat, by omega⟩
    obtain ⟨kd, rfl⟩ : ∃ x : Nat, kd = x := ⟨kd.toNat, by omega⟩
    cases hk : ktP F S o kd with
    | none =>
      obtain ⟨r1, -, r3, -⟩ := ktk_none (F := F) (S := S) (o := o) (kd := kd) (by omega) (by omega) hk
      exact Or.inr ⟨by rw [r1]; decide, r3⟩
    | some b =>
      obtain ⟨r1, r2, r3, -⟩ := ktk_some (F := F) (S := S) (o := o) (kd := kd) (by omega) (by omega) hk
      obtain ⟨-, -, h3, h4, h5⟩ := ktP_fre hk
      exact Or.inl ⟨b.1, o, rfl, r2, r1, by rw [r3]; exact hH.take h3 h4.1 h5 h4.2⟩
theorem at_case (hH : Held F T) (z o : Int) : (∃ f k : Nat, z = f ∧ o = k ∧ chE F z o false = 0 ∧ Held (chL F z o false) (T ++ [(f, k)])) ∨ (chE F z o false ≠ 0 ∧ chL F z o false = F) := by
  by_cases h : chE F z o false = 0
  · obtain ⟨f, k, rfl, rfl, hk, ha, hr, hq, hL⟩ := chE_ok h
    refine Or.inl ⟨f, k, rfl, rfl, h, ?_⟩
    rw [hL]
    exact hH.take hk ha hr hq
  · exact Or.inr ⟨h, by unfold chL; rw [if_neg h]⟩
set_option maxHeartbeats 1000000 in
set_option maxRecDepth 100000 in
theorem do_take (h : St B w m F F S S T tv) (hH : Held F T) {K Fr o Of N : Int} (hK : K = 0 ∨ K = 1 ∨ K = 2) :
    Calls Try.prog 10 #[.pointer (some ⟨m.s, 0, none⟩), .agg #[.int .i64 K, .int .i64 Fr, .int .i64 o, .int .i64 Of, .int .i64 N]] w (Did B m tv w) := by
  obtain ⟨A, c, hv⟩ := own_form h.own
  subst hv
  have hn10 := h.kin.hi
  have hT10 : T.length ≤ 1024 := by have := hH.len_n; have := h.kin.len; omega
  have hca := ktook_case hH S o Of
  have hTB : ∀ w1 G R T tv, St B w1 m F G S R T tv → Calls Try.prog 15 #[.pointer (some ⟨m.k, 0, none⟩), .int .i64 o, .int .i64 Of] w1 (KTook (fun b => b = m.h) B m.k m.a m.g m.n (ktV F S o Of) (ktE F S o Of) (ktF F S o Of) (ktS F S o Of) w1) := fun w1 G R T tv h1 => kTake_any h1.kin o Of
  have hTR : ∀ w1, RefK w1 m.z m.x m.y m.h m.n F S → Calls Try.prog 30 #[.pointer (some ⟨m.z, 0, none⟩), .int .i64 o, .int .i64 Of] w1 (RefKTook m.z m.x m.y m.h m.n (ktV F S o Of) (ktE F S o Of) (ktF F S o Of) (ktS F S o Of) w1) := fun w1 h1 => refKTake_any h1 hn10 o Of
  generalize ktV F S o Of = V at hca hTB hTR
  generalize ktE F S o Of = E at hca hTB hTR
  generalize ktF F S o Of = F' at hca hTB hTR
  generalize ktS F S o Of = S' at hTB hTR
  have HTB := Lib.hid hTB
  have HTR := Lib.hid hTR
  clear hTB hTR
  obtain ⟨m1, hm1⟩ : ∃ m1, m1 = T.length := ⟨_, rfl⟩
  rw [← hm1] at h hT10 ⊢
  have HM1 := Lib.hid hm1
  have HS := Lib.hid h
  have HH := Lib.hid hH
  clear hm1 h hH
  obtain ⟨q0, hq0⟩ : ∃ q0, q0 = w.heap.size := ⟨_, rfl⟩
  obtain ⟨W, hW⟩ : ∃ W, W = w.alloc (.cells #[.int .i64 K, .int .i64 Fr, .int .i64 o, .int .i64 Of, .int .i64 N] 29) := ⟨_, rfl⟩
  have HS1 : Hid (St B W.drew m F F S S T (.slice A m1 c)) := by
    show St _ _ _ _ _ _ _ _ _
    rw [hW]; exact (HS.out.alloc _).drewN 1
  have HQ1 : Hid (Lrow W.drew q0 29 [.int .i64 K, .int .i64 Fr, .int .i64 o, .int .i64 Of, .int .i64 N]) := by
    show Lrow _ _ _ _
    rw [hW, hq0]; exact (Lrow.new w _ _).drewN 1
  have HST1 : Hid (Step B w W.drew (.slice A m1 c) (.slice A m1 c)) := by
    show Step _ _ _ _ _
    rw [hW]; exact Step.call (below_dN ((Below.refl w.heap.size w).alloc (Nat.le_refl _) _) 1) HS.out.lo _
  have HW := Lib.hid hW
  have HQ0 := Lib.hid hq0
  clear hW hq0 HS
  rcases hK with rfl | rfl | rfl
  all_goals
    go_enter Try.func10, Try.ntmps10
    go_wp2_with fail
    rw [← HW.out, ← HQ0.out]
    have hs1 := And.intro HS1.out.c0 (And.intro (HQ1.out.cell 2) (HQ1.out.cell 3))
    go_region_held3 (fun v => v.cell? ⟨m.s, 0, none⟩ = some (.pointer (some ⟨m.k, 0, none⟩)) ∧ v.cell? ⟨q0, 2, none⟩ = some (.int .i64 o) ∧ v.cell? ⟨q0, 3, none⟩ = some (.int .i64 Of)) (first | exact hs1 | exact ⟨hs2'.c0, q2.cell 2, q2.cell 3⟩)
      (first | (go_at_call 15; refine Calls.mono (HTB.out _ _ _ _ _ HS1.out) ?_; rintro e w2 ⟨rfl, ht2, hx2⟩; have hs2' := HS1.out.kinTurn ht2 hx2; have q2 := ht2.row _ _ _ HQ1.out (by decide) (by decide)))
    have HS2 := Lib.hid (hs2'.drewN 1)
    have HQ2 := Lib.hid (q2.drewN 1)
    have HST2 := Lib.hid (HST1.out.trans ((Step.turn ht2 _).trans (Step.call (below_dN (Below.refl _ _) 1) hs2'.lo _)))
    clear hs2' q2 hs1 ht2 hx2 HS1 HQ1 HST1 HTB
    have hs2 := And.intro HS2.out.c1 (And.intro (HQ2.out.cell 2) (HQ2.out.cell 3))
    go_wp2_with fail
    go_region_held3 (fun v => v.cell? ⟨m.s, 1, none⟩ = some (.pointer (some ⟨m.z, 0, none⟩)) ∧ v.cell? ⟨q0, 2, none⟩ = some (.int .i64 o) ∧ v.cell? ⟨q0, 3, none⟩ = some (.int .i64 Of)) (first | exact hs2 | exact ⟨hs3.1.c1, q3.cell 2, q3.cell 3⟩)
      (first | (go_at_call 30; refine Calls.mono (HTR.out _ HS2.out.ref) ?_; rintro e w3 ⟨rfl, hr3, wa, wb, hba, hga, hgb⟩; have hs3 := HS2.out.refTook hba hga hgb hr3; have q3 := hs3.2.keep _ _ _ HQ2.out (by unfold Own; decide) (not_own HS2.out.own HQ2.out (by decide))))
    have HS3 := Lib.hid hs3.1
    have HQ3 := Lib.hid q3
    have HST3 := Lib.hid (HST2.out.trans hs3.2)
    clear hs3 q3 hs2 hr3 hba hga hgb HS2 HQ2 HST2 HTR
    rcases hca with ⟨f, k, rfl, rfl, rfl, hh⟩ | ⟨hE0, rfl⟩
    · have HH2 := Lib.hid hh
      clear hh HH
      have hown3 := HS3.out.own
      rw [HM1.out] at hown3
      obtain ⟨A5, c5, W5, r5, o5, g5, t5⟩ := app_run HS3.out.lo hown3 (by rw [← HM1.out]; exact hT10) f k
      rw [← HM1.out] at r5 o5 t5 g5
      have hcz := HS3.out.c2
      have hs4 : m.s < w3.heap.size := HS3.out.top.lt
      have hsn4 : ¬ m.s = w3.heap.size := by omega
      have hq4 : q0 < w3.heap.size := HQ3.out.lt
      have hqn4 : ¬ q0 = w3.heap.size := by omega
      have hqf2 : w3.cell? ⟨q0, 2, none⟩ = some (.int .i64 k) := HQ3.out.cell 2
      have htk := HS3.out.taken g5 (T' := T ++ [(f, k)]) o5 t5
      have htop5 := own_far HS3.out.own g5 HS3.out.top (by decide)
      have hc5 : W5.cell? ⟨m.s, 2, none⟩ = some (.slice A m1 c) := htop5.cell 2
      have hf5 := htop5.frozen 2
      have HTK := Lib.hid htk
      clear o5 g5 t5 htk htop5 hown3
      go_wp2_with fail
      go_cut [43] from 43 to 56 (fun sx wx => wx = W5.setCell ⟨m.s, 2, none⟩ (.slice A5 (m1 + 1) c5))
      case first =>
        go_region_law (refine step_append_run (by rfl) _ _ 32 (by rfl) (.slice A m1 c) (.slice (some ⟨w3.heap.size, 0, none⟩) 1 1) (by simp [Act.eval]) (by simp [Act.eval]) r5 ?_)
        all_goals
          go_wp2_with fail
          go_meet
          rfl
      case rest =>
        subst hcut
        have HS5 := Lib.hid HTK.out.1
        have HSTEP5 := Lib.hid (HST3.out.trans HTK.out.2)
        clear hcz hc5 hf5 hqf2 hs4 hsn4 hq4 hqn4 r5 HTK
        generalize W5.setCell ⟨m.s, 2, none⟩ (.slice A5 (m1 + 1) c5) = W6 at HS5 HSTEP5 ⊢
        go_wp2
        go_ret
        exact ⟨rfl, _, _, _, _, HS5.out, HH2.out, HSTEP5.out⟩
    · have hE1 : ¬ E = 0 := hE0
      go_wp2
      go_ret
      exact ⟨rfl, _, _, _, _, HS3.out, HH.out, HST3.out⟩
set_option maxHeartbeats 1000000 in
set_option maxRecDepth 100000 in
theorem do_set (h : St B w m F F S S T tv) (hH : Held F T) {K Fr o Of N : Int} (hK : K = 3) :
    Calls Try.prog 10 #[.pointer (some ⟨m.s, 0, none⟩), .agg #[.int .i64 K, .int .i64 Fr, .int .i64 o, .int .i64 Of, .int .i64 N]] w (Did B m tv w) := by
  obtain ⟨A, c, hv⟩ := own_form h.own
  subst hv
  have hn10 := h.kin.hi
  have hT10 : T.length ≤ 1024 := by have := hH.len_n; have := h.kin.len; omega
  have hTB : ∀ w1 G R T tv, St B w1 m F G S R T tv → Calls Try.prog 24 #[.pointer (some ⟨m.k, 0, none⟩), .int .i64 Fr, .int .i64 Of] w1 (KChg (fun b => b = m.h) B m.k m.a m.g m.n (.int .i64 (stE S.length Fr Of)) F (stS S Fr Of) w1) := fun w1 G R T tv h1 => kSet_any h1.kin Fr Of
  have hTR : ∀ w1, RefK w1 m.z m.x m.y m.h m.n F S → Calls Try.prog 31 #[.pointer (some ⟨m.z, 0, none⟩), .int .i64 Fr, .int .i64 Of] w1 (RefSec m.z m.x m.y m.h m.n (stE S.length Fr Of) F (stS S Fr Of) w1) := fun w1 h1 => refSet_any h1 hn10 Fr Of
  generalize stE S.length Fr Of = E at hTB hTR
  generalize stS S Fr Of = S' at hTB hTR
  have HTB := Lib.hid hTB
  have HTR := Lib.hid hTR
  clear hTB hTR
  obtain ⟨m1, hm1⟩ : ∃ m1, m1 = T.length := ⟨_, rfl⟩
  rw [← hm1] at h hT10 ⊢
  have HM1 := Lib.hid hm1
  have HS := Lib.hid h
  have HH := Lib.hid hH
  clear hm1 h hH
  obtain ⟨q0, hq0⟩ : ∃ q0, q0 = w.heap.size := ⟨_, rfl⟩
  obtain ⟨W, hW⟩ : ∃ W, W = w.alloc (.cells #[.int .i64 K, .int .i64 Fr, .int .i64 o, .int .i64 Of, .int .i64 N] 29) := ⟨_, rfl⟩
  have HS1 : Hid (St B W.drew m F F S S T (.slice A m1 c)) := by
    show St _ _ _ _ _ _ _ _ _
    rw [hW]; exact (HS.out.alloc _).drewN 1
  have HQ1 : Hid (Lrow W.drew q0 29 [.int .i64 K, .int .i64 Fr, .int .i64 o, .int .i64 Of, .int .i64 N]) := by
    show Lrow _ _ _ _
    rw [hW, hq0]; exact (Lrow.new w _ _).drewN 1
  have HST1 : Hid (Step B w W.drew (.slice A m1 c) (.slice A m1 c)) := by
    show Step _ _ _ _ _
    rw [hW]; exact Step.call (below_dN ((Below.refl w.heap.size w).alloc (Nat.le_refl _) _) 1) HS.out.lo _
  have HW := Lib.hid hW
  have HQ0 := Lib.hid hq0
  clear hW hq0 HS
  subst hK
  go_enter Try.func10, Try.ntmps10
  go_wp2_with fail
  rw [← HW.out, ← HQ0.out]
  have hs1 := And.intro HS1.out.c0 (And.intro HS1.out.c1 (And.intro (HQ1.out.cell 1) (HQ1.out.cell 3)))
  go_region_held3 (fun v => v.cell? ⟨m.s, 0, none⟩ = some (.pointer (some ⟨m.k, 0, none⟩)) ∧ v.cell? ⟨m.s, 1, none⟩ = some (.pointer (some ⟨m.z, 0, none⟩)) ∧ v.cell? ⟨q0, 1, none⟩ = some (.int .i64 Fr) ∧ v.cell? ⟨q0, 3, none⟩ = some (.int .i64 Of)) (first | exact hs1 | exact ⟨hs2.c0, hs2.c1, q2.cell 1, q2.cell 3⟩ | exact ⟨hs3.c0, hs3.c1, q3.cell 1, q3.cell 3⟩)
    (first | (go_at_call 24; refine Calls.mono (HTB.out _ _ _ _ _ HS1.out) ?_; rintro e w2 ⟨rfl, ht2, hx2⟩; have hs2 := HS1.out.kinTurn ht2 hx2; have q2 := ht2.row _ _ _ HQ1.out (by decide) (by decide)) | (go_at_call 31; refine Calls.mono (HTR.out _ hs2.ref) ?_; rintro e w3 ⟨rfl, hr3, hg3⟩; have hs3 := hs2.refSec hg3 hr3; have q3 := (by obtain ⟨r', hr'⟩ := hs2.ref.row; exact lrow_grown_ne hr' hg3 q2 (by decide) : Lrow w3 q0 29 [.int .i64 3, .int .i64 Fr, .int .i64 o, .int .i64 Of, .int .i64 N])))
  have HST3 : Hid (Step B w w3 (.slice A m1 c) (.slice A m1 c)) := by
    obtain ⟨r', hr'⟩ := hs2.ref.row
    exact HST1.out.trans ((Step.turn ht2 _).trans (Step.grown hr' (Or.inl rfl) hs2.lh hg3 _))
  have HS3 := Lib.hid hs3
  clear hs2 hs3 q2 q3 hs1 ht2 hx2 hr3 hg3
  go_wp2
  go_ret
  exact ⟨rfl, _, _, _, _, HS3.out, HH.out, HST3.out⟩
set_option maxHeartbeats 2000000 in
set_option maxRecDepth 100000 in
theorem do_at (h : St B w m F F S S T tv) (hH : Held F T) {K Fr o Of N : Int} (k0 : ¬ K = 0) (k1 : ¬ K = 1) (k2 : ¬ K = 2) (k3 : ¬ K = 3) (k4 : ¬ K = 4) (hlo : -9223372036854775808 ≤ Fr) (hhi : Fr ≤ 9223372036854775807) :
    Calls Try.prog 10 #[.pointer (some ⟨m.s, 0, none⟩), .agg #[.int .i64 K, .int .i64 Fr, .int .i64 o, .int .i64 Of, .int .i64 N]] w (Did B m tv w) := by
  obtain ⟨A, c, hv⟩ := own_form h.own
  subst hv
  have hn10 := h.kin.hi
  have hT10 : T.length ≤ 1024 := by have := hH.len_n; have := h.kin.len; omega
  have hca := at_case hH Fr o
  have hTB : ∀ w1 G R T tv, St B w1 m F G S R T tv → Calls Try.prog 22 #[.pointer (some ⟨m.k, 0, none⟩), .int .i64 Fr, .int .i64 o] w1 (KChg (fun b => b = m.h) B m.k m.a m.g m.n (.int .i64 (chE F Fr o false)) (chL F Fr o false) S w1) := fun w1 G R T tv h1 => kTakeAt_any h1.kin Fr o hlo hhi
  have hTR : ∀ w1, RefAt w1 m.x m.y m.n F → Calls Try.prog 32 #[.pointer (some ⟨m.x, 0, none⟩), .int .i64 Fr, .int .i64 o, .bool false] w1 (RefChg m.x m.y m.n (chE F Fr o false) (chL F Fr o false) w1) := fun w1 h1 => refChange_any h1 Fr o hlo hhi false
  generalize chE F Fr o false = E at hca hTB hTR
  generalize chL F Fr o false = F' at hca hTB hTR
  have HTB := Lib.hid hTB
  have HTR := Lib.hid hTR
  have e0 : (K == 0) = false := by simpa using k0
  have e1 : (K == 1) = false := by simpa using k1
  have e2 : (K == 2) = false := by simpa using k2
  have e3 : (K == 3) = false := by simpa using k3
  have e4 : (K == 4) = false := by simpa using k4
  clear hTB hTR hlo hhi
  obtain ⟨m1, hm1⟩ : ∃ m1, m1 = T.length := ⟨_, rfl⟩
  rw [← hm1] at h hT10 ⊢
  have HM1 := Lib.hid hm1
  have HS := Lib.hid h
  have HH := Lib.hid hH
  clear hm1 h hH
  obtain ⟨q0, hq0⟩ : ∃ q0, q0 = w.heap.size := ⟨_, rfl⟩
  obtain ⟨W, hW⟩ : ∃ W, W = w.alloc (.cells #[.int .i64 K, .int .i64 Fr, .int .i64 o, .int .i64 Of, .int .i64 N] 29) := ⟨_, rfl⟩
  have HS1 : Hid (St B W.drew m F F S S T (.slice A m1 c)) := by
    show St _ _ _ _ _ _ _ _ _
    rw [hW]; exact (HS.out.alloc _).drewN 1
  have HQ1 : Hid (Lrow W.drew q0 29 [.int .i64 K, .int .i64 Fr, .int .i64 o, .int .i64 Of, .int .i64 N]) := by
    show Lrow _ _ _ _
    rw [hW, hq0]; exact (Lrow.new w _ _).drewN 1
  have HST1 : Hid (Step B w W.drew (.slice A m1 c) (.slice A m1 c)) := by
    show Step _ _ _ _ _
    rw [hW]; exact Step.call (below_dN ((Below.refl w.heap.size w).alloc (Nat.le_refl _) _) 1) HS.out.lo _
  have HW := Lib.hid hW
  have HQ0 := Lib.hid hq0
  clear hW hq0 HS
  go_enter Try.func10, Try.ntmps10
  go_wp2_with fail
  rw [← HW.out, ← HQ0.out]
  have hs1 : W.drew.cell? ⟨m.s, 1, none⟩ = some (.pointer (some ⟨m.z, 0, none⟩)) ∧ W.drew.cell? ⟨m.z, 0, none⟩ = some (.pointer (some ⟨m.x, 0, none⟩)) ∧ W.drew.cell? ⟨q0, 1, none⟩ = some (.int .i64 Fr) ∧ W.drew.cell? ⟨q0, 2, none⟩ = some (.int .i64 o) := ⟨HS1.out.c1, HS1.out.ref.c0, HQ1.out.cell 1, HQ1.out.cell 2⟩
  go_region_held3 (fun v => v.cell? ⟨m.s, 1, none⟩ = some (.pointer (some ⟨m.z, 0, none⟩)) ∧ v.cell? ⟨m.z, 0, none⟩ = some (.pointer (some ⟨m.x, 0, none⟩)) ∧ v.cell? ⟨q0, 1, none⟩ = some (.int .i64 Fr) ∧ v.cell? ⟨q0, 2, none⟩ = some (.int .i64 o)) (first | exact hs1 | exact ⟨hs3'.c1, hs3'.ref.c0, q3.cell 1, q3.cell 2⟩)
    (first | (go_at_call 32; refine Calls.mono (HTR.out _ HS1.out.ref.ref) ?_; rintro e w3 ⟨rfl, hr3, hg3⟩; have hs3' := HS1.out.refFrm hg3 (HS1.out.ref.refGrown hg3 hr3); have q3 := lrow_grown_ne HS1.out.ref.ref.row hg3 HQ1.out (by decide)))
  have HS3 := Lib.hid hs3'
  have HQ3 := Lib.hid q3
  have HST3 := Lib.hid (HST1.out.trans (Step.grown HS1.out.ref.ref.row (Or.inr (Or.inr (Or.inr rfl))) HS1.out.ly hg3 _))
  clear hs3' q3 hs1 hr3 hg3 HS1 HQ1 HST1 HTR
  rcases hca with ⟨f, k, rfl, rfl, rfl, hh⟩ | ⟨hE0, rfl⟩
  · have HH2 := Lib.hid hh
    clear hh HH
    have hown3 := HS3.out.own
    rw [HM1.out] at hown3
    obtain ⟨A5, c5, W5, r5, o5, g5, t5⟩ := app_run HS3.out.lo hown3 (by rw [← HM1.out]; exact hT10) f k
    rw [← HM1.out] at r5 o5 t5 g5
    have hcz := HS3.out.c2
    have hs4 : m.s < w3.heap.size := HS3.out.top.lt
    have hsn4 : ¬ m.s = w3.heap.size := by omega
    have hq4 : q0 < w3.heap.size := HQ3.out.lt
    have hqn4 : ¬ q0 = w3.heap.size := by omega
    have hqf1 : w3.cell? ⟨q0, 1, none⟩ = some (.int .i64 f) := HQ3.out.cell 1
    have hqf2 : w3.cell? ⟨q0, 2, none⟩ = some (.int .i64 k) := HQ3.out.cell 2
    have htk := HS3.out.taken g5 (T' := T ++ [(f, k)]) o5 t5
    have htop5 := own_far HS3.out.own g5 HS3.out.top (by decide)
    have hc5 : W5.cell? ⟨m.s, 2, none⟩ = some (.slice A m1 c) := htop5.cell 2
    have hf5 := htop5.frozen 2
    have HTK := Lib.hid htk
    clear o5 g5 t5 htk htop5 hown3
    go_wp2_with fail
    go_cut [165] from 165 to 179 (fun sx wx => wx = W5.setCell ⟨m.s, 2, none⟩ (.slice A5 (m1 + 1) c5))
    case first =>
      go_region_law (refine step_append_run (by rfl) _ _ 32 (by rfl) (.slice A m1 c) (.slice (some ⟨w3.heap.size, 0, none⟩) 1 1) (by simp [Act.eval]) (by simp [Act.eval]) r5 ?_)
      all_goals
        go_wp2_with fail
        go_meet
        rfl
    case rest =>
      subst hcut
      have HS5 := Lib.hid HTK.out.1
      have HSTEP5 := Lib.hid (HST3.out.trans HTK.out.2)
      have HQ6 := Lib.hid (HTK.out.2.keep _ _ _ HQ3.out (by unfold Own; decide) (not_own HS3.out.own HQ3.out (by decide)))
      clear hcz hc5 hf5 hqf1 hqf2 hs4 hsn4 hq4 hqn4 r5 HTK
      generalize W5.setCell ⟨m.s, 2, none⟩ (.slice A5 (m1 + 1) c5) = W6 at HS5 HSTEP5 HQ6 ⊢
      have HQ5 : Hid (Lrow W6 q0 29 [.int .i64 K, .int .i64 f, .int .i64 k, .int .i64 Of, .int .i64 N]) := HQ6.out
      have HS6 := Lib.hid (HS5.out.drewN 1)
      have HQ6' := Lib.hid (HQ5.out.drewN 1)
      have hs6 : W6.drew.cell? ⟨m.s, 0, none⟩ = some (.pointer (some ⟨m.k, 0, none⟩)) ∧ W6.drew.cell? ⟨q0, 1, none⟩ = some (.int .i64 f) ∧ W6.drew.cell? ⟨q0, 2, none⟩ = some (.int .i64 k) := ⟨HS6.out.c0, HQ6'.out.cell 1, HQ6'.out.cell 2⟩
      go_wp2_with fail
      go_region_held3 (fun v => v.cell? ⟨m.s, 0, none⟩ = some (.pointer (some ⟨m.k, 0, none⟩)) ∧ v.cell? ⟨q0, 1, none⟩ = some (.int .i64 f) ∧ v.cell? ⟨q0, 2, none⟩ = some (.int .i64 k)) (first | exact hs6 | exact ⟨hs7.c0, q7.cell 1, q7.cell 2⟩)
        (first | (go_at_call 22; refine Calls.mono (HTB.out _ _ _ _ _ HS6.out) ?_; rintro e w7 ⟨rfl, ht7, hx7⟩; have hs7 := HS6.out.kinTurn ht7 hx7; have q7 := ht7.row _ _ _ HQ6'.out (by decide) (by decide)))
      have HS7 := Lib.hid hs7
      have HST7 := Lib.hid (HSTEP5.out.trans ((Step.call (below_dN (Below.refl _ _) 1) HS5.out.lo _).trans (Step.turn ht7 _)))
      clear hs6 hs7 q7 ht7 hx7
      go_wp2
      go_ret
      exact ⟨rfl, _, _, _, _, HS7.out, HH2.out, HST7.out⟩
  · have hE1 : ¬ E = 0 := hE0
    have HS6 := Lib.hid (HS3.out.drewN 1)
    have HQ6 := Lib.hid (HQ3.out.drewN 1)
    have hs6 : w3.drew.cell? ⟨m.s, 0, none⟩ = some (.pointer (some ⟨m.k, 0, none⟩)) ∧ w3.drew.cell? ⟨q0, 1, none⟩ = some (.int .i64 Fr) ∧ w3.drew.cell? ⟨q0, 2, none⟩ = some (.int .i64 o) := ⟨HS6.out.c0, HQ6.out.cell 1, HQ6.out.cell 2⟩
    go_wp2_with fail
    go_region_held3 (fun v => v.cell? ⟨m.s, 0, none⟩ = some (.pointer (some ⟨m.k, 0, none⟩)) ∧ v.cell? ⟨q0, 1, none⟩ = some (.int .i64 Fr) ∧ v.cell? ⟨q0, 2, none⟩ = some (.int .i64 o)) (first | exact hs6 | exact ⟨hs7.c0, q7.cell 1, q7.cell 2⟩)
      (first | (go_at_call 22; refine Calls.mono (HTB.out _ _ _ _ _ HS6.out) ?_; rintro e w7 ⟨rfl, ht7, hx7⟩; have hs7 := HS6.out.kinTurn ht7 hx7; have q7 := ht7.row _ _ _ HQ6.out (by decide) (by decide)))
    have HS7 := Lib.hid hs7
    have HST7 := Lib.hid (HST3.out.trans ((Step.call (below_dN (Below.refl _ _) 1) HS3.out.lo _).trans (Step.turn ht7 _)))
    clear hs6 hs7 q7 ht7 hx7
    go_wp2
    go_ret
    exact ⟨rfl, _, _, _, _, HS7.out, HH.out, HST7.out⟩
end
end Go.Proofs.Ytfjphlickpgbnaa
