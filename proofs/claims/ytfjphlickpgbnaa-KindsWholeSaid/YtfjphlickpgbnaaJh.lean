/- A call of both sides: giving back what was taken; any call. -/
import Derived.Test.YtfjphlickpgbnaaJg
import Derived.Test.YtfjphlickpgbnaaJo
namespace Go.Proofs.Ytfjphlickpgbnaa
open Go.RowKit

/-- An operation of a region that is written out. -/
def nthO : List Oper → Nat → Option Oper
  | [], _ => none
  | a :: _, 0 => some a
  | _ :: r, n + 1 => nthO r n
theorem nthO_eq : ∀ (l : List Oper) (i : Nat), nthO l i = l[i]?
  | [], _ => by simp [nthO]
  | a :: r, 0 => by simp [nthO]
  | a :: r, n + 1 => by rw [nthO, nthO_eq r n, List.getElem?_cons_succ]
theorem at_lit {l : List Oper} {i : Nat} {o : Oper} (h : nthO l i = some o) : l.toArray[i]? = some o := by
  rw [List.getElem?_toArray, ← nthO_eq]; exact h
section
variable {w : World} {B : Nat} {m : Nms} {F : List Bool} {S : List Nat} {T : List (Nat × Nat)} {tv : Value}
/-- What giving back comes to: it answers true; both sides have the same frames and sections; where something was given back, fewer are not free. -/
def Gave (B : Nat) (m : Nms) (F : List Bool) (T : List (Nat × Nat)) (N : Int) (tv : Value) (w : World) (e : Ending) (w' : World) : Prop :=
  e = .returned (.bool true) ∧ ∃ F' S' T' tv', St B w' m F' F' S' S' T' tv' ∧ Held F' T' ∧ Step B w w' tv tv' ∧ (0 ≤ N → N < T.length → F'.count false < F.count false)
theorem Gave.did {N : Int} {e : Ending} {w' : World} (h : Gave B m F T N tv w e w') : Did B m tv w e w' := by
  obtain ⟨h1, F', S', T', tv', h2, h3, h4, _⟩ := h
  exact ⟨h1, F', S', T', tv', h2, h3, h4⟩
/-- A box beside the state, behind the row of what is taken and the struct's field. -/
theorem lrow_grown_far {W W2 : World} {G : List Bool} {R : List Nat} {q : Nat} {t : TypeId} {vs : List Value} (h : St B W m F G S R T tv) (hq : Lrow W q t vs) (hne : t ≠ 34) (hb : Below W.heap.size W W2) (u : Value) : Lrow (W2.setCell ⟨m.s, 2, none⟩ u).drew q t vs :=
  ((hq.call hb).far (p := ⟨m.s, 2, none⟩) (by show q ≠ m.s; exact hq.apart h.top hne) u).drewN 1
set_option maxHeartbeats 40000000 in
set_option maxRecDepth 100000 in
theorem do_give4 (h : St B w m F F S S T tv) (hH : Held F T) {Fr o Of N : Int} :
    Calls Try.prog 10 #[.pointer (some ⟨m.s, 0, none⟩), .agg #[.int .i64 4, .int .i64 Fr, .int .i64 o, .int .i64 Of, .int .i64 N]] w (Gave B m F T N tv w) := by
  obtain ⟨A, c, hv⟩ := own_form h.own
  subst hv
  have hn10 := h.kin.hi
  have hT10 : T.length ≤ 1024 := by have := hH.len_n; have := h.kin.len; omega
  have HT10 := Lib.hid hT10
  have HH := Lib.hid hH
  have HS := Lib.hid h
  obtain ⟨m1, hm1⟩ : ∃ m1, m1 = T.length := ⟨_, rfl⟩
  have HM1 := Lib.hid hm1
  rw [← hm1] at HS hT10 ⊢
  obtain ⟨q0, hq0⟩ : ∃ q0, q0 = w.heap.size := ⟨_, rfl⟩
  obtain ⟨W, hW⟩ : ∃ W, W = w.alloc (.cells #[.int .i64 4, .int .i64 Fr, .int .i64 o, .int .i64 Of, .int .i64 N] 29) := ⟨_, rfl⟩
  have HSW : Hid (St B W m F F S S T (.slice A m1 c)) := by
    show St _ _ _ _ _ _ _ _ _
    rw [hW]; exact HS.out.alloc _
  have HQW : Hid (Lrow W q0 29 [.int .i64 4, .int .i64 Fr, .int .i64 o, .int .i64 Of, .int .i64 N]) := by
    show Lrow _ _ _ _
    rw [hW, hq0]; exact Lrow.new w _ _
  have HSTW : Hid (Step B w W (.slice A m1 c) (.slice A m1 c)) := by
    show Step _ _ _ _ _
    rw [hW]; exact Step.call ((Below.refl w.heap.size w).alloc (Nat.le_refl _) _) HS.out.lo _
  have HW := Lib.hid hW
  have HQ0 := Lib.hid hq0
  have hN : W.cell? ⟨q0, 4, none⟩ = some (.int .i64 N) := HQW.out.cell 4
  have hcz : W.cell? ⟨m.s, 2, none⟩ = some (.slice A m1 c) := HSW.out.c2
  clear hW hq0 HS
  by_cases hneg : N < 0
  · have hd1 : decide (N < 0) = true := by simpa using hneg
    clear h hH hm1
    go_enter Try.func10, Try.ntmps10
    go_wp2_with fail
    rw [← HW.out, ← HQ0.out]
    go_quiet (fail)
    clear hN hcz
    go_wp2
    go_ret
    exact ⟨rfl, _, _, _, _, HSW.out.drewN _, HH.out, HSTW.out.trans (Step.call (below_dN (Below.refl _ _) _) HSW.out.lo _), fun h0 _ => by omega⟩
  · have hd1 : decide (N < 0) = false := by simpa using hneg
    by_cases hge : (m1 : Int) ≤ N
    · have hd2 : decide ((m1 : Int) ≤ N) = true := by simpa using hge
      clear h hH hm1
      go_enter Try.func10, Try.ntmps10
      go_wp2_with fail
      rw [← HW.out, ← HQ0.out]
      go_quiet (fail)
      clear hN hcz
      go_wp2
      go_ret
      exact ⟨rfl, _, _, _, _, HSW.out.drewN _, HH.out, HSTW.out.trans (Step.call (below_dN (Below.refl _ _) _) HSW.out.lo _), fun _ h1 => by have := HM1.out; omega⟩
    · have hd2 : decide ((m1 : Int) ≤ N) = false := by simpa using hge
      obtain ⟨i, rfl⟩ : ∃ i : Nat, N = i := ⟨N.toNat, by omega⟩
      have hi : i < T.length := by omega
      obtain ⟨g, hA, hg, hc1, hc2⟩ := cells_of h.own hi
      subst hA
      obtain ⟨hcap, hcm⟩ := cap_of h.own
      obtain ⟨he1, he2, he3⟩ := hH.even _ (List.getElem_mem hi)
      have hgv := hH.give i hi
      have hal := hH.all (List.getElem_mem hi)
      obtain ⟨_, vsT, hrT⟩ := row_ownt h.own (q := g) rfl
      have him : i < m1 := by omega
      obtain ⟨f, hf⟩ : ∃ f, f = T[i].1 := ⟨_, rfl⟩
      obtain ⟨k, hk⟩ : ∃ k, k = T[i].2 := ⟨_, rfl⟩
      rw [← hf] at hc1 he2 he3 hgv hal
      rw [← hk] at hc2 he1 he2 he3 hgv hal
      have hce : chE F f k true = 0 := chE_free he1 he2 he3 hal
      have hcl : chL F f k true = setR F f (2 ^ k) true := by
        have := chL_of hce
        simpa using this
      have hcnt : (setR F f (2 ^ k) true).count false < F.count false := by
        have := count_setR (F := F) (a := f) (v := true) (m := 2 ^ k) he3 hal
        have := two_pos k
        simp only [Bool.not_true] at *
        omega
      have hfn : f ≤ 1024 := by have := h.kin.len; have := two_pos k; omega
      rw [← hm1] at hcap
      have HG := Lib.hid hgv
      have HCN := Lib.hid hcnt
      have HCE := Lib.hid hce
      have HCL := Lib.hid hcl
      have HRT := Lib.hid hrT
      have HC1 := Lib.hid hc1
      have HC2 := Lib.hid hc2
      have HI := Lib.hid hi
      have i0 : (0 : Int) ≤ i := by omega
      have im : (i : Int) < m1 := by omega
      clear h hH hgv hal hce hcl hcnt he2 he3 hf hk hT10 hrT hc1 hc2 hm1 hi hneg hge
      go_enter Try.func10, Try.ntmps10
      go_wp2_with fail
      rw [← HW.out, ← HQ0.out]
      go_quiet (fail)
      clear hN hcz
      have hwW : Below w.heap.size w W := by rw [HW.out]; exact (Below.refl _ _).alloc (Nat.le_refl _) _
      obtain ⟨Wa, hWa⟩ : ∃ Wa, Wa = W.drewN nq := ⟨_, rfl⟩
      have HSa : Hid (St B Wa m F F S S T (.slice (some ⟨g, 0, none⟩) m1 c)) := by show St _ _ _ _ _ _ _ _ _; rw [hWa]; exact HSW.out.drewN nq
      have HQa : Hid (Lrow Wa q0 29 [.int .i64 4, .int .i64 Fr, .int .i64 o, .int .i64 Of, .int .i64 i]) := by show Lrow _ _ _ _; rw [hWa]; exact HQW.out.drewN nq
      have HTa : Hid (Lrow Wa g 53 vsT) := by show Lrow _ _ _ _; rw [hWa]; exact (HRT.out.call hwW).drewN nq
      have HSTa : Hid (Step B w Wa (.slice (some ⟨g, 0, none⟩) m1 c) (.slice (some ⟨g, 0, none⟩) m1 c)) := by show Step _ _ _ _ _; rw [hWa]; exact HSTW.out.trans (Step.call (below_dN (Below.refl _ _) _) HSW.out.lo _)
      rw [← hWa]
      have hvf : vsT[i * 2]? = some (.int .i64 f) := by rw [← HRT.out.cell]; exact HC1.out
      have hvk : vsT[i * 2 + 1]? = some (.int .i64 k) := by rw [← HRT.out.cell]; exact HC2.out
      have HVF := Lib.hid hvf
      have HVK := Lib.hid hvk
      clear hWa hwW HSW HQW HSTW hvf hvk
      go_wp2_with fail
      have hs1 : Wa.drew.cell? ⟨m.s, 2, none⟩ = some (.slice (some ⟨g, 0, none⟩) m1 c) ∧ Wa.drew.cell? ⟨q0, 4, none⟩ = some (.int .i64 i) ∧ Wa.drew.cell? ⟨g, i * 2, none⟩ = some (.int .i64 f) ∧ Wa.drew.cell? ⟨g, i * 2 + 1, none⟩ = some (.int .i64 k) := ⟨HSa.out.c2, HQa.out.cell 4, (HTa.out.cell _).trans HVF.out, (HTa.out.cell _).trans HVK.out⟩
      have hsA : ∀ o : Obj, (Wa.drew.alloc o).cell? ⟨m.s, 2, none⟩ = some (.slice (some ⟨g, 0, none⟩) m1 c) ∧ (Wa.drew.alloc o).cell? ⟨q0, 4, none⟩ = some (.int .i64 i) ∧ (Wa.drew.alloc o).cell? ⟨g, i * 2, none⟩ = some (.int .i64 f) ∧ (Wa.drew.alloc o).cell? ⟨g, i * 2 + 1, none⟩ = some (.int .i64 k) := fun o => ⟨((HSa.out.drewN 1).alloc o).c2, ((HQa.out.drewN 1).alloc o).cell 4, (((HTa.out.drewN 1).alloc o).cell _).trans HVF.out, (((HTa.out.drewN 1).alloc o).cell _).trans HVK.out⟩
      go_cut [9] from 11 (fun s9 wx => s9 = .pointer (some ⟨Wa.heap.size, 0, none⟩) ∧ wx = (Wa.alloc (.cells #[.int .i64 f, .int .i64 k] 53)).drew)
      case first =>
        go_region_held3 (fun v => v.cell? ⟨m.s, 2, none⟩ = some (.slice (some ⟨g, 0, none⟩) m1 c) ∧ v.cell? ⟨q0, 4, none⟩ = some (.int .i64 i) ∧ v.cell? ⟨g, i * 2, none⟩ = some (.int .i64 f) ∧ v.cell? ⟨g, i * 2 + 1, none⟩ = some (.int .i64 k)) (first | exact hs1 | exact hsA _) (fail)
        all_goals
          go_wp2_with fail
          go_meet
          exact ⟨rfl, rfl⟩
      case rest =>
        obtain ⟨rfl, rfl⟩ := hcut
        clear hs1 hsA
        obtain ⟨q, hq⟩ : ∃ q, q = Wa.heap.size := ⟨_, rfl⟩
        obtain ⟨Wb, hWb⟩ : ∃ Wb, Wb = (Wa.alloc (.cells #[.int .i64 f, .int .i64 k] 53)).drew := ⟨_, rfl⟩
        have hab : Below Wa.heap.size Wa Wb := by rw [hWb]; exact below_dN ((Below.refl _ _).alloc (Nat.le_refl _) _) 1
        have HT1 : Hid (Lrow Wb q 53 [.int .i64 f, .int .i64 k]) := by show Lrow _ _ _ _; rw [hWb, hq]; exact (Lrow.new Wa _ _).drewN 1
        have HS1 := Lib.hid (HSa.out.call hab)
        have HQ1 := Lib.hid (HQa.out.call hab)
        have HST := Lib.hid (HSTa.out.trans (Step.call hab HSa.out.lo _))
        rw [← hWb, ← hq]
        clear hWb hq hab HSa HQa HTa HSTa HRT HC1 HC2 HVF HVK
        have ho := (HS1.out.drewN 1).own
        rw [HM1.out] at ho
        obtain ⟨v1, W1, v2, W2, r1, r2a, r2b, o2, b2, t2, b1⟩ := without_run (W := Wb.drew) (B := B) (by have := HS1.out.lo; exact this) ho HI.out HT10.out
        rw [← HM1.out] at r2a
        clear ho
        obtain ⟨m2, hm2⟩ : ∃ m2, m2 = (T.take i ++ T.drop (i + 1)).length := ⟨_, rfl⟩
        rw [← hm2] at o2
        have HM2 := Lib.hid hm2
        clear hm2
        obtain ⟨A2, c2, hv2⟩ := own_form o2
        subst hv2
        have r1' : (Builtin.append_ #[32, 32] 32 #[.slice (some ⟨Wb.heap.size, 0, none⟩) 0 0, .slice (some ⟨g, 0, none⟩) i c]).run Try.prog (Wb.alloc (.cells #[] 53)).drew = .ok v1 W1 := r1
        have hcz := HS1.out.c2
        have hsW : m.s < Wb.heap.size := HS1.out.top.lt
        have hsne : ¬ m.s = Wb.heap.size := by omega
        have hqW : q0 < Wb.heap.size := HQ1.out.lt
        have hqne : ¬ q0 = Wb.heap.size := by omega
        have hqc : Wb.cell? ⟨q0, 4, none⟩ = some (.int .i64 i) := HQ1.out.cell 4
        have hs1 := HS1.out.top.call (w' := W1) ⟨b1.os, b1.tape, b1.output, b1.size, b1.block⟩
        have hs2 := HS1.out.top.call (w' := W2) ⟨b2.os, b2.tape, b2.output, b2.size, b2.block⟩
        have hqr1 := HQ1.out.call (w' := W1) ⟨b1.os, b1.tape, b1.output, b1.size, b1.block⟩
        have hqr2 := HQ1.out.call (w' := W2) ⟨b2.os, b2.tape, b2.output, b2.size, b2.block⟩
        have hc1 : W1.cell? ⟨m.s, 2, none⟩ = some (.slice (some ⟨g, 0, none⟩) m1 c) := hs1.cell 2
        have hc2 : W2.cell? ⟨m.s, 2, none⟩ = some (.slice (some ⟨g, 0, none⟩) m1 c) := hs2.cell 2
        have hqc1 : W1.cell? ⟨q0, 4, none⟩ = some (.int .i64 i) := hqr1.cell 4
        have hqc2 : W2.cell? ⟨q0, 4, none⟩ = some (.int .i64 i) := hqr2.cell 4
        have hqd : Wb.drew.cell? ⟨q0, 4, none⟩ = some (.int .i64 i) := (HQ1.out.drewN 1).cell 4
        have hqa : (Wb.alloc (.cells #[] 53)).drew.cell? ⟨q0, 4, none⟩ = some (.int .i64 i) := ((HQ1.out.alloc _).drewN 1).cell 4
        have hqs : (W2.setCell ⟨m.s, 2, none⟩ (.slice A2 m2 c2)).cell? ⟨q0, 4, none⟩ = some (.int .i64 i) := (hqr2.far (p := ⟨m.s, 2, none⟩) (by show q0 ≠ m.s; exact HQ1.out.apart HS1.out.top (by decide)) _).cell 4
        have hf2 := hs2.frozen 2
        have HO2 := Lib.hid o2
        have HB2 := Lib.hid b2
        have HT2 := Lib.hid t2
        have iw : IntKind.i64.wrap ((i : Int) + 1) = i + 1 := IntWalk.i64_in _ (by have := HT10.out; have := HI.out; omega)
        have it1 : ((i : Int) + 1).toNat = i + 1 := by omega
        have hic : (i : Int) ≤ c := by omega
        have i1 : (0 : Int) ≤ (i : Int) + 1 := by omega
        have i1m : (i : Int) + 1 ≤ m1 := by omega
        have himc : i ≤ c := by omega
        have htc : (m1 : Int) ≤ c := by omega
        clear r1 o2 b2 t2 b1 hs1 hs2 hqr1 hqr2
        go_wp2_with fail
        go_cut [108] from 11 (fun sx wx => wx = W2.setCell ⟨m.s, 2, none⟩ (.slice A2 m2 c2))
        case first =>
          by_cases hc : c = i + 1
          · have r2' := r2b hc
            have hTi : m1 = i + 1 := by omega
            subst hc
            clear r2a r2b
            subst hTi
            have hle : (i : Int) ≤ (i : Int) + 1 := by omega
            refine wp_region_noPanic ?_
            refine wp_region_held_drew (S := fun v => v.cell? ⟨q0, 4, none⟩ = some (.int .i64 i)) (by kernel_rfl) hqd (fun hHeld => ?_)
            refine wpAnyH_take (i := 0) (oi := _) (v := ?_) (at_lit rfl) (by kernel_rfl) (by kernel_rfl) (by kernel_rfl) (fun _ _ _ h => h) (Or.inl ⟨by rfl, ?_⟩) (by assumption) ?_
            rotate_left
            focus ((intro w5 hSw; (try dsimp only at hSw); go_simp; (try with_reducible rfl)); done)
            (try simp only [Act.put, List.setIfInBounds_toArray, List.set_cons_zero, List.set_cons_succ])
            refine wpAnyH_take (i := 2) (oi := _) (v := ?_) (at_lit rfl) (by kernel_rfl) (by kernel_rfl) (by kernel_rfl) (fun _ _ _ h => h) (Or.inl ⟨by rfl, ?_⟩) (by assumption) ?_
            rotate_left
            focus ((intro w5 hSw; (try dsimp only at hSw); go_simp; (try with_reducible rfl)); done)
            (try simp only [Act.put, List.setIfInBounds_toArray, List.set_cons_zero, List.set_cons_succ])
            refine wpAnyH_take (i := 3) (oi := _) (v := ?_) (at_lit rfl) (by kernel_rfl) (by kernel_rfl) (by kernel_rfl) (fun _ _ _ h => h) (Or.inl ⟨by rfl, ?_⟩) (by assumption) ?_
            rotate_left
            focus ((intro w5 hSw; (try dsimp only at hSw); go_simp; (try with_reducible rfl)); done)
            (try simp only [Act.put, List.setIfInBounds_toArray, List.set_cons_zero, List.set_cons_succ])
            refine wpAnyH_take (i := 4) (oi := _) (v := ?_) (at_lit rfl) (by kernel_rfl) (by kernel_rfl) (by kernel_rfl) (fun _ _ _ h => h) (Or.inl ⟨by rfl, ?_⟩) (by assumption) ?_
            rotate_left
            focus ((intro w5 hSw; (try dsimp only at hSw); go_simp; (try with_reducible rfl)); done)
            (try simp only [Act.put, List.setIfInBounds_toArray, List.set_cons_zero, List.set_cons_succ])
            refine wpAnyH_take (i := 6) (oi := _) (v := ?_) (at_lit rfl) (by kernel_rfl) (by kernel_rfl) (by kernel_rfl) (fun _ _ _ h => h) (Or.inl ⟨by rfl, ?_⟩) (by assumption) ?_
            rotate_left
            focus ((intro w5 hSw; (try dsimp only at hSw); go_simp; (try with_reducible rfl)); done)
            (try simp only [Act.put, List.setIfInBounds_toArray, List.set_cons_zero, List.set_cons_succ])
            refine wpAnyH_take (i := 7) (oi := _) (v := ?_) (at_lit rfl) (by kernel_rfl) (by kernel_rfl) (by kernel_rfl) (fun _ _ _ h => h) (Or.inl ⟨by rfl, ?_⟩) (by assumption) ?_
            rotate_left
            focus ((intro w5 hSw; (try dsimp only at hSw); go_simp; (try with_reducible rfl)); done)
            (try simp only [Act.put, List.setIfInBounds_toArray, List.set_cons_zero, List.set_cons_succ])
            refine wpAnyH_take (i := 10) (oi := _) (v := ?_) (at_lit rfl) (by kernel_rfl) (by kernel_rfl) (by kernel_rfl) (fun _ _ _ h => h) (Or.inl ⟨by rfl, ?_⟩) (by assumption) ?_
            rotate_left
            focus ((intro w5 hSw; (try dsimp only at hSw); go_simp; (try with_reducible rfl)); done)
            (try simp only [Act.put, List.setIfInBounds_toArray, List.set_cons_zero, List.set_cons_succ])
            refine wpAnyH_take (i := 11) (oi := _) (v := ?_) (at_lit rfl) (by kernel_rfl) (by kernel_rfl) (by kernel_rfl) (fun _ _ _ h => h) (Or.inl ⟨by rfl, ?_⟩) (by assumption) ?_
            rotate_left
            focus ((intro w5 hSw; (try dsimp only at hSw); go_simp; (try with_reducible rfl)); done)
            (try simp only [Act.put, List.setIfInBounds_toArray, List.set_cons_zero, List.set_cons_succ])
            refine wpAnyH_take (i := 12) (oi := _) (v := ?_) (at_lit rfl) (by kernel_rfl) (by kernel_rfl) (by kernel_rfl) (fun _ _ _ h => h) (Or.inl ⟨by rfl, ?_⟩) (by assumption) ?_
            rotate_left
            focus ((intro w5 hSw; (try dsimp only at hSw); go_simp; (try with_reducible rfl)); done)
            (try simp only [Act.put, List.setIfInBounds_toArray, List.set_cons_zero, List.set_cons_succ])
            refine wpAnyH_take (i := 14) (oi := _) (v := ?_) (at_lit rfl) (by kernel_rfl) (by kernel_rfl) (by kernel_rfl) (fun _ _ _ h => h) (Or.inl ⟨by rfl, ?_⟩) (by assumption) ?_
            rotate_left
            focus ((intro w5 hSw; (try dsimp only at hSw); go_simp; (try with_reducible rfl)); done)
            (try simp only [Act.put, List.setIfInBounds_toArray, List.set_cons_zero, List.set_cons_succ])
            refine wpAnyH_take (i := 15) (oi := _) (v := ?_) (at_lit rfl) (by kernel_rfl) (by kernel_rfl) (by kernel_rfl) (fun _ _ _ h => h) (Or.inl ⟨by rfl, ?_⟩) (by assumption) ?_
            rotate_left
            focus ((intro w5 hSw; (try dsimp only at hSw); go_simp; (try with_reducible rfl)); done)
            (try simp only [Act.put, List.setIfInBounds_toArray, List.set_cons_zero, List.set_cons_succ])
            refine wpAnyH_take (i := 16) (oi := _) (v := ?_) (at_lit rfl) (by kernel_rfl) (by kernel_rfl) (by kernel_rfl) (fun _ _ _ h => h) (Or.inl ⟨by rfl, ?_⟩) (by assumption) ?_
            rotate_left
            focus ((intro w5 hSw; (try dsimp only at hSw); go_simp; (try with_reducible rfl)); done)
            (try simp only [Act.put, List.setIfInBounds_toArray, List.set_cons_zero, List.set_cons_succ])
            refine wpAnyH_ready (rs := [1, 5, 13]) (by kernel_rfl) (by simp) ?_
            refine AllReadyH.cons (o := _) (at_lit rfl) (fun K hK => ?_) ?_
            · go_simp
              refine hK.out _ _ ?_ (fun hHeld => ?_)
              focus ((try dsimp only); (first | exact hqd | exact hqa | exact hqc1 | exact hqc2 | exact hqs))
              clear hK K
              (try simp only [Act.put, List.setIfInBounds_toArray, List.set_cons_zero, List.set_cons_succ])
              refine wpAnyH_ready (rs := [5, 13]) (by kernel_rfl) (by simp) ?_
              refine AllReadyH.cons (o := _) (at_lit rfl) (fun K hK => ?_) ?_
              · go_simp
                refine hK.out _ _ ?_ (fun hHeld => ?_)
                focus ((try dsimp only); (first | exact hqd | exact hqa | exact hqc1 | exact hqc2 | exact hqs))
                clear hK K
                (try simp only [Act.put, List.setIfInBounds_toArray, List.set_cons_zero, List.set_cons_succ])
                refine wpAnyH_take (i := 8) (oi := _) (v := ?_) (at_lit rfl) (by kernel_rfl) (by kernel_rfl) (by kernel_rfl) (fun _ _ _ h => h) (Or.inl ⟨by rfl, ?_⟩) (by assumption) ?_
                rotate_left
                focus ((intro w5 hSw; (try dsimp only at hSw); go_simp; (try with_reducible rfl)); done)
                (try simp only [Act.put, List.setIfInBounds_toArray, List.set_cons_zero, List.set_cons_succ])
                refine wpAnyH_ready (rs := [9, 13]) (by kernel_rfl) (by simp) ?_
                refine AllReadyH.cons (o := _) (at_lit rfl) (fun K hK => ?_) ?_
                · refine step_append_run (by rfl) _ _ 32 (by rfl) (.slice (some ⟨Wb.heap.size, 0, none⟩) 0 0) (.slice (some ⟨g, 0, none⟩) i (i + 1)) (by simp [Act.eval]) (by simp [Act.eval]) r1' ?_
                  refine hK.out _ _ ?_ (fun hHeld => ?_)
                  focus ((try dsimp only); (first | exact hqd | exact hqa | exact hqc1 | exact hqc2 | exact hqs))
                  clear hK K
                  (try simp only [Act.put, List.setIfInBounds_toArray, List.set_cons_zero, List.set_cons_succ])
                  refine wpAnyH_ready (rs := [13]) (by kernel_rfl) (by simp) ?_
                  refine AllReadyH.cons (o := _) (at_lit rfl) (fun K hK => ?_) ?_
                  · go_simp
                    refine hK.out _ _ ?_ (fun hHeld => ?_)
                    focus ((try dsimp only); (first | exact hqd | exact hqa | exact hqc1 | exact hqc2 | exact hqs))
                    clear hK K
                    (try simp only [Act.put, List.setIfInBounds_toArray, List.set_cons_zero, List.set_cons_succ])
                    refine wpAnyH_take (i := 17) (oi := _) (v := ?_) (at_lit rfl) (by kernel_rfl) (by kernel_rfl) (by kernel_rfl) (fun _ _ _ h => h) (Or.inl ⟨by rfl, ?_⟩) (by assumption) ?_
                    rotate_left
                    focus ((intro w5 hSw; (try dsimp only at hSw); go_simp; (try with_reducible rfl)); done)
                    (try simp only [Act.put, List.setIfInBounds_toArray, List.set_cons_zero, List.set_cons_succ])
                    refine wpAnyH_ready (rs := [18]) (by kernel_rfl) (by simp) ?_
                    refine AllReadyH.cons (o := _) (at_lit rfl) (fun K hK => ?_) ?_
                    · refine step_append_run (by rfl) _ _ 32 (by rfl) v1 (.slice (some ⟨g, 0, none⟩) 0 0) (by simp [Act.eval]) (by simp [Act.eval]) r2' ?_
                      refine hK.out _ _ ?_ (fun hHeld => ?_)
                      focus ((try dsimp only); (first | exact hqd | exact hqa | exact hqc1 | exact hqc2 | exact hqs))
                      clear hK K
                      (try simp only [Act.put, List.setIfInBounds_toArray, List.set_cons_zero, List.set_cons_succ])
                      refine wpAnyH_take (i := 19) (oi := _) (v := ?_) (at_lit rfl) (by kernel_rfl) (by kernel_rfl) (by kernel_rfl) (fun _ _ _ h => h) (Or.inl ⟨by rfl, ?_⟩) (by assumption) ?_
                      rotate_left
                      focus ((intro w5 hSw; (try dsimp only at hSw); go_simp; (try with_reducible rfl)); done)
                      (try simp only [Act.put, List.setIfInBounds_toArray, List.set_cons_zero, List.set_cons_succ])
                      refine wpAnyH_take (i := 20) (oi := _) (v := ?_) (at_lit rfl) (by kernel_rfl) (by kernel_rfl) (by kernel_rfl) (fun _ _ _ h => h) (Or.inl ⟨by rfl, ?_⟩) (by assumption) ?_
                      rotate_left
                      focus ((intro w5 hSw; (try dsimp only at hSw); go_simp; (try with_reducible rfl)); done)
                      (try simp only [Act.put, List.setIfInBounds_toArray, List.set_cons_zero, List.set_cons_succ])
                      refine wpAnyH_ready (rs := [21]) (by kernel_rfl) (by simp) ?_
                      refine AllReadyH.cons (o := _) (at_lit rfl) (fun K hK => ?_) ?_
                      · go_simp
                        refine hK.out _ _ ?_ (fun hHeld => ?_)
                        focus ((try dsimp only); (first | exact hqd | exact hqa | exact hqc1 | exact hqc2 | exact hqs))
                        clear hK K
                        (try simp only [Act.put, List.setIfInBounds_toArray, List.set_cons_zero, List.set_cons_succ])
                        refine wpAnyH_done (by kernel_rfl) ?_ _
                        refine NoPanic.normal ?_
                        go_wp2_with fail
                        go_meet
                        rfl
                      exact AllReadyH.nil
                    exact AllReadyH.nil
                  exact AllReadyH.nil
                refine AllReadyH.cons (o := _) (at_lit rfl) (fun K hK => ?_) ?_
                · go_simp
                  refine hK.out _ _ ?_ (fun hHeld => ?_)
                  focus ((try dsimp only); (first | exact hqd | exact hqa | exact hqc1 | exact hqc2 | exact hqs))
                  clear hK K
                  (try simp only [Act.put, List.setIfInBounds_toArray, List.set_cons_zero, List.set_cons_succ])
                  refine wpAnyH_take (i := 17) (oi := _) (v := ?_) (at_lit rfl) (by kernel_rfl) (by kernel_rfl) (by kernel_rfl) (fun _ _ _ h => h) (Or.inl ⟨by rfl, ?_⟩) (by assumption) ?_
                  rotate_left
                  focus ((intro w5 hSw; (try dsimp only at hSw); go_simp; (try with_reducible rfl)); done)
                  (try simp only [Act.put, List.setIfInBounds_toArray, List.set_cons_zero, List.set_cons_succ])
                  refine wpAnyH_ready (rs := [9]) (by kernel_rfl) (by simp) ?_
                  refine AllReadyH.cons (o := _) (at_lit rfl) (fun K hK => ?_) ?_
                  · refine step_append_run (by rfl) _ _ 32 (by rfl) (.slice (some ⟨Wb.heap.size, 0, none⟩) 0 0) (.slice (some ⟨g, 0, none⟩) i (i + 1)) (by simp [Act.eval]) (by simp [Act.eval]) r1' ?_
                    refine hK.out _ _ ?_ (fun hHeld => ?_)
                    focus ((try dsimp only); (first | exact hqd | exact hqa | exact hqc1 | exact hqc2 | exact hqs))
                    clear hK K
                    (try simp only [Act.put, List.setIfInBounds_toArray, List.set_cons_zero, List.set_cons_succ])
                    refine wpAnyH_ready (rs := [18]) (by kernel_rfl) (by simp) ?_
                    refine AllReadyH.cons (o := _) (at_lit rfl) (fun K hK => ?_) ?_
                    · refine step_append_run (by rfl) _ _ 32 (by rfl) v1 (.slice (some ⟨g, 0, none⟩) 0 0) (by simp [Act.eval]) (by simp [Act.eval]) r2' ?_
                      refine hK.out _ _ ?_ (fun hHeld => ?_)
                      focus ((try dsimp only); (first | exact hqd | exact hqa | exact hqc1 | exact hqc2 | exact hqs))
                      clear hK K
                      (try simp only [Act.put, List.setIfInBounds_toArray, List.set_cons_zero, List.set_cons_succ])
                      refine wpAnyH_take (i := 19) (oi := _) (v := ?_) (at_lit rfl) (by kernel_rfl) (by kernel_rfl) (by kernel_rfl) (fun _ _ _ h => h) (Or.inl ⟨by rfl, ?_⟩) (by assumption) ?_
                      rotate_left
                      focus ((intro w5 hSw; (try dsimp only at hSw); go_simp; (try with_reducible rfl)); done)
                      (try simp only [Act.put, List.setIfInBounds_toArray, List.set_cons_zero, List.set_cons_succ])
                      refine wpAnyH_take (i := 20) (oi := _) (v := ?_) (at_lit rfl) (by kernel_rfl) (by kernel_rfl) (by kernel_rfl) (fun _ _ _ h => h) (Or.inl ⟨by rfl, ?_⟩) (by assumption) ?_
                      rotate_left
                      focus ((intro w5 hSw; (try dsimp only at hSw); go_simp; (try with_reducible rfl)); done)
                      (try simp only [Act.put, List.setIfInBounds_toArray, List.set_cons_zero, List.set_cons_succ])
                      refine wpAnyH_ready (rs := [21]) (by kernel_rfl) (by simp) ?_
                      refine AllReadyH.cons (o := _) (at_lit rfl) (fun K hK => ?_) ?_
                      · go_simp
                        refine hK.out _ _ ?_ (fun hHeld => ?_)
                        focus ((try dsimp only); (first | exact hqd | exact hqa | exact hqc1 | exact hqc2 | exact hqs))
                        clear hK K
                        (try simp only [Act.put, List.setIfInBounds_toArray, List.set_cons_zero, List.set_cons_succ])
                        refine wpAnyH_done (by kernel_rfl) ?_ _
                        refine NoPanic.normal ?_
                        go_wp2_with fail
                        go_meet
                        rfl
                      exact AllReadyH.nil
                    exact AllReadyH.nil
                  exact AllReadyH.nil
                exact AllReadyH.nil
              refine AllReadyH.cons (o := _) (at_lit rfl) (fun K hK => ?_) ?_
              · go_simp
                refine hK.out _ _ ?_ (fun hHeld => ?_)
                focus ((try dsimp only); (first | exact hqd | exact hqa | exact hqc1 | exact hqc2 | exact hqs))
                clear hK K
                (try simp only [Act.put, List.setIfInBounds_toArray, List.set_cons_zero, List.set_cons_succ])
                refine wpAnyH_take (i := 17) (oi := _) (v := ?_) (at_lit rfl) (by kernel_rfl) (by kernel_rfl) (by kernel_rfl) (fun _ _ _ h => h) (Or.inl ⟨by rfl, ?_⟩) (by assumption) ?_
                rotate_left
                focus ((intro w5 hSw; (try dsimp only at hSw); go_simp; (try with_reducible rfl)); done)
                (try simp only [Act.put, List.setIfInBounds_toArray, List.set_cons_zero, List.set_cons_succ])
                refine wpAnyH_ready (rs := [5]) (by kernel_rfl) (by simp) ?_
                refine AllReadyH.cons (o := _) (at_lit rfl) (fun K hK => ?_) ?_
                · go_simp
                  refine hK.out _ _ ?_ (fun hHeld => ?_)
                  focus ((try dsimp only); (first | exact hqd | exact hqa | exact hqc1 | exact hqc2 | exact hqs))
                  clear hK K
                  (try simp only [Act.put, List.setIfInBounds_toArray, List.set_cons_zero, List.set_cons_succ])
                  refine wpAnyH_take (i := 8) (oi := _) (v := ?_) (at_lit rfl) (by kernel_rfl) (by kernel_rfl) (by kernel_rfl) (fun _ _ _ h => h) (Or.inl ⟨by rfl, ?_⟩) (by assumption) ?_
                  rotate_left
                  focus ((intro w5 hSw; (try dsimp only at hSw); go_simp; (try with_reducible rfl)); done)
                  (try simp only [Act.put, List.setIfInBounds_toArray, List.set_cons_zero, List.set_cons_succ])
                  refine wpAnyH_ready (rs := [9]) (by kernel_rfl) (by simp) ?_
                  refine AllReadyH.cons (o := _) (at_lit rfl) (fun K hK => ?_) ?_
                  · refine step_append_run (by rfl) _ _ 32 (by rfl) (.slice (some ⟨Wb.heap.size, 0, none⟩) 0 0) (.slice (some ⟨g, 0, none⟩) i (i + 1)) (by simp [Act.eval]) (by simp [Act.eval]) r1' ?_
                    refine hK.out _ _ ?_ (fun hHeld => ?_)
                    focus ((try dsimp only); (first | exact hqd | exact hqa | exact hqc1 | exact hqc2 | exact hqs))
                    clear hK K
                    (try simp only [Act.put, List.setIfInBounds_toArray, List.set_cons_zero, List.set_cons_succ])
                    refine wpAnyH_ready (rs := [18]) (by kernel_rfl) (by simp) ?_
                    refine AllReadyH.cons (o := _) (at_lit rfl) (fun K hK => ?_) ?_
                    · refine step_append_run (by rfl) _ _ 32 (by rfl) v1 (.slice (some ⟨g, 0, none⟩) 0 0) (by simp [Act.eval]) (by simp [Act.eval]) r2' ?_
                      refine hK.out _ _ ?_ (fun hHeld => ?_)
                      focus ((try dsimp only); (first | exact hqd | exact hqa | exact hqc1 | exact hqc2 | exact hqs))
                      clear hK K
                      (try simp only [Act.put, List.setIfInBounds_toArray, List.set_cons_zero, List.set_cons_succ])
                      refine wpAnyH_take (i := 19) (oi := _) (v := ?_) (at_lit rfl) (by kernel_rfl) (by kernel_rfl) (by kernel_rfl) (fun _ _ _ h => h) (Or.inl ⟨by rfl, ?_⟩) (by assumption) ?_
                      rotate_left
                      focus ((intro w5 hSw; (try dsimp only at hSw); go_simp; (try with_reducible rfl)); done)
                      (try simp only [Act.put, List.setIfInBounds_toArray, List.set_cons_zero, List.set_cons_succ])
                      refine wpAnyH_take (i := 20) (oi := _) (v := ?_) (at_lit rfl) (by kernel_rfl) (by kernel_rfl) (by kernel_rfl) (fun _ _ _ h => h) (Or.inl ⟨by rfl, ?_⟩) (by assumption) ?_
                      rotate_left
                      focus ((intro w5 hSw; (try dsimp only at hSw); go_simp; (try with_reducible rfl)); done)
                      (try simp only [Act.put, List.setIfInBounds_toArray, List.set_cons_zero, List.set_cons_succ])
                      refine wpAnyH_ready (rs := [21]) (by kernel_rfl) (by simp) ?_
                      refine AllReadyH.cons (o := _) (at_lit rfl) (fun K hK => ?_) ?_
                      · go_simp
                        refine hK.out _ _ ?_ (fun hHeld => ?_)
                        focus ((try dsimp only); (first | exact hqd | exact hqa | exact hqc1 | exact hqc2 | exact hqs))
                        clear hK K
                        (try simp only [Act.put, List.setIfInBounds_toArray, List.set_cons_zero, List.set_cons_succ])
                        refine wpAnyH_done (by kernel_rfl) ?_ _
                        refine NoPanic.normal ?_
                        go_wp2_with fail
                        go_meet
                        rfl
                      exact AllReadyH.nil
                    exact AllReadyH.nil
                  exact AllReadyH.nil
                exact AllReadyH.nil
              exact AllReadyH.nil
            refine AllReadyH.cons (o := _) (at_lit rfl) (fun K hK => ?_) ?_
            · go_simp
              refine hK.out _ _ ?_ (fun hHeld => ?_)
              focus ((try dsimp only); (first | exact hqd | exact hqa | exact hqc1 | exact hqc2 | exact hqs))
              clear hK K
              (try simp only [Act.put, List.setIfInBounds_toArray, List.set_cons_zero, List.set_cons_succ])
              refine wpAnyH_take (i := 8) (oi := _) (v := ?_) (at_lit rfl) (by kernel_rfl) (by kernel_rfl) (by kernel_rfl) (fun _ _ _ h => h) (Or.inl ⟨by rfl, ?_⟩) (by assumption) ?_
              rotate_left
              focus ((intro w5 hSw; (try dsimp only at hSw); go_simp; (try with_reducible rfl)); done)
              (try simp only [Act.put, List.setIfInBounds_toArray, List.set_cons_zero, List.set_cons_succ])
              refine wpAnyH_ready (rs := [1, 13]) (by kernel_rfl) (by simp) ?_
              refine AllReadyH.cons (o := _) (at_lit rfl) (fun K hK => ?_) ?_
              · go_simp
                refine hK.out _ _ ?_ (fun hHeld => ?_)
                focus ((try dsimp only); (first | exact hqd | exact hqa | exact hqc1 | exact hqc2 | exact hqs))
                clear hK K
                (try simp only [Act.put, List.setIfInBounds_toArray, List.set_cons_zero, List.set_cons_succ])
                refine wpAnyH_ready (rs := [9, 13]) (by kernel_rfl) (by simp) ?_
                refine AllReadyH.cons (o := _) (at_lit rfl) (fun K hK => ?_) ?_
                · refine step_append_run (by rfl) _ _ 32 (by rfl) (.slice (some ⟨Wb.heap.size, 0, none⟩) 0 0) (.slice (some ⟨g, 0, none⟩) i (i + 1)) (by simp [Act.eval]) (by simp [Act.eval]) r1' ?_
                  refine hK.out _ _ ?_ (fun hHeld => ?_)
                  focus ((try dsimp only); (first | exact hqd | exact hqa | exact hqc1 | exact hqc2 | exact hqs))
                  clear hK K
                  (try simp only [Act.put, List.setIfInBounds_toArray, List.set_cons_zero, List.set_cons_succ])
                  refine wpAnyH_ready (rs := [13]) (by kernel_rfl) (by simp) ?_
                  refine AllReadyH.cons (o := _) (at_lit rfl) (fun K hK => ?_) ?_
                  · go_simp
                    refine hK.out _ _ ?_ (fun hHeld => ?_)
                    focus ((try dsimp only); (first | exact hqd | exact hqa | exact hqc1 | exact hqc2 | exact hqs))
                    clear hK K
                    (try simp only [Act.put, List.setIfInBounds_toArray, List.set_cons_zero, List.set_cons_succ])
                    refine wpAnyH_take (i := 17) (oi := _) (v := ?_) (at_lit rfl) (by kernel_rfl) (by kernel_rfl) (by kernel_rfl) (fun _ _ _ h => h) (Or.inl ⟨by rfl, ?_⟩) (by assumption) ?_
                    rotate_left
                    focus ((intro w5 hSw; (try dsimp only at hSw); go_simp; (try with_reducible rfl)); done)
                    (try simp only [Act.put, List.setIfInBounds_toArray, List.set_cons_zero, List.set_cons_succ])
                    refine wpAnyH_ready (rs := [18]) (by kernel_rfl) (by simp) ?_
                    refine AllReadyH.cons (o := _) (at_lit rfl) (fun K hK => ?_) ?_
                    · refine step_append_run (by rfl) _ _ 32 (by rfl) v1 (.slice (some ⟨g, 0, none⟩) 0 0) (by simp [Act.eval]) (by simp [Act.eval]) r2' ?_
                      refine hK.out _ _ ?_ (fun hHeld => ?_)
                      focus ((try dsimp only); (first | exact hqd | exact hqa | exact hqc1 | exact hqc2 | exact hqs))
                      clear hK K
                      (try simp only [Act.put, List.setIfInBounds_toArray, List.set_cons_zero, List.set_cons_succ])
                      refine wpAnyH_take (i := 19) (oi := _) (v := ?_) (at_lit rfl) (by kernel_rfl) (by kernel_rfl) (by kernel_rfl) (fun _ _ _ h => h) (Or.inl ⟨by rfl, ?_⟩) (by assumption) ?_
                      rotate_left
                      focus ((intro w5 hSw; (try dsimp only at hSw); go_simp; (try with_reducible rfl)); done)
                      (try simp only [Act.put, List.setIfInBounds_toArray, List.set_cons_zero, List.set_cons_succ])
                      refine wpAnyH_take (i := 20) (oi := _) (v := ?_) (at_lit rfl) (by kernel_rfl) (by kernel_rfl) (by kernel_rfl) (fun _ _ _ h => h) (Or.inl ⟨by rfl, ?_⟩) (by assumption) ?_
                      rotate_left
                      focus ((intro w5 hSw; (try dsimp only at hSw); go_simp; (try with_reducible rfl)); done)
                      (try simp only [Act.put, List.setIfInBounds_toArray, List.set_cons_zero, List.set_cons_succ])
                      refine wpAnyH_ready (rs := [21]) (by kernel_rfl) (by simp) ?_
                      refine AllReadyH.cons (o := _) (at_lit rfl) (fun K hK => ?_) ?_
                      · go_simp
                        refine hK.out _ _ ?_ (fun hHeld => ?_)
                        focus ((try dsimp only); (first | exact hqd | exact hqa | exact hqc1 | exact hqc2 | exact hqs))
                        clear hK K
                        (try simp only [Act.put, List.setIfInBounds_toArray, List.set_cons_zero, List.set_cons_succ])
                        refine wpAnyH_done (by kernel_rfl) ?_ _
                        refine NoPanic.normal ?_
                        go_wp2_with fail
                        go_meet
                        rfl
                      exact AllReadyH.nil
                    exact AllReadyH.nil
                  exact AllReadyH.nil
                refine AllReadyH.cons (o := _) (at_lit rfl) (fun K hK => ?_) ?_
                · go_simp
                  refine hK.out _ _ ?_ (fun hHeld => ?_)
                  focus ((try dsimp only); (first | exact hqd | exact hqa | exact hqc1 | exact hqc2 | exact hqs))
                  clear hK K
                  (try simp only [Act.put, List.setIfInBounds_toArray, List.set_cons_zero, List.set_cons_succ])
                  refine wpAnyH_take (i := 17) (oi := _) (v := ?_) (at_lit rfl) (by kernel_rfl) (by kernel_rfl) (by kernel_rfl) (fun _ _ _ h => h) (Or.inl ⟨by rfl, ?_⟩) (by assumption) ?_
                  rotate_left
                  focus ((intro w5 hSw; (try dsimp only at hSw); go_simp; (try with_reducible rfl)); done)
                  (try simp only [Act.put, List.setIfInBounds_toArray, List.set_cons_zero, List.set_cons_succ])
                  refine wpAnyH_ready (rs := [9]) (by kernel_rfl) (by simp) ?_
                  refine AllReadyH.cons (o := _) (at_lit rfl) (fun K hK => ?_) ?_
                  · refine step_append_run (by rfl) _ _ 32 (by rfl) (.slice (some ⟨Wb.heap.size, 0, none⟩) 0 0) (.slice (some ⟨g, 0, none⟩) i (i + 1)) (by simp [Act.eval]) (by simp [Act.eval]) r1' ?_
                    refine hK.out _ _ ?_ (fun hHeld => ?_)
                    focus ((try dsimp only); (first | exact hqd | exact hqa | exact hqc1 | exact hqc2 | exact hqs))
                    clear hK K
                    (try simp only [Act.put, List.setIfInBounds_toArray, List.set_cons_zero, List.set_cons_succ])
                    refine wpAnyH_ready (rs := [18]) (by kernel_rfl) (by simp) ?_
                    refine AllReadyH.cons (o := _) (at_lit rfl) (fun K hK => ?_) ?_
                    · refine step_append_run (by rfl) _ _ 32 (by rfl) v1 (.slice (some ⟨g, 0, none⟩) 0 0) (by simp [Act.eval]) (by simp [Act.eval]) r2' ?_
                      refine hK.out _ _ ?_ (fun hHeld => ?_)
                      focus ((try dsimp only); (first | exact hqd | exact hqa | exact hqc1 | exact hqc2 | exact hqs))
                      clear hK K
                      (try simp only [Act.put, List.setIfInBounds_toArray, List.set_cons_zero, List.set_cons_succ])
                      refine wpAnyH_take (i := 19) (oi := _) (v := ?_) (at_lit rfl) (by kernel_rfl) (by kernel_rfl) (by kernel_rfl) (fun _ _ _ h => h) (Or.inl ⟨by rfl, ?_⟩) (by assumption) ?_
                      rotate_left
                      focus ((intro w5 hSw; (try dsimp only at hSw); go_simp; (try with_reducible rfl)); done)
                      (try simp only [Act.put, List.setIfInBounds_toArray, List.set_cons_zero, List.set_cons_succ])
                      refine wpAnyH_take (i := 20) (oi := _) (v := ?_) (at_lit rfl) (by kernel_rfl) (by kernel_rfl) (by kernel_rfl) (fun _ _ _ h => h) (Or.inl ⟨by rfl, ?_⟩) (by assumption) ?_
                      rotate_left
                      focus ((intro w5 hSw; (try dsimp only at hSw); go_simp; (try with_reducible rfl)); done)
                      (try simp only [Act.put, List.setIfInBounds_toArray, List.set_cons_zero, List.set_cons_succ])
                      refine wpAnyH_ready (rs := [21]) (by kernel_rfl) (by simp) ?_
                      refine AllReadyH.cons (o := _) (at_lit rfl) (fun K hK => ?_) ?_
                      · go_simp
                        refine hK.out _ _ ?_ (fun hHeld => ?_)
                        focus ((try dsimp only); (first | exact hqd | exact hqa | exact hqc1 | exact hqc2 | exact hqs))
                        clear hK K
                        (try simp only [Act.put, List.setIfInBounds_toArray, List.set_cons_zero, List.set_cons_succ])
                        refine wpAnyH_done (by kernel_rfl) ?_ _
                        refine NoPanic.normal ?_
                        go_wp2_with fail
                        go_meet
                        rfl
                      exact AllReadyH.nil
                    exact AllReadyH.nil
                  exact AllReadyH.nil
                exact AllReadyH.nil
              refine AllReadyH.cons (o := _) (at_lit rfl) (fun K hK => ?_) ?_
              · go_simp
                refine hK.out _ _ ?_ (fun hHeld => ?_)
                focus ((try dsimp only); (first | exact hqd | exact hqa | exact hqc1 | exact hqc2 | exact hqs))
                clear hK K
                (try simp only [Act.put, List.setIfInBounds_toArray, List.set_cons_zero, List.set_cons_succ])
                refine wpAnyH_take (i := 17) (oi := _) (v := ?_) (at_lit rfl) (by kernel_rfl) (by kernel_rfl) (by kernel_rfl) (fun _ _ _ h => h) (Or.inl ⟨by rfl, ?_⟩) (by assumption) ?_
                rotate_left
                focus ((intro w5 hSw; (try dsimp only at hSw); go_simp; (try with_reducible rfl)); done)
                (try simp only [Act.put, List.setIfInBounds_toArray, List.set_cons_zero, List.set_cons_succ])
                refine wpAnyH_ready (rs := [1]) (by kernel_rfl) (by simp) ?_
                refine AllReadyH.cons (o := _) (at_lit rfl) (fun K hK => ?_) ?_
                · go_simp
                  refine hK.out _ _ ?_ (fun hHeld => ?_)
                  focus ((try dsimp only); (first | exact hqd | exact hqa | exact hqc1 | exact hqc2 | exact hqs))
                  clear hK K
                  (try simp only [Act.put, List.setIfInBounds_toArray, List.set_cons_zero, List.set_cons_succ])
                  refine wpAnyH_ready (rs := [9]) (by kernel_rfl) (by simp) ?_
                  refine AllReadyH.cons (o := _) (at_lit rfl) (fun K hK => ?_) ?_
                  · refine step_append_run (by rfl) _ _ 32 (by rfl) (.slice (some ⟨Wb.heap.size, 0, none⟩) 0 0) (.slice (some ⟨g, 0, none⟩) i (i + 1)) (by simp [Act.eval]) (by simp [Act.eval]) r1' ?_
                    refine hK.out _ _ ?_ (fun hHeld => ?_)
                    focus ((try dsimp only); (first | exact hqd | exact hqa | exact hqc1 | exact hqc2 | exact hqs))
                    clear hK K
                    (try simp only [Act.put, List.setIfInBounds_toArray, List.set_cons_zero, List.set_cons_succ])
                    refine wpAnyH_ready (rs := [18]) (by kernel_rfl) (by simp) ?_
                    refine AllReadyH.cons (o := _) (at_lit rfl) (fun K hK => ?_) ?_
                    · refine step_append_run (by rfl) _ _ 32 (by rfl) v1 (.slice (some ⟨g, 0, none⟩) 0 0) (by simp [Act.eval]) (by simp [Act.eval]) r2' ?_
                      refine hK.out _ _ ?_ (fun hHeld => ?_)
                      focus ((try dsimp only); (first | exact hqd | exact hqa | exact hqc1 | exact hqc2 | exact hqs))
                      clear hK K
                      (try simp only [Act.put, List.setIfInBounds_toArray, List.set_cons_zero, List.set_cons_succ])
                      refine wpAnyH_take (i := 19) (oi := _) (v := ?_) (at_lit rfl) (by kernel_rfl) (by kernel_rfl) (by kernel_rfl) (fun _ _ _ h => h) (Or.inl ⟨by rfl, ?_⟩) (by assumption) ?_
                      rotate_left
                      focus ((intro w5 hSw; (try dsimp only at hSw); go_simp; (try with_reducible rfl)); done)
                      (try simp only [Act.put, List.setIfInBounds_toArray, List.set_cons_zero, List.set_cons_succ])
                      refine wpAnyH_take (i := 20) (oi := _) (v := ?_) (at_lit rfl) (by kernel_rfl) (by kernel_rfl) (by kernel_rfl) (fun _ _ _ h => h) (Or.inl ⟨by rfl, ?_⟩) (by assumption) ?_
                      rotate_left
                      focus ((intro w5 hSw; (try dsimp only at hSw); go_simp; (try with_reducible rfl)); done)
                      (try simp only [Act.put, List.setIfInBounds_toArray, List.set_cons_zero, List.set_cons_succ])
                      refine wpAnyH_ready (rs := [21]) (by kernel_rfl) (by simp) ?_
                      refine AllReadyH.cons (o := _) (at_lit rfl) (fun K hK => ?_) ?_
                      · go_simp
                        refine hK.out _ _ ?_ (fun hHeld => ?_)
                        focus ((try dsimp only); (first | exact hqd | exact hqa | exact hqc1 | exact hqc2 | exact hqs))
                        clear hK K
                        (try simp only [Act.put, List.setIfInBounds_toArray, List.set_cons_zero, List.set_cons_succ])
                        refine wpAnyH_done (by kernel_rfl) ?_ _
                        refine NoPanic.normal ?_
                        go_wp2_with fail
                        go_meet
                        rfl
                      exact AllReadyH.nil
                    exact AllReadyH.nil
                  exact AllReadyH.nil
                exact AllReadyH.nil
              exact AllReadyH.nil
            refine AllReadyH.cons (o := _) (at_lit rfl) (fun K hK => ?_) ?_
            · go_simp
              refine hK.out _ _ ?_ (fun hHeld => ?_)
              focus ((try dsimp only); (first | exact hqd | exact hqa | exact hqc1 | exact hqc2 | exact hqs))
              clear hK K
              (try simp only [Act.put, List.setIfInBounds_toArray, List.set_cons_zero, List.set_cons_succ])
              refine wpAnyH_take (i := 17) (oi := _) (v := ?_) (at_lit rfl) (by kernel_rfl) (by kernel_rfl) (by kernel_rfl) (fun _ _ _ h => h) (Or.inl ⟨by rfl, ?_⟩) (by assumption) ?_
              rotate_left
              focus ((intro w5 hSw; (try dsimp only at hSw); go_simp; (try with_reducible rfl)); done)
              (try simp only [Act.put, List.setIfInBounds_toArray, List.set_cons_zero, List.set_cons_succ])
              refine wpAnyH_ready (rs := [1, 5]) (by kernel_rfl) (by simp) ?_
              refine AllReadyH.cons (o := _) (at_lit rfl) (fun K hK => ?_) ?_
              · go_simp
                refine hK.out _ _ ?_ (fun hHeld => ?_)
                focus ((try dsimp only); (first | exact hqd | exact hqa | exact hqc1 | exact hqc2 | exact hqs))
                clear hK K
                (try simp only [Act.put, List.setIfInBounds_toArray, List.set_cons_zero, List.set_cons_succ])
                refine wpAnyH_ready (rs := [5]) (by kernel_rfl) (by simp) ?_
                refine AllReadyH.cons (o := _) (at_lit rfl) (fun K hK => ?_) ?_
                · go_simp
                  refine hK.out _ _ ?_ (fun hHeld => ?_)
                  focus ((try dsimp only); (first | exact hqd | exact hqa | exact hqc1 | exact hqc2 | exact hqs))
                  clear hK K
                  (try simp only [Act.put, List.setIfInBounds_toArray, List.set_cons_zero, List.set_cons_succ])
                  refine wpAnyH_take (i := 8) (oi := _) (v := ?_) (at_lit rfl) (by kernel_rfl) (by kernel_rfl) (by kernel_rfl) (fun _ _ _ h => h) (Or.inl ⟨by rfl, ?_⟩) (by assumption) ?_
                  rotate_left
                  focus ((intro w5 hSw; (try dsimp only at hSw); go_simp; (try with_reducible rfl)); done)
                  (try simp only [Act.put, List.setIfInBounds_toArray, List.set_cons_zero, List.set_cons_succ])
                  refine wpAnyH_ready (rs := [9]) (by kernel_rfl) (by simp) ?_
                  refine AllReadyH.cons (o := _) (at_lit rfl) (fun K hK => ?_) ?_
                  · refine step_append_run (by rfl) _ _ 32 (by rfl) (.slice (some ⟨Wb.heap.size, 0, none⟩) 0 0) (.slice (some ⟨g, 0, none⟩) i (i + 1)) (by simp [Act.eval]) (by simp [Act.eval]) r1' ?_
                    refine hK.out _ _ ?_ (fun hHeld => ?_)
                    focus ((try dsimp only); (first | exact hqd | exact hqa | exact hqc1 | exact hqc2 | exact hqs))
                    clear hK K
                    (try simp only [Act.put, List.setIfInBounds_toArray, List.set_cons_zero, List.set_cons_succ])
                    refine wpAnyH_ready (rs := [18]) (by kernel_rfl) (by simp) ?_
                    refine AllReadyH.cons (o := _) (at_lit rfl) (fun K hK => ?_) ?_
                    · refine step_append_run (by rfl) _ _ 32 (by rfl) v1 (.slice (some ⟨g, 0, none⟩) 0 0) (by simp [Act.eval]) (by simp [Act.eval]) r2' ?_
                      refine hK.out _ _ ?_ (fun hHeld => ?_)
                      focus ((try dsimp only); (first | exact hqd | exact hqa | exact hqc1 | exact hqc2 | exact hqs))
                      clear hK K
                      (try simp only [Act.put, List.setIfInBounds_toArray, List.set_cons_zero, List.set_cons_succ])
                      refine wpAnyH_take (i := 19) (oi := _) (v := ?_) (at_lit rfl) (by kernel_rfl) (by kernel_rfl) (by kernel_rfl) (fun _ _ _ h => h) (Or.inl ⟨by rfl, ?_⟩) (by assumption) ?_
                      rotate_left
                      focus ((intro w5 hSw; (try dsimp only at hSw); go_simp; (try with_reducible rfl)); done)
                      (try simp only [Act.put, List.setIfInBounds_toArray, List.set_cons_zero, List.set_cons_succ])
                      refine wpAnyH_take (i := 20) (oi := _) (v := ?_) (at_lit rfl) (by kernel_rfl) (by kernel_rfl) (by kernel_rfl) (fun _ _ _ h => h) (Or.inl ⟨by rfl, ?_⟩) (by assumption) ?_
                      rotate_left
                      focus ((intro w5 hSw; (try dsimp only at hSw); go_simp; (try with_reducible rfl)); done)
                      (try simp only [Act.put, List.setIfInBounds_toArray, List.set_cons_zero, List.set_cons_succ])
                      refine wpAnyH_ready (rs := [21]) (by kernel_rfl) (by simp) ?_
                      refine AllReadyH.cons (o := _) (at_lit rfl) (fun K hK => ?_) ?_
                      · go_simp
                        refine hK.out _ _ ?_ (fun hHeld => ?_)
                        focus ((try dsimp only); (first | exact hqd | exact hqa | exact hqc1 | exact hqc2 | exact hqs))
                        clear hK K
                        (try simp only [Act.put, List.setIfInBounds_toArray, List.set_cons_zero, List.set_cons_succ])
                        refine wpAnyH_done (by kernel_rfl) ?_ _
                        refine NoPanic.normal ?_
                        go_wp2_with fail
                        go_meet
                        rfl
                      exact AllReadyH.nil
                    exact AllReadyH.nil
                  exact AllReadyH.nil
                exact AllReadyH.nil
              refine AllReadyH.cons (o := _) (at_lit rfl) (fun K hK => ?_) ?_
              · go_simp
                refine hK.out _ _ ?_ (fun hHeld => ?_)
                focus ((try dsimp only); (first | exact hqd | exact hqa | exact hqc1 | exact hqc2 | exact hqs))
                clear hK K
                (try simp only [Act.put, List.setIfInBounds_toArray, List.set_cons_zero, List.set_cons_succ])
                refine wpAnyH_take (i := 8) (oi := _) (v := ?_) (at_lit rfl) (by kernel_rfl) (by kernel_rfl) (by kernel_rfl) (fun _ _ _ h => h) (Or.inl ⟨by rfl, ?_⟩) (by assumption) ?_
                rotate_left
                focus ((intro w5 hSw; (try dsimp only at hSw); go_simp; (try with_reducible rfl)); done)
                (try simp only [Act.put, List.setIfInBounds_toArray, List.set_cons_zero, List.set_cons_succ])
                refine wpAnyH_ready (rs := [1]) (by kernel_rfl) (by simp) ?_
                refine AllReadyH.cons (o := _) (at_lit rfl) (fun K hK => ?_) ?_
                · go_simp
                  refine hK.out _ _ ?_ (fun hHeld => ?_)
                  focus ((try dsimp only); (first | exact hqd | exact hqa | exact hqc1 | exact hqc2 | exact hqs))
                  clear hK K
                  (try simp only [Act.put, List.setIfInBounds_toArray, List.set_cons_zero, List.set_cons_succ])
                  refine wpAnyH_ready (rs := [9]) (by kernel_rfl) (by simp) ?_
                  refine AllReadyH.cons (o := _) (at_lit rfl) (fun K hK => ?_) ?_
                  · refine step_append_run (by rfl) _ _ 32 (by rfl) (.slice (some ⟨Wb.heap.size, 0, none⟩) 0 0) (.slice (some ⟨g, 0, none⟩) i (i + 1)) (by simp [Act.eval]) (by simp [Act.eval]) r1' ?_
                    refine hK.out _ _ ?_ (fun hHeld => ?_)
                    focus ((try dsimp only); (first | exact hqd | exact hqa | exact hqc1 | exact hqc2 | exact hqs))
                    clear hK K
                    (try simp only [Act.put, List.setIfInBounds_toArray, List.set_cons_zero, List.set_cons_succ])
                    refine wpAnyH_ready (rs := [18]) (by kernel_rfl) (by simp) ?_
                    refine AllReadyH.cons (o := _) (at_lit rfl) (fun K hK => ?_) ?_
                    · refine step_append_run (by rfl) _ _ 32 (by rfl) v1 (.slice (some ⟨g, 0, none⟩) 0 0) (by simp [Act.eval]) (by simp [Act.eval]) r2' ?_
                      refine hK.out _ _ ?_ (fun hHeld => ?_)
                      focus ((try dsimp only); (first | exact hqd | exact hqa | exact hqc1 | exact hqc2 | exact hqs))
                      clear hK K
                      (try simp only [Act.put, List.setIfInBounds_toArray, List.set_cons_zero, List.set_cons_succ])
                      refine wpAnyH_take (i := 19) (oi := _) (v := ?_) (at_lit rfl) (by kernel_rfl) (by kernel_rfl) (by kernel_rfl) (fun _ _ _ h => h) (Or.inl ⟨by rfl, ?_⟩) (by assumption) ?_
                      rotate_left
                      focus ((intro w5 hSw; (try dsimp only at hSw); go_simp; (try with_reducible rfl)); done)
                      (try simp only [Act.put, List.setIfInBounds_toArray, List.set_cons_zero, List.set_cons_succ])
                      refine wpAnyH_take (i := 20) (oi := _) (v := ?_) (at_lit rfl) (by kernel_rfl) (by kernel_rfl) (by kernel_rfl) (fun _ _ _ h => h) (Or.inl ⟨by rfl, ?_⟩) (by assumption) ?_
                      rotate_left
                      focus ((intro w5 hSw; (try dsimp only at hSw); go_simp; (try with_reducible rfl)); done)
                      (try simp only [Act.put, List.setIfInBounds_toArray, List.set_cons_zero, List.set_cons_succ])
                      refine wpAnyH_ready (rs := [21]) (by kernel_rfl) (by simp) ?_
                      refine AllReadyH.cons (o := _) (at_lit rfl) (fun K hK => ?_) ?_
                      · go_simp
                        refine hK.out _ _ ?_ (fun hHeld => ?_)
                        focus ((try dsimp only); (first | exact hqd | exact hqa | exact hqc1 | exact hqc2 | exact hqs))
                        clear hK K
                        (try simp only [Act.put, List.setIfInBounds_toArray, List.set_cons_zero, List.set_cons_succ])
                        refine wpAnyH_done (by kernel_rfl) ?_ _
                        refine NoPanic.normal ?_
                        go_wp2_with fail
                        go_meet
                        rfl
                      exact AllReadyH.nil
                    exact AllReadyH.nil
                  exact AllReadyH.nil
                exact AllReadyH.nil
              exact AllReadyH.nil
            exact AllReadyH.nil
          · have r2' := r2a hc
            have hc' : ¬ (c : Int) = (i : Int) + 1 := by omega
            clear r2a r2b
            refine wp_region_noPanic ?_
            refine wp_region_held_drew (S := fun v => v.cell? ⟨q0, 4, none⟩ = some (.int .i64 i)) (by kernel_rfl) hqd (fun hHeld => ?_)
            refine wpAnyH_take (i := 0) (oi := _) (v := ?_) (at_lit rfl) (by kernel_rfl) (by kernel_rfl) (by kernel_rfl) (fun _ _ _ h => h) (Or.inl ⟨by rfl, ?_⟩) (by assumption) ?_
            rotate_left
            focus ((intro w5 hSw; (try dsimp only at hSw); go_simp; (try with_reducible rfl)); done)
            (try simp only [Act.put, List.setIfInBounds_toArray, List.set_cons_zero, List.set_cons_succ])
            refine wpAnyH_take (i := 2) (oi := _) (v := ?_) (at_lit rfl) (by kernel_rfl) (by kernel_rfl) (by kernel_rfl) (fun _ _ _ h => h) (Or.inl ⟨by rfl, ?_⟩) (by assumption) ?_
            rotate_left
            focus ((intro w5 hSw; (try dsimp only at hSw); go_simp; (try with_reducible rfl)); done)
            (try simp only [Act.put, List.setIfInBounds_toArray, List.set_cons_zero, List.set_cons_succ])
            refine wpAnyH_take (i := 3) (oi := _) (v := ?_) (at_lit rfl) (by kernel_rfl) (by kernel_rfl) (by kernel_rfl) (fun _ _ _ h => h) (Or.inl ⟨by rfl, ?_⟩) (by assumption) ?_
            rotate_left
            focus ((intro w5 hSw; (try dsimp only at hSw); go_simp; (try with_reducible rfl)); done)
            (try simp only [Act.put, List.setIfInBounds_toArray, List.set_cons_zero, List.set_cons_succ])
            refine wpAnyH_take (i := 4) (oi := _) (v := ?_) (at_lit rfl) (by kernel_rfl) (by kernel_rfl) (by kernel_rfl) (fun _ _ _ h => h) (Or.inl ⟨by rfl, ?_⟩) (by assumption) ?_
            rotate_left
            focus ((intro w5 hSw; (try dsimp only at hSw); go_simp; (try with_reducible rfl)); done)
            (try simp only [Act.put, List.setIfInBounds_toArray, List.set_cons_zero, List.set_cons_succ])
            refine wpAnyH_take (i := 6) (oi := _) (v := ?_) (at_lit rfl) (by kernel_rfl) (by kernel_rfl) (by kernel_rfl) (fun _ _ _ h => h) (Or.inl ⟨by rfl, ?_⟩) (by assumption) ?_
            rotate_left
            focus ((intro w5 hSw; (try dsimp only at hSw); go_simp; (try with_reducible rfl)); done)
            (try simp only [Act.put, List.setIfInBounds_toArray, List.set_cons_zero, List.set_cons_succ])
            refine wpAnyH_take (i := 7) (oi := _) (v := ?_) (at_lit rfl) (by kernel_rfl) (by kernel_rfl) (by kernel_rfl) (fun _ _ _ h => h) (Or.inl ⟨by rfl, ?_⟩) (by assumption) ?_
            rotate_left
            focus ((intro w5 hSw; (try dsimp only at hSw); go_simp; (try with_reducible rfl)); done)
            (try simp only [Act.put, List.setIfInBounds_toArray, List.set_cons_zero, List.set_cons_succ])
            refine wpAnyH_take (i := 10) (oi := _) (v := ?_) (at_lit rfl) (by kernel_rfl) (by kernel_rfl) (by kernel_rfl) (fun _ _ _ h => h) (Or.inl ⟨by rfl, ?_⟩) (by assumption) ?_
            rotate_left
            focus ((intro w5 hSw; (try dsimp only at hSw); go_simp; (try with_reducible rfl)); done)
            (try simp only [Act.put, List.setIfInBounds_toArray, List.set_cons_zero, List.set_cons_succ])
            refine wpAnyH_take (i := 11) (oi := _) (v := ?_) (at_lit rfl) (by kernel_rfl) (by kernel_rfl) (by kernel_rfl) (fun _ _ _ h => h) (Or.inl ⟨by rfl, ?_⟩) (by assumption) ?_
            rotate_left
            focus ((intro w5 hSw; (try dsimp only at hSw); go_simp; (try with_reducible rfl)); done)
            (try simp only [Act.put, List.setIfInBounds_toArray, List.set_cons_zero, List.set_cons_succ])
            refine wpAnyH_take (i := 12) (oi := _) (v := ?_) (at_lit rfl) (by kernel_rfl) (by kernel_rfl) (by kernel_rfl) (fun _ _ _ h => h) (Or.inl ⟨by rfl, ?_⟩) (by assumption) ?_
            rotate_left
            focus ((intro w5 hSw; (try dsimp only at hSw); go_simp; (try with_reducible rfl)); done)
            (try simp only [Act.put, List.setIfInBounds_toArray, List.set_cons_zero, List.set_cons_succ])
            refine wpAnyH_take (i := 14) (oi := _) (v := ?_) (at_lit rfl) (by kernel_rfl) (by kernel_rfl) (by kernel_rfl) (fun _ _ _ h => h) (Or.inl ⟨by rfl, ?_⟩) (by assumption) ?_
            rotate_left
            focus ((intro w5 hSw; (try dsimp only at hSw); go_simp; (try with_reducible rfl)); done)
            (try simp only [Act.put, List.setIfInBounds_toArray, List.set_cons_zero, List.set_cons_succ])
            refine wpAnyH_take (i := 15) (oi := _) (v := ?_) (at_lit rfl) (by kernel_rfl) (by kernel_rfl) (by kernel_rfl) (fun _ _ _ h => h) (Or.inl ⟨by rfl, ?_⟩) (by assumption) ?_
            rotate_left
            focus ((intro w5 hSw; (try dsimp only at hSw); go_simp; (try with_reducible rfl)); done)
            (try simp only [Act.put, List.setIfInBounds_toArray, List.set_cons_zero, List.set_cons_succ])
            refine wpAnyH_take (i := 16) (oi := _) (v := ?_) (at_lit rfl) (by kernel_rfl) (by kernel_rfl) (by kernel_rfl) (fun _ _ _ h => h) (Or.inl ⟨by rfl, ?_⟩) (by assumption) ?_
            rotate_left
            focus ((intro w5 hSw; (try dsimp only at hSw); go_simp; (try with_reducible rfl)); done)
            (try simp only [Act.put, List.setIfInBounds_toArray, List.set_cons_zero, List.set_cons_succ])
            refine wpAnyH_ready (rs := [1, 5, 13]) (by kernel_rfl) (by simp) ?_
            refine AllReadyH.cons (o := _) (at_lit rfl) (fun K hK => ?_) ?_
            · go_simp
              refine hK.out _ _ ?_ (fun hHeld => ?_)
              focus ((try dsimp only); (first | exact hqd | exact hqa | exact hqc1 | exact hqc2 | exact hqs))
              clear hK K
              (try simp only [Act.put, List.setIfInBounds_toArray, List.set_cons_zero, List.set_cons_succ])
              refine wpAnyH_ready (rs := [5, 13]) (by kernel_rfl) (by simp) ?_
              refine AllReadyH.cons (o := _) (at_lit rfl) (fun K hK => ?_) ?_
              · go_simp
                refine hK.out _ _ ?_ (fun hHeld => ?_)
                focus ((try dsimp only); (first | exact hqd | exact hqa | exact hqc1 | exact hqc2 | exact hqs))
                clear hK K
                (try simp only [Act.put, List.setIfInBounds_toArray, List.set_cons_zero, List.set_cons_succ])
                refine wpAnyH_take (i := 8) (oi := _) (v := ?_) (at_lit rfl) (by kernel_rfl) (by kernel_rfl) (by kernel_rfl) (fun _ _ _ h => h) (Or.inl ⟨by rfl, ?_⟩) (by assumption) ?_
                rotate_left
                focus ((intro w5 hSw; (try dsimp only at hSw); go_simp; (try with_reducible rfl)); done)
                (try simp only [Act.put, List.setIfInBounds_toArray, List.set_cons_zero, List.set_cons_succ])
                refine wpAnyH_ready (rs := [9, 13]) (by kernel_rfl) (by simp) ?_
                refine AllReadyH.cons (o := _) (at_lit rfl) (fun K hK => ?_) ?_
                · refine step_append_run (by rfl) _ _ 32 (by rfl) (.slice (some ⟨Wb.heap.size, 0, none⟩) 0 0) (.slice (some ⟨g, 0, none⟩) i c) (by simp [Act.eval]) (by simp [Act.eval]) r1' ?_
                  refine hK.out _ _ ?_ (fun hHeld => ?_)
                  focus ((try dsimp only); (first | exact hqd | exact hqa | exact hqc1 | exact hqc2 | exact hqs))
                  clear hK K
                  (try simp only [Act.put, List.setIfInBounds_toArray, List.set_cons_zero, List.set_cons_succ])
                  refine wpAnyH_ready (rs := [13]) (by kernel_rfl) (by simp) ?_
                  refine AllReadyH.cons (o := _) (at_lit rfl) (fun K hK => ?_) ?_
                  · go_simp
                    refine hK.out _ _ ?_ (fun hHeld => ?_)
                    focus ((try dsimp only); (first | exact hqd | exact hqa | exact hqc1 | exact hqc2 | exact hqs))
                    clear hK K
                    (try simp only [Act.put, List.setIfInBounds_toArray, List.set_cons_zero, List.set_cons_succ])
                    refine wpAnyH_take (i := 17) (oi := _) (v := ?_) (at_lit rfl) (by kernel_rfl) (by kernel_rfl) (by kernel_rfl) (fun _ _ _ h => h) (Or.inl ⟨by rfl, ?_⟩) (by assumption) ?_
                    rotate_left
                    focus ((intro w5 hSw; (try dsimp only at hSw); go_simp; (try with_reducible rfl)); done)
                    (try simp only [Act.put, List.setIfInBounds_toArray, List.set_cons_zero, List.set_cons_succ])
                    refine wpAnyH_ready (rs := [18]) (by kernel_rfl) (by simp) ?_
                    refine AllReadyH.cons (o := _) (at_lit rfl) (fun K hK => ?_) ?_
                    · refine step_append_run (by rfl) _ _ 32 (by rfl) v1 (.slice (some ⟨g, (i + 1) * 2, none⟩) (m1 - (i + 1)) (c - (i + 1))) (by simp [Act.eval]) (by simp [Act.eval]) r2' ?_
                      refine hK.out _ _ ?_ (fun hHeld => ?_)
                      focus ((try dsimp only); (first | exact hqd | exact hqa | exact hqc1 | exact hqc2 | exact hqs))
                      clear hK K
                      (try simp only [Act.put, List.setIfInBounds_toArray, List.set_cons_zero, List.set_cons_succ])
                      refine wpAnyH_take (i := 19) (oi := _) (v := ?_) (at_lit rfl) (by kernel_rfl) (by kernel_rfl) (by kernel_rfl) (fun _ _ _ h => h) (Or.inl ⟨by rfl, ?_⟩) (by assumption) ?_
                      rotate_left
                      focus ((intro w5 hSw; (try dsimp only at hSw); go_simp; (try with_reducible rfl)); done)
                      (try simp only [Act.put, List.setIfInBounds_toArray, List.set_cons_zero, List.set_cons_succ])
                      refine wpAnyH_take (i := 20) (oi := _) (v := ?_) (at_lit rfl) (by kernel_rfl) (by kernel_rfl) (by kernel_rfl) (fun _ _ _ h => h) (Or.inl ⟨by rfl, ?_⟩) (by assumption) ?_
                      rotate_left
                      focus ((intro w5 hSw; (try dsimp only at hSw); go_simp; (try with_reducible rfl)); done)
                      (try simp only [Act.put, List.setIfInBounds_toArray, List.set_cons_zero, List.set_cons_succ])
                      refine wpAnyH_ready (rs := [21]) (by kernel_rfl) (by simp) ?_
                      refine AllReadyH.cons (o := _) (at_lit rfl) (fun K hK => ?_) ?_
                      · go_simp
                        refine hK.out _ _ ?_ (fun hHeld => ?_)
                        focus ((try dsimp only); (first | exact hqd | exact hqa | exact hqc1 | exact hqc2 | exact hqs))
                        clear hK K
                        (try simp only [Act.put, List.setIfInBounds_toArray, List.set_cons_zero, List.set_cons_succ])
                        refine wpAnyH_done (by kernel_rfl) ?_ _
                        refine NoPanic.normal ?_
                        go_wp2_with fail
                        go_meet
                        rfl
                      exact AllReadyH.nil
                    exact AllReadyH.nil
                  exact AllReadyH.nil
                refine AllReadyH.cons (o := _) (at_lit rfl) (fun K hK => ?_) ?_
                · go_simp
                  refine hK.out _ _ ?_ (fun hHeld => ?_)
                  focus ((try dsimp only); (first | exact hqd | exact hqa | exact hqc1 | exact hqc2 | exact hqs))
                  clear hK K
                  (try simp only [Act.put, List.setIfInBounds_toArray, List.set_cons_zero, List.set_cons_succ])
                  refine wpAnyH_take (i := 17) (oi := _) (v := ?_) (at_lit rfl) (by kernel_rfl) (by kernel_rfl) (by kernel_rfl) (fun _ _ _ h => h) (Or.inl ⟨by rfl, ?_⟩) (by assumption) ?_
                  rotate_left
                  focus ((intro w5 hSw; (try dsimp only at hSw); go_simp; (try with_reducible rfl)); done)
                  (try simp only [Act.put, List.setIfInBounds_toArray, List.set_cons_zero, List.set_cons_succ])
                  refine wpAnyH_ready (rs := [9]) (by kernel_rfl) (by simp) ?_
                  refine AllReadyH.cons (o := _) (at_lit rfl) (fun K hK => ?_) ?_
                  · refine step_append_run (by rfl) _ _ 32 (by rfl) (.slice (some ⟨Wb.heap.size, 0, none⟩) 0 0) (.slice (some ⟨g, 0, none⟩) i c) (by simp [Act.eval]) (by simp [Act.eval]) r1' ?_
                    refine hK.out _ _ ?_ (fun hHeld => ?_)
                    focus ((try dsimp only); (first | exact hqd | exact hqa | exact hqc1 | exact hqc2 | exact hqs))
                    clear hK K
                    (try simp only [Act.put, List.setIfInBounds_toArray, List.set_cons_zero, List.set_cons_succ])
                    refine wpAnyH_ready (rs := [18]) (by kernel_rfl) (by simp) ?_
                    refine AllReadyH.cons (o := _) (at_lit rfl) (fun K hK => ?_) ?_
                    · refine step_append_run (by rfl) _ _ 32 (by rfl) v1 (.slice (some ⟨g, (i + 1) * 2, none⟩) (m1 - (i + 1)) (c - (i + 1))) (by simp [Act.eval]) (by simp [Act.eval]) r2' ?_
                      refine hK.out _ _ ?_ (fun hHeld => ?_)
                      focus ((try dsimp only); (first | exact hqd | exact hqa | exact hqc1 | exact hqc2 | exact hqs))
                      clear hK K
                      (try simp only [Act.put, List.setIfInBounds_toArray, List.set_cons_zero, List.set_cons_succ])
                      refine wpAnyH_take (i := 19) (oi := _) (v := ?_) (at_lit rfl) (by kernel_rfl) (by kernel_rfl) (by kernel_rfl) (fun _ _ _ h => h) (Or.inl ⟨by rfl, ?_⟩) (by assumption) ?_
                      rotate_left
                      focus ((intro w5 hSw; (try dsimp only at hSw); go_simp; (try with_reducible rfl)); done)
                      (try simp only [Act.put, List.setIfInBounds_toArray, List.set_cons_zero, List.set_cons_succ])
                      refine wpAnyH_take (i := 20) (oi := _) (v := ?_) (at_lit rfl) (by kernel_rfl) (by kernel_rfl) (by kernel_rfl) (fun _ _ _ h => h) (Or.inl ⟨by rfl, ?_⟩) (by assumption) ?_
                      rotate_left
                      focus ((intro w5 hSw; (try dsimp only at hSw); go_simp; (try with_reducible rfl)); done)
                      (try simp only [Act.put, List.setIfInBounds_toArray, List.set_cons_zero, List.set_cons_succ])
                      refine wpAnyH_ready (rs := [21]) (by kernel_rfl) (by simp) ?_
                      refine AllReadyH.cons (o := _) (at_lit rfl) (fun K hK => ?_) ?_
                      · go_simp
                        refine hK.out _ _ ?_ (fun hHeld => ?_)
                        focus ((try dsimp only); (first | exact hqd | exact hqa | exact hqc1 | exact hqc2 | exact hqs))
                        clear hK K
                        (try simp only [Act.put, List.setIfInBounds_toArray, List.set_cons_zero, List.set_cons_succ])
                        refine wpAnyH_done (by kernel_rfl) ?_ _
                        refine NoPanic.normal ?_
                        go_wp2_with fail
                        go_meet
                        rfl
                      exact AllReadyH.nil
                    exact AllReadyH.nil
                  exact AllReadyH.nil
                exact AllReadyH.nil
              refine AllReadyH.cons (o := _) (at_lit rfl) (fun K hK => ?_) ?_
              · go_simp
                refine hK.out _ _ ?_ (fun hHeld => ?_)
                focus ((try dsimp only); (first | exact hqd | exact hqa | exact hqc1 | exact hqc2 | exact hqs))
                clear hK K
                (try simp only [Act.put, List.setIfInBounds_toArray, List.set_cons_zero, List.set_cons_succ])
                refine wpAnyH_take (i := 17) (oi := _) (v := ?_) (at_lit rfl) (by kernel_rfl) (by kernel_rfl) (by kernel_rfl) (fun _ _ _ h => h) (Or.inl ⟨by rfl, ?_⟩) (by assumption) ?_
                rotate_left
                focus ((intro w5 hSw; (try dsimp only at hSw); go_simp; (try with_reducible rfl)); done)
                (try simp only [Act.put, List.setIfInBounds_toArray, List.set_cons_zero, List.set_cons_succ])
                refine wpAnyH_ready (rs := [5]) (by kernel_rfl) (by simp) ?_
                refine AllReadyH.cons (o := _) (at_lit rfl) (fun K hK => ?_) ?_
                · go_simp
                  refine hK.out _ _ ?_ (fun hHeld => ?_)
                  focus ((try dsimp only); (first | exact hqd | exact hqa | exact hqc1 | exact hqc2 | exact hqs))
                  clear hK K
                  (try simp only [Act.put, List.setIfInBounds_toArray, List.set_cons_zero, List.set_cons_succ])
                  refine wpAnyH_take (i := 8) (oi := _) (v := ?_) (at_lit rfl) (by kernel_rfl) (by kernel_rfl) (by kernel_rfl) (fun _ _ _ h => h) (Or.inl ⟨by rfl, ?_⟩) (by assumption) ?_
                  rotate_left
                  focus ((intro w5 hSw; (try dsimp only at hSw); go_simp; (try with_reducible rfl)); done)
                  (try simp only [Act.put, List.setIfInBounds_toArray, List.set_cons_zero, List.set_cons_succ])
                  refine wpAnyH_ready (rs := [9]) (by kernel_rfl) (by simp) ?_
                  refine AllReadyH.cons (o := _) (at_lit rfl) (fun K hK => ?_) ?_
                  · refine step_append_run (by rfl) _ _ 32 (by rfl) (.slice (some ⟨Wb.heap.size, 0, none⟩) 0 0) (.slice (some ⟨g, 0, none⟩) i c) (by simp [Act.eval]) (by simp [Act.eval]) r1' ?_
                    refine hK.out _ _ ?_ (fun hHeld => ?_)
                    focus ((try dsimp only); (first | exact hqd | exact hqa | exact hqc1 | exact hqc2 | exact hqs))
                    clear hK K
                    (try simp only [Act.put, List.setIfInBounds_toArray, List.set_cons_zero, List.set_cons_succ])
                    refine wpAnyH_ready (rs := [18]) (by kernel_rfl) (by simp) ?_
                    refine AllReadyH.cons (o := _) (at_lit rfl) (fun K hK => ?_) ?_
                    · refine step_append_run (by rfl) _ _ 32 (by rfl) v1 (.slice (some ⟨g, (i + 1) * 2, none⟩) (m1 - (i + 1)) (c - (i + 1))) (by simp [Act.eval]) (by simp [Act.eval]) r2' ?_
                      refine hK.out _ _ ?_ (fun hHeld => ?_)
                      focus ((try dsimp only); (first | exact hqd | exact hqa | exact hqc1 | exact hqc2 | exact hqs))
                      clear hK K
                      (try simp only [Act.put, List.setIfInBounds_toArray, List.set_cons_zero, List.set_cons_succ])
                      refine wpAnyH_take (i := 19) (oi := _) (v := ?_) (at_lit rfl) (by kernel_rfl) (by kernel_rfl) (by kernel_rfl) (fun _ _ _ h => h) (Or.inl ⟨by rfl, ?_⟩) (by assumption) ?_
                      rotate_left
                      focus ((intro w5 hSw; (try dsimp only at hSw); go_simp; (try with_reducible rfl)); done)
                      (try simp only [Act.put, List.setIfInBounds_toArray, List.set_cons_zero, List.set_cons_succ])
                      refine wpAnyH_take (i := 20) (oi := _) (v := ?_) (at_lit rfl) (by kernel_rfl) (by kernel_rfl) (by kernel_rfl) (fun _ _ _ h => h) (Or.inl ⟨by rfl, ?_⟩) (by assumption) ?_
                      rotate_left
                      focus ((intro w5 hSw; (try dsimp only at hSw); go_simp; (try with_reducible rfl)); done)
                      (try simp only [Act.put, List.setIfInBounds_toArray, List.set_cons_zero, List.set_cons_succ])
                      refine wpAnyH_ready (rs := [21]) (by kernel_rfl) (by simp) ?_
                      refine AllReadyH.cons (o := _) (at_lit rfl) (fun K hK => ?_) ?_
                      · go_simp
                        refine hK.out _ _ ?_ (fun hHeld => ?_)
                        focus ((try dsimp only); (first | exact hqd | exact hqa | exact hqc1 | exact hqc2 | exact hqs))
                        clear hK K
                        (try simp only [Act.put, List.setIfInBounds_toArray, List.set_cons_zero, List.set_cons_succ])
                        refine wpAnyH_done (by kernel_rfl) ?_ _
                        refine NoPanic.normal ?_
                        go_wp2_with fail
                        go_meet
                        rfl
                      exact AllReadyH.nil
                    exact AllReadyH.nil
                  exact AllReadyH.nil
                exact AllReadyH.nil
              exact AllReadyH.nil
            refine AllReadyH.cons (o := _) (at_lit rfl) (fun K hK => ?_) ?_
            · go_simp
              refine hK.out _ _ ?_ (fun hHeld => ?_)
              focus ((try dsimp only); (first | exact hqd | exact hqa | exact hqc1 | exact hqc2 | exact hqs))
              clear hK K
              (try simp only [Act.put, List.setIfInBounds_toArray, List.set_cons_zero, List.set_cons_succ])
              refine wpAnyH_take (i := 8) (oi := _) (v := ?_) (at_lit rfl) (by kernel_rfl) (by kernel_rfl) (by kernel_rfl) (fun _ _ _ h => h) (Or.inl ⟨by rfl, ?_⟩) (by assumption) ?_
              rotate_left
              focus ((intro w5 hSw; (try dsimp only at hSw); go_simp; (try with_reducible rfl)); done)
              (try simp only [Act.put, List.setIfInBounds_toArray, List.set_cons_zero, List.set_cons_succ])
              refine wpAnyH_ready (rs := [1, 13]) (by kernel_rfl) (by simp) ?_
              refine AllReadyH.cons (o := _) (at_lit rfl) (fun K hK => ?_) ?_
              · go_simp
                refine hK.out _ _ ?_ (fun hHeld => ?_)
                focus ((try dsimp only); (first | exact hqd | exact hqa | exact hqc1 | exact hqc2 | exact hqs))
                clear hK K
                (try simp only [Act.put, List.setIfInBounds_toArray, List.set_cons_zero, List.set_cons_succ])
                refine wpAnyH_ready (rs := [9, 13]) (by kernel_rfl) (by simp) ?_
                refine AllReadyH.cons (o := _) (at_lit rfl) (fun K hK => ?_) ?_
                · refine step_append_run (by rfl) _ _ 32 (by rfl) (.slice (some ⟨Wb.heap.size, 0, none⟩) 0 0) (.slice (some ⟨g, 0, none⟩) i c) (by simp [Act.eval]) (by simp [Act.eval]) r1' ?_
                  refine hK.out _ _ ?_ (fun hHeld => ?_)
                  focus ((try dsimp only); (first | exact hqd | exact hqa | exact hqc1 | exact hqc2 | exact hqs))
                  clear hK K
                  (try simp only [Act.put, List.setIfInBounds_toArray, List.set_cons_zero, List.set_cons_succ])
                  refine wpAnyH_ready (rs := [13]) (by kernel_rfl) (by simp) ?_
                  refine AllReadyH.cons (o := _) (at_lit rfl) (fun K hK => ?_) ?_
                  · go_simp
                    refine hK.out _ _ ?_ (fun hHeld => ?_)
                    focus ((try dsimp only); (first | exact hqd | exact hqa | exact hqc1 | exact hqc2 | exact hqs))
                    clear hK K
                    (try simp only [Act.put, List.setIfInBounds_toArray, List.set_cons_zero, List.set_cons_succ])
                    refine wpAnyH_take (i := 17) (oi := _) (v := ?_) (at_lit rfl) (by kernel_rfl) (by kernel_rfl) (by kernel_rfl) (fun _ _ _ h => h) (Or.inl ⟨by rfl, ?_⟩) (by assumption) ?_
                    rotate_left
                    focus ((intro w5 hSw; (try dsimp only at hSw); go_simp; (try with_reducible rfl)); done)
                    (try simp only [Act.put, List.setIfInBounds_toArray, List.set_cons_zero, List.set_cons_succ])
                    refine wpAnyH_ready (rs := [18]) (by kernel_rfl) (by simp) ?_
                    refine AllReadyH.cons (o := _) (at_lit rfl) (fun K hK => ?_) ?_
                    · refine step_append_run (by rfl) _ _ 32 (by rfl) v1 (.slice (some ⟨g, (i + 1) * 2, none⟩) (m1 - (i + 1)) (c - (i + 1))) (by simp [Act.eval]) (by simp [Act.eval]) r2' ?_
                      refine hK.out _ _ ?_ (fun hHeld => ?_)
                      focus ((try dsimp only); (first | exact hqd | exact hqa | exact hqc1 | exact hqc2 | exact hqs))
                      clear hK K
                      (try simp only [Act.put, List.setIfInBounds_toArray, List.set_cons_zero, List.set_cons_succ])
                      refine wpAnyH_take (i := 19) (oi := _) (v := ?_) (at_lit rfl) (by kernel_rfl) (by kernel_rfl) (by kernel_rfl) (fun _ _ _ h => h) (Or.inl ⟨by rfl, ?_⟩) (by assumption) ?_
                      rotate_left
                      focus ((intro w5 hSw; (try dsimp only at hSw); go_simp; (try with_reducible rfl)); done)
                      (try simp only [Act.put, List.setIfInBounds_toArray, List.set_cons_zero, List.set_cons_succ])
                      refine wpAnyH_take (i := 20) (oi := _) (v := ?_) (at_lit rfl) (by kernel_rfl) (by kernel_rfl) (by kernel_rfl) (fun _ _ _ h => h) (Or.inl ⟨by rfl, ?_⟩) (by assumption) ?_
                      rotate_left
                      focus ((intro w5 hSw; (try dsimp only at hSw); go_simp; (try with_reducible rfl)); done)
                      (try simp only [Act.put, List.setIfInBounds_toArray, List.set_cons_zero, List.set_cons_succ])
                      refine wpAnyH_ready (rs := [21]) (by kernel_rfl) (by simp) ?_
                      refine AllReadyH.cons (o := _) (at_lit rfl) (fun K hK => ?_) ?_
                      · go_simp
                        refine hK.out _ _ ?_ (fun hHeld => ?_)
                        focus ((try dsimp only); (first | exact hqd | exact hqa | exact hqc1 | exact hqc2 | exact hqs))
                        clear hK K
                        (try simp only [Act.put, List.setIfInBounds_toArray, List.set_cons_zero, List.set_cons_succ])
                        refine wpAnyH_done (by kernel_rfl) ?_ _
                        refine NoPanic.normal ?_
                        go_wp2_with fail
                        go_meet
                        rfl
                      exact AllReadyH.nil
                    exact AllReadyH.nil
                  exact AllReadyH.nil
                refine AllReadyH.cons (o := _) (at_lit rfl) (fun K hK => ?_) ?_
                · go_simp
                  refine hK.out _ _ ?_ (fun hHeld => ?_)
                  focus ((try dsimp only); (first | exact hqd | exact hqa | exact hqc1 | exact hqc2 | exact hqs))
                  clear hK K
                  (try simp only [Act.put, List.setIfInBounds_toArray, List.set_cons_zero, List.set_cons_succ])
                  refine wpAnyH_take (i := 17) (oi := _) (v := ?_) (at_lit rfl) (by kernel_rfl) (by kernel_rfl) (by kernel_rfl) (fun _ _ _ h => h) (Or.inl ⟨by rfl, ?_⟩) (by assumption) ?_
                  rotate_left
                  focus ((intro w5 hSw; (try dsimp only at hSw); go_simp; (try with_reducible rfl)); done)
                  (try simp only [Act.put, List.setIfInBounds_toArray, List.set_cons_zero, List.set_cons_succ])
                  refine wpAnyH_ready (rs := [9]) (by kernel_rfl) (by simp) ?_
                  refine AllReadyH.cons (o := _) (at_lit rfl) (fun K hK => ?_) ?_
                  · refine step_append_run (by rfl) _ _ 32 (by rfl) (.slice (some ⟨Wb.heap.size, 0, none⟩) 0 0) (.slice (some ⟨g, 0, none⟩) i c) (by simp [Act.eval]) (by simp [Act.eval]) r1' ?_
                    refine hK.out _ _ ?_ (fun hHeld => ?_)
                    focus ((try dsimp only); (first | exact hqd | exact hqa | exact hqc1 | exact hqc2 | exact hqs))
                    clear hK K
                    (try simp only [Act.put, List.setIfInBounds_toArray, List.set_cons_zero, List.set_cons_succ])
                    refine wpAnyH_ready (rs := [18]) (by kernel_rfl) (by simp) ?_
                    refine AllReadyH.cons (o := _) (at_lit rfl) (fun K hK => ?_) ?_
                    · refine step_append_run (by rfl) _ _ 32 (by rfl) v1 (.slice (some ⟨g, (i + 1) * 2, none⟩) (m1 - (i + 1)) (c - (i + 1))) (by simp [Act.eval]) (by simp [Act.eval]) r2' ?_
                      refine hK.out _ _ ?_ (fun hHeld => ?_)
                      focus ((try dsimp only); (first | exact hqd | exact hqa | exact hqc1 | exact hqc2 | exact hqs))
                      clear hK K
                      (try simp only [Act.put, List.setIfInBounds_toArray, List.set_cons_zero, List.set_cons_succ])
                      refine wpAnyH_take (i := 19) (oi := _) (v := ?_) (at_lit rfl) (by kernel_rfl) (by kernel_rfl) (by kernel_rfl) (fun _ _ _ h => h) (Or.inl ⟨by rfl, ?_⟩) (by assumption) ?_
                      rotate_left
                      focus ((intro w5 hSw; (try dsimp only at hSw); go_simp; (try with_reducible rfl)); done)
                      (try simp only [Act.put, List.setIfInBounds_toArray, List.set_cons_zero, List.set_cons_succ])
                      refine wpAnyH_take (i := 20) (oi := _) (v := ?_) (at_lit rfl) (by kernel_rfl) (by kernel_rfl) (by kernel_rfl) (fun _ _ _ h => h) (Or.inl ⟨by rfl, ?_⟩) (by assumption) ?_
                      rotate_left
                      focus ((intro w5 hSw; (try dsimp only at hSw); go_simp; (try with_reducible rfl)); done)
                      (try simp only [Act.put, List.setIfInBounds_toArray, List.set_cons_zero, List.set_cons_succ])
                      refine wpAnyH_ready (rs := [21]) (by kernel_rfl) (by simp) ?_
                      refine AllReadyH.cons (o := _) (at_lit rfl) (fun K hK => ?_) ?_
                      · go_simp
                        refine hK.out _ _ ?_ (fun hHeld => ?_)
                        focus ((try dsimp only); (first | exact hqd | exact hqa | exact hqc1 | exact hqc2 | exact hqs))
                        clear hK K
                        (try simp only [Act.put, List.setIfInBounds_toArray, List.set_cons_zero, List.set_cons_succ])
                        refine wpAnyH_done (by kernel_rfl) ?_ _
                        refine NoPanic.normal ?_
                        go_wp2_with fail
                        go_meet
                        rfl
                      exact AllReadyH.nil
                    exact AllReadyH.nil
                  exact AllReadyH.nil
                exact AllReadyH.nil
              refine AllReadyH.cons (o := _) (at_lit rfl) (fun K hK => ?_) ?_
              · go_simp
                refine hK.out _ _ ?_ (fun hHeld => ?_)
                focus ((try dsimp only); (first | exact hqd | exact hqa | exact hqc1 | exact hqc2 | exact hqs))
                clear hK K
                (try simp only [Act.put, List.setIfInBounds_toArray, List.set_cons_zero, List.set_cons_succ])
                refine wpAnyH_take (i := 17) (oi := _) (v := ?_) (at_lit rfl) (by kernel_rfl) (by kernel_rfl) (by kernel_rfl) (fun _ _ _ h => h) (Or.inl ⟨by rfl, ?_⟩) (by assumption) ?_
                rotate_left
                focus ((intro w5 hSw; (try dsimp only at hSw); go_simp; (try with_reducible rfl)); done)
                (try simp only [Act.put, List.setIfInBounds_toArray, List.set_cons_zero, List.set_cons_succ])
                refine wpAnyH_ready (rs := [1]) (by kernel_rfl) (by simp) ?_
                refine AllReadyH.cons (o := _) (at_lit rfl) (fun K hK => ?_) ?_
                · go_simp
                  refine hK.out _ _ ?_ (fun hHeld => ?_)
                  focus ((try dsimp only); (first | exact hqd | exact hqa | exact hqc1 | exact hqc2 | exact hqs))
                  clear hK K
                  (try simp only [Act.put, List.setIfInBounds_toArray, List.set_cons_zero, List.set_cons_succ])
                  refine wpAnyH_ready (rs := [9]) (by kernel_rfl) (by simp) ?_
                  refine AllReadyH.cons (o := _) (at_lit rfl) (fun K hK => ?_) ?_
                  · refine step_append_run (by rfl) _ _ 32 (by rfl) (.slice (some ⟨Wb.heap.size, 0, none⟩) 0 0) (.slice (some ⟨g, 0, none⟩) i c) (by simp [Act.eval]) (by simp [Act.eval]) r1' ?_
                    refine hK.out _ _ ?_ (fun hHeld => ?_)
                    focus ((try dsimp only); (first | exact hqd | exact hqa | exact hqc1 | exact hqc2 | exact hqs))
                    clear hK K
                    (try simp only [Act.put, List.setIfInBounds_toArray, List.set_cons_zero, List.set_cons_succ])
                    refine wpAnyH_ready (rs := [18]) (by kernel_rfl) (by simp) ?_
                    refine AllReadyH.cons (o := _) (at_lit rfl) (fun K hK => ?_) ?_
                    · refine step_append_run (by rfl) _ _ 32 (by rfl) v1 (.slice (some ⟨g, (i + 1) * 2, none⟩) (m1 - (i + 1)) (c - (i + 1))) (by simp [Act.eval]) (by simp [Act.eval]) r2' ?_
                      refine hK.out _ _ ?_ (fun hHeld => ?_)
                      focus ((try dsimp only); (first | exact hqd | exact hqa | exact hqc1 | exact hqc2 | exact hqs))
                      clear hK K
                      (try simp only [Act.put, List.setIfInBounds_toArray, List.set_cons_zero, List.set_cons_succ])
                      refine wpAnyH_take (i := 19) (oi := _) (v := ?_) (at_lit rfl) (by kernel_rfl) (by kernel_rfl) (by kernel_rfl) (fun _ _ _ h => h) (Or.inl ⟨by rfl, ?_⟩) (by assumption) ?_
                      rotate_left
                      focus ((intro w5 hSw; (try dsimp only at hSw); go_simp; (try with_reducible rfl)); done)
                      (try simp only [Act.put, List.setIfInBounds_toArray, List.set_cons_zero, List.set_cons_succ])
                      refine wpAnyH_take (i := 20) (oi := _) (v := ?_) (at_lit rfl) (by kernel_rfl) (by kernel_rfl) (by kernel_rfl) (fun _ _ _ h => h) (Or.inl ⟨by rfl, ?_⟩) (by assumption) ?_
                      rotate_left
                      focus ((intro w5 hSw; (try dsimp only at hSw); go_simp; (try with_reducible rfl)); done)
                      (try simp only [Act.put, List.setIfInBounds_toArray, List.set_cons_zero, List.set_cons_succ])
                      refine wpAnyH_ready (rs := [21]) (by kernel_rfl) (by simp) ?_
                      refine AllReadyH.cons (o := _) (at_lit rfl) (fun K hK => ?_) ?_
                      · go_simp
                        refine hK.out _ _ ?_ (fun hHeld => ?_)
                        focus ((try dsimp only); (first | exact hqd | exact hqa | exact hqc1 | exact hqc2 | exact hqs))
                        clear hK K
                        (try simp only [Act.put, List.setIfInBounds_toArray, List.set_cons_zero, List.set_cons_succ])
                        refine wpAnyH_done (by kernel_rfl) ?_ _
                        refine NoPanic.normal ?_
                        go_wp2_with fail
                        go_meet
                        rfl
                      exact AllReadyH.nil
                    exact AllReadyH.nil
                  exact AllReadyH.nil
                exact AllReadyH.nil
              exact AllReadyH.nil
            refine AllReadyH.cons (o := _) (at_lit rfl) (fun K hK => ?_) ?_
            · go_simp
              refine hK.out _ _ ?_ (fun hHeld => ?_)
              focus ((try dsimp only); (first | exact hqd | exact hqa | exact hqc1 | exact hqc2 | exact hqs))
              clear hK K
              (try simp only [Act.put, List.setIfInBounds_toArray, List.set_cons_zero, List.set_cons_succ])
              refine wpAnyH_take (i := 17) (oi := _) (v := ?_) (at_lit rfl) (by kernel_rfl) (by kernel_rfl) (by kernel_rfl) (fun _ _ _ h => h) (Or.inl ⟨by rfl, ?_⟩) (by assumption) ?_
              rotate_left
              focus ((intro w5 hSw; (try dsimp only at hSw); go_simp; (try with_reducible rfl)); done)
              (try simp only [Act.put, List.setIfInBounds_toArray, List.set_cons_zero, List.set_cons_succ])
              refine wpAnyH_ready (rs := [1, 5]) (by kernel_rfl) (by simp) ?_
              refine AllReadyH.cons (o := _) (at_lit rfl) (fun K hK => ?_) ?_
              · go_simp
                refine hK.out _ _ ?_ (fun hHeld => ?_)
                focus ((try dsimp only); (first | exact hqd | exact hqa | exact hqc1 | exact hqc2 | exact hqs))
                clear hK K
                (try simp only [Act.put, List.setIfInBounds_toArray, List.set_cons_zero, List.set_cons_succ])
                refine wpAnyH_ready (rs := [5]) (by kernel_rfl) (by simp) ?_
                refine AllReadyH.cons (o := _) (at_lit rfl) (fun K hK => ?_) ?_
                · go_simp
                  refine hK.out _ _ ?_ (fun hHeld => ?_)
                  focus ((try dsimp only); (first | exact hqd | exact hqa | exact hqc1 | exact hqc2 | exact hqs))
                  clear hK K
                  (try simp only [Act.put, List.setIfInBounds_toArray, List.set_cons_zero, List.set_cons_succ])
                  refine wpAnyH_take (i := 8) (oi := _) (v := ?_) (at_lit rfl) (by kernel_rfl) (by kernel_rfl) (by kernel_rfl) (fun _ _ _ h => h) (Or.inl ⟨by rfl, ?_⟩) (by assumption) ?_
                  rotate_left
                  focus ((intro w5 hSw; (try dsimp only at hSw); go_simp; (try with_reducible rfl)); done)
                  (try simp only [Act.put, List.setIfInBounds_toArray, List.set_cons_zero, List.set_cons_succ])
                  refine wpAnyH_ready (rs := [9]) (by kernel_rfl) (by simp) ?_
                  refine AllReadyH.cons (o := _) (at_lit rfl) (fun K hK => ?_) ?_
                  · refine step_append_run (by rfl) _ _ 32 (by rfl) (.slice (some ⟨Wb.heap.size, 0, none⟩) 0 0) (.slice (some ⟨g, 0, none⟩) i c) (by simp [Act.eval]) (by simp [Act.eval]) r1' ?_
                    refine hK.out _ _ ?_ (fun hHeld => ?_)
                    focus ((try dsimp only); (first | exact hqd | exact hqa | exact hqc1 | exact hqc2 | exact hqs))
                    clear hK K
                    (try simp only [Act.put, List.setIfInBounds_toArray, List.set_cons_zero, List.set_cons_succ])
                    refine wpAnyH_ready (rs := [18]) (by kernel_rfl) (by simp) ?_
                    refine AllReadyH.cons (o := _) (at_lit rfl) (fun K hK => ?_) ?_
                    · refine step_append_run (by rfl) _ _ 32 (by rfl) v1 (.slice (some ⟨g, (i + 1) * 2, none⟩) (m1 - (i + 1)) (c - (i + 1))) (by simp [Act.eval]) (by simp [Act.eval]) r2' ?_
                      refine hK.out _ _ ?_ (fun hHeld => ?_)
                      focus ((try dsimp only); (first | exact hqd | exact hqa | exact hqc1 | exact hqc2 | exact hqs))
                      clear hK K
                      (try simp only [Act.put, List.setIfInBounds_toArray, List.set_cons_zero, List.set_cons_succ])
                      refine wpAnyH_take (i := 19) (oi := _) (v := ?_) (at_lit rfl) (by kernel_rfl) (by kernel_rfl) (by kernel_rfl) (fun _ _ _ h => h) (Or.inl ⟨by rfl, ?_⟩) (by assumption) ?_
                      rotate_left
                      focus ((intro w5 hSw; (try dsimp only at hSw); go_simp; (try with_reducible rfl)); done)
                      (try simp only [Act.put, List.setIfInBounds_toArray, List.set_cons_zero, List.set_cons_succ])
                      refine wpAnyH_take (i := 20) (oi := _) (v := ?_) (at_lit rfl) (by kernel_rfl) (by kernel_rfl) (by kernel_rfl) (fun _ _ _ h => h) (Or.inl ⟨by rfl, ?_⟩) (by assumption) ?_
                      rotate_left
                      focus ((intro w5 hSw; (try dsimp only at hSw); go_simp; (try with_reducible rfl)); done)
                      (try simp only [Act.put, List.setIfInBounds_toArray, List.set_cons_zero, List.set_cons_succ])
                      refine wpAnyH_ready (rs := [21]) (by kernel_rfl) (by simp) ?_
                      refine AllReadyH.cons (o := _) (at_lit rfl) (fun K hK => ?_) ?_
                      · go_simp
                        refine hK.out _ _ ?_ (fun hHeld => ?_)
                        focus ((try dsimp only); (first | exact hqd | exact hqa | exact hqc1 | exact hqc2 | exact hqs))
                        clear hK K
                        (try simp only [Act.put, List.setIfInBounds_toArray, List.set_cons_zero, List.set_cons_succ])
                        refine wpAnyH_done (by kernel_rfl) ?_ _
                        refine NoPanic.normal ?_
                        go_wp2_with fail
                        go_meet
                        rfl
                      exact AllReadyH.nil
                    exact AllReadyH.nil
                  exact AllReadyH.nil
                exact AllReadyH.nil
              refine AllReadyH.cons (o := _) (at_lit rfl) (fun K hK => ?_) ?_
              · go_simp
                refine hK.out _ _ ?_ (fun hHeld => ?_)
                focus ((try dsimp only); (first | exact hqd | exact hqa | exact hqc1 | exact hqc2 | exact hqs))
                clear hK K
                (try simp only [Act.put, List.setIfInBounds_toArray, List.set_cons_zero, List.set_cons_succ])
                refine wpAnyH_take (i := 8) (oi := _) (v := ?_) (at_lit rfl) (by kernel_rfl) (by kernel_rfl) (by kernel_rfl) (fun _ _ _ h => h) (Or.inl ⟨by rfl, ?_⟩) (by assumption) ?_
                rotate_left
                focus ((intro w5 hSw; (try dsimp only at hSw); go_simp; (try with_reducible rfl)); done)
                (try simp only [Act.put, List.setIfInBounds_toArray, List.set_cons_zero, List.set_cons_succ])
                refine wpAnyH_ready (rs := [1]) (by kernel_rfl) (by simp) ?_
                refine AllReadyH.cons (o := _) (at_lit rfl) (fun K hK => ?_) ?_
                · go_simp
                  refine hK.out _ _ ?_ (fun hHeld => ?_)
                  focus ((try dsimp only); (first | exact hqd | exact hqa | exact hqc1 | exact hqc2 | exact hqs))
                  clear hK K
                  (try simp only [Act.put, List.setIfInBounds_toArray, List.set_cons_zero, List.set_cons_succ])
                  refine wpAnyH_ready (rs := [9]) (by kernel_rfl) (by simp) ?_
                  refine AllReadyH.cons (o := _) (at_lit rfl) (fun K hK => ?_) ?_
                  · refine step_append_run (by rfl) _ _ 32 (by rfl) (.slice (some ⟨Wb.heap.size, 0, none⟩) 0 0) (.slice (some ⟨g, 0, none⟩) i c) (by simp [Act.eval]) (by simp [Act.eval]) r1' ?_
                    refine hK.out _ _ ?_ (fun hHeld => ?_)
                    focus ((try dsimp only); (first | exact hqd | exact hqa | exact hqc1 | exact hqc2 | exact hqs))
                    clear hK K
                    (try simp only [Act.put, List.setIfInBounds_toArray, List.set_cons_zero, List.set_cons_succ])
                    refine wpAnyH_ready (rs := [18]) (by kernel_rfl) (by simp) ?_
                    refine AllReadyH.cons (o := _) (at_lit rfl) (fun K hK => ?_) ?_
                    · refine step_append_run (by rfl) _ _ 32 (by rfl) v1 (.slice (some ⟨g, (i + 1) * 2, none⟩) (m1 - (i + 1)) (c - (i + 1))) (by simp [Act.eval]) (by simp [Act.eval]) r2' ?_
                      refine hK.out _ _ ?_ (fun hHeld => ?_)
                      focus ((try dsimp only); (first | exact hqd | exact hqa | exact hqc1 | exact hqc2 | exact hqs))
                      clear hK K
                      (try simp only [Act.put, List.setIfInBounds_toArray, List.set_cons_zero, List.set_cons_succ])
                      refine wpAnyH_take (i := 19) (oi := _) (v := ?_) (at_lit rfl) (by kernel_rfl) (by kernel_rfl) (by kernel_rfl) (fun _ _ _ h => h) (Or.inl ⟨by rfl, ?_⟩) (by assumption) ?_
                      rotate_left
                      focus ((intro w5 hSw; (try dsimp only at hSw); go_simp; (try with_reducible rfl)); done)
                      (try simp only [Act.put, List.setIfInBounds_toArray, List.set_cons_zero, List.set_cons_succ])
                      refine wpAnyH_take (i := 20) (oi := _) (v := ?_) (at_lit rfl) (by kernel_rfl) (by kernel_rfl) (by kernel_rfl) (fun _ _ _ h => h) (Or.inl ⟨by rfl, ?_⟩) (by assumption) ?_
                      rotate_left
                      focus ((intro w5 hSw; (try dsimp only at hSw); go_simp; (try with_reducible rfl)); done)
                      (try simp only [Act.put, List.setIfInBounds_toArray, List.set_cons_zero, List.set_cons_succ])
                      refine wpAnyH_ready (rs := [21]) (by kernel_rfl) (by simp) ?_
                      refine AllReadyH.cons (o := _) (at_lit rfl) (fun K hK => ?_) ?_
                      · go_simp
                        refine hK.out _ _ ?_ (fun hHeld => ?_)
                        focus ((try dsimp only); (first | exact hqd | exact hqa | exact hqc1 | exact hqc2 | exact hqs))
                        clear hK K
                        (try simp only [Act.put, List.setIfInBounds_toArray, List.set_cons_zero, List.set_cons_succ])
                        refine wpAnyH_done (by kernel_rfl) ?_ _
                        refine NoPanic.normal ?_
                        go_wp2_with fail
                        go_meet
                        rfl
                      exact AllReadyH.nil
                    exact AllReadyH.nil
                  exact AllReadyH.nil
                exact AllReadyH.nil
              exact AllReadyH.nil
            exact AllReadyH.nil
        case rest =>
          subst hcut
          have hg2 : Wb.grownBy W2 (Value.ownBlock (.slice (some ⟨g, 0, none⟩) m1 c)) := ⟨HB2.out.os, HB2.out.tape, HB2.out.output, HB2.out.size, fun k hk _ => HB2.out.block k hk⟩
          have hst := HS1.out.taken hg2 (T' := T.take i ++ T.drop (i + 1)) (by rw [← HM2.out]; exact HO2.out) (Or.inr HT2.out)
          have HSTEP := Lib.hid (HST.out.trans (hst.2.trans (Step.call (below_dN (Below.refl _ _) 1) hst.1.lo _)))
          have HS3 := Lib.hid (hst.1.drewN 1)
          have hT3 : Lrow (W2.setCell ⟨m.s, 2, none⟩ (.slice A2 m2 c2)).drew q 53 [.int .i64 f, .int .i64 k] := lrow_grown_far (HS1.out.drewN 1) (HT1.out.drewN 1) (by decide) HB2.out _
          have HT3 := Lib.hid hT3
          have hs3 := And.intro HS3.out.c0 (And.intro HS3.out.c1 (And.intro HS3.out.ref.c0 (And.intro (hT3.cell 0) (hT3.cell 1))))
          have HGV : Hid (Calls Try.prog 23 #[.pointer (some ⟨m.k, 0, none⟩), .int .i64 f, .int .i64 k] (W2.setCell ⟨m.s, 2, none⟩ (.slice A2 m2 c2)).drew (KChg (fun b => b = m.h) B m.k m.a m.g m.n (.int .i64 0) (setR F f (2 ^ k) true) S (W2.setCell ⟨m.s, 2, none⟩ (.slice A2 m2 c2)).drew)) := by
            have := kGive_any HS3.out.kin f k (by omega) (by omega)
            rw [HCE.out, HCL.out] at this
            exact this
          have HCV : Hid (∀ w4, RefAt w4 m.x m.y m.n F → Calls Try.prog 32 #[.pointer (some ⟨m.x, 0, none⟩), .int .i64 f, .int .i64 k, .bool true] w4 (RefChg m.x m.y m.n 0 (setR F f (2 ^ k) true) w4)) := fun w4 h4 => by
            have := refChange_any h4 f k (by omega) (by omega) true
            rw [HCE.out, HCL.out] at this
            exact this
          clear hst hT3 hg2 hcz hc1 hc2 hf2 r1' r2a r2b hqc hqc1 hqc2 hqd hqa hqs
          generalize W2.setCell ⟨m.s, 2, none⟩ (.slice A2 m2 c2) = W3 at HSTEP HS3 HT3 hs3 HGV HCV ⊢
          go_wp2_with fail
          go_region_held3 (fun v => v.cell? ⟨m.s, 0, none⟩ = some (.pointer (some ⟨m.k, 0, none⟩)) ∧ v.cell? ⟨m.s, 1, none⟩ = some (.pointer (some ⟨m.z, 0, none⟩)) ∧ v.cell? ⟨m.z, 0, none⟩ = some (.pointer (some ⟨m.x, 0, none⟩)) ∧ v.cell? ⟨q, 0, none⟩ = some (.int .i64 f) ∧ v.cell? ⟨q, 1, none⟩ = some (.int .i64 k)) (first | exact hs3 | exact ⟨hs4.c0, hs4.c1, hs4.ref.c0, q4.cell 0, q4.cell 1⟩ | exact ⟨hs5.c0, hs5.c1, hs5.ref.c0, q5.cell 0, q5.cell 1⟩)
            (first | (go_at_call 23; refine Calls.mono HGV.out ?_; rintro e w4 ⟨rfl, ht4, hx4⟩; have hs4 := HS3.out.kinTurn ht4 hx4; have q4 := ht4.row _ _ _ HT3.out (by decide) (by decide)) | (go_at_call 32; refine Calls.mono (HCV.out _ hs4.ref.ref) ?_; rintro e w5 ⟨rfl, hr5, hg5⟩; have hs5 := hs4.refFrm hg5 (hs4.ref.refGrown hg5 hr5); have q5 := lrow_grown_ne hs4.ref.ref.row hg5 q4 (by decide)))
          have HS5 := Lib.hid hs5
          have HST5 := Lib.hid (HSTEP.out.trans ((Step.turn ht4 _).trans (Step.grown hs4.ref.ref.row (Or.inr (Or.inr (Or.inr rfl))) HS3.out.ly hg5 _)))
          clear hs4 hs5 q4 q5 ht4 hx4 hr5 hg5
          go_wp2
          go_ret
          exact ⟨rfl, _, _, _, _, HS5.out, HG.out, HST5.out, fun _ _ => HCN.out⟩
theorem do_give (h : St B w m F F S S T tv) (hH : Held F T) {K Fr o Of N : Int} (hK : K = 4) :
    Calls Try.prog 10 #[.pointer (some ⟨m.s, 0, none⟩), .agg #[.int .i64 K, .int .i64 Fr, .int .i64 o, .int .i64 Of, .int .i64 N]] w (Gave B m F T N tv w) := by
  subst hK
  exact do_give4 h hH
theorem do_any (h : St B w m F F S S T tv) (hH : Held F T) {c : Int × Int × Int × Int × Int} (hc : IsAct c) :
    Calls Try.prog 10 #[.pointer (some ⟨m.s, 0, none⟩), .agg #[.int .i64 c.1, .int .i64 c.2.1, .int .i64 c.2.2.1, .int .i64 c.2.2.2.1, .int .i64 c.2.2.2.2]] w (Did B m tv w) := by
  obtain ⟨K, Fr, o, Of, N⟩ := c
  obtain ⟨-, ⟨h1, h2⟩, -, -⟩ := hc
  show Calls Try.prog 10 #[.pointer (some ⟨m.s, 0, none⟩), .agg #[.int .i64 K, .int .i64 Fr, .int .i64 o, .int .i64 Of, .int .i64 N]] w (Did B m tv w)
  by_cases k0 : K = 0
  · exact do_take h hH (Or.inl k0)
  · by_cases k1 : K = 1
    · exact do_take h hH (Or.inr (Or.inl k1))
    · by_cases k2 : K = 2
      · exact do_take h hH (Or.inr (Or.inr k2))
      · by_cases k3 : K = 3
        · exact do_set h hH k3
        · by_cases k4 : K = 4
          · exact (do_give h hH k4).mono fun _ _ g => g.did
          · exact do_at h hH k0 k1 k2 k3 k4 h1 h2
/-- A call of a list of calls, as it lies in a later world. -/
theorem acts_now {W w : World} {b n i : Nat} {A : Option Addr} (h : Acts W b A n) (hb : Below b W w) (hi : i < n) :
    ∃ ad, A = some ad ∧ ∃ c, IsAct c ∧ ActAt w (ad.add (i * 5)) c := by
  obtain ⟨p, e, hlt, hc⟩ := (h.below hb) (by omega)
  obtain ⟨c, ok, hat⟩ := hc i hi
  exact ⟨p, e, c, ok, hat⟩
/-- The state as the loops of the laws see it: both sides have the same frames and sections, and what is held is held. -/
def Going (B : Nat) (m : Nms) (w0 : World) (w : World) : Prop := ∃ F S T tv, St B w m F F S S T tv ∧ Held F T ∧ Step B w0 w (.slice none 0 0) tv
theorem Going.drewN {G0 : World} (h : Going B m G0 w) (q : Nat) : Going B m G0 (w.drewN q) := by
  obtain ⟨F, S, T, tv, h1, h2, h3⟩ := h
  exact ⟨F, S, T, tv, h1.drewN q, h2, h3.trans (Step.call (below_dN (Below.refl _ _) q) h1.lo _)⟩
theorem Going.call {G0 w' : World} (h : Going B m G0 w) (hb : Below w.heap.size w w') : Going B m G0 w' := by
  obtain ⟨F, S, T, tv, h1, h2, h3⟩ := h
  exact ⟨F, S, T, tv, h1.call hb, h2, h3.trans (Step.call hb h1.lo _)⟩
theorem Going.below {G0 : World} (h : Going B m G0 w) : Below B G0 w := by
  obtain ⟨F, S, T, tv, _, _, h3⟩ := h
  exact h3.below
theorem Going.do_ {G0 : World} (h : Going B m G0 w) {c : Int × Int × Int × Int × Int} (hc : IsAct c) :
    Calls Try.prog 10 #[.pointer (some ⟨m.s, 0, none⟩), .agg #[.int .i64 c.1, .int .i64 c.2.1, .int .i64 c.2.2.1, .int .i64 c.2.2.2.1, .int .i64 c.2.2.2.2]] w fun e w' => e = .returned (.bool true) ∧ Going B m G0 w' := by
  obtain ⟨F, S, T, tv, h1, h2, h3⟩ := h
  refine (do_any h1 h2 hc).mono ?_
  rintro e w' ⟨rfl, F', S', T', tv', k1, k2, k3⟩
  exact ⟨rfl, F', S', T', tv', k1, k2, h3.trans k3⟩
theorem held_nil (n : Nat) : Held (List.replicate n true) [] := by
  refine ⟨fun t ht => (by cases ht), List.Pairwise.nil, fun j hj => ?_⟩
  constructor
  · intro e
    rw [List.getElem?_replicate] at e
    split at e <;> simp at e
  · rintro ⟨t, ht, _⟩; cases ht
theorem Made.going {n : Nat} {w' : World} {e : Ending} (h : Made n w e w') : ∃ m : Nms, m.n = n ∧ e = .returned (.tuple #[.pointer (some ⟨m.s, 0, none⟩), .bool true]) ∧ Going w.heap.size m w' w' ∧ Below w.heap.size w w' := by
  obtain ⟨m, hn, rfl, h1, h2⟩ := h
  exact ⟨m, hn, rfl, ⟨_, _, _, _, h1, held_nil n, Step.refl _ _ _⟩, h2⟩
end
end Go.Proofs.Ytfjphlickpgbnaa
