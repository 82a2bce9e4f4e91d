/- Put, Lines. -/
import Derived.Test.YtbnnfgdlkldafaaAg
import Derived.Deep.RegionHeld3
import Derived.BigRegion
namespace Go.Proofs.Ytbnnfgdlkldafaa
open Go.RowKit
section
variable {w : World} {B ta z : Nat} {v : Value} {L : List Cd}
/-- What a putting does. -/
def Grown (B : Nat) (w : World) (ta z : Nat) (v : Value) (L' : List Cd) (r : Value) (e : Ending) (w' : World) : Prop :=
  e = .returned r ∧ ∃ v', Tb B w' ta z v' L' ∧ Foot (Mine ta v) w w' ∧ (v'.ownBlock = v.ownBlock ∨ ∃ g, v'.ownBlock = some g ∧ w.heap.size ≤ g)
theorem cutL_yes {z : Nat} {M : List Cd} (h : z ≤ M.length) : cutL z M = M.tail := if_pos h
theorem cutL_no {z : Nat} {M : List Cd} (h : ¬ z ≤ M.length) : cutL z M = M := if_neg h
theorem drL_zero {M : List Cd} (h : 0 < M.length) : drL M 0 = M.tail := by
  unfold drL
  rw [if_pos ⟨Int.le_refl _, by omega⟩]
  cases M with
  | nil => simp at h
  | cons x r => rfl
/-- The last part of a putting: the line is laid at the end. -/
theorem app_put {W : World} {M : List Cd} {v3 : Value} {c : Cd} (hT : Tb B W ta z v3 M) (hgd : Good z (M ++ [c])) : ∃ A n W5,
    (Builtin.append_ #[35, 35] 35 #[v3, .slice (some ⟨W.heap.size, 0, none⟩) 1 1]).run Try.prog (W.alloc (.cells (ccell c).toArray 31)).drew = .ok (.slice A (M.length + 1) n) W5 ∧
    W5.cell? ⟨ta, 1, none⟩ = some v3 ∧ W5.frozen? ⟨ta, 1, none⟩ = false ∧ Tb B (W5.setCell ⟨ta, 1, none⟩ (.slice A (M.length + 1) n)) ta z (.slice A (M.length + 1) n) (M ++ [c]) ∧ Foot (Mine ta v3) W (W5.setCell ⟨ta, 1, none⟩ (.slice A (M.length + 1) n)) ∧ ((Value.slice A (M.length + 1) n).ownBlock = v3.ownBlock ∨ ∃ g, (Value.slice A (M.length + 1) n).ownBlock = some g ∧ W.heap.size ≤ g) := by
  obtain ⟨W1, hW1⟩ : ∃ W1, W1 = (W.alloc (.cells (ccell c).toArray 31)).drew := ⟨_, rfl⟩
  have hb1 : Below W.heap.size W W1 := by rw [hW1]; exact below_1d _ 1
  have hT1 := hT.call hb1
  have hr1 : Lrow W1 W.heap.size 31 (ccell c) := by rw [hW1]; exact (Lrow.new W _ _).drewN 1
  obtain ⟨A, n, W5, hrun, hcs, hg, ho⟩ := app_run hT1.own hT1.lw ⟨W.heap.size, 0, none⟩ 1 [c] (fun j u hu => by rw [add_offs, hr1.cell]; rw [ccells_one] at hu; exact hu) (by have := hT.len; simp; omega)
  rw [← hW1]
  simp only [List.length_cons, List.length_nil, Nat.zero_add] at hrun hcs ho
  have hne : some ta ≠ v3.ownBlock := fun e => by
    obtain ⟨vs, r, _⟩ := own_block hT1.own e.symm
    exact hT1.top.apart r (by decide) rfl
  have ht5 := hT1.top.grown hg hne
  refine ⟨A, n, W5, hrun, ht5.cell 1, ht5.frozen 1, ⟨ht5.set_ 1 _, ?_, hgd, hT.z1, hT.z64, hT.lo, by simpa [World.setCell] using Nat.le_trans hT1.lw hg.size⟩, ?_, ?_⟩
  · refine hcs.heap fun g e => ?_
    obtain ⟨vs, r, _⟩ := own_block hcs e
    exact Below.heap_setCell W5 _ _ g (r.apart ht5 (by decide))
  · refine ((Foot.of_below (X := Mine ta v3) hb1).trans (Foot.grownO (X := Mine ta v3) hg (fun b e _ => Or.inr e)) (fun _ h _ => h)).trans (Foot.grown (X := fun k => k = ta) (grown_set W5 ta 1 _) rfl) (fun b e _ => Or.inl e)
  · rcases ho with e | e
    · exact Or.inl e
    · exact Or.inr ⟨_, e, hb1.size⟩
set_option maxRecDepth 100000 in
set_option maxHeartbeats 4000000 in
theorem put_any (h : Tb B w ta z v L) {c : Cd} (hc : CFits c) : Calls Try.prog 19 #[.pointer (some ⟨ta, 0, none⟩), cv c] w (Grown B w ta z v (putL z L c) (.int .i64 (putE c))) := by
  obtain ⟨W0, hW0⟩ : ∃ W0, W0 = w.alloc (.cells (ccell c).toArray 31) := ⟨_, rfl⟩
  obtain ⟨s, hs⟩ : ∃ s, s = w.heap.size := ⟨_, rfl⟩
  have g0 : Below w.heap.size w W0 := hW0 ▸ below_new w _
  have rs : Lrow W0 s 31 (ccell c) := by rw [hW0, hs]; exact Lrow.new w _ _
  have hmb := fun W => mayBe_any hc W
  have hT0 := h.call g0
  cases hr : rgB c
  · have eE : putE c = 2 := by unfold putE; rw [hr]; rfl
    have HD : Hid (∀ W1, Below W0.heap.size W0 W1 → Grown B w ta z v (putL z L c) (.int .i64 2) (.returned (.int .i64 2)) W1) := fun W1 hb => by
      refine ⟨rfl, v, ?_, Foot.of_below (g0.trans (hb.mono g0.size)), Or.inl rfl⟩
      rw [show putL z L c = L by unfold putL; rw [hr]; rfl]
      exact hT0.call hb
    rw [eE]
    rw [hr] at hmb
    obtain ⟨sp, p, o, f, b⟩ := c
    have HW := Lib.hid (And.intro hW0 hs)
    have d0 : W0.cell? ⟨s, 0, none⟩ = some (.int .i64 sp) := rs.cell 0
    have d1 : W0.cell? ⟨s, 1, none⟩ = some (.int .i64 p) := rs.cell 1
    have d2 : W0.cell? ⟨s, 2, none⟩ = some (.int .i64 o) := rs.cell 2
    have d3 : W0.cell? ⟨s, 3, none⟩ = some (.int .i64 f) := rs.cell 3
    have d4 : W0.cell? ⟨s, 4, none⟩ = some (.bool b) := rs.cell 4
    clear eE hr hW0 hs g0 rs h hT0 hc
    dsimp only [ccell] at HW
    go_enter Try.func19, Try.ntmps19
    go_upto_region 1 with (fail)
    rw [← HW.out.1, ← HW.out.2]
    go_wp2_with (go_at_call 28; refine (hmb _).mono ?_; rintro e W1 ⟨rfl, hb1⟩)
    go_ret
    exact HD.out _ hb1
  · have eE : putE c = 0 := by unfold putE; rw [hr]; rfl
    rw [eE]
    rw [hr] at hmb
    have hok : ROk c := of_decide_eq_true hr
    obtain ⟨M, hM⟩ : ∃ M, M = flL L c.s c.p (szO c.o) := ⟨_, rfl⟩
    have hgM : Good z M := hM ▸ h.good.flush _ _ _
    have eP : putL z L c = cutL z M ++ [c] := by unfold putL; rw [if_pos hr, hM]
    have HGP : Hid (Good z (cutL z M ++ [c])) := eP ▸ h.good.put h.z1 c
    rw [eP]
    have HTW := Lib.hid h
    have hlow : ∀ k, Mine ta v k → k < s := fun k hk => hs ▸ h.lt hk
    have HLOW := Lib.hid hlow
    have hzM : M.length ≤ z := hgM.len
    have z1 := h.z1
    have HFL : Hid (∀ W1, Tb B W1 ta z v L → Calls Try.prog 17 #[.pointer (some ⟨ta, 0, none⟩), .int .i64 c.s, .int .i64 c.p, .int .i64 (szO c.o)] W1 (Dropped B W1 ta z v M (.int .i64 (flN L c.s c.p (szO c.o))))) := fun W1 hT => by
      have := szO_pos c.o
      rw [hM]; exact flush_any hT c.s hc.p ⟨by omega, by omega⟩
    have FIN : Hid (∀ (X : World) (vX : Value) (MX : List Cd), Tb B X ta z vX MX → Foot (Mine ta v) w X → vX.ownBlock = v.ownBlock → MX = cutL z M → ∃ A n W5,
        (Builtin.append_ #[35, 35] 35 #[vX, .slice (some ⟨X.heap.size, 0, none⟩) 1 1]).run Try.prog (X.alloc (.cells (ccell c).toArray 31)).drew = .ok (.slice A (MX.length + 1) n) W5 ∧ (W5.cell? ⟨ta, 1, none⟩ = some vX ∧ W5.frozen? ⟨ta, 1, none⟩ = false) ∧ Grown B w ta z v (cutL z M ++ [c]) (.int .i64 0) (.returned (.int .i64 0)) (W5.setCell ⟨ta, 1, none⟩ (.slice A (MX.length + 1) n))) := fun X vX MX hT hF hO e => by
      subst e
      obtain ⟨A, n, W5, h1, h2, h3, h4, h5, h6⟩ := app_put hT HGP.out
      refine ⟨A, n, W5, h1, ⟨h2, h3⟩, rfl, _, h4, hF.trans h5 (fun b hb _ => ?_), ?_⟩
      · rcases hb with rfl | e
        · exact Or.inl rfl
        · exact Or.inr (hO ▸ e)
      · rcases h6 with e | ⟨g, e, hg⟩
        · exact Or.inl (e.trans hO)
        · exact Or.inr ⟨g, e, Nat.le_trans hF.size hg⟩
    have hF0 : Foot (Mine ta v) w W0 := Foot.of_below g0
    have HF0 := Lib.hid hF0
    have HT0 := Lib.hid hT0
    have HRS := Lib.hid rs
    obtain ⟨hoo, -⟩ := hok
    obtain ⟨sp, p, o, f, b⟩ := c
    have d0 : W0.cell? ⟨s, 0, none⟩ = some (.int .i64 sp) := rs.cell 0
    have d1 : W0.cell? ⟨s, 1, none⟩ = some (.int .i64 p) := rs.cell 1
    have d2 : W0.cell? ⟨s, 2, none⟩ = some (.int .i64 o) := rs.cell 2
    have d3 : W0.cell? ⟨s, 3, none⟩ = some (.int .i64 f) := rs.cell 3
    have d4 : W0.cell? ⟨s, 4, none⟩ = some (.bool b) := rs.cell 4
    have HW := Lib.hid (And.intro hW0 hs)
    dsimp only [ccell] at HW HRS FIN HFL hoo
    have HMM := Lib.hid hzM
    clear eE eP hr hM hgM hlow hW0 hs g0 rs h hT0 hc hF0 hzM
    rcases hoo with rfl | rfl | rfl
    all_goals
      simp only [show szO 0 = 1 from rfl, show szO 3 = 8 from rfl, show szO 6 = 64 from rfl] at HFL
      go_enter Try.func19, Try.ntmps19
      go_upto_region 1 with (fail)
      rw [← HW.out.1, ← HW.out.2]
      go_wp2_with (go_at_call 28; refine (hmb _).mono ?_; rintro e W1 ⟨rfl, hb1⟩)
      have hb1d : Below W0.heap.size W0 W1.drew := below_dN hb1 1
      have hT1 := HT0.out.call hb1d
      have r1 := HRS.out.call hb1d
      have F1 : Foot (Mine ta v) w W1.drew := HF0.out.trans (Foot.of_below (X := Mine ta v) hb1d) (fun _ h _ => h)
      have e1 : W1.drew.cell? ⟨s, 0, none⟩ = some (.int .i64 sp) := r1.cell 0
      have e2 : W1.drew.cell? ⟨s, 1, none⟩ = some (.int .i64 p) := r1.cell 1
      have e3 := r1.cell 2
      have HFC := Lib.hid (HFL.out _ hT1)
      have HF1 := Lib.hid F1
      have HT1 := Lib.hid hT1
      have HR1 := Lib.hid r1
      clear hb1 hb1d hT1 r1 F1 d0 d1 d2 d3 d4 hmb HFL
      go_region_held3 (fun v => v.cell? ⟨s, 0, none⟩ = some (.int .i64 sp) ∧ v.cell? ⟨s, 1, none⟩ = some (.int .i64 p) ∧ v.cell? ⟨s, 2, none⟩ = W1.drew.cell? ⟨s, 2, none⟩) (first | exact ⟨e1, e2, rfl⟩ | exact HS2) (first | (go_at_call 17; refine HFC.out.mono ?_; rintro e W2 ⟨rfl, v2, hT2, hF2, ho2⟩; have r2 := hF2.row HR1.out (fun k => by have := HLOW.out _ k; omega); have HS2 : W2.cell? ⟨s, 0, none⟩ = some (.int .i64 sp) ∧ W2.cell? ⟨s, 1, none⟩ = some (.int .i64 p) ∧ W2.cell? ⟨s, 2, none⟩ = W1.drew.cell? ⟨s, 2, none⟩ := ⟨r2.cell 0, r2.cell 1, (r2.cell 2).trans (HR1.out.cell 2).symm⟩))
      have F2 : Foot (Mine ta v) w W2 := HF1.out.trans hF2 (fun _ h _ => h)
      have HR2 := Lib.hid r2
      have HO2 := Lib.hid ho2
      have HT2 := Lib.hid hT2
      have HF2 := Lib.hid F2
      clear hF2 r2 ho2 F2 HS2 e1 e2 e3 HFC HF1 HT1 HR1 HF0 HT0 HRS HTW hT2
      obtain ⟨A2, c2, e2⟩ := HT2.out.own.form
      have k0 := HT2.out.c0
      have k1 := HT2.out.c1
      rw [e2] at k1
      have E2 := Lib.hid e2
      clear e2
      by_cases hz : z ≤ M.length
      · have hzi : (z : Int) ≤ M.length := by omega
        have hdc := drop_any (HT2.out.drewN 1) 0
        rw [drL_zero (by omega), show drE M 0 = 0 from if_pos ⟨Int.le_refl _, by omega⟩] at hdc
        have HCZ := Lib.hid (cutL_yes hz)
        have HDC := Lib.hid hdc
        clear hdc hz
        go_wp2_with fail
        go_region
        all_goals
          go_wp2_with (go_at_call 20; refine HDC.out.mono ?_; rintro e W3 ⟨rfl, v3, hT3, hF3, ho3⟩)
          have r3 := hF3.row (HR2.out.drewN 1) (fun k => by have := HLOW.out s (by rcases k with h | h; exact Or.inl h; exact Or.inr (HO2.out ▸ h)); omega)
          have F3 : Foot (Mine ta v) w W3 := (HF2.out.drewN 1).trans hF3 (fun k hk _ => by rcases hk with h | h; exact Or.inl h; exact Or.inr (HO2.out ▸ h))
          have HR3 := Lib.hid r3
          have HF3 := Lib.hid F3
          have HO3 := Lib.hid (ho3.trans HO2.out)
          have HT3 := Lib.hid hT3
          clear hF3 r3 ho3 F3 hT3
          obtain ⟨AX, cX, eX⟩ := HT3.out.own.form
          subst eX
          obtain ⟨A5, n5, W5, r5, ⟨hc5, hf5⟩, hfin⟩ := FIN.out W3 _ _ HT3.out HF3.out HO3.out HCZ.out.symm
          have x1 := HT3.out.c1
          have hlt4 := HT3.out.top.lt
          have hls4 := HR3.out.lt
          have hnt : ¬ ta = W3.heap.size := by omega
          have hns : ¬ s = W3.heap.size := by omega
          have y0 : W3.cell? ⟨s, 0, none⟩ = some (.int .i64 sp) := HR3.out.cell 0
          have y1 : W3.cell? ⟨s, 1, none⟩ = some (.int .i64 p) := HR3.out.cell 1
          have y2 := HR3.out.cell 2
          have y3 : W3.cell? ⟨s, 3, none⟩ = some (.int .i64 f) := HR3.out.cell 3
          have y4 : W3.cell? ⟨s, 4, none⟩ = some (.bool b) := HR3.out.cell 4
          simp only [List.getElem?_cons_succ, List.getElem?_cons_zero] at y2
          obtain ⟨m5, hm5⟩ : ∃ m5, m5 = M.tail.length := ⟨_, rfl⟩
          rw [← hm5] at r5 x1 hc5 hfin
          have HFIN := Lib.hid hfin
          have HM5 := Lib.hid hm5
          clear hfin hm5
          go_region_law (refine step_append_run (by rfl) _ _ 35 (by rfl) (.slice AX _ cX) (.slice (some ⟨W3.heap.size, 0, none⟩) 1 1) (by simp [Act.eval]) (by simp [Act.eval]) r5 ?_)
          all_goals
            go_wp2_with fail
            go_ret
            exact HFIN.out
      · have hzi : (M.length : Int) < z := by omega
        have HCZ := Lib.hid (cutL_no hz)
        clear hz
        go_wp2_with fail
        go_region
        all_goals
          go_wp2_with fail
          have HR3 := Lib.hid (HR2.out.drewN 1)
          have HF3 := Lib.hid (HF2.out.drewN 1)
          have HT3 := Lib.hid (HT2.out.drewN 1)
          obtain ⟨W3, hW3⟩ : ∃ W3, W3 = W2.drewN 1 := ⟨_, rfl⟩
          rw [← hW3] at HR3 HF3 HT3
          change Code.wp _ _ _ _ (W2.drewN 1)
          rw [← hW3]
          clear hW3
          obtain ⟨AX, cX, eX⟩ := HT3.out.own.form
          subst eX
          obtain ⟨A5, n5, W5, r5, ⟨hc5, hf5⟩, hfin⟩ := FIN.out W3 _ _ HT3.out HF3.out HO2.out HCZ.out.symm
          have x1 := HT3.out.c1
          have hlt4 := HT3.out.top.lt
          have hls4 := HR3.out.lt
          have hnt : ¬ ta = W3.heap.size := by omega
          have hns : ¬ s = W3.heap.size := by omega
          have y0 : W3.cell? ⟨s, 0, none⟩ = some (.int .i64 sp) := HR3.out.cell 0
          have y1 : W3.cell? ⟨s, 1, none⟩ = some (.int .i64 p) := HR3.out.cell 1
          have y2 := HR3.out.cell 2
          have y3 : W3.cell? ⟨s, 3, none⟩ = some (.int .i64 f) := HR3.out.cell 3
          have y4 : W3.cell? ⟨s, 4, none⟩ = some (.bool b) := HR3.out.cell 4
          simp only [List.getElem?_cons_succ, List.getElem?_cons_zero] at y2
          obtain ⟨m5, hm5⟩ : ∃ m5, m5 = M.length := ⟨_, rfl⟩
          rw [← hm5] at r5 x1 hc5 hfin
          have HFIN := Lib.hid hfin
          have HM5 := Lib.hid hm5
          clear hfin hm5
          go_region_law (refine step_append_run (by rfl) _ _ 35 (by rfl) (.slice AX _ cX) (.slice (some ⟨W3.heap.size, 0, none⟩) 1 1) (by simp [Act.eval]) (by simp [Act.eval]) r5 ?_)
          all_goals
            go_wp2_with fail
            go_ret
            exact HFIN.out
end
end Go.Proofs.Ytbnnfgdlkldafaa
