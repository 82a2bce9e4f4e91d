/- Reservations: a call of both. -/
import Derived.Test.YtfalmjibpkkjaaaL1
import Derived.BigRegion
namespace Go.Proofs.Ytfalmjibpkkjaaa
open Go.RowKit
/-- What a call of both comes to. -/
def DidB (B : Nat) (w : World) (s x : Nat) (S : Rs) (e : Ending) (w' : World) : Prop := e = .returned (.bool true) ∧ St B w' s x S ∧ Below B w w'
section
variable {w w' : World} {B s x n : Nat} {S : Rs}

set_option maxHeartbeats 2000000 in
set_option maxRecDepth 100000 in
theorem do_make (h : St B w s x S) (hb : Bnd n S) (hn : n ≤ 800) {l : Ac} (hl : IsAc l) (hk : l.k = 0 ∨ l.k = 1) : Calls Try.prog 25 #[.pointer (some ⟨s, 0, none⟩), .pointer (some ⟨x, 0, none⟩), .agg #[.int .i64 l.k, .int .i64 l.s, .int .i64 l.p, .int .i64 l.f]] w (DidB B w s x (doS S l)) := by
  obtain ⟨W0, hW0⟩ : ∃ W0, W0 = w.alloc (.cells #[.int .i64 l.k, .int .i64 l.s, .int .i64 l.p, .int .i64 l.f] 56) := ⟨_, rfl⟩
  obtain ⟨q, hq⟩ : ∃ q, q = w.heap.size := ⟨_, rfl⟩
  have g0 : Below w.heap.size w W0 := by rw [hW0]; exact below_new _ _
  have rs : Lrow W0 q 56 (acCells l) := by rw [hW0, hq]; exact Lrow.new w _ (acCells l)
  obtain ⟨T, v, Kx, h00, h0⟩ := h
  have hst := And.intro (h0.1.call g0) (And.intro (h0.2.1.call g0) h0.2.2)
  have HB0 : Hid (Below B w W0) := g0.mono h0.2.1.lw
  have HRS := Lib.hid rs
  have HW := Lib.hid (And.intro hW0 hq)
  have HF := Lib.hid hl
  have HBD := Lib.hid (hb.mono hn)
  rw [show doS S l = mkS S l.s l.p l.f by unfold doS; rw [if_pos hk]]
  have HX : Hid (∀ k, MineO T S.L k → k = q → False) := fun k hk e => by
    have := h0.1.lt k hk
    rw [e, HW.out.2] at this
    exact absurd this (by omega)
  have HM : Hid (∀ k, MineX x v Kx k → k = q → False) := fun k hk e => by
    have := (h0.2.1.mine k hk).2
    rw [e, HW.out.2] at this
    exact absurd this (by omega)
  clear h0 hW0 hq g0 rs hl hb hn
  obtain ⟨K, Sp, Pg, Fr⟩ := l
  dsimp only [acCells] at HRS HW HF hk
  subst h00
  rcases hk with rfl | rfl
  all_goals
    go_enter Try.func25, Try.ntmps25
    go_upto_region 1 with (fail)
    rw [← HW.out.1, ← HW.out.2]
    have e0 := HRS.out.cell 0
    obtain ⟨h1, h2, h3⟩ := hst
    have h1' := h1.call (below_dN (Below.refl _ W0) 1)
    have h2' := h2.call (below_dN (Below.refl _ W0) 1)
    have hrs := HRS.out.drewN 1
    have HS0 : W0.drew.cell? ⟨q, 1, none⟩ = some (.int .i64 Sp) ∧ W0.drew.cell? ⟨q, 2, none⟩ = some (.int .i64 Pg) ∧ W0.drew.cell? ⟨q, 3, none⟩ = some (.int .i64 Fr) := ⟨hrs.cell 1, hrs.cell 2, hrs.cell 3⟩
    go_wp2_with fail
    go_region_held3 (fun v => v.cell? ⟨q, 1, none⟩ = some (.int .i64 Sp) ∧ v.cell? ⟨q, 2, none⟩ = some (.int .i64 Pg) ∧ v.cell? ⟨q, 3, none⟩ = some (.int .i64 Fr))
      (first | exact HS0 | exact HS1 | exact HS2)
      (first | (go_at_call 13; refine (make_r h1' HBD.out (by decide) HF.out.s HF.out.p HF.out.f).mono ?_; rintro e w1 ⟨rfl, hd1⟩; have f1 := hd1.choose_spec.2.2.1; obtain ⟨T1, k0, k1, k2, k3, kb⟩ := half h1' h2' h3 hd1; have r1 := f1.row hrs (fun e => HX.out q e rfl); have HS1 : w1.cell? ⟨q, 1, none⟩ = some (.int .i64 Sp) ∧ w1.cell? ⟨q, 2, none⟩ = some (.int .i64 Pg) ∧ w1.cell? ⟨q, 3, none⟩ = some (.int .i64 Fr) := ⟨r1.cell 1, r1.cell 2, r1.cell 3⟩) | (go_at_call 41; refine (make_x k2 HBD.out (by decide)).mono ?_; rintro e w2 ⟨rfl, hd2⟩; have f2 := hd2.choose_spec.choose_spec.2.1; obtain ⟨hst2, hb2⟩ := whole k1 k2 k3 hd2; have r2 := f2.row r1 (fun e => HM.out q e rfl); have HS2 : w2.cell? ⟨q, 1, none⟩ = some (.int .i64 Sp) ∧ w2.cell? ⟨q, 2, none⟩ = some (.int .i64 Pg) ∧ w2.cell? ⟨q, 3, none⟩ = some (.int .i64 Fr) := ⟨r2.cell 1, r2.cell 2, r2.cell 3⟩))
    all_goals
      go_wp2
      go_ret
      exact ⟨ret_bool (by simp), by rw [← k0]; exact hst2, HB0.out.trans (Below.trans (below_dN (Below.refl _ _) 1) (Below.trans kb hb2))⟩

set_option maxHeartbeats 2000000 in
set_option maxRecDepth 100000 in
theorem do_fill (h : St B w s x S) (hb : Bnd n S) (hn : n ≤ 800) {l : Ac} (hl : IsAc l) (hk : l.k = 2 ∨ l.k = 3 ∨ l.k = 4) : Calls Try.prog 25 #[.pointer (some ⟨s, 0, none⟩), .pointer (some ⟨x, 0, none⟩), .agg #[.int .i64 l.k, .int .i64 l.s, .int .i64 l.p, .int .i64 l.f]] w (DidB B w s x (doS S l)) := by
  obtain ⟨W0, hW0⟩ : ∃ W0, W0 = w.alloc (.cells #[.int .i64 l.k, .int .i64 l.s, .int .i64 l.p, .int .i64 l.f] 56) := ⟨_, rfl⟩
  obtain ⟨q, hq⟩ : ∃ q, q = w.heap.size := ⟨_, rfl⟩
  have g0 : Below w.heap.size w W0 := by rw [hW0]; exact below_new _ _
  have rs : Lrow W0 q 56 (acCells l) := by rw [hW0, hq]; exact Lrow.new w _ (acCells l)
  obtain ⟨T, v, Kx, h00, h0⟩ := h
  have hst := And.intro (h0.1.call g0) (And.intro (h0.2.1.call g0) h0.2.2)
  have HB0 : Hid (Below B w W0) := g0.mono h0.2.1.lw
  have HRS := Lib.hid rs
  have HW := Lib.hid (And.intro hW0 hq)
  have HF := Lib.hid hl
  have HBD := Lib.hid (hb.mono hn)
  rw [show doS S l = fiS S l.s l.p by unfold doS; rw [if_neg (by omega), if_pos hk]]
  have HX : Hid (∀ k, MineO T S.L k → k = q → False) := fun k hk e => by
    have := h0.1.lt k hk
    rw [e, HW.out.2] at this
    exact absurd this (by omega)
  have HM : Hid (∀ k, MineX x v Kx k → k = q → False) := fun k hk e => by
    have := (h0.2.1.mine k hk).2
    rw [e, HW.out.2] at this
    exact absurd this (by omega)
  clear h0 hW0 hq g0 rs hl hb hn
  obtain ⟨K, Sp, Pg, Fr⟩ := l
  dsimp only [acCells] at HRS HW HF hk
  subst h00
  rcases hk with rfl | rfl | rfl
  all_goals
    go_enter Try.func25, Try.ntmps25
    go_upto_region 1 with (fail)
    rw [← HW.out.1, ← HW.out.2]
    have e0 := HRS.out.cell 0
    obtain ⟨h1, h2, h3⟩ := hst
    have e1 := HRS.out.cell 1
    have e2 := HRS.out.cell 2
    have hm := fill_r h1 HBD.out (by decide) HF.out.s HF.out.p
    obtain ⟨FV, hFV⟩ : ∃ FV, FV = fiV S Sp Pg := ⟨_, rfl⟩
    obtain ⟨FE, hFE⟩ : ∃ FE, FE = fiE S Sp Pg := ⟨_, rfl⟩
    rw [← hFV, ← hFE] at hm
    have H123 := Lib.hid (And.intro h1 (And.intro h2 h3))
    have HFE := Lib.hid (And.intro hFV hFE)
    clear h1 h2 h3 hFV hFE
    go_wp2_with fail
    refine hm.mono ?_
    rintro e w1 ⟨rfl, hd1⟩
    have r1 := hd1.choose_spec.2.2.1.row HRS.out (fun e => HX.out q e rfl)
    obtain ⟨T1, k0, k1, k2, k3, kb⟩ := half H123.out.1 H123.out.2.1 H123.out.2.2 hd1
    have hx := fill_x k2 HBD.out (by decide) Sp Pg
    rw [← HFE.out.1, ← HFE.out.2] at hx
    have HK := Lib.hid (And.intro k1 (And.intro k2 (And.intro k3 (And.intro kb k0))))
    have d1 := r1.cell 1
    have d2 := r1.cell 2
    clear hm hd1 k1 k2 k3 kb k0 r1 e1 e2
    go_wp2_with fail
    refine hx.mono ?_
    rintro e w2 ⟨rfl, hd2⟩
    obtain ⟨hst2, hb2⟩ := whole HK.out.1 HK.out.2.1 HK.out.2.2.1 hd2
    have HE := Lib.hid (And.intro hst2 (HK.out.2.2.2.1.trans hb2))
    clear hx hd2 hst2 hb2 d1 d2
    go_wp2_with fail
    go_ret
    exact ⟨ret_bool (by simp), by rw [← HK.out.2.2.2.2]; exact HE.out.1, HB0.out.trans HE.out.2⟩

set_option maxHeartbeats 2000000 in
set_option maxRecDepth 100000 in
theorem do_clear (h : St B w s x S) (hb : Bnd n S) (hn : n ≤ 800) {l : Ac} (hl : IsAc l) (hk : l.k = 5) : Calls Try.prog 25 #[.pointer (some ⟨s, 0, none⟩), .pointer (some ⟨x, 0, none⟩), .agg #[.int .i64 l.k, .int .i64 l.s, .int .i64 l.p, .int .i64 l.f]] w (DidB B w s x (doS S l)) := by
  obtain ⟨W0, hW0⟩ : ∃ W0, W0 = w.alloc (.cells #[.int .i64 l.k, .int .i64 l.s, .int .i64 l.p, .int .i64 l.f] 56) := ⟨_, rfl⟩
  obtain ⟨q, hq⟩ : ∃ q, q = w.heap.size := ⟨_, rfl⟩
  have g0 : Below w.heap.size w W0 := by rw [hW0]; exact below_new _ _
  have rs : Lrow W0 q 56 (acCells l) := by rw [hW0, hq]; exact Lrow.new w _ (acCells l)
  obtain ⟨T, v, Kx, h00, h0⟩ := h
  have hst := And.intro (h0.1.call g0) (And.intro (h0.2.1.call g0) h0.2.2)
  have HB0 : Hid (Below B w W0) := g0.mono h0.2.1.lw
  have HRS := Lib.hid rs
  have HW := Lib.hid (And.intro hW0 hq)
  have HF := Lib.hid hl
  have HBD := Lib.hid (hb.mono hn)
  rw [show doS S l = clS S l.s l.p by unfold doS; rw [if_neg (by omega), if_neg (by omega), if_pos hk]]
  have HX : Hid (∀ k, MineO T S.L k → k = q → False) := fun k hk e => by
    have := h0.1.lt k hk
    rw [e, HW.out.2] at this
    exact absurd this (by omega)
  have HM : Hid (∀ k, MineX x v Kx k → k = q → False) := fun k hk e => by
    have := (h0.2.1.mine k hk).2
    rw [e, HW.out.2] at this
    exact absurd this (by omega)
  clear h0 hW0 hq g0 rs hl hb hn
  obtain ⟨K, Sp, Pg, Fr⟩ := l
  dsimp only [acCells] at HRS HW HF hk
  subst h00
  subst hk
  go_enter Try.func25, Try.ntmps25
  go_upto_region 1 with (fail)
  rw [← HW.out.1, ← HW.out.2]
  have e0 := HRS.out.cell 0
  obtain ⟨h1, h2, h3⟩ := hst
  have h1' := h1.call (below_dN (Below.refl _ W0) 1)
  have h2' := h2.call (below_dN (Below.refl _ W0) 1)
  have hrs := HRS.out.drewN 1
  have HS0 : W0.drew.cell? ⟨q, 1, none⟩ = some (.int .i64 Sp) ∧ W0.drew.cell? ⟨q, 2, none⟩ = some (.int .i64 Pg) := ⟨hrs.cell 1, hrs.cell 2⟩
  go_wp2_with fail
  go_region_held3 (fun v => v.cell? ⟨q, 1, none⟩ = some (.int .i64 Sp) ∧ v.cell? ⟨q, 2, none⟩ = some (.int .i64 Pg))
    (first | exact HS0 | exact HS1 | exact HS2)
    (first | (go_at_call 15; refine (clear_r h1' HBD.out (by decide) HF.out.s HF.out.p).mono ?_; rintro e w1 ⟨rfl, hd1⟩; have f1 := hd1.choose_spec.2.2.1; obtain ⟨T1, k0, k1, k2, k3, kb⟩ := half h1' h2' h3 hd1; have r1 := f1.row hrs (fun e => HX.out q e rfl); have HS1 : w1.cell? ⟨q, 1, none⟩ = some (.int .i64 Sp) ∧ w1.cell? ⟨q, 2, none⟩ = some (.int .i64 Pg) := ⟨r1.cell 1, r1.cell 2⟩) | (go_at_call 43; refine (clear_x k2 HBD.out (by decide) Sp Pg).mono ?_; rintro e w2 ⟨rfl, hd2⟩; have f2 := hd2.choose_spec.choose_spec.2.1; obtain ⟨hst2, hb2⟩ := whole k1 k2 k3 hd2; have r2 := f2.row r1 (fun e => HM.out q e rfl); have HS2 : w2.cell? ⟨q, 1, none⟩ = some (.int .i64 Sp) ∧ w2.cell? ⟨q, 2, none⟩ = some (.int .i64 Pg) := ⟨r2.cell 1, r2.cell 2⟩))
  all_goals
    go_wp2
    go_ret
    exact ⟨ret_bool (by simp), by rw [← k0]; exact hst2, HB0.out.trans (Below.trans (below_dN (Below.refl _ _) 1) (Below.trans kb hb2))⟩

set_option maxHeartbeats 2000000 in
set_option maxRecDepth 100000 in
theorem do_break (h : St B w s x S) (hb : Bnd n S) (hn : n ≤ 800) {l : Ac} (hl : IsAc l) (hk : ¬ (l.k = 0 ∨ l.k = 1 ∨ l.k = 2 ∨ l.k = 3 ∨ l.k = 4 ∨ l.k = 5)) : Calls Try.prog 25 #[.pointer (some ⟨s, 0, none⟩), .pointer (some ⟨x, 0, none⟩), .agg #[.int .i64 l.k, .int .i64 l.s, .int .i64 l.p, .int .i64 l.f]] w (DidB B w s x (doS S l)) := by
  obtain ⟨W0, hW0⟩ : ∃ W0, W0 = w.alloc (.cells #[.int .i64 l.k, .int .i64 l.s, .int .i64 l.p, .int .i64 l.f] 56) := ⟨_, rfl⟩
  obtain ⟨q, hq⟩ : ∃ q, q = w.heap.size := ⟨_, rfl⟩
  have g0 : Below w.heap.size w W0 := by rw [hW0]; exact below_new _ _
  have rs : Lrow W0 q 56 (acCells l) := by rw [hW0, hq]; exact Lrow.new w _ (acCells l)
  obtain ⟨T, v, Kx, h00, h0⟩ := h
  have hst := And.intro (h0.1.call g0) (And.intro (h0.2.1.call g0) h0.2.2)
  have HB0 : Hid (Below B w W0) := g0.mono h0.2.1.lw
  have HRS := Lib.hid rs
  have HW := Lib.hid (And.intro hW0 hq)
  have HF := Lib.hid hl
  have HBD := Lib.hid (hb.mono hn)
  rw [show doS S l = brS S l.s l.p by unfold doS; rw [if_neg (by omega), if_neg (by omega), if_neg (by omega)]]
  have HX : Hid (∀ k, MineO T S.L k → k = q → False) := fun k hk e => by
    have := h0.1.lt k hk
    rw [e, HW.out.2] at this
    exact absurd this (by omega)
  have HM : Hid (∀ k, MineX x v Kx k → k = q → False) := fun k hk e => by
    have := (h0.2.1.mine k hk).2
    rw [e, HW.out.2] at this
    exact absurd this (by omega)
  clear h0 hW0 hq g0 rs hl hb hn
  obtain ⟨K, Sp, Pg, Fr⟩ := l
  dsimp only [acCells] at HRS HW HF hk
  subst h00
  have k0 : (K == 0) = false := by simpa using (by omega : ¬ K = 0)
  have k1 : (K == 1) = false := by simpa using (by omega : ¬ K = 1)
  have k2 : (K == 2) = false := by simpa using (by omega : ¬ K = 2)
  have k3 : (K == 3) = false := by simpa using (by omega : ¬ K = 3)
  have k4 : (K == 4) = false := by simpa using (by omega : ¬ K = 4)
  have k5 : (K == 5) = false := by simpa using (by omega : ¬ K = 5)
  clear hk
  go_enter Try.func25, Try.ntmps25
  go_upto_region 1 with (fail)
  rw [← HW.out.1, ← HW.out.2]
  have e0 := HRS.out.cell 0
  obtain ⟨h1, h2, h3⟩ := hst
  have e1 := HRS.out.cell 1
  have e2 := HRS.out.cell 2
  have hm := break_r h1 HBD.out HF.out.s HF.out.p
  obtain ⟨R, hR⟩ : ∃ R, R = brV S Sp Pg := ⟨_, rfl⟩
  obtain ⟨FE, hFE⟩ : ∃ FE, FE = brE S Sp Pg := ⟨_, rfl⟩
  have hRl : R.length ≤ 5000 := by have := brV_len S Sp Pg; rw [hR]; omega
  rw [← hR, ← hFE] at hm
  have HMW : Hid (∀ k, MineX x v Kx k → k < W0.heap.size) := fun k hk => (h2.mine k hk).2
  have H123 := Lib.hid (And.intro h1 (And.intro h2 h3))
  have HFE := Lib.hid (And.intro hR hFE)
  clear h1 h2 h3 hR hFE
  go_wp2_with fail
  refine hm.mono ?_
  rintro e w1 ⟨A1, c1, rfl, ho1, hd1⟩
  have r1 := hd1.choose_spec.2.2.1.row HRS.out (fun e => HX.out q e rfl)
  obtain ⟨T1, t0, t1, t2, t3, tb⟩ := half H123.out.1 H123.out.2.1 H123.out.2.2 hd1
  have hx := break_x t2 HBD.out (by decide) Sp Pg
  rw [← HFE.out.1, ← HFE.out.2] at hx
  have HK := Lib.hid (And.intro t1 (And.intro t2 (And.intro t3 (And.intro tb t0))))
  have HO := Lib.hid ho1
  have d1 := r1.cell 1
  have d2 := r1.cell 2
  clear hm hd1 t1 t2 t3 tb t0 r1 ho1 e1 e2
  go_wp2_with fail
  refine hx.mono ?_
  rintro e w2 ⟨A2, c2, rfl, ho2, hd2⟩
  obtain ⟨hst2, hb2⟩ := whole HK.out.1 HK.out.2.1 HK.out.2.2.1 hd2
  have hnm := numbers_yes (c := c1) (c' := c2) (own_ref HO.out HMW.out hd2).ls ho2.ls rfl rfl hRl
  have HE := Lib.hid (And.intro hst2 (HK.out.2.2.2.1.trans hb2))
  generalize R.length = r at hnm
  clear hx ho2 hd2 hst2 hb2 d1 d2
  go_wp2_with fail
  refine hnm.mono ?_
  rintro e w3 ⟨rfl, hb3⟩
  have HE3 := Lib.hid (And.intro (HE.out.1.call hb3) (HE.out.2.trans (hb3.mono HE.out.1.lw)))
  clear hnm hb3
  go_wp2_with fail
  go_ret
  exact ⟨ret_bool (by simp), by rw [← HK.out.2.2.2.2]; exact HE3.out.1, HB0.out.trans HE3.out.2⟩

theorem do_any (h : St B w s x S) (hb : Bnd n S) (hn : n ≤ 800) {l : Ac} (hl : IsAc l) : Calls Try.prog 25 #[.pointer (some ⟨s, 0, none⟩), .pointer (some ⟨x, 0, none⟩), .agg #[.int .i64 l.k, .int .i64 l.s, .int .i64 l.p, .int .i64 l.f]] w (DidB B w s x (doS S l)) := by
  by_cases h0 : l.k = 0 ∨ l.k = 1
  · exact do_make h hb hn hl h0
  · by_cases h1 : l.k = 2 ∨ l.k = 3 ∨ l.k = 4
    · exact do_fill h hb hn hl h1
    · by_cases h2 : l.k = 5
      · exact do_clear h hb hn hl h2
      · exact do_break h hb hn hl (by omega)
end
end Go.Proofs.Ytfalmjibpkkjaaa
