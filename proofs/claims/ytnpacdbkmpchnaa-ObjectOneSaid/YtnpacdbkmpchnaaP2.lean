/- Objects: a call of both. -/
import Derived.Test.YtnpacdbkmpchnaaP1
import Derived.BigRegion
namespace Go.Proofs.Ytnpacdbkmpchnaa
open Go.RowKit
/-- What a call of both comes to. -/
def DidB (I : ObI) (B : Nat) (w : World) (s x : Nat) (H : List Int) (L : List Og) (e : Ending) (w' : World) : Prop := e = .returned (.bool true) ∧ St I B w' s x H L ∧ Below B w w'
section
variable {I : ObI} {w w' : World} {B s x : Nat} {H : List Int} {L : List Og}

set_option maxHeartbeats 2000000 in
set_option maxRecDepth 100000 in
theorem do_make (h : St I B w s x H L) (hb : Bnd 150 H L) {l : Ac} (hl : IsAc l) (hk : l.k = 0) : Calls Try.prog 24 #[.pointer (some ⟨s, 0, none⟩), .pointer (some ⟨x, 0, none⟩), .agg #[.int .i64 l.k, .int .i64 l.i, .int .i64 l.p, .int .i64 l.f, .int .i64 l.t]] w (DidB I B w s x (doH H l) (doL H L l)) := by
  obtain ⟨W0, hW0⟩ : ∃ W0, W0 = w.alloc (.cells #[.int .i64 l.k, .int .i64 l.i, .int .i64 l.p, .int .i64 l.f, .int .i64 l.t] 51) := ⟨_, rfl⟩
  obtain ⟨q, hq⟩ : ∃ q, q = w.heap.size := ⟨_, rfl⟩
  have g0 : Below w.heap.size w W0 := by rw [hW0]; exact below_new _ _
  have rs : Lrow W0 q 51 (acCells l) := by rw [hW0, hq]; exact Lrow.new w _ (acCells l)
  obtain ⟨X0, vh, vl, h0⟩ := h
  have hst := And.intro (I.call h0.1 g0) (And.intro (h0.2.1.call g0) h0.2.2)
  have HB0 : Hid (Below B w W0) := g0.mono h0.2.1.lw
  have HRS := Lib.hid rs
  have HW := Lib.hid (And.intro hW0 hq)
  have HF := Lib.hid hl
  have HBD := Lib.hid hb
  rw [show doH H l = mkH H by unfold doH; rw [if_pos hk], show doL H L l = L by unfold doL; rw [if_pos hk]]
  have HX : Hid (∀ k, X0 k → k = q → False) := fun k hk e => by
    have := (I.lo h0.1 k hk).2
    rw [e, HW.out.2] at this
    exact absurd this (by omega)
  have HM : Hid (∀ k, MineX x vh vl k → k = q → False) := fun k hk e => by
    have := (h0.2.1.mine k hk).2
    rw [e, HW.out.2] at this
    exact absurd this (by omega)
  clear h0 hW0 hq g0 rs hl hb
  obtain ⟨K, Id, Pg, Fr, To⟩ := l
  dsimp only [acCells] at HRS HW HF hk
  subst hk
  go_enter Try.func24, Try.ntmps24
  go_upto_region 1 with (fail)
  rw [← HW.out.1, ← HW.out.2]
  have e0 := HRS.out.cell 0
  obtain ⟨h1, h2, h3⟩ := hst
  have hm := I.make h1 (HBD.out.mono (by decide))
  generalize hn : H.length = n at hm
  have HN := Lib.hid hn
  go_wp2_with fail
  refine hm.mono ?_
  rintro e w1 ⟨rfl, hd1⟩
  obtain ⟨X1, k1, k2, k3, kb⟩ := half h1 h2 h3 hd1
  have hx := make_x k2 (by have := HBD.out.hl; omega)
  unfold DidN at hx
  rw [hn] at hx
  have HK := Lib.hid (And.intro k1 (And.intro k2 (And.intro k3 kb)))
  clear hm hd1 k1 k2 k3 kb hn
  go_wp2_with fail
  refine hx.mono ?_
  rintro e w2 ⟨rfl, hd2⟩
  obtain ⟨hst2, hb2⟩ := whole HK.out.1 HK.out.2.1 HK.out.2.2.1 hd2
  have HE := Lib.hid (And.intro hst2 (HK.out.2.2.2.trans hb2))
  clear hx hd2 hst2 hb2
  go_wp2_with fail
  go_ret
  exact ⟨ret_bool (by simp), HE.out.1, HB0.out.trans HE.out.2⟩

set_option maxHeartbeats 2000000 in
set_option maxRecDepth 100000 in
theorem do_hold (h : St I B w s x H L) (hb : Bnd 150 H L) {l : Ac} (hl : IsAc l) (hk : l.k = 1) : Calls Try.prog 24 #[.pointer (some ⟨s, 0, none⟩), .pointer (some ⟨x, 0, none⟩), .agg #[.int .i64 l.k, .int .i64 l.i, .int .i64 l.p, .int .i64 l.f, .int .i64 l.t]] w (DidB I B w s x (doH H l) (doL H L l)) := by
  obtain ⟨W0, hW0⟩ : ∃ W0, W0 = w.alloc (.cells #[.int .i64 l.k, .int .i64 l.i, .int .i64 l.p, .int .i64 l.f, .int .i64 l.t] 51) := ⟨_, rfl⟩
  obtain ⟨q, hq⟩ : ∃ q, q = w.heap.size := ⟨_, rfl⟩
  have g0 : Below w.heap.size w W0 := by rw [hW0]; exact below_new _ _
  have rs : Lrow W0 q 51 (acCells l) := by rw [hW0, hq]; exact Lrow.new w _ (acCells l)
  obtain ⟨X0, vh, vl, h0⟩ := h
  have hst := And.intro (I.call h0.1 g0) (And.intro (h0.2.1.call g0) h0.2.2)
  have HB0 : Hid (Below B w W0) := g0.mono h0.2.1.lw
  have HRS := Lib.hid rs
  have HW := Lib.hid (And.intro hW0 hq)
  have HF := Lib.hid hl
  have HBD := Lib.hid hb
  rw [show doH H l = hoH H l.i by unfold doH; rw [if_neg (by omega), if_pos hk], show doL H L l = L by unfold doL; rw [if_neg (by omega), if_pos hk]]
  have HX : Hid (∀ k, X0 k → k = q → False) := fun k hk e => by
    have := (I.lo h0.1 k hk).2
    rw [e, HW.out.2] at this
    exact absurd this (by omega)
  have HM : Hid (∀ k, MineX x vh vl k → k = q → False) := fun k hk e => by
    have := (h0.2.1.mine k hk).2
    rw [e, HW.out.2] at this
    exact absurd this (by omega)
  clear h0 hW0 hq g0 rs hl hb
  obtain ⟨K, Id, Pg, Fr, To⟩ := l
  dsimp only [acCells] at HRS HW HF hk
  subst hk
  go_enter Try.func24, Try.ntmps24
  go_upto_region 1 with (fail)
  rw [← HW.out.1, ← HW.out.2]
  have e0 := HRS.out.cell 0
  obtain ⟨h1, h2, h3⟩ := hst
  have h1' := I.call h1 (below_dN (Below.refl _ W0) 1)
  have h2' := h2.call (below_dN (Below.refl _ W0) 1)
  have hrs := HRS.out.drewN 1
  have HS0 : W0.drew.cell? ⟨q, 1, none⟩ = some (.int .i64 Id) := hrs.cell 1
  go_wp2_with fail
  go_region_held3 (fun v => v.cell? ⟨q, 1, none⟩ = some (.int .i64 Id))
    (first | exact HS0 | exact HS1 | exact HS2)
    (first | (go_at_call 16; refine (I.hold h1' (HBD.out.mono (by decide)) Id HF.out.i).mono ?_; rintro e w1 ⟨rfl, hd1⟩; have f1 := hd1.choose_spec.2.1; obtain ⟨X1, k1, k2, k3, kb⟩ := half h1' h2' h3 hd1; have r1 := f1.row hrs (fun e => HX.out q e rfl); have HS1 : w1.cell? ⟨q, 1, none⟩ = some (.int .i64 Id) := r1.cell 1) | (go_at_call 33; refine (hold_x k2 Id (fun j => by have := HBD.out.hb j; omega)).mono ?_; rintro e w2 ⟨rfl, hd2⟩; have f2 := hd2.choose_spec.choose_spec.2.1; obtain ⟨hst2, hb2⟩ := whole k1 k2 k3 hd2; have r2 := f2.row r1 (fun e => HM.out q e rfl); have HS2 : w2.cell? ⟨q, 1, none⟩ = some (.int .i64 Id) := r2.cell 1))
  all_goals
    go_wp2
    go_ret
    exact ⟨ret_bool (by simp), hst2, HB0.out.trans (Below.trans (below_dN (Below.refl _ _) 1) (Below.trans kb hb2))⟩

set_option maxHeartbeats 2000000 in
set_option maxRecDepth 100000 in
theorem do_drop (h : St I B w s x H L) (hb : Bnd 150 H L) {l : Ac} (hl : IsAc l) (hk : l.k = 2) : Calls Try.prog 24 #[.pointer (some ⟨s, 0, none⟩), .pointer (some ⟨x, 0, none⟩), .agg #[.int .i64 l.k, .int .i64 l.i, .int .i64 l.p, .int .i64 l.f, .int .i64 l.t]] w (DidB I B w s x (doH H l) (doL H L l)) := by
  obtain ⟨W0, hW0⟩ : ∃ W0, W0 = w.alloc (.cells #[.int .i64 l.k, .int .i64 l.i, .int .i64 l.p, .int .i64 l.f, .int .i64 l.t] 51) := ⟨_, rfl⟩
  obtain ⟨q, hq⟩ : ∃ q, q = w.heap.size := ⟨_, rfl⟩
  have g0 : Below w.heap.size w W0 := by rw [hW0]; exact below_new _ _
  have rs : Lrow W0 q 51 (acCells l) := by rw [hW0, hq]; exact Lrow.new w _ (acCells l)
  obtain ⟨X0, vh, vl, h0⟩ := h
  have hst := And.intro (I.call h0.1 g0) (And.intro (h0.2.1.call g0) h0.2.2)
  have HB0 : Hid (Below B w W0) := g0.mono h0.2.1.lw
  have HRS := Lib.hid rs
  have HW := Lib.hid (And.intro hW0 hq)
  have HF := Lib.hid hl
  have HBD := Lib.hid hb
  rw [show doH H l = drH H l.i by unfold doH; rw [if_neg (by omega), if_neg (by omega), if_pos hk], show doL H L l = drL H L l.i by unfold doL; rw [if_neg (by omega), if_neg (by omega), if_pos hk]]
  have HX : Hid (∀ k, X0 k → k = q → False) := fun k hk e => by
    have := (I.lo h0.1 k hk).2
    rw [e, HW.out.2] at this
    exact absurd this (by omega)
  have HM : Hid (∀ k, MineX x vh vl k → k = q → False) := fun k hk e => by
    have := (h0.2.1.mine k hk).2
    rw [e, HW.out.2] at this
    exact absurd this (by omega)
  clear h0 hW0 hq g0 rs hl hb
  obtain ⟨K, Id, Pg, Fr, To⟩ := l
  dsimp only [acCells] at HRS HW HF hk
  subst hk
  go_enter Try.func24, Try.ntmps24
  go_upto_region 1 with (fail)
  rw [← HW.out.1, ← HW.out.2]
  have e0 := HRS.out.cell 0
  have e1 := HRS.out.cell 1
  obtain ⟨h1, h2, h3⟩ := hst
  have hm := I.drop h1 (HBD.out.mono (by decide)) Id HF.out.i
  obtain ⟨R, hR⟩ : ∃ R, R = drT H L Id := ⟨_, rfl⟩
  have hRl : R.length ≤ 5000 := by
    rw [hR]
    unfold drT
    split
    · have := frsN_len L Id 1024
      show (frsN L Id 1024).length ≤ 5000
      omega
    · simp
  obtain ⟨er, her⟩ : ∃ er, er = hoE H Id := ⟨_, rfl⟩
  rw [← hR, ← her] at hm
  have HRR := Lib.hid (And.intro hR her)
  clear hR her
  go_wp2_with fail
  refine hm.mono ?_
  rintro e w1 ⟨A1, c1, rfl, ho1, hd1⟩
  have f1 := hd1.choose_spec.2.1
  obtain ⟨X1, k1, k2, k3, kb⟩ := half h1 h2 h3 hd1
  have r1 := f1.row HRS.out (fun e => HX.out q e rfl)
  have e1 := r1.cell 1
  have hx := drop_x k2 Id (fun j => by have := HBD.out.hb j; omega)
  unfold DidT at hx
  rw [← HRR.out.1, ← HRR.out.2] at hx
  have HK := Lib.hid (And.intro k1 (And.intro k2 (And.intro k3 kb)))
  have HO := Lib.hid ho1
  have HMW : Hid (∀ k, MineX x vh vl k → k < W0.heap.size) := fun k hk => (h2.mine k hk).2
  clear hm hd1 k1 k2 k3 kb f1 r1 ho1
  go_wp2_with fail
  refine hx.mono ?_
  rintro e w2 ⟨A2, c2, rfl, ho2, hd2⟩
  obtain ⟨hst2, hb2⟩ := whole HK.out.1 HK.out.2.1 HK.out.2.2.1 hd2
  have hnm := numbers_yes (c := c1) (c' := c2) (own_ref HO.out HMW.out hd2).ls ho2.ls rfl rfl hRl
  have HE := Lib.hid (And.intro hst2 (HK.out.2.2.2.trans hb2))
  generalize R.length = r at hnm
  clear hx ho2 hd2 hst2 hb2
  go_wp2_with fail
  refine hnm.mono ?_
  rintro e w3 ⟨rfl, hb3⟩
  have HE3 := Lib.hid (And.intro (HE.out.1.call hb3) (HE.out.2.trans (hb3.mono HE.out.1.lw)))
  clear hnm hb3
  go_wp2_with fail
  go_ret
  exact ⟨ret_bool (by simp), HE3.out.1, HB0.out.trans HE3.out.2⟩

set_option maxHeartbeats 2000000 in
set_option maxRecDepth 100000 in
theorem do_set (h : St I B w s x H L) (hb : Bnd 150 H L) {l : Ac} (hl : IsAc l) (hk : l.k = 3 ∨ l.k = 4 ∨ l.k = 5) : Calls Try.prog 24 #[.pointer (some ⟨s, 0, none⟩), .pointer (some ⟨x, 0, none⟩), .agg #[.int .i64 l.k, .int .i64 l.i, .int .i64 l.p, .int .i64 l.f, .int .i64 l.t]] w (DidB I B w s x (doH H l) (doL H L l)) := by
  obtain ⟨W0, hW0⟩ : ∃ W0, W0 = w.alloc (.cells #[.int .i64 l.k, .int .i64 l.i, .int .i64 l.p, .int .i64 l.f, .int .i64 l.t] 51) := ⟨_, rfl⟩
  obtain ⟨q, hq⟩ : ∃ q, q = w.heap.size := ⟨_, rfl⟩
  have g0 : Below w.heap.size w W0 := by rw [hW0]; exact below_new _ _
  have rs : Lrow W0 q 51 (acCells l) := by rw [hW0, hq]; exact Lrow.new w _ (acCells l)
  obtain ⟨X0, vh, vl, h0⟩ := h
  have hst := And.intro (I.call h0.1 g0) (And.intro (h0.2.1.call g0) h0.2.2)
  have HB0 : Hid (Below B w W0) := g0.mono h0.2.1.lw
  have HRS := Lib.hid rs
  have HW := Lib.hid (And.intro hW0 hq)
  have HF := Lib.hid hl
  have HBD := Lib.hid hb
  rw [show doH H l = H by unfold doH; rw [if_neg (by omega), if_neg (by omega), if_neg (by omega)], show doL H L l = seL H L l.i l.p l.f by unfold doL; rw [if_neg (by omega), if_neg (by omega), if_neg (by omega), if_pos hk]]
  have HX : Hid (∀ k, X0 k → k = q → False) := fun k hk e => by
    have := (I.lo h0.1 k hk).2
    rw [e, HW.out.2] at this
    exact absurd this (by omega)
  have HM : Hid (∀ k, MineX x vh vl k → k = q → False) := fun k hk e => by
    have := (h0.2.1.mine k hk).2
    rw [e, HW.out.2] at this
    exact absurd this (by omega)
  clear h0 hW0 hq g0 rs hl hb
  obtain ⟨K, Id, Pg, Fr, To⟩ := l
  dsimp only [acCells] at HRS HW HF hk
  rcases hk with rfl | rfl | rfl
  all_goals
    go_enter Try.func24, Try.ntmps24
    go_upto_region 1 with (fail)
    rw [← HW.out.1, ← HW.out.2]
    have e0 := HRS.out.cell 0
    obtain ⟨h1, h2, h3⟩ := hst
    have h1' := I.call h1 (below_dN (Below.refl _ W0) 1)
    have h2' := h2.call (below_dN (Below.refl _ W0) 1)
    have hrs := HRS.out.drewN 1
    have HS0 : W0.drew.cell? ⟨q, 1, none⟩ = some (.int .i64 Id) ∧ W0.drew.cell? ⟨q, 2, none⟩ = some (.int .i64 Pg) ∧ W0.drew.cell? ⟨q, 3, none⟩ = some (.int .i64 Fr) := ⟨hrs.cell 1, hrs.cell 2, hrs.cell 3⟩
    go_wp2_with fail
    go_region_held3 (fun v => v.cell? ⟨q, 1, none⟩ = some (.int .i64 Id) ∧ v.cell? ⟨q, 2, none⟩ = some (.int .i64 Pg) ∧ v.cell? ⟨q, 3, none⟩ = some (.int .i64 Fr))
      (first | exact HS0 | exact HS1 | exact HS2)
      (first | (go_at_call 15; refine (I.set h1' (HBD.out.mono (by decide)) Id Pg Fr HF.out.i HF.out.p HF.out.f).mono ?_; rintro e w1 ⟨rfl, hd1⟩; have f1 := hd1.choose_spec.2.1; obtain ⟨X1, k1, k2, k3, kb⟩ := half h1' h2' h3 hd1; have r1 := f1.row hrs (fun e => HX.out q e rfl); have HS1 : w1.cell? ⟨q, 1, none⟩ = some (.int .i64 Id) ∧ w1.cell? ⟨q, 2, none⟩ = some (.int .i64 Pg) ∧ w1.cell? ⟨q, 3, none⟩ = some (.int .i64 Fr) := ⟨r1.cell 1, r1.cell 2, r1.cell 3⟩) | (go_at_call 35; refine (set_x k2 Id Pg Fr (by have := HBD.out.ll; omega)).mono ?_; rintro e w2 ⟨rfl, hd2⟩; have f2 := hd2.choose_spec.choose_spec.2.1; obtain ⟨hst2, hb2⟩ := whole k1 k2 k3 hd2; have r2 := f2.row r1 (fun e => HM.out q e rfl); have HS2 : w2.cell? ⟨q, 1, none⟩ = some (.int .i64 Id) ∧ w2.cell? ⟨q, 2, none⟩ = some (.int .i64 Pg) ∧ w2.cell? ⟨q, 3, none⟩ = some (.int .i64 Fr) := ⟨r2.cell 1, r2.cell 2, r2.cell 3⟩))
    all_goals
      go_wp2
      go_ret
      exact ⟨ret_bool (by simp), hst2, HB0.out.trans (Below.trans (below_dN (Below.refl _ _) 1) (Below.trans kb hb2))⟩

set_option maxHeartbeats 2000000 in
set_option maxRecDepth 100000 in
theorem do_change (h : St I B w s x H L) (hb : Bnd 150 H L) {l : Ac} (hl : IsAc l) (hk : ¬ (l.k = 0 ∨ l.k = 1 ∨ l.k = 2 ∨ l.k = 3 ∨ l.k = 4 ∨ l.k = 5)) : Calls Try.prog 24 #[.pointer (some ⟨s, 0, none⟩), .pointer (some ⟨x, 0, none⟩), .agg #[.int .i64 l.k, .int .i64 l.i, .int .i64 l.p, .int .i64 l.f, .int .i64 l.t]] w (DidB I B w s x (doH H l) (doL H L l)) := by
  obtain ⟨W0, hW0⟩ : ∃ W0, W0 = w.alloc (.cells #[.int .i64 l.k, .int .i64 l.i, .int .i64 l.p, .int .i64 l.f, .int .i64 l.t] 51) := ⟨_, rfl⟩
  obtain ⟨q, hq⟩ : ∃ q, q = w.heap.size := ⟨_, rfl⟩
  have g0 : Below w.heap.size w W0 := by rw [hW0]; exact below_new _ _
  have rs : Lrow W0 q 51 (acCells l) := by rw [hW0, hq]; exact Lrow.new w _ (acCells l)
  obtain ⟨X0, vh, vl, h0⟩ := h
  have hst := And.intro (I.call h0.1 g0) (And.intro (h0.2.1.call g0) h0.2.2)
  have HB0 : Hid (Below B w W0) := g0.mono h0.2.1.lw
  have HRS := Lib.hid rs
  have HW := Lib.hid (And.intro hW0 hq)
  have HF := Lib.hid hl
  have HBD := Lib.hid hb
  rw [show doH H l = H by unfold doH; rw [if_neg (by omega), if_neg (by omega), if_neg (by omega)], show doL H L l = chL L l.f l.t by unfold doL; rw [if_neg (by omega), if_neg (by omega), if_neg (by omega), if_neg (by omega)]]
  have HX : Hid (∀ k, X0 k → k = q → False) := fun k hk e => by
    have := (I.lo h0.1 k hk).2
    rw [e, HW.out.2] at this
    exact absurd this (by omega)
  have HM : Hid (∀ k, MineX x vh vl k → k = q → False) := fun k hk e => by
    have := (h0.2.1.mine k hk).2
    rw [e, HW.out.2] at this
    exact absurd this (by omega)
  clear h0 hW0 hq g0 rs hl hb
  obtain ⟨K, Id, Pg, Fr, To⟩ := l
  dsimp only [acCells] at HRS HW HF hk
  have k0 : (K == 0) = false := by simpa using (by omega : ¬ K = 0)
  have k1 : (K == 1) = false := by simpa using (by omega : ¬ K = 1)
  have k2 : (K == 2) = false := by simpa using (by omega : ¬ K = 2)
  have k3 : (K == 3) = false := by simpa using (by omega : ¬ K = 3)
  have k4 : (K == 4) = false := by simpa using (by omega : ¬ K = 4)
  have k5 : (K == 5) = false := by simpa using (by omega : ¬ K = 5)
  clear hk
  go_enter Try.func24, Try.ntmps24
  go_upto_region 1 with (fail)
  rw [← HW.out.1, ← HW.out.2]
  have e0 := HRS.out.cell 0
  obtain ⟨h1, h2, h3⟩ := hst
  have h1' := I.call h1 (below_dN (Below.refl _ W0) 1)
  have h2' := h2.call (below_dN (Below.refl _ W0) 1)
  have hrs := HRS.out.drewN 1
  have HS0 : W0.drew.cell? ⟨q, 3, none⟩ = some (.int .i64 Fr) ∧ W0.drew.cell? ⟨q, 4, none⟩ = some (.int .i64 To) := ⟨hrs.cell 3, hrs.cell 4⟩
  go_wp2_with fail
  go_region_held3 (fun v => v.cell? ⟨q, 3, none⟩ = some (.int .i64 Fr) ∧ v.cell? ⟨q, 4, none⟩ = some (.int .i64 To))
    (first | exact HS0 | exact HS1 | exact HS2)
    (first | (go_at_call 20; refine (I.change h1' (HBD.out.mono (by decide)) Fr To HF.out.f HF.out.t).mono ?_; rintro e w1 ⟨rfl, hd1⟩; have f1 := hd1.choose_spec.2.1; obtain ⟨X1, k1, k2, k3, kb⟩ := half h1' h2' h3 hd1; have r1 := f1.row hrs (fun e => HX.out q e rfl); have HS1 : w1.cell? ⟨q, 3, none⟩ = some (.int .i64 Fr) ∧ w1.cell? ⟨q, 4, none⟩ = some (.int .i64 To) := ⟨r1.cell 3, r1.cell 4⟩) | (go_at_call 36; refine (change_x k2 Fr To).mono ?_; rintro e w2 ⟨rfl, hd2⟩; have f2 := hd2.choose_spec.choose_spec.2.1; obtain ⟨hst2, hb2⟩ := whole k1 k2 k3 hd2; have r2 := f2.row r1 (fun e => HM.out q e rfl); have HS2 : w2.cell? ⟨q, 3, none⟩ = some (.int .i64 Fr) ∧ w2.cell? ⟨q, 4, none⟩ = some (.int .i64 To) := ⟨r2.cell 3, r2.cell 4⟩))
  all_goals
    go_wp2
    go_ret
    exact ⟨ret_bool (by simp), hst2, HB0.out.trans (Below.trans (below_dN (Below.refl _ _) 1) (Below.trans kb hb2))⟩

theorem do_any (h : St I B w s x H L) (hb : Bnd 150 H L) {l : Ac} (hl : IsAc l)  : Calls Try.prog 24 #[.pointer (some ⟨s, 0, none⟩), .pointer (some ⟨x, 0, none⟩), .agg #[.int .i64 l.k, .int .i64 l.i, .int .i64 l.p, .int .i64 l.f, .int .i64 l.t]] w (DidB I B w s x (doH H l) (doL H L l)) := by
  by_cases h0 : l.k = 0
  · exact do_make h hb hl h0
  · by_cases h1 : l.k = 1
    · exact do_hold h hb hl h1
    · by_cases h2 : l.k = 2
      · exact do_drop h hb hl h2
      · by_cases h3 : l.k = 3 ∨ l.k = 4 ∨ l.k = 5
        · exact do_set h hb hl h3
        · exact do_change h hb hl (by omega)
end
end Go.Proofs.Ytnpacdbkmpchnaa
