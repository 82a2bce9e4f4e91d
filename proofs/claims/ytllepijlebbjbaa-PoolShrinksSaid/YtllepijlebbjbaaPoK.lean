/- Pools: a call of both. -/
import Derived.Test.YtllepijlebbjbaaPoJ
import Derived.BigRegion
namespace Go.Proofs.Ytllepijlebbjbaa
open Go.RowKit
/-- What a call of both comes to. -/
def DidB (I : PoI) (B : Nat) (w : World) (s x : Nat) (S : Pk) (e : Ending) (w' : World) : Prop := e = .returned (.bool true) ∧ St I B w' s x S ∧ Below B w w'
section
variable {I : PoI} {w w' : World} {B s x : Nat} {S : Pk}

set_option maxHeartbeats 2000000 in
set_option maxRecDepth 100000 in
theorem do_grow (h : St I B w s x S) (ok : POk S) {l : Ac} (hl : IsAc l) (hk : l.k = 0 ∨ l.k = 1) : Calls Try.prog 12 #[.pointer (some ⟨s, 0, none⟩), .pointer (some ⟨x, 0, none⟩), .agg #[.int .i64 l.k, .int .i64 l.f, .int .i64 l.n, .bool l.y]] w (DidB I B w s x (doS S l)) := by
  obtain ⟨W0, hW0⟩ : ∃ W0, W0 = w.alloc (.cells #[.int .i64 l.k, .int .i64 l.f, .int .i64 l.n, .bool l.y] 33) := ⟨_, rfl⟩
  obtain ⟨q, hq⟩ : ∃ q, q = w.heap.size := ⟨_, rfl⟩
  have g0 : Below w.heap.size w W0 := by rw [hW0]; exact below_new _ _
  have rs : Lrow W0 q 33 (acCells l) := by rw [hW0, hq]; exact Lrow.new w _ (acCells l)
  obtain ⟨X0, g, h0⟩ := h
  have hst := And.intro (I.call h0.1 g0) (And.intro (h0.2.1.call g0) h0.2.2)
  have HB0 : Hid (Below B w W0) := g0.mono h0.2.1.lw
  have HRS := Lib.hid rs
  have HW := Lib.hid (And.intro hW0 hq)
  have HF := Lib.hid hl
  have HOK := Lib.hid ok
  rw [show doS S l = grS S l.f by unfold doS; rw [if_pos hk]]
  have HX : Hid (∀ k, X0 k → k = q → False) := fun k hk e => by
    have := (I.lo h0.1 k hk).2
    rw [e, HW.out.2] at this
    exact absurd this (by omega)
  have HM : Hid (∀ k, MineX x g k → k = q → False) := fun k hk e => by
    have := (h0.2.1.mine k hk).2
    rw [e, HW.out.2] at this
    exact absurd this (by omega)
  clear h0 hW0 hq g0 rs hl ok
  obtain ⟨K, Fr, Nn, Ye⟩ := l
  dsimp only [acCells] at HRS HW HF hk
  rcases hk with rfl | rfl
  all_goals
    go_enter Try.func12, Try.ntmps12
    go_upto_region 1 with (fail)
    rw [← HW.out.1, ← HW.out.2]
    have e0 := HRS.out.cell 0
    obtain ⟨h1, h2, h3⟩ := hst
    have h1' := I.call h1 (below_dN (Below.refl _ W0) 1)
    have h2' := h2.call (below_dN (Below.refl _ W0) 1)
    have hrs := HRS.out.drewN 1
    have HS0 : W0.drew.cell? ⟨q, 1, none⟩ = some (.int .i64 Fr) := hrs.cell 1
    go_wp2_with fail
    go_region_held3 (fun v => v.cell? ⟨q, 1, none⟩ = some (.int .i64 Fr))
      (first | exact HS0 | exact HS1 | exact HS2)
      (first | (go_at_call 23; refine (I.grow h1' HOK.out Fr HF.out.f).mono ?_; rintro e w1 ⟨rfl, hd1⟩; have f1 := hd1.choose_spec.2.1; obtain ⟨X1, k1, k2, k3, kb⟩ := half h1' h2' h3 hd1; have r1 := f1.row hrs (fun e => HX.out q e rfl); have HS1 : w1.cell? ⟨q, 1, none⟩ = some (.int .i64 Fr) := r1.cell 1) | (go_at_call 28; refine (grow_x k2 HOK.out Fr).mono ?_; rintro e w2 ⟨rfl, hd2⟩; obtain ⟨hst2, hb2⟩ := whole k1 k2 k3 hd2; have r2 := hd2.2.row r1 (fun e => HM.out q e rfl); have HS2 : w2.cell? ⟨q, 1, none⟩ = some (.int .i64 Fr) := r2.cell 1))
    all_goals
      go_wp2
      go_ret
      exact ⟨ret_bool (by simp), hst2, HB0.out.trans (Below.trans (below_dN (Below.refl _ _) 1) (Below.trans kb hb2))⟩

set_option maxHeartbeats 2000000 in
set_option maxRecDepth 100000 in
theorem do_shrink (h : St I B w s x S) (ok : POk S) {l : Ac} (hl : IsAc l) (hk : l.k = 2) : Calls Try.prog 12 #[.pointer (some ⟨s, 0, none⟩), .pointer (some ⟨x, 0, none⟩), .agg #[.int .i64 l.k, .int .i64 l.f, .int .i64 l.n, .bool l.y]] w (DidB I B w s x (doS S l)) := by
  obtain ⟨W0, hW0⟩ : ∃ W0, W0 = w.alloc (.cells #[.int .i64 l.k, .int .i64 l.f, .int .i64 l.n, .bool l.y] 33) := ⟨_, rfl⟩
  obtain ⟨q, hq⟩ : ∃ q, q = w.heap.size := ⟨_, rfl⟩
  have g0 : Below w.heap.size w W0 := by rw [hW0]; exact below_new _ _
  have rs : Lrow W0 q 33 (acCells l) := by rw [hW0, hq]; exact Lrow.new w _ (acCells l)
  obtain ⟨X0, g, h0⟩ := h
  have hst := And.intro (I.call h0.1 g0) (And.intro (h0.2.1.call g0) h0.2.2)
  have HB0 : Hid (Below B w W0) := g0.mono h0.2.1.lw
  have HRS := Lib.hid rs
  have HW := Lib.hid (And.intro hW0 hq)
  have HF := Lib.hid hl
  have HOK := Lib.hid ok
  rw [show doS S l = shS S by unfold doS; rw [if_neg (by omega), if_pos hk]]
  have HX : Hid (∀ k, X0 k → k = q → False) := fun k hk e => by
    have := (I.lo h0.1 k hk).2
    rw [e, HW.out.2] at this
    exact absurd this (by omega)
  have HM : Hid (∀ k, MineX x g k → k = q → False) := fun k hk e => by
    have := (h0.2.1.mine k hk).2
    rw [e, HW.out.2] at this
    exact absurd this (by omega)
  clear h0 hW0 hq g0 rs hl ok
  obtain ⟨K, Fr, Nn, Ye⟩ := l
  dsimp only [acCells] at HRS HW HF hk
  subst hk
  go_enter Try.func12, Try.ntmps12
  go_upto_region 1 with (fail)
  rw [← HW.out.1, ← HW.out.2]
  have e0 := HRS.out.cell 0
  obtain ⟨h1, h2, h3⟩ := hst
  have hm := I.shrink h1 HOK.out
  obtain ⟨V0, hV0⟩ : ∃ V, V = shV S := ⟨_, rfl⟩
  obtain ⟨V1, hV1⟩ : ∃ V, V = shE S := ⟨_, rfl⟩
  rw [← hV0, ← hV1] at hm
  have HVV := Lib.hid (And.intro hV0 hV1)
  have H123 := Lib.hid (And.intro h1 (And.intro h2 h3))
  clear h1 h2 h3 hV0 hV1
  go_wp2_with fail
  refine hm.mono ?_
  rintro e w1 ⟨rfl, hd1⟩
  have r1 := hd1.choose_spec.2.1.row HRS.out (fun e => HX.out q e rfl)
  obtain ⟨X1, k1, k2, k3, kb⟩ := half H123.out.1 H123.out.2.1 H123.out.2.2 hd1
  have hx := shrink_x k2 HOK.out
  rw [← HVV.out.1, ← HVV.out.2] at hx
  have HK := Lib.hid (And.intro k1 (And.intro k2 (And.intro k3 kb)))
  clear hm hd1 k1 k2 k3 kb r1
  go_wp2_with fail
  refine hx.mono ?_
  rintro e w2 ⟨rfl, hd2⟩
  obtain ⟨hst2, hb2⟩ := whole HK.out.1 HK.out.2.1 HK.out.2.2.1 hd2
  have HE := Lib.hid (And.intro hst2 (HK.out.2.2.2.trans hb2))
  clear hx hd2 hst2 hb2
  go_wp2_with fail
  go_ret
  exact ⟨ret_bool (by simp), HE.out.1, HB0.out.trans HE.out.2⟩

set_option maxHeartbeats 2000000 in
set_option maxRecDepth 100000 in
theorem do_promise (h : St I B w s x S) (ok : POk S) {l : Ac} (hl : IsAc l) (hk : l.k = 3) : Calls Try.prog 12 #[.pointer (some ⟨s, 0, none⟩), .pointer (some ⟨x, 0, none⟩), .agg #[.int .i64 l.k, .int .i64 l.f, .int .i64 l.n, .bool l.y]] w (DidB I B w s x (doS S l)) := by
  obtain ⟨W0, hW0⟩ : ∃ W0, W0 = w.alloc (.cells #[.int .i64 l.k, .int .i64 l.f, .int .i64 l.n, .bool l.y] 33) := ⟨_, rfl⟩
  obtain ⟨q, hq⟩ : ∃ q, q = w.heap.size := ⟨_, rfl⟩
  have g0 : Below w.heap.size w W0 := by rw [hW0]; exact below_new _ _
  have rs : Lrow W0 q 33 (acCells l) := by rw [hW0, hq]; exact Lrow.new w _ (acCells l)
  obtain ⟨X0, g, h0⟩ := h
  have hst := And.intro (I.call h0.1 g0) (And.intro (h0.2.1.call g0) h0.2.2)
  have HB0 : Hid (Below B w W0) := g0.mono h0.2.1.lw
  have HRS := Lib.hid rs
  have HW := Lib.hid (And.intro hW0 hq)
  have HF := Lib.hid hl
  have HOK := Lib.hid ok
  rw [show doS S l = prS S l.n by unfold doS; rw [if_neg (by omega), if_neg (by omega), if_pos hk]]
  have HX : Hid (∀ k, X0 k → k = q → False) := fun k hk e => by
    have := (I.lo h0.1 k hk).2
    rw [e, HW.out.2] at this
    exact absurd this (by omega)
  have HM : Hid (∀ k, MineX x g k → k = q → False) := fun k hk e => by
    have := (h0.2.1.mine k hk).2
    rw [e, HW.out.2] at this
    exact absurd this (by omega)
  clear h0 hW0 hq g0 rs hl ok
  obtain ⟨K, Fr, Nn, Ye⟩ := l
  dsimp only [acCells] at HRS HW HF hk
  subst hk
  go_enter Try.func12, Try.ntmps12
  go_upto_region 1 with (fail)
  rw [← HW.out.1, ← HW.out.2]
  have e0 := HRS.out.cell 0
  obtain ⟨h1, h2, h3⟩ := hst
  have h1' := I.call h1 (below_dN (Below.refl _ W0) 1)
  have h2' := h2.call (below_dN (Below.refl _ W0) 1)
  have hrs := HRS.out.drewN 1
  have HS0 : W0.drew.cell? ⟨q, 2, none⟩ = some (.int .i64 Nn) := hrs.cell 2
  go_wp2_with fail
  go_region_held3 (fun v => v.cell? ⟨q, 2, none⟩ = some (.int .i64 Nn))
    (first | exact HS0 | exact HS1 | exact HS2)
    (first | (go_at_call 26; refine (I.promise h1' HOK.out Nn HF.out.n).mono ?_; rintro e w1 ⟨rfl, hd1⟩; have f1 := hd1.choose_spec.2.1; obtain ⟨X1, k1, k2, k3, kb⟩ := half h1' h2' h3 hd1; have r1 := f1.row hrs (fun e => HX.out q e rfl); have HS1 : w1.cell? ⟨q, 2, none⟩ = some (.int .i64 Nn) := r1.cell 2) | (go_at_call 30; refine (promise_x k2 HOK.out Nn).mono ?_; rintro e w2 ⟨rfl, hd2⟩; obtain ⟨hst2, hb2⟩ := whole k1 k2 k3 hd2; have r2 := hd2.2.row r1 (fun e => HM.out q e rfl); have HS2 : w2.cell? ⟨q, 2, none⟩ = some (.int .i64 Nn) := r2.cell 2))
  all_goals
    go_wp2
    go_ret
    exact ⟨ret_bool (by simp), hst2, HB0.out.trans (Below.trans (below_dN (Below.refl _ _) 1) (Below.trans kb hb2))⟩

set_option maxHeartbeats 2000000 in
set_option maxRecDepth 100000 in
theorem do_unpromise (h : St I B w s x S) (ok : POk S) {l : Ac} (hl : IsAc l) (hk : l.k = 4) : Calls Try.prog 12 #[.pointer (some ⟨s, 0, none⟩), .pointer (some ⟨x, 0, none⟩), .agg #[.int .i64 l.k, .int .i64 l.f, .int .i64 l.n, .bool l.y]] w (DidB I B w s x (doS S l)) := by
  obtain ⟨W0, hW0⟩ : ∃ W0, W0 = w.alloc (.cells #[.int .i64 l.k, .int .i64 l.f, .int .i64 l.n, .bool l.y] 33) := ⟨_, rfl⟩
  obtain ⟨q, hq⟩ : ∃ q, q = w.heap.size := ⟨_, rfl⟩
  have g0 : Below w.heap.size w W0 := by rw [hW0]; exact below_new _ _
  have rs : Lrow W0 q 33 (acCells l) := by rw [hW0, hq]; exact Lrow.new w _ (acCells l)
  obtain ⟨X0, g, h0⟩ := h
  have hst := And.intro (I.call h0.1 g0) (And.intro (h0.2.1.call g0) h0.2.2)
  have HB0 : Hid (Below B w W0) := g0.mono h0.2.1.lw
  have HRS := Lib.hid rs
  have HW := Lib.hid (And.intro hW0 hq)
  have HF := Lib.hid hl
  have HOK := Lib.hid ok
  rw [show doS S l = unS S l.n by unfold doS; rw [if_neg (by omega), if_neg (by omega), if_neg (by omega), if_pos hk]]
  have HX : Hid (∀ k, X0 k → k = q → False) := fun k hk e => by
    have := (I.lo h0.1 k hk).2
    rw [e, HW.out.2] at this
    exact absurd this (by omega)
  have HM : Hid (∀ k, MineX x g k → k = q → False) := fun k hk e => by
    have := (h0.2.1.mine k hk).2
    rw [e, HW.out.2] at this
    exact absurd this (by omega)
  clear h0 hW0 hq g0 rs hl ok
  obtain ⟨K, Fr, Nn, Ye⟩ := l
  dsimp only [acCells] at HRS HW HF hk
  subst hk
  go_enter Try.func12, Try.ntmps12
  go_upto_region 1 with (fail)
  rw [← HW.out.1, ← HW.out.2]
  have e0 := HRS.out.cell 0
  obtain ⟨h1, h2, h3⟩ := hst
  have h1' := I.call h1 (below_dN (Below.refl _ W0) 1)
  have h2' := h2.call (below_dN (Below.refl _ W0) 1)
  have hrs := HRS.out.drewN 1
  have HS0 : W0.drew.cell? ⟨q, 2, none⟩ = some (.int .i64 Nn) := hrs.cell 2
  go_wp2_with fail
  go_region_held3 (fun v => v.cell? ⟨q, 2, none⟩ = some (.int .i64 Nn))
    (first | exact HS0 | exact HS1 | exact HS2)
    (first | (go_at_call 27; refine (I.unpromise h1' HOK.out Nn HF.out.n).mono ?_; rintro e w1 ⟨rfl, hd1⟩; have f1 := hd1.choose_spec.2.1; obtain ⟨X1, k1, k2, k3, kb⟩ := half h1' h2' h3 hd1; have r1 := f1.row hrs (fun e => HX.out q e rfl); have HS1 : w1.cell? ⟨q, 2, none⟩ = some (.int .i64 Nn) := r1.cell 2) | (go_at_call 31; refine (unpromise_x k2 HOK.out Nn).mono ?_; rintro e w2 ⟨rfl, hd2⟩; obtain ⟨hst2, hb2⟩ := whole k1 k2 k3 hd2; have r2 := hd2.2.row r1 (fun e => HM.out q e rfl); have HS2 : w2.cell? ⟨q, 2, none⟩ = some (.int .i64 Nn) := r2.cell 2))
  all_goals
    go_wp2
    go_ret
    exact ⟨ret_bool (by simp), hst2, HB0.out.trans (Below.trans (below_dN (Below.refl _ _) 1) (Below.trans kb hb2))⟩

set_option maxHeartbeats 2000000 in
set_option maxRecDepth 100000 in
theorem do_take (h : St I B w s x S) (ok : POk S) {l : Ac} (hl : IsAc l) (hk : l.k = 5 ∨ l.k = 6) : Calls Try.prog 12 #[.pointer (some ⟨s, 0, none⟩), .pointer (some ⟨x, 0, none⟩), .agg #[.int .i64 l.k, .int .i64 l.f, .int .i64 l.n, .bool l.y]] w (DidB I B w s x (doS S l)) := by
  obtain ⟨W0, hW0⟩ : ∃ W0, W0 = w.alloc (.cells #[.int .i64 l.k, .int .i64 l.f, .int .i64 l.n, .bool l.y] 33) := ⟨_, rfl⟩
  obtain ⟨q, hq⟩ : ∃ q, q = w.heap.size := ⟨_, rfl⟩
  have g0 : Below w.heap.size w W0 := by rw [hW0]; exact below_new _ _
  have rs : Lrow W0 q 33 (acCells l) := by rw [hW0, hq]; exact Lrow.new w _ (acCells l)
  obtain ⟨X0, g, h0⟩ := h
  have hst := And.intro (I.call h0.1 g0) (And.intro (h0.2.1.call g0) h0.2.2)
  have HB0 : Hid (Below B w W0) := g0.mono h0.2.1.lw
  have HRS := Lib.hid rs
  have HW := Lib.hid (And.intro hW0 hq)
  have HF := Lib.hid hl
  have HOK := Lib.hid ok
  rw [show doS S l = taS S l.y by unfold doS; rw [if_neg (by omega), if_neg (by omega), if_neg (by omega), if_neg (by omega), if_pos hk]]
  have HX : Hid (∀ k, X0 k → k = q → False) := fun k hk e => by
    have := (I.lo h0.1 k hk).2
    rw [e, HW.out.2] at this
    exact absurd this (by omega)
  have HM : Hid (∀ k, MineX x g k → k = q → False) := fun k hk e => by
    have := (h0.2.1.mine k hk).2
    rw [e, HW.out.2] at this
    exact absurd this (by omega)
  clear h0 hW0 hq g0 rs hl ok
  obtain ⟨K, Fr, Nn, Ye⟩ := l
  dsimp only [acCells] at HRS HW HF hk
  rcases hk with rfl | rfl
  all_goals
    go_enter Try.func12, Try.ntmps12
    go_upto_region 1 with (fail)
    rw [← HW.out.1, ← HW.out.2]
    have e0 := HRS.out.cell 0
    obtain ⟨h1, h2, h3⟩ := hst
    have e3 := HRS.out.cell 3
    have hm := I.take h1 HOK.out Ye
    obtain ⟨V0, hV0⟩ : ∃ V, V = taV S Ye := ⟨_, rfl⟩
    obtain ⟨V1, hV1⟩ : ∃ V, V = taE S Ye := ⟨_, rfl⟩
    rw [← hV0, ← hV1] at hm
    have HVV := Lib.hid (And.intro hV0 hV1)
    have H123 := Lib.hid (And.intro h1 (And.intro h2 h3))
    clear h1 h2 h3 hV0 hV1
    go_wp2_with fail
    refine hm.mono ?_
    rintro e w1 ⟨rfl, hd1⟩
    have r1 := hd1.choose_spec.2.1.row HRS.out (fun e => HX.out q e rfl)
    obtain ⟨X1, k1, k2, k3, kb⟩ := half H123.out.1 H123.out.2.1 H123.out.2.2 hd1
    have hx := take_x k2 HOK.out Ye
    rw [← HVV.out.1, ← HVV.out.2] at hx
    have HK := Lib.hid (And.intro k1 (And.intro k2 (And.intro k3 kb)))
    have d3 := r1.cell 3
    clear hm hd1 k1 k2 k3 kb r1 e3
    go_wp2_with fail
    refine hx.mono ?_
    rintro e w2 ⟨rfl, hd2⟩
    obtain ⟨hst2, hb2⟩ := whole HK.out.1 HK.out.2.1 HK.out.2.2.1 hd2
    have HE := Lib.hid (And.intro hst2 (HK.out.2.2.2.trans hb2))
    clear hx hd2 hst2 hb2 d3
    go_wp2_with fail
    go_ret
    exact ⟨ret_bool (by simp), HE.out.1, HB0.out.trans HE.out.2⟩

set_option maxHeartbeats 2000000 in
set_option maxRecDepth 100000 in
theorem do_extra (h : St I B w s x S) (ok : POk S) {l : Ac} (hl : IsAc l) (hk : l.k = 7) : Calls Try.prog 12 #[.pointer (some ⟨s, 0, none⟩), .pointer (some ⟨x, 0, none⟩), .agg #[.int .i64 l.k, .int .i64 l.f, .int .i64 l.n, .bool l.y]] w (DidB I B w s x (doS S l)) := by
  obtain ⟨W0, hW0⟩ : ∃ W0, W0 = w.alloc (.cells #[.int .i64 l.k, .int .i64 l.f, .int .i64 l.n, .bool l.y] 33) := ⟨_, rfl⟩
  obtain ⟨q, hq⟩ : ∃ q, q = w.heap.size := ⟨_, rfl⟩
  have g0 : Below w.heap.size w W0 := by rw [hW0]; exact below_new _ _
  have rs : Lrow W0 q 33 (acCells l) := by rw [hW0, hq]; exact Lrow.new w _ (acCells l)
  obtain ⟨X0, g, h0⟩ := h
  have hst := And.intro (I.call h0.1 g0) (And.intro (h0.2.1.call g0) h0.2.2)
  have HB0 : Hid (Below B w W0) := g0.mono h0.2.1.lw
  have HRS := Lib.hid rs
  have HW := Lib.hid (And.intro hW0 hq)
  have HF := Lib.hid hl
  have HOK := Lib.hid ok
  rw [show doS S l = exS S l.f by unfold doS; rw [if_neg (by omega), if_neg (by omega), if_neg (by omega), if_neg (by omega), if_neg (by omega), if_pos hk]]
  have HX : Hid (∀ k, X0 k → k = q → False) := fun k hk e => by
    have := (I.lo h0.1 k hk).2
    rw [e, HW.out.2] at this
    exact absurd this (by omega)
  have HM : Hid (∀ k, MineX x g k → k = q → False) := fun k hk e => by
    have := (h0.2.1.mine k hk).2
    rw [e, HW.out.2] at this
    exact absurd this (by omega)
  clear h0 hW0 hq g0 rs hl ok
  obtain ⟨K, Fr, Nn, Ye⟩ := l
  dsimp only [acCells] at HRS HW HF hk
  subst hk
  go_enter Try.func12, Try.ntmps12
  go_upto_region 1 with (fail)
  rw [← HW.out.1, ← HW.out.2]
  have e0 := HRS.out.cell 0
  obtain ⟨h1, h2, h3⟩ := hst
  have h1' := I.call h1 (below_dN (Below.refl _ W0) 1)
  have h2' := h2.call (below_dN (Below.refl _ W0) 1)
  have hrs := HRS.out.drewN 1
  have HS0 : W0.drew.cell? ⟨q, 1, none⟩ = some (.int .i64 Fr) := hrs.cell 1
  go_wp2_with fail
  go_region_held3 (fun v => v.cell? ⟨q, 1, none⟩ = some (.int .i64 Fr))
    (first | exact HS0 | exact HS1 | exact HS2)
    (first | (go_at_call 24; refine (I.extra h1' HOK.out Fr HF.out.f).mono ?_; rintro e w1 ⟨rfl, hd1⟩; have f1 := hd1.choose_spec.2.1; obtain ⟨X1, k1, k2, k3, kb⟩ := half h1' h2' h3 hd1; have r1 := f1.row hrs (fun e => HX.out q e rfl); have HS1 : w1.cell? ⟨q, 1, none⟩ = some (.int .i64 Fr) := r1.cell 1) | (go_at_call 33; refine (extra_x k2 HOK.out Fr).mono ?_; rintro e w2 ⟨rfl, hd2⟩; obtain ⟨hst2, hb2⟩ := whole k1 k2 k3 hd2; have r2 := hd2.2.row r1 (fun e => HM.out q e rfl); have HS2 : w2.cell? ⟨q, 1, none⟩ = some (.int .i64 Fr) := r2.cell 1))
  all_goals
    go_wp2
    go_ret
    exact ⟨ret_bool (by simp), hst2, HB0.out.trans (Below.trans (below_dN (Below.refl _ _) 1) (Below.trans kb hb2))⟩

set_option maxHeartbeats 2000000 in
set_option maxRecDepth 100000 in
theorem do_give (h : St I B w s x S) (ok : POk S) {l : Ac} (hl : IsAc l) (hk : ¬ (l.k = 0 ∨ l.k = 1 ∨ l.k = 2 ∨ l.k = 3 ∨ l.k = 4 ∨ l.k = 5 ∨ l.k = 6 ∨ l.k = 7)) : Calls Try.prog 12 #[.pointer (some ⟨s, 0, none⟩), .pointer (some ⟨x, 0, none⟩), .agg #[.int .i64 l.k, .int .i64 l.f, .int .i64 l.n, .bool l.y]] w (DidB I B w s x (doS S l)) := by
  obtain ⟨W0, hW0⟩ : ∃ W0, W0 = w.alloc (.cells #[.int .i64 l.k, .int .i64 l.f, .int .i64 l.n, .bool l.y] 33) := ⟨_, rfl⟩
  obtain ⟨q, hq⟩ : ∃ q, q = w.heap.size := ⟨_, rfl⟩
  have g0 : Below w.heap.size w W0 := by rw [hW0]; exact below_new _ _
  have rs : Lrow W0 q 33 (acCells l) := by rw [hW0, hq]; exact Lrow.new w _ (acCells l)
  obtain ⟨X0, g, h0⟩ := h
  have hst := And.intro (I.call h0.1 g0) (And.intro (h0.2.1.call g0) h0.2.2)
  have HB0 : Hid (Below B w W0) := g0.mono h0.2.1.lw
  have HRS := Lib.hid rs
  have HW := Lib.hid (And.intro hW0 hq)
  have HF := Lib.hid hl
  have HOK := Lib.hid ok
  rw [show doS S l = giS S l.f l.y by unfold doS; rw [if_neg (by omega), if_neg (by omega), if_neg (by omega), if_neg (by omega), if_neg (by omega), if_neg (by omega)]]
  have HX : Hid (∀ k, X0 k → k = q → False) := fun k hk e => by
    have := (I.lo h0.1 k hk).2
    rw [e, HW.out.2] at this
    exact absurd this (by omega)
  have HM : Hid (∀ k, MineX x g k → k = q → False) := fun k hk e => by
    have := (h0.2.1.mine k hk).2
    rw [e, HW.out.2] at this
    exact absurd this (by omega)
  clear h0 hW0 hq g0 rs hl ok
  obtain ⟨K, Fr, Nn, Ye⟩ := l
  dsimp only [acCells] at HRS HW HF hk
  have k0 : (K == 0) = false := by simpa using (by omega : ¬ K = 0)
  have k1 : (K == 1) = false := by simpa using (by omega : ¬ K = 1)
  have k2 : (K == 2) = false := by simpa using (by omega : ¬ K = 2)
  have k3 : (K == 3) = false := by simpa using (by omega : ¬ K = 3)
  have k4 : (K == 4) = false := by simpa using (by omega : ¬ K = 4)
  have k5 : (K == 5) = false := by simpa using (by omega : ¬ K = 5)
  have k6 : (K == 6) = false := by simpa using (by omega : ¬ K = 6)
  have k7 : (K == 7) = false := by simpa using (by omega : ¬ K = 7)
  clear hk
  go_enter Try.func12, Try.ntmps12
  go_upto_region 1 with (fail)
  rw [← HW.out.1, ← HW.out.2]
  have e0 := HRS.out.cell 0
  obtain ⟨h1, h2, h3⟩ := hst
  have e1 := HRS.out.cell 1
  have e3 := HRS.out.cell 3
  have hm := I.give h1 HOK.out Fr Ye HF.out.f
  obtain ⟨V0, hV0⟩ : ∃ V, V = giV S Fr Ye := ⟨_, rfl⟩
  obtain ⟨V1, hV1⟩ : ∃ V, V = giE S Fr := ⟨_, rfl⟩
  rw [← hV0, ← hV1] at hm
  have HVV := Lib.hid (And.intro hV0 hV1)
  have H123 := Lib.hid (And.intro h1 (And.intro h2 h3))
  clear h1 h2 h3 hV0 hV1
  go_wp2_with fail
  refine hm.mono ?_
  rintro e w1 ⟨rfl, hd1⟩
  have r1 := hd1.choose_spec.2.1.row HRS.out (fun e => HX.out q e rfl)
  obtain ⟨X1, j1, j2, j3, jb⟩ := half H123.out.1 H123.out.2.1 H123.out.2.2 hd1
  have hx := give_x j2 HOK.out Fr Ye
  rw [← HVV.out.1, ← HVV.out.2] at hx
  have HK := Lib.hid (And.intro j1 (And.intro j2 (And.intro j3 jb)))
  have d1 := r1.cell 1
  have d3 := r1.cell 3
  clear hm hd1 j1 j2 j3 jb r1 e1 e3
  go_wp2_with fail
  refine hx.mono ?_
  rintro e w2 ⟨rfl, hd2⟩
  obtain ⟨hst2, hb2⟩ := whole HK.out.1 HK.out.2.1 HK.out.2.2.1 hd2
  have HE := Lib.hid (And.intro hst2 (HK.out.2.2.2.trans hb2))
  clear hx hd2 hst2 hb2 d1 d3
  go_wp2_with fail
  go_ret
  exact ⟨ret_bool (by simp), HE.out.1, HB0.out.trans HE.out.2⟩

theorem do_any (h : St I B w s x S) (ok : POk S) {l : Ac} (hl : IsAc l) : Calls Try.prog 12 #[.pointer (some ⟨s, 0, none⟩), .pointer (some ⟨x, 0, none⟩), .agg #[.int .i64 l.k, .int .i64 l.f, .int .i64 l.n, .bool l.y]] w (DidB I B w s x (doS S l)) := by
  by_cases h0 : l.k = 0 ∨ l.k = 1
  · exact do_grow h ok hl h0
  · by_cases h2 : l.k = 2
    · exact do_shrink h ok hl h2
    · by_cases h3 : l.k = 3
      · exact do_promise h ok hl h3
      · by_cases h4 : l.k = 4
        · exact do_unpromise h ok hl h4
        · by_cases h5 : l.k = 5 ∨ l.k = 6
          · exact do_take h ok hl h5
          · by_cases h7 : l.k = 7
            · exact do_extra h ok hl h7
            · exact do_give h ok hl (by omega)
end
end Go.Proofs.Ytllepijlebbjbaa
