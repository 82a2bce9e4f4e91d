/- The program's tree: level. -/
import Derived.Test.YtekfkglielmfaaaTgE
import Derived.Test.YtekfkglielmfaaaTgF
namespace Go.Proofs.Ytekfkglielmfaaa
open Go.RowKit
section
variable {w w' W W' : World} {T l r : Nd} {s : Nat × Nat} {v x y : Value} {g q b o : Nat} {h f a z : Int}
theorem keep_cell (hb : Below W.heap.size W W') (h : W.cell? ⟨b, o, none⟩ = some v) : W'.cell? ⟨b, o, none⟩ = some v := by
  have hlt : b < W.heap.size := by
    apply Classical.byContradiction
    intro hc
    have : W.heap[b]? = none := Array.getElem?_eq_none (by omega)
    simp [World.cell?, this] at h
  exact (World.cell?_of_block (a := ⟨b, o, none⟩) (hb.block b hlt)).trans h
theorem NdAt.cells {l r : Nd} {s : Nat × Nat} {b : Nat} (h : NdAt w (.node l s r) (.pointer (some ⟨b, 0, none⟩))) : ∃ ol or, NdAt w l (.pointer ol) ∧ NdAt w r (.pointer or) ∧ w.cell? ⟨b, 0, none⟩ = some (.int .i64 s.1) ∧ w.cell? ⟨b, 1, none⟩ = some (.int .i64 s.2) ∧ w.cell? ⟨b, 2, none⟩ = some (.pointer ol) ∧ w.cell? ⟨b, 3, none⟩ = some (.pointer or) ∧ b < w.heap.size := by
  obtain ⟨b', x, y, e, hr, h1, h2⟩ := h
  simp only [Value.pointer.injEq, Option.some.injEq, Addr.mk.injEq] at e
  obtain ⟨rfl, -⟩ := e
  obtain ⟨ol, rfl⟩ := h1.form
  obtain ⟨or, rfl⟩ := h2.form
  exact ⟨ol, or, h1, h2, hr.cell 0, hr.cell 1, hr.cell 2, hr.cell 3, hr.lt⟩
theorem NdAt.open_ {l r : Nd} {s : Nat × Nat} (h : NdAt w (.node l s r) v) : ∃ b, v = .pointer (some ⟨b, 0, none⟩) := by
  obtain ⟨b, x, y, e, -⟩ := h
  exact ⟨b, e⟩
/-- made, in a world that has more. -/
theorem made_w (hx : NdAt w l x) (hy : NdAt w r y) (ok : OkS (Nd.node l s r).L) : ∀ W, Below w.heap.size w W → Calls Try.prog 47 #[x, .agg #[.int .i64 s.1, .int .i64 s.2], y] W fun e w' => ∃ g, e = .returned (.pointer (some ⟨g, 0, none⟩)) ∧ NdAt w' (.node l s r) (.pointer (some ⟨g, 0, none⟩)) ∧ Below W.heap.size W w' ∧ Below w.heap.size w w' := fun _ hb =>
  (made_p (hx.call hb) (hy.call hb) ok).mono fun _ _ ⟨g, h1, _, h3, h4⟩ => ⟨g, h1, h3, h4, hb.trans (h4.mono hb.size)⟩
theorem keep_ld {q mb xb : Nat} {v0 v1 v2 v3 v4 v5 v6 v7 v8 : Value} (hb : Below W.heap.size W W') (h : W.cell? ⟨xb, 0, none⟩ = some v0 ∧ W.cell? ⟨xb, 1, none⟩ = some v1 ∧ W.cell? ⟨xb, 2, none⟩ = some v2 ∧ W.cell? ⟨mb, 0, none⟩ = some v3 ∧ W.cell? ⟨mb, 1, none⟩ = some v4 ∧ W.cell? ⟨mb, 2, none⟩ = some v5 ∧ W.cell? ⟨mb, 3, none⟩ = some v6 ∧ W.cell? ⟨q, 0, none⟩ = some v7 ∧ W.cell? ⟨q, 1, none⟩ = some v8) : W'.cell? ⟨xb, 0, none⟩ = some v0 ∧ W'.cell? ⟨xb, 1, none⟩ = some v1 ∧ W'.cell? ⟨xb, 2, none⟩ = some v2 ∧ W'.cell? ⟨mb, 0, none⟩ = some v3 ∧ W'.cell? ⟨mb, 1, none⟩ = some v4 ∧ W'.cell? ⟨mb, 2, none⟩ = some v5 ∧ W'.cell? ⟨mb, 3, none⟩ = some v6 ∧ W'.cell? ⟨q, 0, none⟩ = some v7 ∧ W'.cell? ⟨q, 1, none⟩ = some v8 :=
  ⟨keep_cell hb h.1, keep_cell hb h.2.1, keep_cell hb h.2.2.1, keep_cell hb h.2.2.2.1, keep_cell hb h.2.2.2.2.1, keep_cell hb h.2.2.2.2.2.1, keep_cell hb h.2.2.2.2.2.2.1, keep_cell hb h.2.2.2.2.2.2.2.1, keep_cell hb h.2.2.2.2.2.2.2.2⟩
set_option maxHeartbeats 4000000 in
set_option maxRecDepth 100000 in
theorem level_ld {ll a b r : Nd} {ls m s : Nat × Nat} {x y : Value} (hx : NdAt w (Nd.node ll ls (.node a m b)) x) (hy : NdAt w r y) (bl : (Nd.node ll ls (.node a m b)).bal) (br : r.bal) (ok : OkS ((Nd.node ll ls (.node a m b)).L ++ s :: r.L)) (h1 : r.ht + 1 < (Nd.node ll ls (.node a m b)).ht) (h2 : (Nd.node ll ls (.node a m b)).ht ≤ r.ht + 2) (h3 : ll.ht < (Nd.node a m b).ht) : Calls Try.prog 46 #[x, .agg #[.int .i64 s.1, .int .i64 s.2], y] w fun e w' => ∃ g T, e = .returned (.pointer (some ⟨g, 0, none⟩)) ∧ NdAt w' T (.pointer (some ⟨g, 0, none⟩)) ∧ LvOk (Nd.node ll ls (.node a m b)) s r T ∧ Below w.heap.size w w' := by
  have hlen := ok.len
  rw [List.length_append, List.length_cons] at hlen
  have i1 := Nd.ht_le (Nd.node ll ls (.node a m b))
  have i2 := Nd.ht_le r
  obtain ⟨w1, hw1⟩ : ∃ w1, w1 = w.alloc (.cells #[.int .i64 s.1, .int .i64 s.2] 61) := ⟨_, rfl⟩
  obtain ⟨q, hq⟩ : ∃ q, q = w.heap.size := ⟨_, rfl⟩
  have rs0 : Lrow w1 q 61 [.int .i64 s.1, .int .i64 s.2] := by rw [hw1, hq]; exact Lrow.new w _ _
  have b1 : Below w.heap.size w w1 := by rw [hw1]; exact below_new _ _
  obtain ⟨hl, ehl⟩ : ∃ z : Int, z = ((Nd.node ll ls (.node a m b)).ht : Nat) := ⟨_, rfl⟩
  obtain ⟨hr, ehr⟩ : ∃ z : Int, z = (r.ht : Nat) := ⟨_, rfl⟩
  have LV := Lib.hid (lv_ld (s := s) bl br h1 h2 h3)
  have hx1 := hx.call b1
  have hy1 := hy.call b1
  have t1 := tall_p hx1
  have t2 := tall_p hy1
  rw [← ehl] at t1
  rw [← ehr] at t2
  obtain ⟨xb, rfl⟩ := hx1.open_
  obtain ⟨ol, om, nl, nm, c0, c1, c2, c3, -⟩ := hx1.cells
  obtain ⟨mb, hmb⟩ := nm.open_
  obtain rfl : om = some ⟨mb, 0, none⟩ := by simpa using hmb
  obtain ⟨oa, ob, na, nb, d0, d1, d2, d3, -⟩ := nm.cells
  obtain ⟨hm, ehm⟩ : ∃ z : Int, z = ((Nd.node a m b).ht : Nat) := ⟨_, rfl⟩
  obtain ⟨hf, ehf⟩ : ∃ z : Int, z = (ll.ht : Nat) := ⟨_, rfl⟩
  have t3 : ∀ W, W.heap = w1.heap → Calls Try.prog 40 #[.pointer (some ⟨mb, 0, none⟩)] W fun e w' => e = .returned (.int .i64 hm) ∧ w' = W := fun W e => by rw [ehm]; exact tall_p (nm.keep fun _ _ _ => by rw [e])
  have t4 : ∀ W, W.heap = w1.heap → Calls Try.prog 40 #[.pointer ol] W fun e w' => e = .returned (.int .i64 hf) ∧ w' = W := fun W e => by rw [ehf]; exact tall_p (nl.keep fun _ _ _ => by rw [e])
  have g1 : hr + 1 < hl := by omega
  have e1 : IntKind.i64.wrap (hr + 1) = hr + 1 := IntWalk.i64_in _ (by omega)
  have g3 : hf < hm := by omega
  have ok1 : OkS (Nd.node ll ls a).L := OkS.mid (A := []) (B := m :: b.L ++ s :: r.L) (by simpa [Nd.L_node] using ok)
  have ok2 : OkS (Nd.node b s r).L := OkS.right (L := ll.L ++ ls :: (a.L ++ [m])) (by simpa [Nd.L_node] using ok)
  have ok3 : OkS (Nd.node (.node ll ls a) m (.node b s r)).L := by simpa [Nd.L_node] using ok
  have c_1 := made_w nl na ok1
  have c_2 := made_w nb hy1 ok2
  have HB := Lib.hid (And.intro hw1 (And.intro hq b1))
  have HQ := Lib.hid rs0
  have q0 := rs0.cell 0
  have q1 := rs0.cell 1
  have hs : w1.cell? ⟨xb, 0, none⟩ = some (.int .i64 ls.1) ∧ w1.cell? ⟨xb, 1, none⟩ = some (.int .i64 ls.2) ∧ w1.cell? ⟨xb, 2, none⟩ = some (.pointer ol) ∧ w1.cell? ⟨mb, 0, none⟩ = some (.int .i64 m.1) ∧ w1.cell? ⟨mb, 1, none⟩ = some (.int .i64 m.2) ∧ w1.cell? ⟨mb, 2, none⟩ = some (.pointer oa) ∧ w1.cell? ⟨mb, 3, none⟩ = some (.pointer ob) ∧ w1.cell? ⟨q, 0, none⟩ = some (.int .i64 s.1) ∧ w1.cell? ⟨q, 1, none⟩ = some (.int .i64 s.2) := ⟨c0, c1, c2, d0, d1, d2, d3, q0, q1⟩
  clear hlen i1 i2 hw1 hq ehl ehr bl br h1 h2 hx hy b1 rs0 h3 ehm ehf ok
  obtain ⟨s1, s2⟩ := s
  obtain ⟨ls1, ls2⟩ := ls
  obtain ⟨m1, m2⟩ := m
  dsimp only at *
  go_enter Try.func46, Try.ntmps46
  go_upto_region 1 with (fail)
  rw [← HB.out.1, ← HB.out.2.1]
  go_wp2_with (first | (go_at_call 40; (with_reducible refine t1.mono ?_); rintro e wt ⟨rfl, rfl⟩) | (go_at_call 40; (with_reducible refine t2.mono ?_); rintro e wt ⟨rfl, rfl⟩) | fail)
  go_quiet (first | (go_at_call 40; with_reducible exact Calls.quiet_of_same (t3 _ rfl)) | (go_at_call 40; with_reducible exact Calls.quiet_of_same (t4 _ rfl)))
  go_upto_region 4 with (fail)
  go_region_held3 (fun v => v.cell? ⟨xb, 0, none⟩ = some (.int .i64 ls1) ∧ v.cell? ⟨xb, 1, none⟩ = some (.int .i64 ls2) ∧ v.cell? ⟨xb, 2, none⟩ = some (.pointer ol) ∧ v.cell? ⟨mb, 0, none⟩ = some (.int .i64 m1) ∧ v.cell? ⟨mb, 1, none⟩ = some (.int .i64 m2) ∧ v.cell? ⟨mb, 2, none⟩ = some (.pointer oa) ∧ v.cell? ⟨mb, 3, none⟩ = some (.pointer ob) ∧ v.cell? ⟨q, 0, none⟩ = some (.int .i64 s1) ∧ v.cell? ⟨q, 1, none⟩ = some (.int .i64 s2))
    (first | exact hs | exact hsa | exact hsb | exact hsz)
    (first | (go_at_call 47; (with_reducible refine (c_1 _ ?_).mono ?_); (focus exact below_dN (Below.refl _ _) _); rintro e wa ⟨ga, rfl, na1, ba0, ba⟩; have hsa := keep_ld ba0 hs) | (go_at_call 47; (with_reducible refine (c_2 _ ?_).mono ?_); (focus exact ba); rintro e wb ⟨gb, rfl, nb1, bb0, bb⟩; have hsb := keep_ld bb0 hsa) | (go_at_call 47; (with_reducible refine (made_p (na1.call bb0) nb1 ok3).mono ?_); rintro e wz ⟨gz, rfl, -, nz, bz0⟩; have hsz := keep_ld bz0 hsb) | fail)
  all_goals
    go_wp2_with fail
    go_ret
    exact ⟨gz, _, rfl, nz, LV.out, HB.out.2.2.trans ((bb.trans (bz0.mono bb.size)).mono HB.out.2.2.size)⟩
theorem keep_ls {q xb : Nat} {v0 v1 v2 v3 v4 v5 : Value} (hb : Below W.heap.size W W') (h : W.cell? ⟨xb, 0, none⟩ = some v0 ∧ W.cell? ⟨xb, 1, none⟩ = some v1 ∧ W.cell? ⟨xb, 2, none⟩ = some v2 ∧ W.cell? ⟨xb, 3, none⟩ = some v3 ∧ W.cell? ⟨q, 0, none⟩ = some v4 ∧ W.cell? ⟨q, 1, none⟩ = some v5) : W'.cell? ⟨xb, 0, none⟩ = some v0 ∧ W'.cell? ⟨xb, 1, none⟩ = some v1 ∧ W'.cell? ⟨xb, 2, none⟩ = some v2 ∧ W'.cell? ⟨xb, 3, none⟩ = some v3 ∧ W'.cell? ⟨q, 0, none⟩ = some v4 ∧ W'.cell? ⟨q, 1, none⟩ = some v5 :=
  ⟨keep_cell hb h.1, keep_cell hb h.2.1, keep_cell hb h.2.2.1, keep_cell hb h.2.2.2.1, keep_cell hb h.2.2.2.2.1, keep_cell hb h.2.2.2.2.2⟩
set_option maxHeartbeats 4000000 in
set_option maxRecDepth 100000 in
theorem level_ls {ll lr r : Nd} {ls s : Nat × Nat} {x y : Value} (hx : NdAt w (Nd.node ll ls lr) x) (hy : NdAt w r y) (bl : (Nd.node ll ls lr).bal) (br : r.bal) (ok : OkS ((Nd.node ll ls lr).L ++ s :: r.L)) (h1 : r.ht + 1 < (Nd.node ll ls lr).ht) (h2 : (Nd.node ll ls lr).ht ≤ r.ht + 2) (h3 : ¬ ll.ht < lr.ht) : Calls Try.prog 46 #[x, .agg #[.int .i64 s.1, .int .i64 s.2], y] w fun e w' => ∃ g T, e = .returned (.pointer (some ⟨g, 0, none⟩)) ∧ NdAt w' T (.pointer (some ⟨g, 0, none⟩)) ∧ LvOk (Nd.node ll ls lr) s r T ∧ Below w.heap.size w w' := by
  have hlen := ok.len
  rw [List.length_append, List.length_cons] at hlen
  have i1 := Nd.ht_le (Nd.node ll ls lr)
  have i2 := Nd.ht_le r
  obtain ⟨w1, hw1⟩ : ∃ w1, w1 = w.alloc (.cells #[.int .i64 s.1, .int .i64 s.2] 61) := ⟨_, rfl⟩
  obtain ⟨q, hq⟩ : ∃ q, q = w.heap.size := ⟨_, rfl⟩
  have rs0 : Lrow w1 q 61 [.int .i64 s.1, .int .i64 s.2] := by rw [hw1, hq]; exact Lrow.new w _ _
  have b1 : Below w.heap.size w w1 := by rw [hw1]; exact below_new _ _
  obtain ⟨hl, ehl⟩ : ∃ z : Int, z = ((Nd.node ll ls lr).ht : Nat) := ⟨_, rfl⟩
  obtain ⟨hr, ehr⟩ : ∃ z : Int, z = (r.ht : Nat) := ⟨_, rfl⟩
  have LV := Lib.hid (lv_ls (s := s) bl br h1 h2 h3)
  have hx1 := hx.call b1
  have hy1 := hy.call b1
  have t1 := tall_p hx1
  have t2 := tall_p hy1
  rw [← ehl] at t1
  rw [← ehr] at t2
  obtain ⟨xb, rfl⟩ := hx1.open_
  obtain ⟨ol, om, nl, nm, c0, c1, c2, c3, -⟩ := hx1.cells
  obtain ⟨hm, ehm⟩ : ∃ z : Int, z = (lr.ht : Nat) := ⟨_, rfl⟩
  obtain ⟨hf, ehf⟩ : ∃ z : Int, z = (ll.ht : Nat) := ⟨_, rfl⟩
  have t3 : ∀ W, W.heap = w1.heap → Calls Try.prog 40 #[.pointer om] W fun e w' => e = .returned (.int .i64 hm) ∧ w' = W := fun W e => by rw [ehm]; exact tall_p (nm.keep fun _ _ _ => by rw [e])
  have t4 : ∀ W, W.heap = w1.heap → Calls Try.prog 40 #[.pointer ol] W fun e w' => e = .returned (.int .i64 hf) ∧ w' = W := fun W e => by rw [ehf]; exact tall_p (nl.keep fun _ _ _ => by rw [e])
  have g1 : hr + 1 < hl := by omega
  have e1 : IntKind.i64.wrap (hr + 1) = hr + 1 := IntWalk.i64_in _ (by omega)
  have g3 : ¬ hf < hm := by omega
  have ok2 : OkS (Nd.node lr s r).L := OkS.right (L := ll.L ++ [ls]) (by simpa [Nd.L_node] using ok)
  have ok3 : OkS (Nd.node ll ls (.node lr s r)).L := by simpa [Nd.L_node] using ok
  have c_2 := made_w nm hy1 ok2
  have HB := Lib.hid (And.intro hw1 (And.intro hq b1))
  have HQ := Lib.hid rs0
  have q0 := rs0.cell 0
  have q1 := rs0.cell 1
  have hs : w1.cell? ⟨xb, 0, none⟩ = some (.int .i64 ls.1) ∧ w1.cell? ⟨xb, 1, none⟩ = some (.int .i64 ls.2) ∧ w1.cell? ⟨xb, 2, none⟩ = some (.pointer ol) ∧ w1.cell? ⟨xb, 3, none⟩ = some (.pointer om) ∧ w1.cell? ⟨q, 0, none⟩ = some (.int .i64 s.1) ∧ w1.cell? ⟨q, 1, none⟩ = some (.int .i64 s.2) := ⟨c0, c1, c2, c3, q0, q1⟩
  clear hlen i1 i2 hw1 hq ehl ehr bl br h1 h2 hx hy b1 rs0 h3 ehm ehf ok
  obtain ⟨s1, s2⟩ := s
  obtain ⟨ls1, ls2⟩ := ls
  dsimp only at *
  go_enter Try.func46, Try.ntmps46
  go_upto_region 1 with (fail)
  rw [← HB.out.1, ← HB.out.2.1]
  go_wp2_with (first | (go_at_call 40; (with_reducible refine t1.mono ?_); rintro e wt ⟨rfl, rfl⟩) | (go_at_call 40; (with_reducible refine t2.mono ?_); rintro e wt ⟨rfl, rfl⟩) | fail)
  go_quiet (first | (go_at_call 40; with_reducible exact Calls.quiet_of_same (t3 _ rfl)) | (go_at_call 40; with_reducible exact Calls.quiet_of_same (t4 _ rfl)))
  go_upto_region 5 with (fail)
  go_region_held3 (fun v => v.cell? ⟨xb, 0, none⟩ = some (.int .i64 ls1) ∧ v.cell? ⟨xb, 1, none⟩ = some (.int .i64 ls2) ∧ v.cell? ⟨xb, 2, none⟩ = some (.pointer ol) ∧ v.cell? ⟨xb, 3, none⟩ = some (.pointer om) ∧ v.cell? ⟨q, 0, none⟩ = some (.int .i64 s1) ∧ v.cell? ⟨q, 1, none⟩ = some (.int .i64 s2))
    (first | exact hs | exact hsb | exact hsz)
    (first | (go_at_call 47; (with_reducible refine (c_2 _ ?_).mono ?_); (focus exact below_dN (Below.refl _ _) _); rintro e wb ⟨gb, rfl, nb1, bb0, bb⟩; have hsb := keep_ls bb0 hs) | (go_at_call 47; (with_reducible refine (made_p (nl.call bb) nb1 ok3).mono ?_); rintro e wz ⟨gz, rfl, -, nz, bz0⟩; have hsz := keep_ls bz0 hsb) | fail)
  all_goals
    go_wp2_with fail
    go_ret
    exact ⟨gz, _, rfl, nz, LV.out, HB.out.2.2.trans ((bb.trans (bz0.mono bb.size)).mono HB.out.2.2.size)⟩
theorem keep_rd {q mb yb : Nat} {v0 v1 v2 v3 v4 v5 v6 v7 v8 : Value} (hb : Below W.heap.size W W') (h : W.cell? ⟨yb, 0, none⟩ = some v0 ∧ W.cell? ⟨yb, 1, none⟩ = some v1 ∧ W.cell? ⟨yb, 3, none⟩ = some v2 ∧ W.cell? ⟨mb, 0, none⟩ = some v3 ∧ W.cell? ⟨mb, 1, none⟩ = some v4 ∧ W.cell? ⟨mb, 2, none⟩ = some v5 ∧ W.cell? ⟨mb, 3, none⟩ = some v6 ∧ W.cell? ⟨q, 0, none⟩ = some v7 ∧ W.cell? ⟨q, 1, none⟩ = some v8) : W'.cell? ⟨yb, 0, none⟩ = some v0 ∧ W'.cell? ⟨yb, 1, none⟩ = some v1 ∧ W'.cell? ⟨yb, 3, none⟩ = some v2 ∧ W'.cell? ⟨mb, 0, none⟩ = some v3 ∧ W'.cell? ⟨mb, 1, none⟩ = some v4 ∧ W'.cell? ⟨mb, 2, none⟩ = some v5 ∧ W'.cell? ⟨mb, 3, none⟩ = some v6 ∧ W'.cell? ⟨q, 0, none⟩ = some v7 ∧ W'.cell? ⟨q, 1, none⟩ = some v8 :=
  ⟨keep_cell hb h.1, keep_cell hb h.2.1, keep_cell hb h.2.2.1, keep_cell hb h.2.2.2.1, keep_cell hb h.2.2.2.2.1, keep_cell hb h.2.2.2.2.2.1, keep_cell hb h.2.2.2.2.2.2.1, keep_cell hb h.2.2.2.2.2.2.2.1, keep_cell hb h.2.2.2.2.2.2.2.2⟩
set_option maxHeartbeats 4000000 in
set_option maxRecDepth 100000 in
theorem level_rd {l a b rr : Nd} {s m rs : Nat × Nat} {x y : Value} (hx : NdAt w l x) (hy : NdAt w (Nd.node (.node a m b) rs rr) y) (bl : l.bal) (br : (Nd.node (.node a m b) rs rr).bal) (ok : OkS (l.L ++ s :: (Nd.node (.node a m b) rs rr).L)) (h1 : l.ht + 1 < (Nd.node (.node a m b) rs rr).ht) (h2 : (Nd.node (.node a m b) rs rr).ht ≤ l.ht + 2) (h3 : rr.ht < (Nd.node a m b).ht) : Calls Try.prog 46 #[x, .agg #[.int .i64 s.1, .int .i64 s.2], y] w fun e w' => ∃ g T, e = .returned (.pointer (some ⟨g, 0, none⟩)) ∧ NdAt w' T (.pointer (some ⟨g, 0, none⟩)) ∧ LvOk l s (Nd.node (.node a m b) rs rr) T ∧ Below w.heap.size w w' := by
  have hlen := ok.len
  rw [List.length_append, List.length_cons] at hlen
  have i1 := Nd.ht_le l
  have i2 := Nd.ht_le (Nd.node (.node a m b) rs rr)
  obtain ⟨w1, hw1⟩ : ∃ w1, w1 = w.alloc (.cells #[.int .i64 s.1, .int .i64 s.2] 61) := ⟨_, rfl⟩
  obtain ⟨q, hq⟩ : ∃ q, q = w.heap.size := ⟨_, rfl⟩
  have rs0 : Lrow w1 q 61 [.int .i64 s.1, .int .i64 s.2] := by rw [hw1, hq]; exact Lrow.new w _ _
  have b1 : Below w.heap.size w w1 := by rw [hw1]; exact below_new _ _
  obtain ⟨hl, ehl⟩ : ∃ z : Int, z = (l.ht : Nat) := ⟨_, rfl⟩
  obtain ⟨hr, ehr⟩ : ∃ z : Int, z = ((Nd.node (.node a m b) rs rr).ht : Nat) := ⟨_, rfl⟩
  have LV := Lib.hid (lv_rd (s := s) bl br h1 h2 h3)
  have hx1 := hx.call b1
  have hy1 := hy.call b1
  have t1 := tall_p hx1
  have t2 := tall_p hy1
  rw [← ehl] at t1
  rw [← ehr] at t2
  obtain ⟨yb, rfl⟩ := hy1.open_
  obtain ⟨om, ol, nm, nl, c0, c1, c3, c2, -⟩ := hy1.cells
  obtain ⟨mb, hmb⟩ := nm.open_
  obtain rfl : om = some ⟨mb, 0, none⟩ := by simpa using hmb
  obtain ⟨oa, ob, na, nb, d0, d1, d2, d3, -⟩ := nm.cells
  obtain ⟨hm, ehm⟩ : ∃ z : Int, z = ((Nd.node a m b).ht : Nat) := ⟨_, rfl⟩
  obtain ⟨hf, ehf⟩ : ∃ z : Int, z = (rr.ht : Nat) := ⟨_, rfl⟩
  have t3 : ∀ W, W.heap = w1.heap → Calls Try.prog 40 #[.pointer (some ⟨mb, 0, none⟩)] W fun e w' => e = .returned (.int .i64 hm) ∧ w' = W := fun W e => by rw [ehm]; exact tall_p (nm.keep fun _ _ _ => by rw [e])
  have t4 : ∀ W, W.heap = w1.heap → Calls Try.prog 40 #[.pointer ol] W fun e w' => e = .returned (.int .i64 hf) ∧ w' = W := fun W e => by rw [ehf]; exact tall_p (nl.keep fun _ _ _ => by rw [e])
  have g1 : ¬ hr + 1 < hl := by omega
  have e1 : IntKind.i64.wrap (hr + 1) = hr + 1 := IntWalk.i64_in _ (by omega)
  have e2 : IntKind.i64.wrap (hl + 1) = hl + 1 := IntWalk.i64_in _ (by omega)
  have g2 : hl + 1 < hr := by omega
  have g3 : hf < hm := by omega
  have ok1 : OkS (Nd.node l s a).L := OkS.mid (A := []) (B := m :: b.L ++ rs :: rr.L) (by simpa [Nd.L_node] using ok)
  have ok2 : OkS (Nd.node b rs rr).L := OkS.right (L := l.L ++ s :: (a.L ++ [m])) (by simpa [Nd.L_node] using ok)
  have ok3 : OkS (Nd.node (.node l s a) m (.node b rs rr)).L := by simpa [Nd.L_node] using ok
  have c_1 := made_w hx1 na ok1
  have c_2 := made_w nb nl ok2
  have HB := Lib.hid (And.intro hw1 (And.intro hq b1))
  have HQ := Lib.hid rs0
  have q0 := rs0.cell 0
  have q1 := rs0.cell 1
  have hs : w1.cell? ⟨yb, 0, none⟩ = some (.int .i64 rs.1) ∧ w1.cell? ⟨yb, 1, none⟩ = some (.int .i64 rs.2) ∧ w1.cell? ⟨yb, 3, none⟩ = some (.pointer ol) ∧ w1.cell? ⟨mb, 0, none⟩ = some (.int .i64 m.1) ∧ w1.cell? ⟨mb, 1, none⟩ = some (.int .i64 m.2) ∧ w1.cell? ⟨mb, 2, none⟩ = some (.pointer oa) ∧ w1.cell? ⟨mb, 3, none⟩ = some (.pointer ob) ∧ w1.cell? ⟨q, 0, none⟩ = some (.int .i64 s.1) ∧ w1.cell? ⟨q, 1, none⟩ = some (.int .i64 s.2) := ⟨c0, c1, c2, d0, d1, d2, d3, q0, q1⟩
  clear hlen i1 i2 hw1 hq ehl ehr bl br h1 h2 hx hy b1 rs0 h3 ehm ehf ok
  obtain ⟨s1, s2⟩ := s
  obtain ⟨rs1, rs2⟩ := rs
  obtain ⟨m1, m2⟩ := m
  dsimp only at *
  go_enter Try.func46, Try.ntmps46
  go_upto_region 1 with (fail)
  rw [← HB.out.1, ← HB.out.2.1]
  go_wp2_with (first | (go_at_call 40; (with_reducible refine t1.mono ?_); rintro e wt ⟨rfl, rfl⟩) | (go_at_call 40; (with_reducible refine t2.mono ?_); rintro e wt ⟨rfl, rfl⟩) | fail)
  go_quiet (first | (go_at_call 40; with_reducible exact Calls.quiet_of_same (t3 _ rfl)) | (go_at_call 40; with_reducible exact Calls.quiet_of_same (t4 _ rfl)))
  go_upto_region 9 with (fail)
  go_region_held3 (fun v => v.cell? ⟨yb, 0, none⟩ = some (.int .i64 rs1) ∧ v.cell? ⟨yb, 1, none⟩ = some (.int .i64 rs2) ∧ v.cell? ⟨yb, 3, none⟩ = some (.pointer ol) ∧ v.cell? ⟨mb, 0, none⟩ = some (.int .i64 m1) ∧ v.cell? ⟨mb, 1, none⟩ = some (.int .i64 m2) ∧ v.cell? ⟨mb, 2, none⟩ = some (.pointer oa) ∧ v.cell? ⟨mb, 3, none⟩ = some (.pointer ob) ∧ v.cell? ⟨q, 0, none⟩ = some (.int .i64 s1) ∧ v.cell? ⟨q, 1, none⟩ = some (.int .i64 s2))
    (first | exact hs | exact hsa | exact hsb | exact hsz)
    (first | (go_at_call 47; (with_reducible refine (c_1 _ ?_).mono ?_); (focus exact below_dN (Below.refl _ _) _); rintro e wa ⟨ga, rfl, na1, ba0, ba⟩; have hsa := keep_rd ba0 hs) | (go_at_call 47; (with_reducible refine (c_2 _ ?_).mono ?_); (focus exact ba); rintro e wb ⟨gb, rfl, nb1, bb0, bb⟩; have hsb := keep_rd bb0 hsa) | (go_at_call 47; (with_reducible refine (made_p (na1.call bb0) nb1 ok3).mono ?_); rintro e wz ⟨gz, rfl, -, nz, bz0⟩; have hsz := keep_rd bz0 hsb) | fail)
  all_goals
    go_wp2_with fail
    go_ret
    exact ⟨gz, _, rfl, nz, LV.out, HB.out.2.2.trans ((bb.trans (bz0.mono bb.size)).mono HB.out.2.2.size)⟩
theorem keep_rs {q yb : Nat} {v0 v1 v2 v3 v4 v5 : Value} (hb : Below W.heap.size W W') (h : W.cell? ⟨yb, 0, none⟩ = some v0 ∧ W.cell? ⟨yb, 1, none⟩ = some v1 ∧ W.cell? ⟨yb, 2, none⟩ = some v2 ∧ W.cell? ⟨yb, 3, none⟩ = some v3 ∧ W.cell? ⟨q, 0, none⟩ = some v4 ∧ W.cell? ⟨q, 1, none⟩ = some v5) : W'.cell? ⟨yb, 0, none⟩ = some v0 ∧ W'.cell? ⟨yb, 1, none⟩ = some v1 ∧ W'.cell? ⟨yb, 2, none⟩ = some v2 ∧ W'.cell? ⟨yb, 3, none⟩ = some v3 ∧ W'.cell? ⟨q, 0, none⟩ = some v4 ∧ W'.cell? ⟨q, 1, none⟩ = some v5 :=
  ⟨keep_cell hb h.1, keep_cell hb h.2.1, keep_cell hb h.2.2.1, keep_cell hb h.2.2.2.1, keep_cell hb h.2.2.2.2.1, keep_cell hb h.2.2.2.2.2⟩
set_option maxHeartbeats 4000000 in
set_option maxRecDepth 100000 in
theorem level_rs {l rl rr : Nd} {s rs : Nat × Nat} {x y : Value} (hx : NdAt w l x) (hy : NdAt w (Nd.node rl rs rr) y) (bl : l.bal) (br : (Nd.node rl rs rr).bal) (ok : OkS (l.L ++ s :: (Nd.node rl rs rr).L)) (h1 : l.ht + 1 < (Nd.node rl rs rr).ht) (h2 : (Nd.node rl rs rr).ht ≤ l.ht + 2) (h3 : ¬ rr.ht < rl.ht) : Calls Try.prog 46 #[x, .agg #[.int .i64 s.1, .int .i64 s.2], y] w fun e w' => ∃ g T, e = .returned (.pointer (some ⟨g, 0, none⟩)) ∧ NdAt w' T (.pointer (some ⟨g, 0, none⟩)) ∧ LvOk l s (Nd.node rl rs rr) T ∧ Below w.heap.size w w' := by
  have hlen := ok.len
  rw [List.length_append, List.length_cons] at hlen
  have i1 := Nd.ht_le l
  have i2 := Nd.ht_le (Nd.node rl rs rr)
  obtain ⟨w1, hw1⟩ : ∃ w1, w1 = w.alloc (.cells #[.int .i64 s.1, .int .i64 s.2] 61) := ⟨_, rfl⟩
  obtain ⟨q, hq⟩ : ∃ q, q = w.heap.size := ⟨_, rfl⟩
  have rs0 : Lrow w1 q 61 [.int .i64 s.1, .int .i64 s.2] := by rw [hw1, hq]; exact Lrow.new w _ _
  have b1 : Below w.heap.size w w1 := by rw [hw1]; exact below_new _ _
  obtain ⟨hl, ehl⟩ : ∃ z : Int, z = (l.ht : Nat) := ⟨_, rfl⟩
  obtain ⟨hr, ehr⟩ : ∃ z : Int, z = ((Nd.node rl rs rr).ht : Nat) := ⟨_, rfl⟩
  have LV := Lib.hid (lv_rs (s := s) bl br h1 h2 h3)
  have hx1 := hx.call b1
  have hy1 := hy.call b1
  have t1 := tall_p hx1
  have t2 := tall_p hy1
  rw [← ehl] at t1
  rw [← ehr] at t2
  obtain ⟨yb, rfl⟩ := hy1.open_
  obtain ⟨om, ol, nm, nl, c0, c1, c3, c2, -⟩ := hy1.cells
  obtain ⟨hm, ehm⟩ : ∃ z : Int, z = (rl.ht : Nat) := ⟨_, rfl⟩
  obtain ⟨hf, ehf⟩ : ∃ z : Int, z = (rr.ht : Nat) := ⟨_, rfl⟩
  have t3 : ∀ W, W.heap = w1.heap → Calls Try.prog 40 #[.pointer om] W fun e w' => e = .returned (.int .i64 hm) ∧ w' = W := fun W e => by rw [ehm]; exact tall_p (nm.keep fun _ _ _ => by rw [e])
  have t4 : ∀ W, W.heap = w1.heap → Calls Try.prog 40 #[.pointer ol] W fun e w' => e = .returned (.int .i64 hf) ∧ w' = W := fun W e => by rw [ehf]; exact tall_p (nl.keep fun _ _ _ => by rw [e])
  have g1 : ¬ hr + 1 < hl := by omega
  have e1 : IntKind.i64.wrap (hr + 1) = hr + 1 := IntWalk.i64_in _ (by omega)
  have e2 : IntKind.i64.wrap (hl + 1) = hl + 1 := IntWalk.i64_in _ (by omega)
  have g2 : hl + 1 < hr := by omega
  have g3 : ¬ hf < hm := by omega
  have ok2 : OkS (Nd.node l s rl).L := OkS.mid (A := []) (B := rs :: rr.L) (by simpa [Nd.L_node] using ok)
  have ok3 : OkS (Nd.node (.node l s rl) rs rr).L := by simpa [Nd.L_node] using ok
  have c_2 := made_w hx1 nm ok2
  have HB := Lib.hid (And.intro hw1 (And.intro hq b1))
  have HQ := Lib.hid rs0
  have q0 := rs0.cell 0
  have q1 := rs0.cell 1
  have hs : w1.cell? ⟨yb, 0, none⟩ = some (.int .i64 rs.1) ∧ w1.cell? ⟨yb, 1, none⟩ = some (.int .i64 rs.2) ∧ w1.cell? ⟨yb, 2, none⟩ = some (.pointer om) ∧ w1.cell? ⟨yb, 3, none⟩ = some (.pointer ol) ∧ w1.cell? ⟨q, 0, none⟩ = some (.int .i64 s.1) ∧ w1.cell? ⟨q, 1, none⟩ = some (.int .i64 s.2) := ⟨c0, c1, c3, c2, q0, q1⟩
  clear hlen i1 i2 hw1 hq ehl ehr bl br h1 h2 hx hy b1 rs0 h3 ehm ehf ok
  obtain ⟨s1, s2⟩ := s
  obtain ⟨rs1, rs2⟩ := rs
  dsimp only at *
  go_enter Try.func46, Try.ntmps46
  go_upto_region 1 with (fail)
  rw [← HB.out.1, ← HB.out.2.1]
  go_wp2_with (first | (go_at_call 40; (with_reducible refine t1.mono ?_); rintro e wt ⟨rfl, rfl⟩) | (go_at_call 40; (with_reducible refine t2.mono ?_); rintro e wt ⟨rfl, rfl⟩) | fail)
  go_quiet (first | (go_at_call 40; with_reducible exact Calls.quiet_of_same (t3 _ rfl)) | (go_at_call 40; with_reducible exact Calls.quiet_of_same (t4 _ rfl)))
  go_upto_region 10 with (fail)
  go_region_held3 (fun v => v.cell? ⟨yb, 0, none⟩ = some (.int .i64 rs1) ∧ v.cell? ⟨yb, 1, none⟩ = some (.int .i64 rs2) ∧ v.cell? ⟨yb, 2, none⟩ = some (.pointer om) ∧ v.cell? ⟨yb, 3, none⟩ = some (.pointer ol) ∧ v.cell? ⟨q, 0, none⟩ = some (.int .i64 s1) ∧ v.cell? ⟨q, 1, none⟩ = some (.int .i64 s2))
    (first | exact hs | exact hsb | exact hsz)
    (first | (go_at_call 47; (with_reducible refine (c_2 _ ?_).mono ?_); (focus exact below_dN (Below.refl _ _) _); rintro e wb ⟨gb, rfl, nb1, bb0, bb⟩; have hsb := keep_rs bb0 hs) | (go_at_call 47; (with_reducible refine (made_p nb1 (nl.call bb) ok3).mono ?_); rintro e wz ⟨gz, rfl, -, nz, bz0⟩; have hsz := keep_rs bz0 hsb) | fail)
  all_goals
    go_wp2_with fail
    go_ret
    exact ⟨gz, _, rfl, nz, LV.out, HB.out.2.2.trans ((bb.trans (bz0.mono bb.size)).mono HB.out.2.2.size)⟩
set_option maxHeartbeats 4000000 in
set_option maxRecDepth 100000 in
theorem level_md {l r : Nd} {s : Nat × Nat} {x y : Value} (hx : NdAt w l x) (hy : NdAt w r y) (bl : l.bal) (br : r.bal) (ok : OkS (l.L ++ s :: r.L)) (h1 : ¬ r.ht + 1 < l.ht) (h2 : ¬ l.ht + 1 < r.ht) : Calls Try.prog 46 #[x, .agg #[.int .i64 s.1, .int .i64 s.2], y] w fun e w' => ∃ g T, e = .returned (.pointer (some ⟨g, 0, none⟩)) ∧ NdAt w' T (.pointer (some ⟨g, 0, none⟩)) ∧ LvOk l s r T ∧ Below w.heap.size w w' := by
  have hlen := ok.len
  rw [List.length_append, List.length_cons] at hlen
  have i1 := Nd.ht_le l
  have i2 := Nd.ht_le r
  obtain ⟨w1, hw1⟩ : ∃ w1, w1 = w.alloc (.cells #[.int .i64 s.1, .int .i64 s.2] 61) := ⟨_, rfl⟩
  obtain ⟨q, hq⟩ : ∃ q, q = w.heap.size := ⟨_, rfl⟩
  have rs0 : Lrow w1 q 61 [.int .i64 s.1, .int .i64 s.2] := by rw [hw1, hq]; exact Lrow.new w _ _
  have b1 : Below w.heap.size w w1 := by rw [hw1]; exact below_new _ _
  obtain ⟨hl, ehl⟩ : ∃ z : Int, z = (l.ht : Nat) := ⟨_, rfl⟩
  obtain ⟨hr, ehr⟩ : ∃ z : Int, z = (r.ht : Nat) := ⟨_, rfl⟩
  have LV := Lib.hid (lv_made (s := s) bl br h1 h2)
  have hx1 := hx.call b1
  have hy1 := hy.call b1
  have t1 := tall_p hx1
  have t2 := tall_p hy1
  rw [← ehl] at t1
  rw [← ehr] at t2
  have g1 : ¬ hr + 1 < hl := by omega
  have e1 : IntKind.i64.wrap (hr + 1) = hr + 1 := IntWalk.i64_in _ (by omega)
  have e2 : IntKind.i64.wrap (hl + 1) = hl + 1 := IntWalk.i64_in _ (by omega)
  have g2 : ¬ hl + 1 < hr := by omega
  have ok3 : OkS (Nd.node l s r).L := ok
  have c_3 := made_p hx1 hy1 ok3
  have HB := Lib.hid (And.intro hw1 (And.intro hq b1))
  have HQ := Lib.hid rs0
  have q0 := rs0.cell 0
  have q1 := rs0.cell 1
  clear hlen i1 i2 hw1 hq ehl ehr bl br h1 h2 hx hy b1 rs0 ok
  obtain ⟨s1, s2⟩ := s
  dsimp only at *
  go_enter Try.func46, Try.ntmps46
  go_upto_region 1 with (fail)
  rw [← HB.out.1, ← HB.out.2.1]
  go_wp2_with (first | (go_at_call 40; (with_reducible refine t1.mono ?_); rintro e wt ⟨rfl, rfl⟩) | (go_at_call 40; (with_reducible refine t2.mono ?_); rintro e wt ⟨rfl, rfl⟩) | (go_at_call 47; (with_reducible refine c_3.mono ?_); rintro e w9 ⟨g9, rfl, -, n9, b9⟩) | fail)
  go_ret
  exact ⟨g9, _, rfl, n9, LV.out, HB.out.2.2.trans (b9.mono HB.out.2.2.size)⟩
theorem level_p (hx : NdAt w l x) (hy : NdAt w r y) (bl : l.bal) (br : r.bal) (ok : OkS (l.L ++ s :: r.L)) (h1 : l.ht ≤ r.ht + 2) (h2 : r.ht ≤ l.ht + 2) : Calls Try.prog 46 #[x, .agg #[.int .i64 s.1, .int .i64 s.2], y] w fun e w' => ∃ g T, e = .returned (.pointer (some ⟨g, 0, none⟩)) ∧ NdAt w' T (.pointer (some ⟨g, 0, none⟩)) ∧ LvOk l s r T ∧ Below w.heap.size w w' := by
  by_cases c1 : r.ht + 1 < l.ht
  · cases l with
    | nil => have : (Nd.nil).ht = 0 := rfl; omega
    | node ll ls lr =>
      by_cases c2 : ll.ht < lr.ht
      · cases lr with
        | nil => have : (Nd.nil).ht = 0 := rfl; omega
        | node a m b => exact level_ld hx hy bl br ok c1 h1 c2
      · exact level_ls hx hy bl br ok c1 h1 c2
  · by_cases c3 : l.ht + 1 < r.ht
    · cases r with
      | nil => have : (Nd.nil).ht = 0 := rfl; omega
      | node rl rs rr =>
        by_cases c2 : rr.ht < rl.ht
        · cases rl with
          | nil => have : (Nd.nil).ht = 0 := rfl; omega
          | node a m b => exact level_rd hx hy bl br ok c3 h2 c2
        · exact level_rs hx hy bl br ok c3 h2 c2
    · exact level_md hx hy bl br ok c1 c3
end
end Go.Proofs.Ytekfkglielmfaaa
