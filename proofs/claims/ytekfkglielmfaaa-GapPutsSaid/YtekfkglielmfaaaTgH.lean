/- The program's tree: joined. -/
import Derived.Test.YtekfkglielmfaaaTgG
namespace Go.Proofs.Ytekfkglielmfaaa
open Go.RowKit
/-- joined, for trees whose heights are together below n. -/
def JnTo (n : Nat) : Prop := ∀ (w : World) (l r : Nd) (s : Nat × Nat) (x y : Value), l.ht + r.ht < n → NdAt w l x → NdAt w r y → l.bal → r.bal → OkS (l.L ++ s :: r.L) → Calls Try.prog 39 #[x, .agg #[.int .i64 s.1, .int .i64 s.2], y] w fun e w' => ∃ g T, e = .returned (.pointer (some ⟨g, 0, none⟩)) ∧ NdAt w' T (.pointer (some ⟨g, 0, none⟩)) ∧ LvOk l s r T ∧ Below w.heap.size w w'
section
variable {w w' W W' : World} {T l r : Nd} {s : Nat × Nat} {v x y : Value} {g q b o n : Nat} {h f a z : Int}
theorem JnTo.in_ (j : JnTo n) (hx : NdAt w l x) (hy : NdAt w r y) (hn : l.ht + r.ht < n) (bl : l.bal) (br : r.bal) (ok : OkS (l.L ++ s :: r.L)) : ∀ W, Below w.heap.size w W → Calls Try.prog 39 #[x, .agg #[.int .i64 s.1, .int .i64 s.2], y] W fun e w' => ∃ g T, e = .returned (.pointer (some ⟨g, 0, none⟩)) ∧ NdAt w' T (.pointer (some ⟨g, 0, none⟩)) ∧ LvOk l s r T ∧ Below W.heap.size W w' ∧ Below w.heap.size w w' := fun W hb =>
  (j W l r s x y hn (hx.call hb) (hy.call hb) bl br ok).mono fun _ _ ⟨g, T, h1, h2, h3, h4⟩ => ⟨g, T, h1, h2, h3, h4, hb.trans (h4.mono hb.size)⟩
set_option maxHeartbeats 4000000 in
set_option maxRecDepth 100000 in
theorem joined_l {ll lr r : Nd} {ls s : Nat × Nat} {x y : Value} (j : JnTo ((Nd.node ll ls lr).ht + r.ht)) (hx : NdAt w (Nd.node ll ls lr) x) (hy : NdAt w r y) (bl : (Nd.node ll ls lr).bal) (br : r.bal) (ok : OkS ((Nd.node ll ls lr).L ++ s :: r.L)) (h1 : r.ht + 1 < (Nd.node ll ls lr).ht) : Calls Try.prog 39 #[x, .agg #[.int .i64 s.1, .int .i64 s.2], y] w fun e w' => ∃ g T, e = .returned (.pointer (some ⟨g, 0, none⟩)) ∧ NdAt w' T (.pointer (some ⟨g, 0, none⟩)) ∧ LvOk (Nd.node ll ls lr) s r T ∧ Below w.heap.size w w' := by
  have hlen := ok.len
  rw [List.length_append, List.length_cons] at hlen
  have i1 := Nd.ht_le (Nd.node ll ls lr)
  have i2 := Nd.ht_le r
  obtain ⟨w1, hw1⟩ : ∃ w1, w1 = w.alloc (.cells #[.int .i64 s.1, .int .i64 s.2] 61) := ⟨_, rfl⟩
  obtain ⟨q, hq⟩ : ∃ q, q = w.heap.size := ⟨_, rfl⟩
  have rs0 : Lrow w1 q 61 [.int .i64 s.1, .int .i64 s.2] := by rw [hw1, hq]; exact Lrow.new w _ _
  have b1 : Below w.heap.size w w1 := by rw [hw1]; exact below_new _ _
  obtain ⟨hl, ehl⟩ : ∃ z : Int, z = ((Nd.node ll ls lr).ht : Nat) := ⟨_, rfl⟩
  obtain ⟨hr, ehr⟩ : ∃ z : Int, z = (r.ht : Nat) := ⟨_, rfl⟩
  have hx1 := hx.call b1
  have hy1 := hy.call b1
  have t1 := tall_p hx1
  have t2 := tall_p hy1
  rw [← ehl] at t1
  rw [← ehr] at t2
  obtain ⟨xb, rfl⟩ := hx1.open_
  obtain ⟨ol, om, nl, nm, c0, c1, c2, c3, -⟩ := hx1.cells
  have g1 : hr + 1 < hl := by omega
  have e1 : IntKind.i64.wrap (hr + 1) = hr + 1 := IntWalk.i64_in _ (by omega)
  have hb0 := Nd.bal_node.1 bl
  have h0 := Nd.ht_node ll ls lr
  have okT : ∀ T, LvOk lr s r T → OkS (ll.L ++ ls :: T.L) := fun T hT => by rw [hT.L]; simpa [Nd.L_node] using ok
  have dT1 : ∀ T, LvOk lr s r T → ll.ht ≤ T.ht + 2 := fun T hT => by have := hT.lo; omega
  have dT2 : ∀ T, LvOk lr s r T → T.ht ≤ ll.ht + 2 := fun T hT => by have := hT.hi; have := hT.ex; omega
  have FIN : Hid (∀ T T', LvOk lr s r T → LvOk ll ls T T' → LvOk (.node ll ls lr) s r T') := fun T T' a b => jn_right bl h1 a b
  have c_1 := j.in_ nm hy1 (by omega) hb0.2.1 br (OkS.right (L := ll.L ++ [ls]) (by simpa [Nd.L_node] using ok))
  have hbl := hb0.1
  have hs : w1.cell? ⟨xb, 0, none⟩ = some (.int .i64 ls.1) ∧ w1.cell? ⟨xb, 1, none⟩ = some (.int .i64 ls.2) ∧ w1.cell? ⟨xb, 2, none⟩ = some (.pointer ol) ∧ w1.cell? ⟨xb, 3, none⟩ = some (.pointer om) ∧ w1.cell? ⟨q, 0, none⟩ = some (.int .i64 s.1) ∧ w1.cell? ⟨q, 1, none⟩ = some (.int .i64 s.2) := ⟨c0, c1, c2, c3, rs0.cell 0, rs0.cell 1⟩
  have HB := Lib.hid (And.intro hw1 (And.intro hq b1))
  have HQ := Lib.hid rs0
  have q0 := rs0.cell 0
  have q1 := rs0.cell 1
  clear hlen i1 i2 hw1 hq ehl ehr bl br h1 hx hy b1 rs0 ok hb0 h0 j
  obtain ⟨s1, s2⟩ := s
  obtain ⟨ls1, ls2⟩ := ls
  dsimp only at *
  go_enter Try.func39, Try.ntmps39
  go_upto_region 1 with (fail)
  rw [← HB.out.1, ← HB.out.2.1]
  go_wp2_with (first | (go_at_call 40; (with_reducible refine t1.mono ?_); rintro e wt ⟨rfl, rfl⟩) | (go_at_call 40; (with_reducible refine t2.mono ?_); rintro e wt ⟨rfl, rfl⟩) | fail)
  go_region_held3 (fun v => v.cell? ⟨xb, 0, none⟩ = some (.int .i64 ls1) ∧ v.cell? ⟨xb, 1, none⟩ = some (.int .i64 ls2) ∧ v.cell? ⟨xb, 2, none⟩ = some (.pointer ol) ∧ v.cell? ⟨xb, 3, none⟩ = some (.pointer om) ∧ v.cell? ⟨q, 0, none⟩ = some (.int .i64 s1) ∧ v.cell? ⟨q, 1, none⟩ = some (.int .i64 s2))
    (first | exact hs | exact hsa | exact hsz)
    (first | (go_at_call 39; (with_reducible refine (c_1 _ ?_).mono ?_); (focus exact below_dN (Below.refl _ _) _); rintro e wa ⟨ga, Ta, rfl, nT, hT, ba0, ba⟩; have hsa := keep_ls ba0 hs) | (go_at_call 46; (with_reducible refine (level_p (nl.call ba) nT hbl hT.bal (okT _ hT) (dT1 _ hT) (dT2 _ hT)).mono ?_); rintro e wz ⟨gz, Tz, rfl, nz, hz, bz0⟩; have hsz := keep_ls bz0 hsa) | fail)
  all_goals
    go_wp2_with fail
    go_ret
    exact ⟨gz, Tz, rfl, nz, FIN.out _ _ hT hz, HB.out.2.2.trans ((ba.trans (bz0.mono ba.size)).mono HB.out.2.2.size)⟩
set_option maxHeartbeats 4000000 in
set_option maxRecDepth 100000 in
theorem joined_r {l rl rr : Nd} {s rs : Nat × Nat} {x y : Value} (j : JnTo (l.ht + (Nd.node rl rs rr).ht)) (hx : NdAt w l x) (hy : NdAt w (Nd.node rl rs rr) y) (bl : l.bal) (br : (Nd.node rl rs rr).bal) (ok : OkS (l.L ++ s :: (Nd.node rl rs rr).L)) (h1 : l.ht + 1 < (Nd.node rl rs rr).ht) : Calls Try.prog 39 #[x, .agg #[.int .i64 s.1, .int .i64 s.2], y] w fun e w' => ∃ g T, e = .returned (.pointer (some ⟨g, 0, none⟩)) ∧ NdAt w' T (.pointer (some ⟨g, 0, none⟩)) ∧ LvOk l s (Nd.node rl rs rr) T ∧ Below w.heap.size w w' := by
  have hlen := ok.len
  rw [List.length_append, List.length_cons] at hlen
  have i1 := Nd.ht_le l
  have i2 := Nd.ht_le (Nd.node rl rs rr)
  obtain ⟨w1, hw1⟩ : ∃ w1, w1 = w.alloc (.cells #[.int .i64 s.1, .int .i64 s.2] 61) := ⟨_, rfl⟩
  obtain ⟨q, hq⟩ : ∃ q, q = w.heap.size := ⟨_, rfl⟩
  have rs0 : Lrow w1 q 61 [.int .i64 s.1, .int .i64 s.2] := by rw [hw1, hq]; exact Lrow.new w _ _
  have b1 : Below w.heap.size w w1 := by rw [hw1]; exact below_new _ _
  obtain ⟨hl, ehl⟩ : ∃ z : Int, z = (l.ht : Nat) := ⟨_, rfl⟩
  obtain ⟨hr, ehr⟩ : ∃ z : Int, z = ((Nd.node rl rs rr).ht : Nat) := ⟨_, rfl⟩
  have hx1 := hx.call b1
  have hy1 := hy.call b1
  have t1 := tall_p hx1
  have t2 := tall_p hy1
  rw [← ehl] at t1
  rw [← ehr] at t2
  obtain ⟨yb, rfl⟩ := hy1.open_
  obtain ⟨om, ol, nm, nl, c0, c1, c3, c2, -⟩ := hy1.cells
  have g1 : ¬ hr + 1 < hl := by omega
  have e1 : IntKind.i64.wrap (hr + 1) = hr + 1 := IntWalk.i64_in _ (by omega)
  have g2 : hl + 1 < hr := by omega
  have e2 : IntKind.i64.wrap (hl + 1) = hl + 1 := IntWalk.i64_in _ (by omega)
  have hb0 := Nd.bal_node.1 br
  have h0 := Nd.ht_node rl rs rr
  have okT : ∀ T, LvOk l s rl T → OkS (T.L ++ rs :: rr.L) := fun T hT => by rw [hT.L]; simpa [Nd.L_node] using ok
  have dT1 : ∀ T, LvOk l s rl T → T.ht ≤ rr.ht + 2 := fun T hT => by have := hT.hi; have := hT.ex; omega
  have dT2 : ∀ T, LvOk l s rl T → rr.ht ≤ T.ht + 2 := fun T hT => by have := hT.lo; omega
  have FIN : Hid (∀ T T', LvOk l s rl T → LvOk T rs rr T' → LvOk l s (.node rl rs rr) T') := fun T T' a b => jn_left br h1 a b
  have c_1 := j.in_ hx1 nm (by omega) bl hb0.1 (OkS.mid (A := []) (B := rs :: rr.L) (by simpa [Nd.L_node] using ok))
  have hbl := hb0.2.1
  have hs : w1.cell? ⟨yb, 0, none⟩ = some (.int .i64 rs.1) ∧ w1.cell? ⟨yb, 1, none⟩ = some (.int .i64 rs.2) ∧ w1.cell? ⟨yb, 2, none⟩ = some (.pointer om) ∧ w1.cell? ⟨yb, 3, none⟩ = some (.pointer ol) ∧ w1.cell? ⟨q, 0, none⟩ = some (.int .i64 s.1) ∧ w1.cell? ⟨q, 1, none⟩ = some (.int .i64 s.2) := ⟨c0, c1, c3, c2, rs0.cell 0, rs0.cell 1⟩
  have HB := Lib.hid (And.intro hw1 (And.intro hq b1))
  have HQ := Lib.hid rs0
  have q0 := rs0.cell 0
  have q1 := rs0.cell 1
  clear hlen i1 i2 hw1 hq ehl ehr bl br h1 hx hy b1 rs0 ok hb0 h0 j
  obtain ⟨s1, s2⟩ := s
  obtain ⟨rs1, rs2⟩ := rs
  dsimp only at *
  go_enter Try.func39, Try.ntmps39
  go_upto_region 1 with (fail)
  rw [← HB.out.1, ← HB.out.2.1]
  go_wp2_with (first | (go_at_call 40; (with_reducible refine t1.mono ?_); rintro e wt ⟨rfl, rfl⟩) | (go_at_call 40; (with_reducible refine t2.mono ?_); rintro e wt ⟨rfl, rfl⟩) | fail)
  go_region_held3 (fun v => v.cell? ⟨yb, 0, none⟩ = some (.int .i64 rs1) ∧ v.cell? ⟨yb, 1, none⟩ = some (.int .i64 rs2) ∧ v.cell? ⟨yb, 2, none⟩ = some (.pointer om) ∧ v.cell? ⟨yb, 3, none⟩ = some (.pointer ol) ∧ v.cell? ⟨q, 0, none⟩ = some (.int .i64 s1) ∧ v.cell? ⟨q, 1, none⟩ = some (.int .i64 s2))
    (first | exact hs | exact hsa | exact hsz)
    (first | (go_at_call 39; (with_reducible refine (c_1 _ ?_).mono ?_); (focus exact below_dN (Below.refl _ _) _); rintro e wa ⟨ga, Ta, rfl, nT, hT, ba0, ba⟩; have hsa := keep_rs ba0 hs) | (go_at_call 46; (with_reducible refine (level_p nT (nl.call ba) hT.bal hbl (okT _ hT) (dT1 _ hT) (dT2 _ hT)).mono ?_); rintro e wz ⟨gz, Tz, rfl, nz, hz, bz0⟩; have hsz := keep_rs bz0 hsa) | fail)
  all_goals
    go_wp2_with fail
    go_ret
    exact ⟨gz, Tz, rfl, nz, FIN.out _ _ hT hz, HB.out.2.2.trans ((ba.trans (bz0.mono ba.size)).mono HB.out.2.2.size)⟩
set_option maxHeartbeats 4000000 in
set_option maxRecDepth 100000 in
theorem joined_m {l r : Nd} {s : Nat × Nat} {x y : Value} (hx : NdAt w l x) (hy : NdAt w r y) (bl : l.bal) (br : r.bal) (ok : OkS (l.L ++ s :: r.L)) (h1 : ¬ r.ht + 1 < l.ht) (h2 : ¬ l.ht + 1 < r.ht) : Calls Try.prog 39 #[x, .agg #[.int .i64 s.1, .int .i64 s.2], y] w fun e w' => ∃ g T, e = .returned (.pointer (some ⟨g, 0, none⟩)) ∧ NdAt w' T (.pointer (some ⟨g, 0, none⟩)) ∧ LvOk l s r T ∧ Below w.heap.size w w' := by
  have hlen := ok.len
  rw [List.length_append, List.length_cons] at hlen
  have i1 := Nd.ht_le l
  have i2 := Nd.ht_le r
  obtain ⟨w1, hw1⟩ : ∃ w1, w1 = w.alloc (.cells #[.int .i64 s.1, .int .i64 s.2] 61) := ⟨_, rfl⟩
  obtain ⟨q, hq⟩ : ∃ q, q = w.heap.size := ⟨_, rfl⟩
  have rs0 : Lrow w1 q 61 [.int .i64 s.1, .int .i64 s.2] := by rw [hw1, hq]; exact Lrow.new w _ _
  have b1 : Below w.heap.size w w1 := by rw [hw1]; exact below_new _ _
  obtain ⟨hl, ehl⟩ : ∃ z : Int, z = (l.ht : Nat) := ⟨_, rfl⟩
  obtain ⟨hr, ehr⟩ : ∃ z : Int, z = (r.ht : Nat) := ⟨_, rfl⟩
  have hx1 := hx.call b1
  have hy1 := hy.call b1
  have t1 := tall_p hx1
  have t2 := tall_p hy1
  rw [← ehl] at t1
  rw [← ehr] at t2
  have g1 : ¬ hr + 1 < hl := by omega
  have e1 : IntKind.i64.wrap (hr + 1) = hr + 1 := IntWalk.i64_in _ (by omega)
  have g2 : ¬ hl + 1 < hr := by omega
  have e2 : IntKind.i64.wrap (hl + 1) = hl + 1 := IntWalk.i64_in _ (by omega)
  have LV := Lib.hid (lv_made (s := s) bl br h1 h2)
  have c_3 := made_p (s := s) hx1 hy1 ok
  have HB := Lib.hid (And.intro hw1 (And.intro hq b1))
  have HQ := Lib.hid rs0
  have q0 := rs0.cell 0
  have q1 := rs0.cell 1
  clear hlen i1 i2 hw1 hq ehl ehr bl br h1 hx hy b1 rs0 ok h2
  obtain ⟨s1, s2⟩ := s
  dsimp only at *
  go_enter Try.func39, Try.ntmps39
  go_upto_region 1 with (fail)
  rw [← HB.out.1, ← HB.out.2.1]
  go_wp2_with (first | (go_at_call 40; (with_reducible refine t1.mono ?_); rintro e wt ⟨rfl, rfl⟩) | (go_at_call 40; (with_reducible refine t2.mono ?_); rintro e wt ⟨rfl, rfl⟩) | (go_at_call 47; (with_reducible refine c_3.mono ?_); rintro e w9 ⟨g9, rfl, -, n9, b9⟩) | fail)
  go_ret
  exact ⟨g9, _, rfl, n9, LV.out, HB.out.2.2.trans (b9.mono HB.out.2.2.size)⟩
theorem joined_to : ∀ n, JnTo n
  | 0 => fun _ _ _ _ _ _ h => absurd h (Nat.not_lt_zero _)
  | n + 1 => fun w l r s x y hn hx hy bl br ok => by
    have ih : JnTo n := joined_to n
    have ih' : ∀ k, k ≤ n → JnTo k := fun k hk w l r s x y h => ih w l r s x y (by omega)
    by_cases c1 : r.ht + 1 < l.ht
    · cases l with
      | nil => have : (Nd.nil).ht = 0 := rfl; omega
      | node ll ls lr => exact joined_l (ih' _ (by omega)) hx hy bl br ok c1
    · by_cases c3 : l.ht + 1 < r.ht
      · cases r with
        | nil => have : (Nd.nil).ht = 0 := rfl; omega
        | node rl rs rr => exact joined_r (ih' _ (by omega)) hx hy bl br ok c3
      · exact joined_m hx hy bl br ok c1 c3
theorem joined_p (hx : NdAt w l x) (hy : NdAt w r y) (bl : l.bal) (br : r.bal) (ok : OkS (l.L ++ s :: r.L)) : Calls Try.prog 39 #[x, .agg #[.int .i64 s.1, .int .i64 s.2], y] w fun e w' => ∃ g T, e = .returned (.pointer (some ⟨g, 0, none⟩)) ∧ NdAt w' T (.pointer (some ⟨g, 0, none⟩)) ∧ LvOk l s r T ∧ Below w.heap.size w w' := joined_to (l.ht + r.ht + 1) w l r s x y (by omega) hx hy bl br ok
theorem joined_w (hx : NdAt w l x) (hy : NdAt w r y) (bl : l.bal) (br : r.bal) (ok : OkS (l.L ++ s :: r.L)) : ∀ W, Below w.heap.size w W → Calls Try.prog 39 #[x, .agg #[.int .i64 s.1, .int .i64 s.2], y] W fun e w' => ∃ g T, e = .returned (.pointer (some ⟨g, 0, none⟩)) ∧ NdAt w' T (.pointer (some ⟨g, 0, none⟩)) ∧ LvOk l s r T ∧ Below W.heap.size W w' ∧ Below w.heap.size w w' := (joined_to (l.ht + r.ht + 1)).in_ hx hy (by omega) bl br ok
end
end Go.Proofs.Ytekfkglielmfaaa
