/- A call of both memories: Block, One. -/
import Derived.Test.YtklhcgekagimkaaGreatMg41
import Derived.Deep.RegionHeld3
import Derived.BigQuiet
namespace Go.Proofs.YtklhcgekagimkaaGreat
open Go.RowKit
section
variable {w : World} {B n mk : Nat} {p : Pn} {r : Rn} {M : Me}
set_option maxHeartbeats 8000000 in
set_option maxRecDepth 100000 in
theorem do_block (hst : StE B w p r n mk M) (ok : MeOk n M) (hk : mk ≤ n) {K Fr Or Of Is N : Int} (hK : K = 0 ∨ K = 1 ∨ K = 2) : Calls Tryz.prog 27 #[.pointer (some ⟨p.m, 0, none⟩), .pointer (some ⟨r.x, 0, none⟩), .agg #[.int .i64 K, .int .i64 Fr, .int .i64 Or, .int .i64 Of, .int .i64 Is, .int .i64 N]] w fun e w' => e = .returned (.bool true) ∧ StE B w' p r n mk (blM M mk Or Of Is) ∧ Below B w w' := by
  obtain ⟨X, v, p0, r0, d0⟩ := hst
  obtain ⟨W0, hW0⟩ : ∃ W0, W0 = w.alloc (.cells #[.int .i64 K, .int .i64 Fr, .int .i64 Or, .int .i64 Of, .int .i64 Is, .int .i64 N] 59) := ⟨_, rfl⟩
  obtain ⟨q, hq⟩ : ∃ q, q = w.heap.size := ⟨_, rfl⟩
  have g0 : Below w.heap.size w W0 := by rw [hW0]; exact below_new _ _
  have rs : Lrow W0 q 59 [.int .i64 K, .int .i64 Fr, .int .i64 Or, .int .i64 Of, .int .i64 Is, .int .i64 N] := by rw [hW0, hq]; exact Lrow.new w _ _
  have HQ : Hid (¬ MineP p X q ∧ ¬ MineR r v q) := ⟨fun e => by have := (p0.mine e).2; omega, fun e => by have := (r0.mine e).2; omega⟩
  have HB0 : Hid (Below B w W0) := g0.mono p0.size
  have q0 := rs.cell 0
  have q1 := rs.cell 1
  have q2 := rs.cell 2
  have q3 := rs.cell 3
  have q4 := rs.cell 4
  have q5 := rs.cell 5
  have hp := p0.call g0
  have hr := r0.call g0
  have h1 := block_m hp ok hk Or Of Is
  have HR := Lib.hid (And.intro hp (And.intro hr (And.intro ok (And.intro hk (And.intro d0 rs)))))
  have hR0 : ∀ {w1 : World}, RmX B w1 r v n mk M → Calls Tryz.prog 54 #[.pointer (some ⟨r.x, 0, none⟩), .int .i64 Or, .int .i64 Of, .int .i64 Is] w1 fun e w' => e = .returned (.tuple #[.int .i64 (blV M mk Or Of Is), .int .i64 (blE M mk Or Of Is)]) ∧ RDid B r v n mk (blM M mk Or Of Is) w1 w' := fun h => rblock_any h ok hk Or Of Is
  generalize blV M mk Or Of Is = V at *
  generalize blE M mk Or Of Is = E at *
  generalize blM M mk Or Of Is = M' at *
  have HRB := Lib.hid (fun (w1 : World) (h : RmX B w1 r v n mk M) => hR0 h)
  have HW := Lib.hid (And.intro hW0 hq)
  clear hW0 hq g0 rs p0 r0 d0 ok hk hp hr hR0
  rcases hK with rfl | rfl | rfl
  all_goals
    go_enter Tryz.func27, Tryz.ntmps27
    go_upto_region 1 with (fail)
    rw [← HW.out.1, ← HW.out.2]
    go_wp2_with fail
    refine h1.mono ?_
    rintro e w3 ⟨rfl, hd3⟩
    obtain ⟨k1, k2, k3, k4⟩ := two_step HR.out.1 HR.out.2.1 HR.out.2.2.2.2.1 hd3
    have rs3 := k3 HR.out.2.2.2.2.2 HQ.out.1
    have t0 := rs3.cell 0
    have t1 := rs3.cell 1
    have t2 := rs3.cell 2
    have t3 := rs3.cell 3
    have t4 := rs3.cell 4
    have t5 := rs3.cell 5
    have h2 := HRB.out w3 k1
    have HK2 := Lib.hid k2
    clear hd3 k1 k2 k3 k4 rs3 q0 q1 q2 q3 q4 q5 h1
    go_wp2_with fail
    refine h2.mono ?_
    rintro e w4 ⟨rfl, hd4⟩
    have HD := Lib.hid (HK2.out _ hd4)
    clear hd4 h2 t0 t1 t2 t3 t4 t5
    go_wp2_with fail
    go_ret
    exact ⟨ret_bool (by simp), HD.out.1, HB0.out.trans (HD.out.2.mono (Nat.le_refl _))⟩
set_option maxHeartbeats 8000000 in
set_option maxRecDepth 100000 in
theorem do_one (hst : StE B w p r n mk M) (ok : MeOk n M) (hk : mk ≤ n) {K Fr Or Of Is N : Int} (k0 : K ≠ 0) (k1 : K ≠ 1) (k2 : K ≠ 2) (k3 : K ≠ 3) (k4 : K ≠ 4) (k5 : K ≠ 5) (k6 : K ≠ 6) (k7 : K ≠ 7) : Calls Tryz.prog 27 #[.pointer (some ⟨p.m, 0, none⟩), .pointer (some ⟨r.x, 0, none⟩), .agg #[.int .i64 K, .int .i64 Fr, .int .i64 Or, .int .i64 Of, .int .i64 Is, .int .i64 N]] w fun e w' => e = .returned (.bool true) ∧ StE B w' p r n mk (blM M mk 0 Of Is) ∧ Below B w w' := by
  obtain ⟨X, v, p0, r0, d0⟩ := hst
  obtain ⟨W0, hW0⟩ : ∃ W0, W0 = w.alloc (.cells #[.int .i64 K, .int .i64 Fr, .int .i64 Or, .int .i64 Of, .int .i64 Is, .int .i64 N] 59) := ⟨_, rfl⟩
  obtain ⟨q, hq⟩ : ∃ q, q = w.heap.size := ⟨_, rfl⟩
  have g0 : Below w.heap.size w W0 := by rw [hW0]; exact below_new _ _
  have rs : Lrow W0 q 59 [.int .i64 K, .int .i64 Fr, .int .i64 Or, .int .i64 Of, .int .i64 Is, .int .i64 N] := by rw [hW0, hq]; exact Lrow.new w _ _
  have HQ : Hid (¬ MineP p X q ∧ ¬ MineR r v q) := ⟨fun e => by have := (p0.mine e).2; omega, fun e => by have := (r0.mine e).2; omega⟩
  have HB0 : Hid (Below B w W0) := g0.mono p0.size
  have q0 := rs.cell 0
  have q1 := rs.cell 1
  have q2 := rs.cell 2
  have q3 := rs.cell 3
  have q4 := rs.cell 4
  have q5 := rs.cell 5
  have hp := p0.call g0
  have hr := r0.call g0
  have h1 := one_m hp ok hk Of Is
  have HR := Lib.hid (And.intro hp (And.intro hr (And.intro ok (And.intro hk (And.intro d0 rs)))))
  have hR0 : ∀ {w1 : World}, RmX B w1 r v n mk M → Calls Tryz.prog 54 #[.pointer (some ⟨r.x, 0, none⟩), .int .i64 0, .int .i64 Of, .int .i64 Is] w1 fun e w' => e = .returned (.tuple #[.int .i64 (blV M mk 0 Of Is), .int .i64 (blE M mk 0 Of Is)]) ∧ RDid B r v n mk (blM M mk 0 Of Is) w1 w' := fun h => rblock_any h ok hk 0 Of Is
  generalize blV M mk 0 Of Is = V at *
  generalize blE M mk 0 Of Is = E at *
  generalize blM M mk 0 Of Is = M' at *
  have HRB := Lib.hid (fun (w1 : World) (h : RmX B w1 r v n mk M) => hR0 h)
  have HW := Lib.hid (And.intro hW0 hq)
  clear hW0 hq g0 rs p0 r0 d0 ok hk hp hr hR0
  have n0 : (K == 0) = false := by simpa using k0
  have n1 : (K == 1) = false := by simpa using k1
  have n2 : (K == 2) = false := by simpa using k2
  have n3 : (K == 3) = false := by simpa using k3
  have n4 : (K == 4) = false := by simpa using k4
  have n5 : (K == 5) = false := by simpa using k5
  have n6 : (K == 6) = false := by simpa using k6
  have n7 : (K == 7) = false := by simpa using k7
  clear k0 k1 k2 k3 k4 k5 k6 k7
  go_enter Tryz.func27, Tryz.ntmps27
  go_upto_region 1 with (fail)
  rw [← HW.out.1, ← HW.out.2]
  go_wp2_with fail
  refine h1.mono ?_
  rintro e w3 ⟨rfl, hd3⟩
  obtain ⟨k1, k2, k3, k4⟩ := two_step HR.out.1 HR.out.2.1 HR.out.2.2.2.2.1 hd3
  have rs3 := k3 HR.out.2.2.2.2.2 HQ.out.1
  have t0 := rs3.cell 0
  have t1 := rs3.cell 1
  have t2 := rs3.cell 2
  have t3 := rs3.cell 3
  have t4 := rs3.cell 4
  have t5 := rs3.cell 5
  have h2 := HRB.out w3 k1
  have HK2 := Lib.hid k2
  clear hd3 k1 k2 k3 k4 rs3 q0 q1 q2 q3 q4 q5 h1
  go_wp2_with fail
  refine h2.mono ?_
  rintro e w4 ⟨rfl, hd4⟩
  have HD := Lib.hid (HK2.out _ hd4)
  clear hd4 h2 t0 t1 t2 t3 t4 t5
  go_wp2_with fail
  go_ret
  exact ⟨ret_bool (by simp), HD.out.1, HB0.out.trans (HD.out.2.mono (Nat.le_refl _))⟩
end
end Go.Proofs.YtklhcgekagimkaaGreat
/- A call of both memories: At, Drop. -/
namespace Go.Proofs.YtklhcgekagimkaaGreat
open Go.RowKit
section
variable {w : World} {B n mk : Nat} {p : Pn} {r : Rn} {M : Me}
set_option maxHeartbeats 8000000 in
set_option maxRecDepth 100000 in
theorem do_at (hst : StE B w p r n mk M) (ok : MeOk n M) {K Fr Or Of Is N : Int} (hK : K = 3) (hf : Fits Fr) : Calls Tryz.prog 27 #[.pointer (some ⟨p.m, 0, none⟩), .pointer (some ⟨r.x, 0, none⟩), .agg #[.int .i64 K, .int .i64 Fr, .int .i64 Or, .int .i64 Of, .int .i64 Is, .int .i64 N]] w fun e w' => e = .returned (.bool true) ∧ StE B w' p r n mk (atM M Fr Or Is) ∧ Below B w w' := by
  obtain ⟨X, v, p0, r0, d0⟩ := hst
  obtain ⟨W0, hW0⟩ : ∃ W0, W0 = w.alloc (.cells #[.int .i64 K, .int .i64 Fr, .int .i64 Or, .int .i64 Of, .int .i64 Is, .int .i64 N] 59) := ⟨_, rfl⟩
  obtain ⟨q, hq⟩ : ∃ q, q = w.heap.size := ⟨_, rfl⟩
  have g0 : Below w.heap.size w W0 := by rw [hW0]; exact below_new _ _
  have rs : Lrow W0 q 59 [.int .i64 K, .int .i64 Fr, .int .i64 Or, .int .i64 Of, .int .i64 Is, .int .i64 N] := by rw [hW0, hq]; exact Lrow.new w _ _
  have HQ : Hid (¬ MineP p X q ∧ ¬ MineR r v q) := ⟨fun e => by have := (p0.mine e).2; omega, fun e => by have := (r0.mine e).2; omega⟩
  have HB0 : Hid (Below B w W0) := g0.mono p0.size
  have q0 := rs.cell 0
  have q1 := rs.cell 1
  have q2 := rs.cell 2
  have q3 := rs.cell 3
  have q4 := rs.cell 4
  have q5 := rs.cell 5
  have hp := (p0.call g0).drewN 1
  have hr := (r0.call g0).drewN 1
  have hrs := rs.drewN 1
  have h1 := at_m hp ok hf Or Is
  have hR0 := fun (w1 : World) (h : RmX B w1 r v n mk M) => rat_any h ok hf Or Is
  generalize atE M Fr Or Is = E at *
  generalize atM M Fr Or Is = M' at *
  have S0 : (W0.drewN 1).cell? ⟨q, 1, none⟩ = some (.int .i64 Fr) ∧ (W0.drewN 1).cell? ⟨q, 2, none⟩ = some (.int .i64 Or) ∧ (W0.drewN 1).cell? ⟨q, 3, none⟩ = some (.int .i64 Of) ∧ (W0.drewN 1).cell? ⟨q, 4, none⟩ = some (.int .i64 Is) ∧ (W0.drewN 1).cell? ⟨q, 5, none⟩ = some (.int .i64 N) := ⟨hrs.cell 1, hrs.cell 2, hrs.cell 3, hrs.cell 4, hrs.cell 5⟩
  have HR := Lib.hid (And.intro hp (And.intro hr (And.intro d0 hrs)))
  have HRB := Lib.hid hR0
  have HW := Lib.hid (And.intro hW0 hq)
  clear hW0 hq g0 rs p0 r0 d0 ok hp hr hrs hR0
  subst hK
  clear hf
  go_enter Tryz.func27, Tryz.ntmps27
  go_upto_region 1 with (fail)
  rw [← HW.out.1, ← HW.out.2]
  go_wp2_with fail
  go_region_held3 (fun v => v.cell? ⟨q, 1, none⟩ = some (.int .i64 Fr) ∧ v.cell? ⟨q, 2, none⟩ = some (.int .i64 Or) ∧ v.cell? ⟨q, 3, none⟩ = some (.int .i64 Of) ∧ v.cell? ⟨q, 4, none⟩ = some (.int .i64 Is) ∧ v.cell? ⟨q, 5, none⟩ = some (.int .i64 N))
    (first | exact S0 | exact S1 | exact S2)
    (first | (go_at_call 34; refine h1.mono ?_; rintro e w3 ⟨rfl, hd3⟩; obtain ⟨k1, k2, k3, k4⟩ := two_step HR.out.1 HR.out.2.1 HR.out.2.2.1 hd3; have r1 := k3 HR.out.2.2.2 HQ.out.1; have S1 : w3.cell? ⟨q, 1, none⟩ = some (.int .i64 Fr) ∧ w3.cell? ⟨q, 2, none⟩ = some (.int .i64 Or) ∧ w3.cell? ⟨q, 3, none⟩ = some (.int .i64 Of) ∧ w3.cell? ⟨q, 4, none⟩ = some (.int .i64 Is) ∧ w3.cell? ⟨q, 5, none⟩ = some (.int .i64 N) := ⟨r1.cell 1, r1.cell 2, r1.cell 3, r1.cell 4, r1.cell 5⟩) | (go_at_call 55; refine (HRB.out _ k1).mono ?_; rintro e w4 ⟨rfl, hd4⟩; have hst := k2 _ hd4; have r2 := k4 hd4 r1 HQ.out.2; have S2 : w4.cell? ⟨q, 1, none⟩ = some (.int .i64 Fr) ∧ w4.cell? ⟨q, 2, none⟩ = some (.int .i64 Or) ∧ w4.cell? ⟨q, 3, none⟩ = some (.int .i64 Of) ∧ w4.cell? ⟨q, 4, none⟩ = some (.int .i64 Is) ∧ w4.cell? ⟨q, 5, none⟩ = some (.int .i64 N) := ⟨r2.cell 1, r2.cell 2, r2.cell 3, r2.cell 4, r2.cell 5⟩))
  all_goals
    have HD := Lib.hid hst
    clear hst hd3 hd4 k1 k2 k3 k4 r1 r2 S0 S1 S2 h1
    go_wp2_with fail
    go_ret
    exact ⟨ret_bool (by simp), HD.out.1, HB0.out.trans ((below_dN (Below.refl _ W0) 1).trans HD.out.2)⟩
end
end Go.Proofs.YtklhcgekagimkaaGreat
