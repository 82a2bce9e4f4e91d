/- A call of both memories: Turn. -/
import Derived.Test.YtklhcgekagimkaaGreatMg41
import Derived.Deep.RegionHeld3
import Derived.BigQuiet
namespace Go.Proofs.YtklhcgekagimkaaGreat
open Go.RowKit
section
variable {w : World} {B n mk : Nat} {p : Pn} {r : Rn} {M : Me}
set_option maxHeartbeats 8000000 in
set_option maxRecDepth 100000 in
theorem do_turn (hst : StE B w p r n mk M) (ok : MeOk n M) {K Fr Or Of Is N : Int} (hK : K = 5) : Calls Tryz.prog 27 #[.pointer (some ⟨p.m, 0, none⟩), .pointer (some ⟨r.x, 0, none⟩), .agg #[.int .i64 K, .int .i64 Fr, .int .i64 Or, .int .i64 Of, .int .i64 Is, .int .i64 N]] w fun e w' => e = .returned (.bool true) ∧ StE B w' p r n mk (tnM M Fr N Of Is) ∧ Below B w w' := by
  obtain ⟨X, v, p0, r0, d0⟩ := hst
  obtain ⟨W0, hW0⟩ : ∃ W0, W0 = w.alloc (.cells #[.int .i64 K, .int .i64 Fr, .int .i64 Or, .int .i64 Of, .int .i64 Is, .int .i64 N] 59) := ⟨_, rfl⟩
  obtain ⟨q, hq⟩ : ∃ q, q = w.heap.size := ⟨_, rfl⟩
  have g0 : Below w.heap.size w W0 := by rw [hW0]; exact below_new _ _
  have rs : Lrow W0 q 59 [.int .i64 K, .int .i64 Fr, .int .i64 Or, .int .i64 Of, .int .i64 Is, .int .i64 N] := by rw [hW0, hq]; exact Lrow.new w _ _
  have HQ : Hid (¬ MineP p X q ∧ ¬ MineR r v q) := ⟨fun e => by have := (p0.mine e).2; omega, fun e => by have := (r0.mine e).2; omega⟩
  have HB0 : Hid (Below B w W0) := g0.mono p0.size
  have q0 := rs.cell 0
  have q1 := rs.cell 1
  have q2 := rs.cell 2
  have q3 := rs.cell 3
  have q4 := rs.cell 4
  have q5 := rs.cell 5
  have hp := (p0.call g0).drewN 1
  have hr := (r0.call g0).drewN 1
  have hrs := rs.drewN 1
  have h1 := turn_m hp ok.ok Fr N Of Is
  have hR0 := fun (w1 : World) (h : RmX B w1 r v n mk M) => rturn_any h ok Fr N Of Is
  generalize tnE M Fr N Of Is = E at *
  generalize tnM M Fr N Of Is = M' at *
  have S0 : (W0.drewN 1).cell? ⟨q, 1, none⟩ = some (.int .i64 Fr) ∧ (W0.drewN 1).cell? ⟨q, 2, none⟩ = some (.int .i64 Or) ∧ (W0.drewN 1).cell? ⟨q, 3, none⟩ = some (.int .i64 Of) ∧ (W0.drewN 1).cell? ⟨q, 4, none⟩ = some (.int .i64 Is) ∧ (W0.drewN 1).cell? ⟨q, 5, none⟩ = some (.int .i64 N) := ⟨hrs.cell 1, hrs.cell 2, hrs.cell 3, hrs.cell 4, hrs.cell 5⟩
  have HR := Lib.hid (And.intro hp (And.intro hr (And.intro d0 hrs)))
  have HRB := Lib.hid hR0
  have HW := Lib.hid (And.intro hW0 hq)
  clear hW0 hq g0 rs p0 r0 d0 ok hp hr hrs hR0
  subst hK
  go_enter Tryz.func27, Tryz.ntmps27
  go_upto_region 1 with (fail)
  rw [← HW.out.1, ← HW.out.2]
  go_wp2_with fail
  go_region_held3 (fun v => v.cell? ⟨q, 1, none⟩ = some (.int .i64 Fr) ∧ v.cell? ⟨q, 2, none⟩ = some (.int .i64 Or) ∧ v.cell? ⟨q, 3, none⟩ = some (.int .i64 Of) ∧ v.cell? ⟨q, 4, none⟩ = some (.int .i64 Is) ∧ v.cell? ⟨q, 5, none⟩ = some (.int .i64 N))
    (first | exact S0 | exact S1 | exact S2)
    (first | (go_at_call 35; refine h1.mono ?_; rintro e w3 ⟨rfl, hd3⟩; obtain ⟨k1, k2, k3, k4⟩ := two_step HR.out.1 HR.out.2.1 HR.out.2.2.1 hd3; have r1 := k3 HR.out.2.2.2 HQ.out.1; have S1 : w3.cell? ⟨q, 1, none⟩ = some (.int .i64 Fr) ∧ w3.cell? ⟨q, 2, none⟩ = some (.int .i64 Or) ∧ w3.cell? ⟨q, 3, none⟩ = some (.int .i64 Of) ∧ w3.cell? ⟨q, 4, none⟩ = some (.int .i64 Is) ∧ w3.cell? ⟨q, 5, none⟩ = some (.int .i64 N) := ⟨r1.cell 1, r1.cell 2, r1.cell 3, r1.cell 4, r1.cell 5⟩) | (go_at_call 57; refine (HRB.out _ k1).mono ?_; rintro e w4 ⟨rfl, hd4⟩; have hst := k2 _ hd4; have r2 := k4 hd4 r1 HQ.out.2; have S2 : w4.cell? ⟨q, 1, none⟩ = some (.int .i64 Fr) ∧ w4.cell? ⟨q, 2, none⟩ = some (.int .i64 Or) ∧ w4.cell? ⟨q, 3, none⟩ = some (.int .i64 Of) ∧ w4.cell? ⟨q, 4, none⟩ = some (.int .i64 Is) ∧ w4.cell? ⟨q, 5, none⟩ = some (.int .i64 N) := ⟨r2.cell 1, r2.cell 2, r2.cell 3, r2.cell 4, r2.cell 5⟩))
  all_goals
    have HD := Lib.hid hst
    clear hst hd3 hd4 k1 k2 k3 k4 r1 r2 S0 S1 S2 h1
    go_wp2_with fail
    go_ret
    exact ⟨ret_bool (by simp), HD.out.1, HB0.out.trans ((below_dN (Below.refl _ W0) 1).trans HD.out.2)⟩
end
end Go.Proofs.YtklhcgekagimkaaGreat
/- A call of both memories: Set. -/
namespace Go.Proofs.YtklhcgekagimkaaGreat
open Go.RowKit
section
variable {w : World} {B n mk : Nat} {p : Pn} {r : Rn} {M : Me}
theorem rset_any {v : Value} (h : RmX B w r v n mk M) (hn : n ≤ 1024) (s t : Int) : Calls Tryz.prog 58 #[.pointer (some ⟨r.z, 0, none⟩), .int .i64 s, .int .i64 t] w fun e w' => e = .returned (.int .i64 (stE M.S.length s t)) ∧ RDid B r v n mk (seM M s t) w w' := by
  refine (refSet_any h.kin hn s t).mono ?_
  rintro e w' ⟨rfl, hR, hg⟩
  exact ⟨rfl, v, h.secT hR hg, Foot.grown hg (Or.inr (Or.inr (Or.inr (Or.inr (Or.inl rfl))))), Or.inl rfl⟩
theorem RDid.c0 {v : Value} {M' : Me} {w w' : World} (h : RDid B r v n mk M' w w') : w'.cell? ⟨r.x, 0, none⟩ = some (.pointer (some ⟨r.z, 0, none⟩)) := by
  obtain ⟨_, h, _⟩ := h
  exact h.c0
theorem RDid.c1 {v : Value} {M' : Me} {w w' : World} (h : RDid B r v n mk M' w w') : w'.cell? ⟨r.x, 1, none⟩ = some (.pointer (some ⟨r.c, 0, none⟩)) := by
  obtain ⟨_, h, _⟩ := h
  exact h.c1
set_option maxHeartbeats 8000000 in
set_option maxRecDepth 100000 in
theorem do_set (hst : StE B w p r n mk M) (ok : MeOk n M) {K Fr Or Of Is N : Int} (hK : K = 6) : Calls Tryz.prog 27 #[.pointer (some ⟨p.m, 0, none⟩), .pointer (some ⟨r.x, 0, none⟩), .agg #[.int .i64 K, .int .i64 Fr, .int .i64 Or, .int .i64 Of, .int .i64 Is, .int .i64 N]] w fun e w' => e = .returned (.bool true) ∧ StE B w' p r n mk (seM M Fr Of) ∧ Below B w w' := by
  obtain ⟨X, v, p0, r0, d0⟩ := hst
  obtain ⟨W0, hW0⟩ : ∃ W0, W0 = w.alloc (.cells #[.int .i64 K, .int .i64 Fr, .int .i64 Or, .int .i64 Of, .int .i64 Is, .int .i64 N] 59) := ⟨_, rfl⟩
  obtain ⟨q, hq⟩ : ∃ q, q = w.heap.size := ⟨_, rfl⟩
  have g0 : Below w.heap.size w W0 := by rw [hW0]; exact below_new _ _
  have rs : Lrow W0 q 59 [.int .i64 K, .int .i64 Fr, .int .i64 Or, .int .i64 Of, .int .i64 Is, .int .i64 N] := by rw [hW0, hq]; exact Lrow.new w _ _
  have HQ : Hid (¬ MineP p X q ∧ ¬ MineR r v q) := ⟨fun e => by have := (p0.mine e).2; omega, fun e => by have := (r0.mine e).2; omega⟩
  have HB0 : Hid (Below B w W0) := g0.mono p0.size
  have q0 := rs.cell 0
  have q1 := rs.cell 1
  have q2 := rs.cell 2
  have q3 := rs.cell 3
  have q4 := rs.cell 4
  have q5 := rs.cell 5
  have hp := (p0.call g0).drewN 1
  have hr := (r0.call g0).drewN 1
  have hrs := rs.drewN 1
  have h1 := set_m hp Fr Of
  have hR0 := fun (w1 : World) (h : RmX B w1 r v n mk M) => rset_any h ok.hi Fr Of
  generalize stE M.S.length Fr Of = E at *
  generalize seM M Fr Of = M' at *
  have hz0 := hr.c0
  have S0 : (W0.drewN 1).cell? ⟨q, 1, none⟩ = some (.int .i64 Fr) ∧ (W0.drewN 1).cell? ⟨q, 2, none⟩ = some (.int .i64 Or) ∧ (W0.drewN 1).cell? ⟨q, 3, none⟩ = some (.int .i64 Of) ∧ (W0.drewN 1).cell? ⟨q, 4, none⟩ = some (.int .i64 Is) ∧ (W0.drewN 1).cell? ⟨q, 5, none⟩ = some (.int .i64 N) := ⟨hrs.cell 1, hrs.cell 2, hrs.cell 3, hrs.cell 4, hrs.cell 5⟩
  have HR := Lib.hid (And.intro hp (And.intro hr (And.intro d0 hrs)))
  have HRB := Lib.hid hR0
  have HW := Lib.hid (And.intro hW0 hq)
  clear hW0 hq g0 rs p0 r0 d0 ok hp hr hrs hR0
  subst hK
  go_enter Tryz.func27, Tryz.ntmps27
  go_upto_region 1 with (fail)
  rw [← HW.out.1, ← HW.out.2]
  go_wp2_with fail
  go_region_held3 (fun v => v.cell? ⟨r.x, 0, none⟩ = some (.pointer (some ⟨r.z, 0, none⟩)) ∧ v.cell? ⟨q, 1, none⟩ = some (.int .i64 Fr) ∧ v.cell? ⟨q, 2, none⟩ = some (.int .i64 Or) ∧ v.cell? ⟨q, 3, none⟩ = some (.int .i64 Of) ∧ v.cell? ⟨q, 4, none⟩ = some (.int .i64 Is) ∧ v.cell? ⟨q, 5, none⟩ = some (.int .i64 N))
    (first | exact ⟨hz0, S0⟩ | exact ⟨hz1, S1⟩ | exact ⟨hz2, S2⟩)
    (first | (go_at_call 36; refine h1.mono ?_; rintro e w3 ⟨rfl, hd3⟩; obtain ⟨k1, k2, k3, k4⟩ := two_step HR.out.1 HR.out.2.1 HR.out.2.2.1 hd3; have r1 := k3 HR.out.2.2.2 HQ.out.1; have hz1 := k1.c0; have S1 : w3.cell? ⟨q, 1, none⟩ = some (.int .i64 Fr) ∧ w3.cell? ⟨q, 2, none⟩ = some (.int .i64 Or) ∧ w3.cell? ⟨q, 3, none⟩ = some (.int .i64 Of) ∧ w3.cell? ⟨q, 4, none⟩ = some (.int .i64 Is) ∧ w3.cell? ⟨q, 5, none⟩ = some (.int .i64 N) := ⟨r1.cell 1, r1.cell 2, r1.cell 3, r1.cell 4, r1.cell 5⟩) | (go_at_call 58; refine (HRB.out _ k1).mono ?_; rintro e w4 ⟨rfl, hd4⟩; have hst := k2 _ hd4; have r2 := k4 hd4 r1 HQ.out.2; have hz2 := hd4.c0; have S2 : w4.cell? ⟨q, 1, none⟩ = some (.int .i64 Fr) ∧ w4.cell? ⟨q, 2, none⟩ = some (.int .i64 Or) ∧ w4.cell? ⟨q, 3, none⟩ = some (.int .i64 Of) ∧ w4.cell? ⟨q, 4, none⟩ = some (.int .i64 Is) ∧ w4.cell? ⟨q, 5, none⟩ = some (.int .i64 N) := ⟨r2.cell 1, r2.cell 2, r2.cell 3, r2.cell 4, r2.cell 5⟩))
  all_goals
    have HD := Lib.hid hst
    clear hst hd3 hd4 k1 k2 k3 k4 r1 r2 S0 S1 S2 h1 hz0 hz1 hz2
    go_wp2_with fail
    go_ret
    exact ⟨ret_bool (by simp), HD.out.1, HB0.out.trans ((below_dN (Below.refl _ W0) 1).trans HD.out.2)⟩
end
end Go.Proofs.YtklhcgekagimkaaGreat
