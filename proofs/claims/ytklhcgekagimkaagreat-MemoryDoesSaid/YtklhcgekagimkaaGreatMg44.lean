/- A call of both memories: Drop. -/
import Derived.Test.YtklhcgekagimkaaGreatMg41
import Derived.Deep.RegionHeld3
import Derived.BigQuiet
namespace Go.Proofs.YtklhcgekagimkaaGreat
open Go.RowKit
section
variable {w : World} {B n mk : Nat} {p : Pn} {r : Rn} {M : Me}
set_option maxHeartbeats 8000000 in
set_option maxRecDepth 100000 in
theorem do_drop_no (hst : StE B w p r n mk M) (ok : MeOk n M) {K Fr Or Of Is N : Int} (hK : K = 4) (hf : Fits Fr) (hn : ¬ (0 ≤ Or ∧ Or ≤ 8 ∧ 0 ≤ Fr)) : Calls Tryz.prog 27 #[.pointer (some ⟨p.m, 0, none⟩), .pointer (some ⟨r.x, 0, none⟩), .agg #[.int .i64 K, .int .i64 Fr, .int .i64 Or, .int .i64 Of, .int .i64 Is, .int .i64 N]] w fun e w' => e = .returned (.bool true) ∧ StE B w' p r n mk (drM M (dnF Fr Or) Or) ∧ Below B w w' := by
  obtain ⟨X, v, p0, r0, d0⟩ := hst
  obtain ⟨W0, hW0⟩ : ∃ W0, W0 = w.alloc (.cells #[.int .i64 K, .int .i64 Fr, .int .i64 Or, .int .i64 Of, .int .i64 Is, .int .i64 N] 59) := ⟨_, rfl⟩
  obtain ⟨q, hq⟩ : ∃ q, q = w.heap.size := ⟨_, rfl⟩
  have g0 : Below w.heap.size w W0 := by rw [hW0]; exact below_new _ _
  have rs : Lrow W0 q 59 [.int .i64 K, .int .i64 Fr, .int .i64 Or, .int .i64 Of, .int .i64 Is, .int .i64 N] := by rw [hW0, hq]; exact Lrow.new w _ _
  have HQ : Hid (¬ MineP p X q ∧ ¬ MineR r v q) := ⟨fun e => by have := (p0.mine e).2; omega, fun e => by have := (r0.mine e).2; omega⟩
  have HB0 : Hid (Below B w W0) := g0.mono p0.size
  have q0 := rs.cell 0
  have q1 := rs.cell 1
  have q2 := rs.cell 2
  have q3 := rs.cell 3
  have q4 := rs.cell 4
  have q5 := rs.cell 5
  have hf2 : Fits (dnF Fr Or) := dnF_fits hf Or
  generalize hdn : dnF Fr Or = D at *
  have hp := (p0.call g0).drewN 1
  have hr := (r0.call g0).drewN 1
  have hrs := rs.drewN 1
  have h1 := drop_m hp ok hf2 Or
  have hR0 := fun (w1 : World) (h : RmX B w1 r v n mk M) => rdrop_any h ok hf2 Or
  generalize drE M D Or = E at *
  generalize drM M D Or = M' at *
  have S0 : (W0.drewN 1).cell? ⟨q, 1, none⟩ = some (.int .i64 Fr) ∧ (W0.drewN 1).cell? ⟨q, 2, none⟩ = some (.int .i64 Or) ∧ (W0.drewN 1).cell? ⟨q, 3, none⟩ = some (.int .i64 Of) ∧ (W0.drewN 1).cell? ⟨q, 4, none⟩ = some (.int .i64 Is) ∧ (W0.drewN 1).cell? ⟨q, 5, none⟩ = some (.int .i64 N) := ⟨hrs.cell 1, hrs.cell 2, hrs.cell 3, hrs.cell 4, hrs.cell 5⟩
  have HR := Lib.hid (And.intro hp (And.intro hr (And.intro d0 hrs)))
  have HRB := Lib.hid hR0
  have HW := Lib.hid (And.intro hW0 hq)
  clear hW0 hq g0 rs p0 r0 d0 ok hp hr hrs hR0
  subst hK
  obtain rfl : Fr = D := by rw [← hdn]; unfold dnF; rw [if_neg hn]
  rcases (show ¬ 0 ≤ Or ∨ (0 ≤ Or ∧ ¬ Or ≤ 8) ∨ (0 ≤ Or ∧ Or ≤ 8 ∧ ¬ 0 ≤ Fr) by omega) with c1 | ⟨c1, c2⟩ | ⟨c1, c2, c3⟩
  all_goals
    clear hf hf2 hdn hn
    go_enter Tryz.func27, Tryz.ntmps27
    go_upto_region 1 with (fail)
    rw [← HW.out.1, ← HW.out.2]
    go_wp2_with fail
    go_region_held3 (fun v => v.cell? ⟨q, 1, none⟩ = some (.int .i64 Fr) ∧ v.cell? ⟨q, 2, none⟩ = some (.int .i64 Or) ∧ v.cell? ⟨q, 3, none⟩ = some (.int .i64 Of) ∧ v.cell? ⟨q, 4, none⟩ = some (.int .i64 Is) ∧ v.cell? ⟨q, 5, none⟩ = some (.int .i64 N))
      (first | exact S0 | exact S1 | exact S2)
      (first | (go_at_call 30; refine h1.mono ?_; rintro e w3 ⟨rfl, hd3⟩; obtain ⟨k1, k2, k3, k4⟩ := two_step HR.out.1 HR.out.2.1 HR.out.2.2.1 hd3; have r1 := k3 HR.out.2.2.2 HQ.out.1; have S1 : w3.cell? ⟨q, 1, none⟩ = some (.int .i64 Fr) ∧ w3.cell? ⟨q, 2, none⟩ = some (.int .i64 Or) ∧ w3.cell? ⟨q, 3, none⟩ = some (.int .i64 Of) ∧ w3.cell? ⟨q, 4, none⟩ = some (.int .i64 Is) ∧ w3.cell? ⟨q, 5, none⟩ = some (.int .i64 N) := ⟨r1.cell 1, r1.cell 2, r1.cell 3, r1.cell 4, r1.cell 5⟩) | (go_at_call 56; refine (HRB.out _ k1).mono ?_; rintro e w4 ⟨rfl, hd4⟩; have hst := k2 _ hd4; have r2 := k4 hd4 r1 HQ.out.2; have S2 : w4.cell? ⟨q, 1, none⟩ = some (.int .i64 Fr) ∧ w4.cell? ⟨q, 2, none⟩ = some (.int .i64 Or) ∧ w4.cell? ⟨q, 3, none⟩ = some (.int .i64 Of) ∧ w4.cell? ⟨q, 4, none⟩ = some (.int .i64 Is) ∧ w4.cell? ⟨q, 5, none⟩ = some (.int .i64 N) := ⟨r2.cell 1, r2.cell 2, r2.cell 3, r2.cell 4, r2.cell 5⟩))
    all_goals
      have HD := Lib.hid hst
      clear hst hd3 hd4 k1 k2 k3 k4 r1 r2 S0 S1 S2 h1
      go_wp2_with fail
      go_ret
      exact ⟨ret_bool (by simp), HD.out.1, HB0.out.trans ((below_dN (Below.refl _ W0) 1).trans HD.out.2)⟩
set_option maxHeartbeats 8000000 in
set_option maxRecDepth 100000 in
theorem do_drop_yes (hst : StE B w p r n mk M) (ok : MeOk n M) {K Fr Or Of Is N : Int} (hK : K = 4) (hf : Fits Fr) (hn : 0 ≤ Or ∧ Or ≤ 8 ∧ 0 ≤ Fr) : Calls Tryz.prog 27 #[.pointer (some ⟨p.m, 0, none⟩), .pointer (some ⟨r.x, 0, none⟩), .agg #[.int .i64 K, .int .i64 Fr, .int .i64 Or, .int .i64 Of, .int .i64 Is, .int .i64 N]] w fun e w' => e = .returned (.bool true) ∧ StE B w' p r n mk (drM M (dnF Fr Or) Or) ∧ Below B w w' := by
  obtain ⟨X, v, p0, r0, d0⟩ := hst
  obtain ⟨W0, hW0⟩ : ∃ W0, W0 = w.alloc (.cells #[.int .i64 K, .int .i64 Fr, .int .i64 Or, .int .i64 Of, .int .i64 Is, .int .i64 N] 59) := ⟨_, rfl⟩
  obtain ⟨q, hq⟩ : ∃ q, q = w.heap.size := ⟨_, rfl⟩
  have g0 : Below w.heap.size w W0 := by rw [hW0]; exact below_new _ _
  have rs : Lrow W0 q 59 [.int .i64 K, .int .i64 Fr, .int .i64 Or, .int .i64 Of, .int .i64 Is, .int .i64 N] := by rw [hW0, hq]; exact Lrow.new w _ _
  have HQ : Hid (¬ MineP p X q ∧ ¬ MineR r v q) := ⟨fun e => by have := (p0.mine e).2; omega, fun e => by have := (r0.mine e).2; omega⟩
  have HB0 : Hid (Below B w W0) := g0.mono p0.size
  have q0 := rs.cell 0
  have q1 := rs.cell 1
  have q2 := rs.cell 2
  have q3 := rs.cell 3
  have q4 := rs.cell 4
  have q5 := rs.cell 5
  have hf2 : Fits (dnF Fr Or) := dnF_fits hf Or
  generalize hdn : dnF Fr Or = D at *
  have hp := (p0.call g0).drewN 1
  have hr := (r0.call g0).drewN 1
  have hrs := rs.drewN 1
  have h1 := drop_m hp ok hf2 Or
  have hR0 := fun (w1 : World) (h : RmX B w1 r v n mk M) => rdrop_any h ok hf2 Or
  generalize drE M D Or = E at *
  generalize drM M D Or = M' at *
  have S0 : (W0.drewN 1).cell? ⟨q, 1, none⟩ = some (.int .i64 Fr) ∧ (W0.drewN 1).cell? ⟨q, 2, none⟩ = some (.int .i64 Or) ∧ (W0.drewN 1).cell? ⟨q, 3, none⟩ = some (.int .i64 Of) ∧ (W0.drewN 1).cell? ⟨q, 4, none⟩ = some (.int .i64 Is) ∧ (W0.drewN 1).cell? ⟨q, 5, none⟩ = some (.int .i64 N) := ⟨hrs.cell 1, hrs.cell 2, hrs.cell 3, hrs.cell 4, hrs.cell 5⟩
  have HR := Lib.hid (And.intro hp (And.intro hr (And.intro d0 hrs)))
  have HRB := Lib.hid hR0
  have HW := Lib.hid (And.intro hW0 hq)
  clear hW0 hq g0 rs p0 r0 d0 ok hp hr hrs hR0
  subst hK
  obtain ⟨o, rfl⟩ : ∃ o : Nat, Or = o := ⟨Or.toNat, by omega⟩
  obtain ⟨f, rfl⟩ : ∃ f : Nat, Fr = f := ⟨Fr.toNat, by omega⟩
  have hf1 := hf.2
  obtain ⟨K2, hK2⟩ : ∃ K2 : Nat, K2 = 2 ^ o := ⟨_, rfl⟩
  have hZ : ∀ W, Calls Tryz.prog 33 #[.int .i64 o] W fun e w' => e = .returned (.int .i64 K2) ∧ W = w' := fun W => by
    have := size_any (show o ≤ 8 by omega) W
    rw [← hK2] at this
    exact this
  have K1 : 1 ≤ K2 := by rw [hK2]; exact two_pos o
  have HDN : Hid (((f - f % K2 : Nat) : Int) = D) := by
    show _ = _
    rw [← hdn]
    unfold dnF
    rw [if_pos hn, Int.toNat_natCast, ← hK2]
    have := Nat.mod_le f K2
    omega
  obtain ⟨z, hz⟩ : ∃ z, z = f % K2 := ⟨_, rfl⟩
  have hzl : z ≤ f := by rw [hz]; exact Nat.mod_le f K2
  rw [← hz] at HDN
  have hw : IntKind.i64.wrap ((f : Int) - (z : Int)) = ((f - z : Nat) : Int) := by rw [IntWalk.i64_in _ (by omega)]; omega
  have hm : (f : Int) % (K2 : Int) = (z : Int) := by rw [hz]; rfl
  have t1 : (0 : Int) ≤ o := by omega
  have t2 : (o : Int) ≤ 8 := by omega
  have t3 : (0 : Int) ≤ f := by omega
  have t4 : ¬ (K2 : Int) = 0 := by omega
  have HZ := Lib.hid (And.intro hz hzl)
  clear hf hf2 hdn hn hK2 hf1 hz hzl
  go_enter Tryz.func27, Tryz.ntmps27
  go_upto_region 1 with (fail)
  rw [← HW.out.1, ← HW.out.2]
  go_wp2_with (go_at_call 33; (with_reducible refine (hZ _).mono ?_); rintro e w1 ⟨rfl, rfl⟩)
  rw [HDN.out]
  go_region_held3 (fun v => v.cell? ⟨q, 1, none⟩ = some (.int .i64 f) ∧ v.cell? ⟨q, 2, none⟩ = some (.int .i64 o) ∧ v.cell? ⟨q, 3, none⟩ = some (.int .i64 Of) ∧ v.cell? ⟨q, 4, none⟩ = some (.int .i64 Is) ∧ v.cell? ⟨q, 5, none⟩ = some (.int .i64 N))
    (first | exact S0 | exact S1 | exact S2)
    (first | (go_at_call 30; refine h1.mono ?_; rintro e w3 ⟨rfl, hd3⟩; obtain ⟨k1, k2, k3, k4⟩ := two_step HR.out.1 HR.out.2.1 HR.out.2.2.1 hd3; have r1 := k3 HR.out.2.2.2 HQ.out.1; have S1 : w3.cell? ⟨q, 1, none⟩ = some (.int .i64 f) ∧ w3.cell? ⟨q, 2, none⟩ = some (.int .i64 o) ∧ w3.cell? ⟨q, 3, none⟩ = some (.int .i64 Of) ∧ w3.cell? ⟨q, 4, none⟩ = some (.int .i64 Is) ∧ w3.cell? ⟨q, 5, none⟩ = some (.int .i64 N) := ⟨r1.cell 1, r1.cell 2, r1.cell 3, r1.cell 4, r1.cell 5⟩) | (go_at_call 56; refine (HRB.out _ k1).mono ?_; rintro e w4 ⟨rfl, hd4⟩; have hst := k2 _ hd4; have r2 := k4 hd4 r1 HQ.out.2; have S2 : w4.cell? ⟨q, 1, none⟩ = some (.int .i64 f) ∧ w4.cell? ⟨q, 2, none⟩ = some (.int .i64 o) ∧ w4.cell? ⟨q, 3, none⟩ = some (.int .i64 Of) ∧ w4.cell? ⟨q, 4, none⟩ = some (.int .i64 Is) ∧ w4.cell? ⟨q, 5, none⟩ = some (.int .i64 N) := ⟨r2.cell 1, r2.cell 2, r2.cell 3, r2.cell 4, r2.cell 5⟩))
  all_goals
    have HD := Lib.hid hst
    clear hst hd3 hd4 k1 k2 k3 k4 r1 r2 S0 S1 S2 h1
    go_wp2_with fail
    go_ret
    exact ⟨ret_bool (by simp), HD.out.1, HB0.out.trans ((below_dN (Below.refl _ W0) 1).trans HD.out.2)⟩
end
end Go.Proofs.YtklhcgekagimkaaGreat
/- A call of both memories: a word is laid. -/
namespace Go.Proofs.YtklhcgekagimkaaGreat
open Go.RowKit
section
variable {w : World} {B n mk : Nat} {p : Pn} {r : Rn} {M : Me}
theorem u64_in (n : Int) : 0 ≤ IntKind.u64.wrap n ∧ IntKind.u64.wrap n < 18446744073709551616 := by
  unfold IntKind.wrap
  simp [IntKind.bits, IntKind.signed]
  omega
theorem pstore_any {X : Nat → Prop} (h : PmX B w p X n mk M) (z u : Int) (h0 : 0 ≤ u) (h1 : u < 18446744073709551616) : Calls Tryz.prog 59 #[.pointer (some ⟨p.a, 0, none⟩), .int .i64 z, .int .u64 u] w fun e w' => e = .returned (.int .i64 (errW (n * 8) z)) ∧ PDid B p X n mk ⟨M.F, M.S, M.I, stL M.W z u⟩ w w' := by
  refine (store_any h.ram z u h0 h1).mono ?_
  rintro e w' ⟨rfl, hr, hg⟩
  exact ⟨rfl, X, h.ramT hr hg, Foot.grown hg (Or.inr (Or.inr (Or.inl rfl))), fun _ e => Or.inl e⟩
theorem rstore_any {v : Value} (h : RmX B w r v n mk M) (z u : Int) (h0 : 0 ≤ u) (h1 : u < 18446744073709551616) : Calls Tryz.prog 60 #[.pointer (some ⟨r.c, 0, none⟩), .int .i64 z, .int .u64 u] w fun e w' => e = .returned (.int .i64 (errW (n * 8) z)) ∧ RDid B r v n mk ⟨M.F, M.S, M.I, stL M.W z u⟩ w w' := by
  refine (refStore_any h.ram z u h0 h1).mono ?_
  rintro e w' ⟨rfl, hr, hg⟩
  exact ⟨rfl, v, h.ramT hr hg, Foot.grown hg (Or.inr (Or.inr (Or.inr (Or.inr (Or.inr (Or.inr (Or.inl rfl))))))), Or.inl rfl⟩
theorem RDid.c1w {v : Value} {M' : Me} {w w' : World} (h : RDid B r v n mk M' w w') : w'.cell? ⟨r.x, 1, none⟩ = some (.pointer (some ⟨r.c, 0, none⟩)) := by
  obtain ⟨_, h, _⟩ := h
  exact h.c1
set_option maxHeartbeats 8000000 in
set_option maxRecDepth 100000 in
theorem do_out (hst : StE B w p r n mk M) (ok : MeOk n M) {K Fr Or Of Is N : Int} (hK : K = 7) (hn : ¬ (0 ≤ Fr ∧ Fr < n)) : Calls Tryz.prog 27 #[.pointer (some ⟨p.m, 0, none⟩), .pointer (some ⟨r.x, 0, none⟩), .agg #[.int .i64 K, .int .i64 Fr, .int .i64 Or, .int .i64 Of, .int .i64 Is, .int .i64 N]] w fun e w' => e = .returned (.bool true) ∧ StE B w' p r n mk (M) ∧ Below B w w' := by
  obtain ⟨X, v, p0, r0, d0⟩ := hst
  obtain ⟨W0, hW0⟩ : ∃ W0, W0 = w.alloc (.cells #[.int .i64 K, .int .i64 Fr, .int .i64 Or, .int .i64 Of, .int .i64 Is, .int .i64 N] 59) := ⟨_, rfl⟩
  obtain ⟨q, hq⟩ : ∃ q, q = w.heap.size := ⟨_, rfl⟩
  have g0 : Below w.heap.size w W0 := by rw [hW0]; exact below_new _ _
  have rs : Lrow W0 q 59 [.int .i64 K, .int .i64 Fr, .int .i64 Or, .int .i64 Of, .int .i64 Is, .int .i64 N] := by rw [hW0, hq]; exact Lrow.new w _ _
  have HQ : Hid (¬ MineP p X q ∧ ¬ MineR r v q) := ⟨fun e => by have := (p0.mine e).2; omega, fun e => by have := (r0.mine e).2; omega⟩
  have HB0 : Hid (Below B w W0) := g0.mono p0.size
  have q0 := rs.cell 0
  have q1 := rs.cell 1
  have q2 := rs.cell 2
  have q3 := rs.cell 3
  have q4 := rs.cell 4
  have q5 := rs.cell 5
  have hr := r0.call g0
  have n0 := ok.n8
  obtain ⟨g, c, rfl, -⟩ := hr.form ok.i (by omega)
  have x2 := hr.c2
  have HB1 : Hid (∀ k, Below w.heap.size w (W0.drewN k)) := fun k => below_dN g0 k
  have HS : Hid (∀ k, StE B (W0.drewN k) p r n mk M) := fun k => StE.call ⟨X, _, p0, r0, d0⟩ (below_dN g0 k)
  have HL := Lib.hid p0.size
  have HW := Lib.hid (And.intro hW0 hq)
  subst hK
  clear hW0 hq g0 rs p0 r0 d0 ok hr n0
  by_cases c1 : Fr < 0
  case' neg =>
    have c2 : (n : Int) ≤ Fr := by omega
    have c3 : ¬ Fr < n := by omega
  all_goals
    clear hn
    go_enter Tryz.func27, Tryz.ntmps27
    go_upto_region 1 with (fail)
    rw [← HW.out.1, ← HW.out.2]
    go_wp2_with fail
    go_quiet (fail)
    go_wp2_with fail
    go_ret
    exact ⟨rfl, HS.out _, (HB1.out _).mono HL.out⟩
set_option maxHeartbeats 8000000 in
set_option maxRecDepth 100000 in
theorem do_in (hst : StE B w p r n mk M) (ok : MeOk n M) {K Fr Or Of Is N : Int} (hK : K = 7) (hn : 0 ≤ Fr ∧ Fr < n) : Calls Tryz.prog 27 #[.pointer (some ⟨p.m, 0, none⟩), .pointer (some ⟨r.x, 0, none⟩), .agg #[.int .i64 K, .int .i64 Fr, .int .i64 Or, .int .i64 Of, .int .i64 Is, .int .i64 N]] w fun e w' => e = .returned (.bool true) ∧ StE B w' p r n mk (wrM M Fr N) ∧ Below B w w' := by
  obtain ⟨X, v, p0, r0, d0⟩ := hst
  obtain ⟨W0, hW0⟩ : ∃ W0, W0 = w.alloc (.cells #[.int .i64 K, .int .i64 Fr, .int .i64 Or, .int .i64 Of, .int .i64 Is, .int .i64 N] 59) := ⟨_, rfl⟩
  obtain ⟨q, hq⟩ : ∃ q, q = w.heap.size := ⟨_, rfl⟩
  have g0 : Below w.heap.size w W0 := by rw [hW0]; exact below_new _ _
  have rs : Lrow W0 q 59 [.int .i64 K, .int .i64 Fr, .int .i64 Or, .int .i64 Of, .int .i64 Is, .int .i64 N] := by rw [hW0, hq]; exact Lrow.new w _ _
  have HQ : Hid (¬ MineP p X q ∧ ¬ MineR r v q) := ⟨fun e => by have := (p0.mine e).2; omega, fun e => by have := (r0.mine e).2; omega⟩
  have HB0 : Hid (Below B w W0) := g0.mono p0.size
  have q0 := rs.cell 0
  have q1 := rs.cell 1
  have q2 := rs.cell 2
  have q3 := rs.cell 3
  have q4 := rs.cell 4
  have q5 := rs.cell 5
  obtain ⟨g, c, hv, -⟩ := (r0.call g0).form ok.i (by have := ok.n8; omega)
  have x2 := (r0.call g0).c2
  rw [hv] at x2
  have c1 : ¬ Fr < 0 := by omega
  have c2 : ¬ (n : Int) ≤ Fr := by omega
  have c3 : Fr < n := hn.2
  obtain ⟨a1, h_1⟩ : ∃ z, IntKind.i64.wrap (64 * Fr) = z := ⟨_, rfl⟩
  obtain ⟨a2, h_2⟩ : ∃ z, bits .and .i64 N 7 = z := ⟨_, rfl⟩
  obtain ⟨a3, h_3⟩ : ∃ z, IntKind.i64.wrap (8 * a2) = z := ⟨_, rfl⟩
  obtain ⟨Z, h_4⟩ : ∃ z, IntKind.i64.wrap (a1 + a3) = z := ⟨_, rfl⟩
  have hU := u64_in N
  obtain ⟨U, h_5⟩ : ∃ z, IntKind.u64.wrap N = z := ⟨_, rfl⟩
  have hM : wrM M Fr N = ⟨M.F, M.S, M.I, stL M.W Z U⟩ := by unfold wrM wrA; rw [h_1, h_2, h_3, h_4, h_5]
  rw [hM]
  rw [h_5] at hU
  have HP : Hid (∀ j, PmX B ((W0.drewN j).drewN 1) p X n mk M ∧ RmX B ((W0.drewN j).drewN 1) r v n mk M ∧ Lrow ((W0.drewN j).drewN 1) q 59 [.int .i64 K, .int .i64 Fr, .int .i64 Or, .int .i64 Of, .int .i64 Is, .int .i64 N] ∧ Below B w ((W0.drewN j).drewN 1)) := fun j =>
    ⟨((p0.call g0).drewN j).drewN 1, ((r0.call g0).drewN j).drewN 1, (rs.drewN j).drewN 1, HB0.out.trans ((below_dN (below_dN (Below.refl _ W0) j) 1).mono (Nat.le_refl _))⟩
  have HSB : Hid (∀ w1, PmX B w1 p X n mk M → Calls Tryz.prog 59 #[.pointer (some ⟨p.a, 0, none⟩), .int .i64 Z, .int .u64 U] w1 fun e w' => e = .returned (.int .i64 (errW (n * 8) Z)) ∧ PDid B p X n mk ⟨M.F, M.S, M.I, stL M.W Z U⟩ w1 w') := fun w1 h => pstore_any h Z U hU.1 hU.2
  have HRB : Hid (∀ w1, RmX B w1 r v n mk M → Calls Tryz.prog 60 #[.pointer (some ⟨r.c, 0, none⟩), .int .i64 Z, .int .u64 U] w1 fun e w' => e = .returned (.int .i64 (errW (n * 8) Z)) ∧ RDid B r v n mk ⟨M.F, M.S, M.I, stL M.W Z U⟩ w1 w') := fun w1 h => rstore_any h Z U hU.1 hU.2
  have HD0 := Lib.hid d0
  generalize errW (n * 8) Z = E at *
  generalize Me.mk M.F M.S M.I (stL M.W Z U) = M' at *
  have HW := Lib.hid (And.intro hW0 hq)
  subst hK
  clear hW0 hq g0 rs p0 r0 d0 ok hn hv hU hM
  go_enter Tryz.func27, Tryz.ntmps27
  go_upto_region 1 with (fail)
  rw [← HW.out.1, ← HW.out.2]
  go_wp2_with fail
  go_quiet (fail)
  obtain ⟨hp, hr, hrs, hb1⟩ := HP.out nq
  have HB1 := Lib.hid hb1
  obtain ⟨V1, hV1⟩ : ∃ V1, V1 = W0.drewN nq := ⟨_, rfl⟩
  rw [← hV1] at hp hr hrs HB1 ⊢
  have S0 : V1.cell? ⟨r.x, 1, none⟩ = some (.pointer (some ⟨r.c, 0, none⟩)) ∧ V1.cell? ⟨q, 1, none⟩ = some (.int .i64 Fr) ∧ V1.cell? ⟨q, 5, none⟩ = some (.int .i64 N) := ⟨hr.c1, hrs.cell 1, hrs.cell 5⟩
  have h1 := ram_m hp
  have HR := Lib.hid (And.intro hp (And.intro hr hrs))
  clear hp hr hrs hb1 hV1 x2 q0 q1 q2 q3 q4 q5 HP
  go_wp2_with fail
  clear c1 c2 c3
  go_region_held3 (fun v => v.cell? ⟨r.x, 1, none⟩ = some (.pointer (some ⟨r.c, 0, none⟩)) ∧ v.cell? ⟨q, 1, none⟩ = some (.int .i64 Fr) ∧ v.cell? ⟨q, 5, none⟩ = some (.int .i64 N))
    (first | exact S0 | exact S1 | exact S2 | exact S3)
    (first | (go_at_call 14; refine h1.mono ?_; rintro e w2 ⟨rfl, hb2⟩; have hp2 := HR.out.1.call hb2; have hr2 := HR.out.2.1.call hb2; have rs2 := HR.out.2.2.call hb2; have S1 : w2.cell? ⟨r.x, 1, none⟩ = some (.pointer (some ⟨r.c, 0, none⟩)) ∧ w2.cell? ⟨q, 1, none⟩ = some (.int .i64 Fr) ∧ w2.cell? ⟨q, 5, none⟩ = some (.int .i64 N) := ⟨hr2.c1, rs2.cell 1, rs2.cell 5⟩) | (go_at_call 59; refine (HSB.out _ hp2).mono ?_; rintro e w3 ⟨rfl, hd3⟩; obtain ⟨k1, k2, k3, k4⟩ := two_step hp2 hr2 HD0.out hd3; have r1 := k3 rs2 HQ.out.1; have S2 : w3.cell? ⟨r.x, 1, none⟩ = some (.pointer (some ⟨r.c, 0, none⟩)) ∧ w3.cell? ⟨q, 1, none⟩ = some (.int .i64 Fr) ∧ w3.cell? ⟨q, 5, none⟩ = some (.int .i64 N) := ⟨k1.c1, r1.cell 1, r1.cell 5⟩) | (go_at_call 60; refine (HRB.out _ k1).mono ?_; rintro e w4 ⟨rfl, hd4⟩; have hst := k2 _ hd4; have r2 := k4 hd4 r1 HQ.out.2; have S3 : w4.cell? ⟨r.x, 1, none⟩ = some (.pointer (some ⟨r.c, 0, none⟩)) ∧ w4.cell? ⟨q, 1, none⟩ = some (.int .i64 Fr) ∧ w4.cell? ⟨q, 5, none⟩ = some (.int .i64 N) := ⟨RDid.c1w hd4, r2.cell 1, r2.cell 5⟩))
  all_goals
    have HD := Lib.hid hst
    have HB2 := Lib.hid hb2
    clear hst hd3 hd4 k1 k2 k3 k4 r1 r2 S0 S1 S2 S3 h1 hp2 hr2 rs2 hb2
    go_wp2_with fail
    go_ret
    exact ⟨ret_bool (by simp), HD.out.1, HB1.out.trans ((HB2.out.mono HR.out.1.size).trans HD.out.2)⟩
end
end Go.Proofs.YtklhcgekagimkaaGreat
