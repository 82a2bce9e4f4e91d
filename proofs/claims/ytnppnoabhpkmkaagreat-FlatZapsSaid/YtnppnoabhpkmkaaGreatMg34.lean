/- The reference of areas: Copy. -/
import Derived.Test.YtnppnoabhpkmkaaGreatMg33
import Derived.Test.YtnppnoabhpkmkaaGreatMg32
namespace Go.Proofs.YtnppnoabhpkmkaaGreat
open Go.RowKit
def cpX (P : Int → Pg) (x : Nat) : Int → Pg := fun k => if k < x then cpP P k else P k
theorem cpX_succ (P : Int → Pg) (x : Nat) (y : Pg) (hy : y = cpP P x) (i : Int) : (if i = x then y else cpX P x i) = cpX P (x + 1) i := by
  unfold cpX
  by_cases e : i = x
  · subst e; rw [if_pos rfl, if_pos (by omega), hy]
  · rw [if_neg e]
    by_cases c : i < x
    · rw [if_pos c, if_pos (by omega)]
    · rw [if_neg c, if_neg (by omega)]
theorem cpX_same (P : Int → Pg) (x : Nat) (hy : P x = cpP P x) (i : Int) : cpX P x i = cpX P (x + 1) i := by
  rw [← cpX_succ P x (P x) hy i]
  by_cases e : i = x
  · subst e; rw [if_pos rfl]; unfold cpX; rw [if_neg (by omega)]
  · rw [if_neg e]
theorem cpP_ps {P : Int → Pg} (h : PsOk P) : PsOk (cpP P) := by
  refine ⟨fun i => ?_, fun i hi => ?_, fun i => ?_⟩
  · rcases cpP_or P i with e | e <;> rw [e]
    · exact h.ok i
    · exact zP_ok
  · rcases cpP_or P i with e | e <;> rw [e]
    exact h.far i hi
  · rcases cpP_or P i with e | e <;> rw [e]
    · exact h.sm i
    · exact ⟨by show (0 : Int) ≤ 0; omega, by show (0 : Int) ≤ 4096; omega⟩
section
variable {w w' : World} {B D xa xb : Nat} {v vb : Value} {P Q : Int → Pg}
set_option maxRecDepth 100000 in
set_option maxHeartbeats 4000000 in
theorem rcopy_is (h : Px B w xa v P) : Calls Tryz.prog 33 #[.pointer (some ⟨xa, 0, none⟩)] w (CopiedX (cpP P) w) := by
  have hcp := copied_is h
  have HPS := Lib.hid h.ok
  obtain ⟨M, hM⟩ : ∃ M : Nat, M = 4096 := ⟨_, rfl⟩
  have HM := Lib.hid hM
  clear h hM
  go_enter Tryz.func33, Tryz.ntmps33
  go_wp2_with (go_at_call 53; (with_reducible refine hcp.mono ?_); rintro e w1 ⟨xb, vb, rfl, hx1, hb1⟩)
  obtain ⟨g, c, rfl, hgD, -, -⟩ := hx1.form
  have hB0 : Bx w.heap.size w1 xb (.slice (some ⟨g, 0, none⟩) 4096 c) (cpX P 0) := hx1.bx.congr fun i _ => by unfold cpX; rw [if_neg (by omega)]
  have HX := Lib.hid hB0
  have HB := Lib.hid hb1
  have HG := Lib.hid hgD
  clear hx1 hb1 hB0 hgD hcp
  go_loopw [4] (fun i wr => ∃ x : Nat, x ≤ 4096 ∧ i = .int .i64 x ∧ Bx w.heap.size wr xb (.slice (some ⟨g, 0, none⟩) 4096 c) (cpX P x) ∧ Below w.heap.size w wr) (fun i _ => 4096 - (RowKit.intOf i).toNat)
  case atStart => exact ⟨0, Nat.zero_le _, rfl, HX.out, HB.out⟩
  case round =>
    obtain ⟨x, hx4, rfl, hx, hb⟩ := hrel
    have HBX := Lib.hid hx
    have HBB := Lib.hid hb
    by_cases hlt : x < 4096
    · have c0 := hx.c0
      rw [← HM.out] at c0
      have p0 := (hx.cells rfl hlt).1
      have hpx : cpX P x x = P x := by unfold cpX; rw [if_neg (by omega)]
      rw [hpx] at p0
      have x0 : (0 : Int) ≤ x := by omega
      have xM : (x : Int) < (M : Int) := by have := HM.out; omega
      have x4 : (x : Int) < 4096 := by omega
      obtain ⟨y, hy⟩ : ∃ y, y = (P x).h := ⟨_, rfl⟩
      rw [← hy] at p0
      have HY := Lib.hid hy
      have HPX := Lib.hid hpx
      by_cases hs1 : 1 < szO y
      · by_cases hsh : shr y
        · have hsd : decide (shr y) = true := decide_eq_true hsh
          have HE : Hid (P x = cpP P x) := by show _ = _; unfold cpP; rw [← HY.out, if_neg (fun k => k.2 hsh)]
          have hsz := size_is y
          generalize szO y = z at *
          clear hx hb hy hpx hsh hx4
          go_wp2_with (first | (go_at_call 18; (with_reducible refine (hsz _).mono ?_); rintro e wz ⟨rfl, rfl⟩) | (go_at_call 15; (with_reducible refine (shared_is _ _).mono ?_); rintro e wz ⟨rfl, rfl⟩; rw [hsd]))
          go_roundw
          case rel => exact ⟨x + 1, by omega, by go_num, HBX.out.congr fun i _ => cpX_same P x HE.out i, HBB.out⟩
          case measure => simp [RowKit.intOf]; omega
        · have hsd : decide (shr y) = false := decide_eq_false hsh
          have HE : Hid (zP = cpP P x) := by show _ = _; unfold cpP; rw [← HY.out, if_pos ⟨hs1, hsh⟩]
          obtain ⟨hpg, ⟨u0, k0⟩, f0, ⟨u1, k1⟩, f1, ⟨u2, k2⟩, f2, ⟨u3, k3⟩, f3⟩ := hx.page rfl hlt 0 0 0 0
          have HPG := Lib.hid hpg
          have hsz := size_is y
          generalize szO y = z at *
          clear hx hb hy hpx hsh hx4 hpg
          go_wp2_with (first | (go_at_call 18; (with_reducible refine (hsz _).mono ?_); rintro e wz ⟨rfl, rfl⟩) | (go_at_call 15; (with_reducible refine (shared_is _ _).mono ?_); rintro e wz ⟨rfl, rfl⟩; rw [hsd]))
          go_roundw
          case rel =>
            refine ⟨x + 1, by omega, by go_num, HPG.out.congr fun i _ => ?_, below_set (below_set (below_set (below_set HBB.out HG.out _ _) HG.out _ _) HG.out _ _) HG.out _ _⟩
            rw [← cpX_succ P x zP HE.out]
            rfl
          case measure => simp [RowKit.intOf]; omega
      · have HE : Hid (P x = cpP P x) := by show _ = _; unfold cpP; rw [← HY.out, if_neg (fun k => hs1 k.1)]
        have hsz := size_is y
        generalize szO y = z at *
        clear hx hb hy hpx hx4
        go_wp2_with (go_at_call 18; (with_reducible refine (hsz _).mono ?_); rintro e wz ⟨rfl, rfl⟩)
        go_roundw
        case rel => exact ⟨x + 1, by omega, by go_num, HBX.out.congr fun i _ => cpX_same P x HE.out i, HBB.out⟩
        case measure => simp [RowKit.intOf]; omega
    · have hxe : x = 4096 := by omega
      subst hxe
      have HE : Hid (CopiedX (cpP P) w (.returned (.pointer (some ⟨xb, 0, none⟩))) wr) := ⟨xb, _, rfl, (hx.congr fun i hi => by unfold cpX; rw [if_pos (by omega)]).px (cpP_ps HPS.out), hb⟩
      clear hx hb
      go_wp2_with fail
      go_ret
      exact HE.out
end
end Go.Proofs.YtnppnoabhpkmkaaGreat
/- The reference of spaces: Do, but for new spaces. -/
namespace Go.Proofs.YtnppnoabhpkmkaaGreat
open Go.RowKit
section
variable {w w' : World} {B : Nat} {T : RfT} {F : Fl} {s s' : SpB} {S S' : Sp}
theorem rmapped_is (h : RfAt B w T F) {j : Nat} (hj : j < F.L.length) (hs : T.LS[j]? = some s) (r : Rq) (hr : r.s = j) (ok : RqOk r) (hl : F.O.length ≤ 1000) : Calls Tryz.prog 36 #[.pointer (some ⟨T.xa, 0, none⟩), .pointer (some ⟨s.sb, 0, none⟩), .agg (opL r).toArray] w (ResF B w T (mapR F r)) := by
  by_cases sh : shr r.h
  · by_cases a0 : r.a = 0
    · by_cases e1 : mapE (fun _ => zP) (szO r.h) r.n r.h r.p (objI F r.h) = 0
      · by_cases r0 : roomP (sp F j).P r.n (szO r.h) = 0
        · exact rmap_szr0 h hj hs r hr ok hl sh a0 e1 r0
        · by_cases e2 : mapE (sp F j).P (roomP (sp F j).P r.n (szO r.h)) r.n r.h r.p (objI F r.h) = 0
          · exact rmap_szok h hj hs r hr ok hl sh a0 e1 r0 e2
          · exact rmap_sze2 h hj hs r hr ok hl sh a0 e1 r0 e2
      · exact rmap_sze1 h hj hs r hr ok hl sh a0 e1
    · by_cases e2 : mapE (sp F j).P r.a r.n r.h r.p (objI F r.h) = 0
      · exact rmap_spok h hj hs r hr ok hl sh a0 e2
      · exact rmap_spe2 h hj hs r hr ok hl sh a0 e2
  · by_cases a0 : r.a = 0
    · by_cases e1 : mapE (fun _ => zP) (szO r.h) r.n r.h r.p (objI F r.h) = 0
      · by_cases r0 : roomP (sp F j).P r.n (szO r.h) = 0
        · exact rmap_nzr0 h hj hs r hr ok hl sh a0 e1 r0
        · by_cases e2 : mapE (sp F j).P (roomP (sp F j).P r.n (szO r.h)) r.n r.h r.p (objI F r.h) = 0
          · exact rmap_nzok h hj hs r hr ok hl sh a0 e1 r0 e2
          · exact rmap_nze2 h hj hs r hr ok hl sh a0 e1 r0 e2
      · exact rmap_nze1 h hj hs r hr ok hl sh a0 e1
    · by_cases e2 : mapE (sp F j).P r.a r.n r.h r.p (objI F r.h) = 0
      · exact rmap_npok h hj hs r hr ok hl sh a0 e2
      · exact rmap_npe2 h hj hs r hr ok hl sh a0 e2
theorem rchange_is (h : RfAt B w T F) {j : Nat} (hj : j < F.L.length) (hs : T.LS[j]? = some s) (r : Rq) (ok : RqOk r) : Calls Tryz.prog 37 #[.pointer (some ⟨T.xa, 0, none⟩), .pointer (some ⟨s.sb, 0, none⟩), .agg (opL r).toArray] w (ChgF B w T F j r) := by
  by_cases k3 : r.k = 3
  · exact rchg_un h hj hs r ok k3
  · by_cases k4 : r.k = 4
    · exact rchg_pr h hj hs r ok k4
    · by_cases k5 : r.k = 5
      · exact rchg_zap h hj hs r ok k5
      · by_cases k6 : r.k = 6
        · exact rchg_mv h hj hs r ok k6
        · exact rchg_ex h hj hs r k3 k4 k5 k6
set_option maxRecDepth 100000 in
set_option maxHeartbeats 4000000 in
theorem rdo_lo (h : RfAt B w T F) (r : Rq) (c : r.k < 1) : Calls Tryz.prog 16 #[.pointer (some ⟨T.xa, 0, none⟩), .agg (opL r).toArray] w (ResF B w T (stF F r)) := by
  have hst : stF F r = noF F 2 := by
    unfold stF; rw [if_pos (Or.inl c)]
  rw [hst]
  obtain ⟨W, b0, b1, hO⟩ := opAt w r
  obtain ⟨hbW, ro, rr, hg0, hg1⟩ := hO.facts
  have o0 : W.cell? ⟨b0, 0, none⟩ = some (.int .i64 r.k) := ro.cell 0
  have HRR := Lib.hid rr
  have HW := Lib.hid hO
  have HG1 := Lib.hid hg1
  have HD := Lib.hid (h.did hbW)
  clear h hbW ro rr hg0 hg1 hO hst
  go_enter Tryz.func16, Tryz.ntmps16
  go_upto_region 1 with (fail)
  rw [← HW.out.1, ← HW.out.2.1, ← HW.out.2.2]
  go_wp2_with (first | (go_at_call 30; (with_reducible refine (rnone_is _ _).mono ?_); rintro e w9 ⟨rfl, hb9⟩; have g0 := (HRR.out.call hb9).cell 0; have g1 := (HRR.out.call hb9).cell 1; have f0 := (HRR.out.call hb9).frozen 0; have f1 := (HRR.out.call hb9).frozen 1; have HB9 := Lib.hid hb9; clear hb9))
  exact bodyPost_ret (v := .agg #[.int .i64 2, .int .u64 0]) (by simp [results, Tryz.results16, go_sem, *]) rfl ⟨rfl, (HD.out.post HB9.out).lay (HRR.out.call HB9.out) HG1.out _ _⟩
set_option maxRecDepth 100000 in
set_option maxHeartbeats 4000000 in
theorem rdo_hi (h : RfAt B w T F) (r : Rq) (c0 : ¬ r.k < 1) (c : 10 < r.k) : Calls Tryz.prog 16 #[.pointer (some ⟨T.xa, 0, none⟩), .agg (opL r).toArray] w (ResF B w T (stF F r)) := by
  have hst : stF F r = noF F 2 := by
    unfold stF; rw [if_pos (Or.inr c)]
  rw [hst]
  obtain ⟨W, b0, b1, hO⟩ := opAt w r
  obtain ⟨hbW, ro, rr, hg0, hg1⟩ := hO.facts
  have o0 : W.cell? ⟨b0, 0, none⟩ = some (.int .i64 r.k) := ro.cell 0
  have HRR := Lib.hid rr
  have HW := Lib.hid hO
  have HG1 := Lib.hid hg1
  have HD := Lib.hid (h.did hbW)
  clear h hbW ro rr hg0 hg1 hO hst
  go_enter Tryz.func16, Tryz.ntmps16
  go_upto_region 1 with (fail)
  rw [← HW.out.1, ← HW.out.2.1, ← HW.out.2.2]
  go_wp2_with (first | (go_at_call 30; (with_reducible refine (rnone_is _ _).mono ?_); rintro e w9 ⟨rfl, hb9⟩; have g0 := (HRR.out.call hb9).cell 0; have g1 := (HRR.out.call hb9).cell 1; have f0 := (HRR.out.call hb9).frozen 0; have f1 := (HRR.out.call hb9).frozen 1; have HB9 := Lib.hid hb9; clear hb9))
  exact bodyPost_ret (v := .agg #[.int .i64 2, .int .u64 0]) (by simp [results, Tryz.results16, go_sem, *]) rfl ⟨rfl, (HD.out.post HB9.out).lay (HRR.out.call HB9.out) HG1.out _ _⟩
set_option maxRecDepth 100000 in
set_option maxHeartbeats 4000000 in
theorem rdo_out (h : RfAt B w T F) (r : Rq) (c0 : ¬ r.k < 1) (c1 : ¬ 10 < r.k) (c2 : r.k ≠ 1) (c3 : isS F r.s = false) : Calls Tryz.prog 16 #[.pointer (some ⟨T.xa, 0, none⟩), .agg (opL r).toArray] w (ResF B w T (stF F r)) := by
  have hst : stF F r = noF F 11 := by
    unfold stF; rw [if_neg (by omega), if_neg c2, if_pos c3]
  rw [hst]
  obtain ⟨W, b0, b1, hO⟩ := opAt w r
  obtain ⟨hbW, ro, rr, hg0, hg1⟩ := hO.facts
  have o0 : W.cell? ⟨b0, 0, none⟩ = some (.int .i64 r.k) := ro.cell 0
  have HRR := Lib.hid rr
  have HW := Lib.hid hO
  have HG1 := Lib.hid hg1
  have HD := Lib.hid (h.did hbW)
  have o1 : W.cell? ⟨b0, 1, none⟩ = some (.int .i64 r.s) := ro.cell 1
  have hi := ris_is (h.call hbW) r.s
  rw [c3] at hi
  have n1 : (r.k == 1) = false := by simpa using c2
  clear h hbW ro rr hg0 hg1 hO hst c2 c3
  go_enter Tryz.func16, Tryz.ntmps16
  go_upto_region 1 with (fail)
  rw [← HW.out.1, ← HW.out.2.1, ← HW.out.2.2]
  go_wp2_with (first | (go_at_call 30; (with_reducible refine (rnone_is _ _).mono ?_); rintro e w9 ⟨rfl, hb9⟩; have g0 := (HRR.out.call hb9).cell 0; have g1 := (HRR.out.call hb9).cell 1; have f0 := (HRR.out.call hb9).frozen 0; have f1 := (HRR.out.call hb9).frozen 1; have HB9 := Lib.hid hb9; clear hb9) | (go_at_call 19; (with_reducible refine hi.mono ?_); rintro e wz ⟨rfl, rfl⟩))
  exact bodyPost_ret (v := .agg #[.int .i64 11, .int .u64 0]) (by simp [results, Tryz.results16, go_sem, *]) rfl ⟨rfl, (HD.out.post HB9.out).lay (HRR.out.call HB9.out) HG1.out _ _⟩
set_option maxRecDepth 100000 in
set_option maxHeartbeats 4000000 in
theorem rdo_ld (h : RfAt B w T F) (r : Rq) (hF : FlOk F) (ok : RqOk r) (hl : F.O.length ≤ 1000) (c0 : ¬ r.k < 1) (c1 : ¬ 10 < r.k) (c2 : r.k ≠ 1) (c3 : isS F r.s = true) (c7 : r.k ≠ 7) (c9 : r.k = 9) : Calls Tryz.prog 16 #[.pointer (some ⟨T.xa, 0, none⟩), .agg (opL r).toArray] w (ResF B w T (accR F r)) := by
  obtain ⟨k0, k1, -⟩ := isS_get c3
  obtain ⟨j, hj0⟩ : ∃ j : Nat, r.s = j := ⟨r.s.toNat, by omega⟩
  have hj : j < F.L.length := by omega
  obtain ⟨W, b0, b1, hO⟩ := opAt w r
  obtain ⟨hbW, ro, rr, hg0, hg1⟩ := hO.facts
  have o0 : W.cell? ⟨b0, 0, none⟩ = some (.int .i64 r.k) := ro.cell 0
  have HRR := Lib.hid rr
  have HW := Lib.hid hO
  have HG1 := Lib.hid hg1
  have o1 : W.cell? ⟨b0, 1, none⟩ = some (.int .i64 r.s) := ro.cell 1
  have hi := ris_is (h.call hbW) r.s
  rw [c3] at hi
  obtain ⟨A, cc, hv⟩ := h.ls.form
  have x0 := (h.call hbW).c0
  obtain ⟨hn, hp⟩ := (h.call hbW).ptr hv
  obtain ⟨g, s, rfl, hs, x1⟩ := hp j hj
  rw [hv, hn] at x0
  have n1 : (r.k == 1) = false := by simpa using c2
  have n7 : (r.k == 7) = false := by simpa using c7
  have j0 : (0 : Int) ≤ j := by omega
  have n9 : (r.k == 9) = true := by rw [c9]; rfl
  rw [hj0] at o1 hi
  have hjn : (j : Int) < (F.L.length : Int) := by omega
  obtain ⟨nn, hnn⟩ : ∃ nn, nn = F.L.length := ⟨_, rfl⟩
  rw [← hnn] at x0 hjn
  have HB1 := Lib.hid hbW
  have HRO := Lib.hid ro
  have HH := Lib.hid h
  have HFF := Lib.hid hF
  have OK := Lib.hid ok
  have HL := Lib.hid hl
  have HJ := Lib.hid (And.intro hj (And.intro hs hj0))
  clear h hbW ro rr hg0 hg1 hO hv hn hp hs hj hj0 hF ok hl k0 k1 hnn c2 c3 c7 c9
  go_enter Tryz.func16, Tryz.ntmps16
  go_upto_region 1 with (fail)
  rw [← HW.out.1, ← HW.out.2.1, ← HW.out.2.2]
  go_upto_region 7 with (go_at_call 19; (with_reducible refine hi.mono ?_); rintro e wz ⟨rfl, rfl⟩)
  go_quiet (fail)
  have hBq : Below W.heap.size W (W.drewN nq) := below_dN (Below.refl _ _) nq
  have hBw : Below w.heap.size w (W.drewN nq) := below_dN HB1.out nq
  have roq := HRO.out.call hBq
  have q0 : (W.drewN nq).cell? ⟨b0, 0, none⟩ = some (.int .i64 r.k) := roq.cell 0
  have q1 : (W.drewN nq).cell? ⟨b0, 1, none⟩ = some (.int .i64 r.s) := roq.cell 1
  have q2 : (W.drewN nq).cell? ⟨b0, 2, none⟩ = some (.int .i64 r.a) := roq.cell 2
  have q3 : (W.drewN nq).cell? ⟨b0, 3, none⟩ = some (.int .i64 r.n) := roq.cell 3
  have q4 : (W.drewN nq).cell? ⟨b0, 4, none⟩ = some (.int .i64 r.h) := roq.cell 4
  have q5 : (W.drewN nq).cell? ⟨b0, 5, none⟩ = some (.int .i64 r.p) := roq.cell 5
  have q6 : (W.drewN nq).cell? ⟨b0, 6, none⟩ = some (.int .i64 r.t) := roq.cell 6
  have q7 : (W.drewN nq).cell? ⟨b0, 7, none⟩ = some (.int .i64 r.c) := roq.cell 7
  have q8 : (W.drewN nq).cell? ⟨b0, 8, none⟩ = some (.int .u64 r.v) := roq.cell 8
  have hc := racc_is (HH.out.call hBw) HFF.out HJ.out.1 HJ.out.2.1 r HJ.out.2.2
  unfold opL at hc
  have HBW := Lib.hid hBw
  have HRQ := Lib.hid (HRR.out.call hBq)
  clear hBq hBw roq o0 o1 x0 x1
  generalize W.drewN nq = W2 at *
  obtain ⟨R, hR⟩ : ∃ R, R = (accR F r) := ⟨_, rfl⟩
  unfold ResF at hc
  rw [← hR] at hc
  have HRr := Lib.hid hR
  clear hR
  have hgoal : Hid (∀ (e : Ending) (w' : World), (e = .returned (.agg #[.int .i64 R.1, .int .u64 R.2.1]) ∧ DidF B w T R.2.2 w') → ResF B w T (accR F r) e w') := fun e w' hh => by unfold ResF; rw [← HRr.out]; exact hh
  obtain ⟨u, v, G⟩ := R
  dsimp only at hc hgoal
  go_wp2_with (go_at_call 35; (with_reducible refine hc.mono ?_); rintro e w4 ⟨rfl, hd4⟩; have HD4 := Lib.hid hd4; have f4 := hd4.choose_spec.2.2.1; have hr4 := f4.row HRQ.out ((HH.out.call HBW.out).other HRQ.out (by decide)); have HR4 := Lib.hid hr4; have g0 := hr4.cell 0; have g1 := hr4.cell 1; have f0 := hr4.frozen 0; have f1 := hr4.frozen 1; clear hd4 f4 hr4)
  exact bodyPost_ret (v := .agg #[.int .i64 u, .int .u64 v]) (by simp [results, Tryz.results16, go_sem, *]) rfl (hgoal.out _ _ ⟨rfl, (HD4.out.pre HBW.out).lay HR4.out HG1.out _ _⟩)
set_option maxRecDepth 100000 in
set_option maxHeartbeats 4000000 in
theorem rdo_st (h : RfAt B w T F) (r : Rq) (hF : FlOk F) (ok : RqOk r) (hl : F.O.length ≤ 1000) (c0 : ¬ r.k < 1) (c1 : ¬ 10 < r.k) (c2 : r.k ≠ 1) (c3 : isS F r.s = true) (c7 : r.k ≠ 7) (c9 : r.k = 10) : Calls Tryz.prog 16 #[.pointer (some ⟨T.xa, 0, none⟩), .agg (opL r).toArray] w (ResF B w T (accR F r)) := by
  obtain ⟨k0, k1, -⟩ := isS_get c3
  obtain ⟨j, hj0⟩ : ∃ j : Nat, r.s = j := ⟨r.s.toNat, by omega⟩
  have hj : j < F.L.length := by omega
  obtain ⟨W, b0, b1, hO⟩ := opAt w r
  obtain ⟨hbW, ro, rr, hg0, hg1⟩ := hO.facts
  have o0 : W.cell? ⟨b0, 0, none⟩ = some (.int .i64 r.k) := ro.cell 0
  have HRR := Lib.hid rr
  have HW := Lib.hid hO
  have HG1 := Lib.hid hg1
  have o1 : W.cell? ⟨b0, 1, none⟩ = some (.int .i64 r.s) := ro.cell 1
  have hi := ris_is (h.call hbW) r.s
  rw [c3] at hi
  obtain ⟨A, cc, hv⟩ := h.ls.form
  have x0 := (h.call hbW).c0
  obtain ⟨hn, hp⟩ := (h.call hbW).ptr hv
  obtain ⟨g, s, rfl, hs, x1⟩ := hp j hj
  rw [hv, hn] at x0
  have n1 : (r.k == 1) = false := by simpa using c2
  have n7 : (r.k == 7) = false := by simpa using c7
  have j0 : (0 : Int) ≤ j := by omega
  have n9 : (r.k == 9) = false := by rw [c9]; rfl
  have n10 : (r.k == 10) = true := by rw [c9]; rfl
  rw [hj0] at o1 hi
  have hjn : (j : Int) < (F.L.length : Int) := by omega
  obtain ⟨nn, hnn⟩ : ∃ nn, nn = F.L.length := ⟨_, rfl⟩
  rw [← hnn] at x0 hjn
  have HB1 := Lib.hid hbW
  have HRO := Lib.hid ro
  have HH := Lib.hid h
  have HFF := Lib.hid hF
  have OK := Lib.hid ok
  have HL := Lib.hid hl
  have HJ := Lib.hid (And.intro hj (And.intro hs hj0))
  clear h hbW ro rr hg0 hg1 hO hv hn hp hs hj hj0 hF ok hl k0 k1 hnn c2 c3 c7 c9
  go_enter Tryz.func16, Tryz.ntmps16
  go_upto_region 1 with (fail)
  rw [← HW.out.1, ← HW.out.2.1, ← HW.out.2.2]
  go_upto_region 7 with (go_at_call 19; (with_reducible refine hi.mono ?_); rintro e wz ⟨rfl, rfl⟩)
  go_quiet (fail)
  have hBq : Below W.heap.size W (W.drewN nq) := below_dN (Below.refl _ _) nq
  have hBw : Below w.heap.size w (W.drewN nq) := below_dN HB1.out nq
  have roq := HRO.out.call hBq
  have q0 : (W.drewN nq).cell? ⟨b0, 0, none⟩ = some (.int .i64 r.k) := roq.cell 0
  have q1 : (W.drewN nq).cell? ⟨b0, 1, none⟩ = some (.int .i64 r.s) := roq.cell 1
  have q2 : (W.drewN nq).cell? ⟨b0, 2, none⟩ = some (.int .i64 r.a) := roq.cell 2
  have q3 : (W.drewN nq).cell? ⟨b0, 3, none⟩ = some (.int .i64 r.n) := roq.cell 3
  have q4 : (W.drewN nq).cell? ⟨b0, 4, none⟩ = some (.int .i64 r.h) := roq.cell 4
  have q5 : (W.drewN nq).cell? ⟨b0, 5, none⟩ = some (.int .i64 r.p) := roq.cell 5
  have q6 : (W.drewN nq).cell? ⟨b0, 6, none⟩ = some (.int .i64 r.t) := roq.cell 6
  have q7 : (W.drewN nq).cell? ⟨b0, 7, none⟩ = some (.int .i64 r.c) := roq.cell 7
  have q8 : (W.drewN nq).cell? ⟨b0, 8, none⟩ = some (.int .u64 r.v) := roq.cell 8
  have hc := racc_is (HH.out.call hBw) HFF.out HJ.out.1 HJ.out.2.1 r HJ.out.2.2
  unfold opL at hc
  have HBW := Lib.hid hBw
  have HRQ := Lib.hid (HRR.out.call hBq)
  clear hBq hBw roq o0 o1 x0 x1
  generalize W.drewN nq = W2 at *
  obtain ⟨R, hR⟩ : ∃ R, R = (accR F r) := ⟨_, rfl⟩
  unfold ResF at hc
  rw [← hR] at hc
  have HRr := Lib.hid hR
  clear hR
  have hgoal : Hid (∀ (e : Ending) (w' : World), (e = .returned (.agg #[.int .i64 R.1, .int .u64 R.2.1]) ∧ DidF B w T R.2.2 w') → ResF B w T (accR F r) e w') := fun e w' hh => by unfold ResF; rw [← HRr.out]; exact hh
  obtain ⟨u, v, G⟩ := R
  dsimp only at hc hgoal
  go_wp2_with (go_at_call 35; (with_reducible refine hc.mono ?_); rintro e w4 ⟨rfl, hd4⟩; have HD4 := Lib.hid hd4; have f4 := hd4.choose_spec.2.2.1; have hr4 := f4.row HRQ.out ((HH.out.call HBW.out).other HRQ.out (by decide)); have HR4 := Lib.hid hr4; have g0 := hr4.cell 0; have g1 := hr4.cell 1; have f0 := hr4.frozen 0; have f1 := hr4.frozen 1; clear hd4 f4 hr4)
  exact bodyPost_ret (v := .agg #[.int .i64 u, .int .u64 v]) (by simp [results, Tryz.results16, go_sem, *]) rfl (hgoal.out _ _ ⟨rfl, (HD4.out.pre HBW.out).lay HR4.out HG1.out _ _⟩)
set_option maxRecDepth 100000 in
set_option maxHeartbeats 4000000 in
theorem rdo_map (h : RfAt B w T F) (r : Rq) (hF : FlOk F) (ok : RqOk r) (hl : F.O.length ≤ 1000) (c0 : ¬ r.k < 1) (c1 : ¬ 10 < r.k) (c2 : r.k ≠ 1) (c3 : isS F r.s = true) (c7 : r.k ≠ 7) (c9 : r.k = 2) : Calls Tryz.prog 16 #[.pointer (some ⟨T.xa, 0, none⟩), .agg (opL r).toArray] w (ResF B w T (mapR F r)) := by
  obtain ⟨k0, k1, -⟩ := isS_get c3
  obtain ⟨j, hj0⟩ : ∃ j : Nat, r.s = j := ⟨r.s.toNat, by omega⟩
  have hj : j < F.L.length := by omega
  obtain ⟨W, b0, b1, hO⟩ := opAt w r
  obtain ⟨hbW, ro, rr, hg0, hg1⟩ := hO.facts
  have o0 : W.cell? ⟨b0, 0, none⟩ = some (.int .i64 r.k) := ro.cell 0
  have HRR := Lib.hid rr
  have HW := Lib.hid hO
  have HG1 := Lib.hid hg1
  have o1 : W.cell? ⟨b0, 1, none⟩ = some (.int .i64 r.s) := ro.cell 1
  have hi := ris_is (h.call hbW) r.s
  rw [c3] at hi
  obtain ⟨A, cc, hv⟩ := h.ls.form
  have x0 := (h.call hbW).c0
  obtain ⟨hn, hp⟩ := (h.call hbW).ptr hv
  obtain ⟨g, s, rfl, hs, x1⟩ := hp j hj
  rw [hv, hn] at x0
  have n1 : (r.k == 1) = false := by simpa using c2
  have n7 : (r.k == 7) = false := by simpa using c7
  have j0 : (0 : Int) ≤ j := by omega
  have n9 : (r.k == 9) = false := by rw [c9]; rfl
  have n10 : (r.k == 10) = false := by rw [c9]; rfl
  have n2 : (r.k == 2) = true := by rw [c9]; rfl
  rw [hj0] at o1 hi
  have hjn : (j : Int) < (F.L.length : Int) := by omega
  obtain ⟨nn, hnn⟩ : ∃ nn, nn = F.L.length := ⟨_, rfl⟩
  rw [← hnn] at x0 hjn
  have HB1 := Lib.hid hbW
  have HRO := Lib.hid ro
  have HH := Lib.hid h
  have HFF := Lib.hid hF
  have OK := Lib.hid ok
  have HL := Lib.hid hl
  have HJ := Lib.hid (And.intro hj (And.intro hs hj0))
  clear h hbW ro rr hg0 hg1 hO hv hn hp hs hj hj0 hF ok hl k0 k1 hnn c2 c3 c7 c9
  go_enter Tryz.func16, Tryz.ntmps16
  go_upto_region 1 with (fail)
  rw [← HW.out.1, ← HW.out.2.1, ← HW.out.2.2]
  go_upto_region 7 with (go_at_call 19; (with_reducible refine hi.mono ?_); rintro e wz ⟨rfl, rfl⟩)
  go_quiet (fail)
  have hBq : Below W.heap.size W (W.drewN nq) := below_dN (Below.refl _ _) nq
  have hBw : Below w.heap.size w (W.drewN nq) := below_dN HB1.out nq
  have roq := HRO.out.call hBq
  have q0 : (W.drewN nq).cell? ⟨b0, 0, none⟩ = some (.int .i64 r.k) := roq.cell 0
  have q1 : (W.drewN nq).cell? ⟨b0, 1, none⟩ = some (.int .i64 r.s) := roq.cell 1
  have q2 : (W.drewN nq).cell? ⟨b0, 2, none⟩ = some (.int .i64 r.a) := roq.cell 2
  have q3 : (W.drewN nq).cell? ⟨b0, 3, none⟩ = some (.int .i64 r.n) := roq.cell 3
  have q4 : (W.drewN nq).cell? ⟨b0, 4, none⟩ = some (.int .i64 r.h) := roq.cell 4
  have q5 : (W.drewN nq).cell? ⟨b0, 5, none⟩ = some (.int .i64 r.p) := roq.cell 5
  have q6 : (W.drewN nq).cell? ⟨b0, 6, none⟩ = some (.int .i64 r.t) := roq.cell 6
  have q7 : (W.drewN nq).cell? ⟨b0, 7, none⟩ = some (.int .i64 r.c) := roq.cell 7
  have q8 : (W.drewN nq).cell? ⟨b0, 8, none⟩ = some (.int .u64 r.v) := roq.cell 8
  have hc := rmapped_is (HH.out.call hBw) HJ.out.1 HJ.out.2.1 r HJ.out.2.2 OK.out HL.out
  unfold opL at hc
  have HBW := Lib.hid hBw
  have HRQ := Lib.hid (HRR.out.call hBq)
  clear hBq hBw roq o0 o1 x0 x1
  generalize W.drewN nq = W2 at *
  obtain ⟨R, hR⟩ : ∃ R, R = (mapR F r) := ⟨_, rfl⟩
  unfold ResF at hc
  rw [← hR] at hc
  have HRr := Lib.hid hR
  clear hR
  have hgoal : Hid (∀ (e : Ending) (w' : World), (e = .returned (.agg #[.int .i64 R.1, .int .u64 R.2.1]) ∧ DidF B w T R.2.2 w') → ResF B w T (mapR F r) e w') := fun e w' hh => by unfold ResF; rw [← HRr.out]; exact hh
  obtain ⟨u, v, G⟩ := R
  dsimp only at hc hgoal
  go_wp2_with (go_at_call 36; (with_reducible refine hc.mono ?_); rintro e w4 ⟨rfl, hd4⟩; have HD4 := Lib.hid hd4; have f4 := hd4.choose_spec.2.2.1; have hr4 := f4.row HRQ.out ((HH.out.call HBW.out).other HRQ.out (by decide)); have HR4 := Lib.hid hr4; have g0 := hr4.cell 0; have g1 := hr4.cell 1; have f0 := hr4.frozen 0; have f1 := hr4.frozen 1; clear hd4 f4 hr4)
  exact bodyPost_ret (v := .agg #[.int .i64 u, .int .u64 v]) (by simp [results, Tryz.results16, go_sem, *]) rfl (hgoal.out _ _ ⟨rfl, (HD4.out.pre HBW.out).lay HR4.out HG1.out _ _⟩)
set_option maxRecDepth 100000 in
set_option maxHeartbeats 4000000 in
theorem rdo_chg (h : RfAt B w T F) (r : Rq) (hF : FlOk F) (ok : RqOk r) (hl : F.O.length ≤ 1000) (c0 : ¬ r.k < 1) (c1 : ¬ 10 < r.k) (c2 : r.k ≠ 1) (c3 : isS F r.s = true) (c7 : r.k ≠ 7) (n2 : r.k ≠ 2) (n9 : r.k ≠ 9) (n10 : r.k ≠ 10) : Calls Tryz.prog 16 #[.pointer (some ⟨T.xa, 0, none⟩), .agg (opL r).toArray] w (ResF B w T (if chgE (sp F r.s) r ≠ 0 then noF F (chgE (sp F r.s) r) else (0, 0, put F r.s (chgS (sp F r.s) r)))) := by
  obtain ⟨k0, k1, -⟩ := isS_get c3
  obtain ⟨j, hj0⟩ : ∃ j : Nat, r.s = j := ⟨r.s.toNat, by omega⟩
  have hj : j < F.L.length := by omega
  obtain ⟨W, b0, b1, hO⟩ := opAt w r
  obtain ⟨hbW, ro, rr, hg0, hg1⟩ := hO.facts
  have o0 : W.cell? ⟨b0, 0, none⟩ = some (.int .i64 r.k) := ro.cell 0
  have HRR := Lib.hid rr
  have HW := Lib.hid hO
  have HG1 := Lib.hid hg1
  have o1 : W.cell? ⟨b0, 1, none⟩ = some (.int .i64 r.s) := ro.cell 1
  have hi := ris_is (h.call hbW) r.s
  rw [c3] at hi
  obtain ⟨A, cc, hv⟩ := h.ls.form
  have x0 := (h.call hbW).c0
  obtain ⟨hn, hp⟩ := (h.call hbW).ptr hv
  obtain ⟨g, s, rfl, hs, x1⟩ := hp j hj
  rw [hv, hn] at x0
  have n1 : (r.k == 1) = false := by simpa using c2
  have n7 : (r.k == 7) = false := by simpa using c7
  have j0 : (0 : Int) ≤ j := by omega
  have m9 : (r.k == 9) = false := by simpa using n9
  have m10 : (r.k == 10) = false := by simpa using n10
  have m2 : (r.k == 2) = false := by simpa using n2
  obtain ⟨R0, hR0⟩ : ∃ R0, R0 = (if chgE (sp F r.s) r ≠ 0 then noF F (chgE (sp F r.s) r) else (0, 0, put F r.s (chgS (sp F r.s) r))) := ⟨_, rfl⟩
  rw [← hR0]
  have HR0 := Lib.hid hR0
  clear hR0
  rw [hj0] at o1 hi
  have hjn : (j : Int) < (F.L.length : Int) := by omega
  obtain ⟨nn, hnn⟩ : ∃ nn, nn = F.L.length := ⟨_, rfl⟩
  rw [← hnn] at x0 hjn
  have HB1 := Lib.hid hbW
  have HRO := Lib.hid ro
  have HH := Lib.hid h
  have HFF := Lib.hid hF
  have OK := Lib.hid ok
  have HL := Lib.hid hl
  have HJ := Lib.hid (And.intro hj (And.intro hs hj0))
  clear h hbW ro rr hg0 hg1 hO hv hn hp hs hj hj0 hF ok hl k0 k1 hnn c2 c3 c7
  go_enter Tryz.func16, Tryz.ntmps16
  go_upto_region 1 with (fail)
  rw [← HW.out.1, ← HW.out.2.1, ← HW.out.2.2]
  go_upto_region 7 with (go_at_call 19; (with_reducible refine hi.mono ?_); rintro e wz ⟨rfl, rfl⟩)
  go_quiet (fail)
  have hBq : Below W.heap.size W (W.drewN nq) := below_dN (Below.refl _ _) nq
  have hBw : Below w.heap.size w (W.drewN nq) := below_dN HB1.out nq
  have roq := HRO.out.call hBq
  have q0 : (W.drewN nq).cell? ⟨b0, 0, none⟩ = some (.int .i64 r.k) := roq.cell 0
  have q1 : (W.drewN nq).cell? ⟨b0, 1, none⟩ = some (.int .i64 r.s) := roq.cell 1
  have q2 : (W.drewN nq).cell? ⟨b0, 2, none⟩ = some (.int .i64 r.a) := roq.cell 2
  have q3 : (W.drewN nq).cell? ⟨b0, 3, none⟩ = some (.int .i64 r.n) := roq.cell 3
  have q4 : (W.drewN nq).cell? ⟨b0, 4, none⟩ = some (.int .i64 r.h) := roq.cell 4
  have q5 : (W.drewN nq).cell? ⟨b0, 5, none⟩ = some (.int .i64 r.p) := roq.cell 5
  have q6 : (W.drewN nq).cell? ⟨b0, 6, none⟩ = some (.int .i64 r.t) := roq.cell 6
  have q7 : (W.drewN nq).cell? ⟨b0, 7, none⟩ = some (.int .i64 r.c) := roq.cell 7
  have q8 : (W.drewN nq).cell? ⟨b0, 8, none⟩ = some (.int .u64 r.v) := roq.cell 8
  have hc := rchange_is (HH.out.call hBw) HJ.out.1 HJ.out.2.1 r OK.out
  unfold opL at hc
  have HBW := Lib.hid hBw
  have HRQ := Lib.hid (HRR.out.call hBq)
  clear hBq hBw roq o0 o1 x0 x1
  generalize W.drewN nq = W2 at *
  obtain ⟨E, hE⟩ : ∃ E, E = chgE (sp F (j : Int)) r := ⟨_, rfl⟩
  unfold ChgF at hc
  rw [← hE] at hc
  have HE := Lib.hid hE
  clear hE n2 n9 n10
  have hgoal : Hid (∀ w', DidF B w T (if E = 0 then put F j (chgS (sp F j) r) else F) w' → ResF B w T R0 (.returned (.agg #[.int .i64 E, .int .u64 0])) w') := fun w' hh => by
    rw [HR0.out, HJ.out.2.2, ← HE.out]
    by_cases c : E = 0
    · rw [if_pos c] at hh
      rw [if_neg (fun k => k c)]
      exact ⟨by rw [c], hh⟩
    · rw [if_neg c] at hh
      rw [if_pos c]
      exact ⟨rfl, hh⟩
  obtain ⟨G, hG⟩ : ∃ G, G = (if E = 0 then put F j (chgS (sp F j) r) else F) := ⟨_, rfl⟩
  rw [← hG] at hc hgoal
  clear hG
  go_wp2_with (first | (go_at_call 37; (with_reducible refine hc.mono ?_); rintro e w4 ⟨rfl, hd4⟩; have HD4 := Lib.hid hd4; have f4 := hd4.choose_spec.2.2.1; have hr4 := f4.row HRQ.out ((HH.out.call HBW.out).other HRQ.out (by decide)); have HR4 := Lib.hid hr4; clear hd4 f4 hr4) | (go_at_call 30; (with_reducible refine (rnone_is _ _).mono ?_); rintro e w9 ⟨rfl, hb9⟩; have g0 := (HR4.out.call hb9).cell 0; have g1 := (HR4.out.call hb9).cell 1; have f0 := (HR4.out.call hb9).frozen 0; have f1 := (HR4.out.call hb9).frozen 1; have HB9 := Lib.hid hb9; clear hb9))
  exact bodyPost_ret (v := .agg #[.int .i64 E, .int .u64 0]) (by simp [results, Tryz.results16, go_sem, *]) rfl (hgoal.out _ (((HD4.out.pre HBW.out).post HB9.out).lay (HR4.out.call HB9.out) HG1.out _ _))
end
end Go.Proofs.YtnppnoabhpkmkaaGreat
