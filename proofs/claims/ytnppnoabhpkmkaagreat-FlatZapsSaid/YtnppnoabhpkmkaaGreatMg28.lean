/- The reference of spaces: a load, a store. -/
import Derived.Test.YtnppnoabhpkmkaaGreatMg27
import Derived.Test.YtnppnoabhpkmkaaGreatMg25
namespace Go.Proofs.YtnppnoabhpkmkaaGreat
open Go.RowKit
/-- An operation as a value. -/
def opL (r : Rq) : List Value := [.int .i64 r.k, .int .i64 r.s, .int .i64 r.a, .int .i64 r.n, .int .i64 r.h, .int .i64 r.p, .int .i64 r.t, .int .i64 r.c, .int .u64 r.v]
section
variable {w w' : World} {B : Nat} {T : RfT} {F : Fl} {s s' : SpB} {S S' : Sp}
/-- A store: the world behind it. -/
theorem RfAt.stored (h : RfAt B w T F) (hF : FlOk F) {j : Nat} (hj : j < F.L.length) (hs : T.LS[j]? = some s) {a : Int} {q : Nat × Nat} {n : Nat} (hc : CellAt T s (sp F j) a q n) (v : Int) : DidF B w T (celS F j a v) (w.setCell ⟨q.1, n, none⟩ (.int .u64 v)) := by
  obtain ⟨s', hs', hsp⟩ := h.space hj
  rw [hs] at hs'
  injection hs' with hs'
  subst hs'
  obtain ⟨hn, hc⟩ := hc
  rcases hc with ⟨c, rfl, e⟩ | ⟨c, hq, e⟩
  · unfold celS
    dsimp only
    rw [if_neg c]
    refine h.putW hj hs (grown_set w _ n _) ?_
    rw [← e]
    exact hsp.wds.put hn v
  · have hob := (hF.sp (j : Int)).obj (a / 64) c
    obtain ⟨Av, cv, hvo⟩ := h.os.form
    obtain ⟨o, ho⟩ : ∃ o : Nat, ((sp F j).P (a / 64)).o = o := ⟨_, (Int.toNat_of_nonneg hob.1).symm⟩
    have hol : o < F.O.length := by omega
    obtain ⟨g, q', -, hq', -, hW⟩ := (h.obj hvo).2 o hol
    rw [ho, Int.toNat_natCast] at hq
    rw [hq'] at hq
    injection hq with hq
    subst hq
    unfold celS
    dsimp only
    rw [if_pos c]
    rw [ho, Int.toNat_natCast, ← e]
    refine h.putO hol hq' (grown_set w _ n _) (hW.put hn v) rfl ?_
    show F.O.modify o _ = F.O.set o _
    refine List.ext_getElem (by rw [List.length_modify, List.length_set]) fun i h1 h2 => ?_
    rw [List.getElem_modify, List.getElem_set]
    by_cases d : o = i
    · subst d
      rw [if_pos rfl, if_pos rfl, List.getD_eq_getElem?_getD, List.getElem?_eq_getElem hol]; rfl
    · rw [if_neg d, if_neg d]
/-- What an operation lies in, and its result: two new blocks. -/
def OpAt (w : World) (r : Rq) (W : World) (b0 b1 : Nat) : Prop := W = (w.alloc (.cells (opL r).toArray 25)).alloc (.cells #[.int .i64 0, .int .u64 0] 33) ∧ b1 = w.heap.size + 1 ∧ b0 = w.heap.size
theorem opAt (w : World) (r : Rq) : ∃ W b0 b1, OpAt w r W b0 b1 := ⟨_, _, _, rfl, rfl, rfl⟩
theorem OpAt.facts {r : Rq} {W : World} {b0 b1 : Nat} (h : OpAt w r W b0 b1) : Below w.heap.size w W ∧ Lrow W b0 25 (opL r) ∧ Lrow W b1 33 [.int .i64 0, .int .u64 0] ∧ w.heap.size ≤ b0 ∧ w.heap.size ≤ b1 := by
  obtain ⟨rfl, rfl, rfl⟩ := h
  have h1 := below_new w (.cells (opL r).toArray 25)
  refine ⟨h1.alloc h1.size _, (Lrow.new w _ (opL r)).alloc _, ?_, Nat.le_refl _, by omega⟩
  have := Lrow.new (w.alloc (.cells (opL r).toArray 25)) 33 [.int .i64 0, .int .u64 0]
  rw [show (w.alloc (.cells (opL r).toArray 25)).heap.size = w.heap.size + 1 by simp] at this
  exact this
/-- A result is laid. -/
theorem DidF.lay {w2 : World} {b1 : Nat} (d : DidF B w T F w2) (rr : Lrow w2 b1 33 [.int .i64 0, .int .u64 0]) (hg : w.heap.size ≤ b1) (u v : Value) : DidF B w T F ((w2.setCell ⟨b1, 0, none⟩ u).setCell ⟨b1, 1, none⟩ v) := (d.cell rr (by decide) hg u).cell (rr.set_ 0 u) (by decide) hg v
theorem okE_cases {eF eA : Int} {S : Sp} {a : Int} : celE eF eA S a = 0 ∨ celE eF eA S a ≠ 0 := Classical.em _
set_option maxRecDepth 100000 in
set_option maxHeartbeats 4000000 in
theorem racc_is (h : RfAt B w T F) (hF : FlOk F) {j : Nat} (hj : j < F.L.length) (hs : T.LS[j]? = some s) (r : Rq) (hr : r.s = j) : Calls Tryz.prog 35 #[.pointer (some ⟨T.xa, 0, none⟩), .pointer (some ⟨s.sb, 0, none⟩), .agg (opL r).toArray] w (ResF B w T (accR F r)) := by
  obtain ⟨W, b0, b1, hO⟩ := opAt w r
  obtain ⟨hbW, ro, rr, hg0, hg1⟩ := hO.facts
  have hcell := rcell_is (h.call hbW) hF hj hs r.a
  have HN : Hid (∀ w2, Below W.heap.size W w2 → ∀ e : Int, DidF B w T F ((w2.setCell ⟨b1, 0, none⟩ (.int .i64 e)).setCell ⟨b1, 1, none⟩ (.int .u64 0))) := fun w2 hb2 e => (h.did (hbW.trans (hb2.mono hbW.size))).lay (rr.call hb2) hg1 _ _
  have HR : Hid (∀ w2, Below W.heap.size W w2 → (w2.cell? ⟨b1, 0, none⟩ = some (.int .i64 0) ∧ w2.cell? ⟨b1, 1, none⟩ = some (.int .u64 0)) ∧ w2.frozen? ⟨b1, 0, none⟩ = false ∧ w2.frozen? ⟨b1, 1, none⟩ = false) := fun w2 hb2 => ⟨⟨(rr.call hb2).cell 0, (rr.call hb2).cell 1⟩, (rr.call hb2).frozen 0, (rr.call hb2).frozen 1⟩
  have HO : Hid (∀ w2, Below W.heap.size W w2 → w2.cell? ⟨b0, 0, none⟩ = some (.int .i64 r.k) ∧ w2.cell? ⟨b0, 2, none⟩ = some (.int .i64 r.a) ∧ w2.cell? ⟨b0, 8, none⟩ = some (.int .u64 r.v)) := fun w2 hb2 => ⟨(ro.call hb2).cell 0, (ro.call hb2).cell 2, (ro.call hb2).cell 8⟩
  obtain ⟨E, hE⟩ : ∃ E, E = celE 10 4 (sp F (j : Int)) r.a := ⟨_, rfl⟩
  have o2 := (HO.out W (Below.refl _ _)).2.1
  unfold accR
  rw [hr, ← hE]
  by_cases e0 : E = 0
  · rw [if_neg (fun k => k e0)]
    obtain ⟨s', hs', hsp⟩ := h.space hj
    rw [hs] at hs'
    injection hs' with hs'
    subst hs'
    have hz : celE 10 4 (sp F (j : Int)) r.a = 0 := hE.symm.trans e0
    obtain ⟨k0, k1, k2, k3⟩ := celE_ok hz
    obtain ⟨a, ha⟩ : ∃ a : Nat, r.a = a := ⟨r.a.toNat, by omega⟩
    obtain ⟨m, hm⟩ : ∃ m : Nat, r.a / 64 = m := ⟨(r.a / 64).toNat, by omega⟩
    rw [hm]
    obtain ⟨g, cc, hv, -, -, hat⟩ := hsp.ars.form
    obtain ⟨p, hp⟩ : ∃ p, p = ((sp F (j : Int)).P m).p := ⟨_, rfl⟩
    rw [← hp]
    obtain ⟨M, hM⟩ : ∃ M : Nat, M = 4096 := ⟨_, rfl⟩
    obtain ⟨M2, hM2⟩ : ∃ M : Nat, M = 32768 := ⟨_, rfl⟩
    have HFF : Hid (∀ w2, Below W.heap.size W w2 → w2.cell? ⟨s.sb, 0, none⟩ = some (.pointer (some ⟨s.ab, 0, none⟩)) ∧ w2.cell? ⟨s.ab, 0, none⟩ = some (.slice (some ⟨g, 0, none⟩) M cc) ∧ w2.cell? ⟨g, m * 4 + 1, none⟩ = some (.int .i64 p)) := fun w2 hb2 => by
      have q := hsp.call (hbW.trans (hb2.mono hbW.size))
      obtain ⟨g', c', hv', -, -, hat'⟩ := q.ars.form
      rw [hv] at hv'
      injection hv' with e1 _ e3
      injection e1 with e1
      injection e1 with e1 _ _
      have d2 := q.ars.c0
      rw [hv] at d2
      refine ⟨q.c0, by rw [hM]; exact d2, ?_⟩
      rw [hp, e1]
      exact (pg_at (hat' m (by omega))).2.1
    have HC : Hid (∀ w2, Below W.heap.size W w2 → ∀ q n, CellAt T s (sp F j) r.a q n → (w2.cell? ⟨q.1, n, none⟩ = some (.int .u64 (celV F (sp F j) r.a)) ∧ w2.frozen? ⟨q.1, n, none⟩ = false) ∧
        (∃ vs, Lrow w2 q.1 23 vs) ∧ DidF B w T (celS F j r.a r.v) (w2.setCell ⟨q.1, n, none⟩ (.int .u64 r.v))) := fun w2 hb2 q n hc => by
      have hb := hbW.trans (hb2.mono hbW.size)
      have h2 := h.call hb
      refine ⟨h2.word hF hj hs hc, ?_, (h2.stored hF hj hs hc r.v).pre hb⟩
      obtain ⟨hn, hc'⟩ := hc
      rcases hc' with ⟨_, rfl, _⟩ | ⟨_, hq, _⟩
      · exact (hsp.call hb).wds.block.1
      · obtain ⟨hi, e⟩ := List.getElem?_eq_some_iff.1 hq
        rw [← e]
        exact (h2.obs _ hi (by rw [← h2.no]; exact hi)).block.1
    have HRR := Lib.hid rr
    have m4 : (m : Int) < (M : Int) := by omega
    have m0 : (0 : Int) ≤ m := by omega
    unfold CellF at hcell
    rw [← hE, e0] at hcell
    have HM2 := Lib.hid hM2
    have HW := Lib.hid hO
    have HG1 := Lib.hid hg1
    have HBW := Lib.hid hbW
    obtain ⟨V, hV⟩ : ∃ V, V = celV F (sp F (j : Int)) r.a := ⟨_, rfl⟩
    rw [← hV] at HC ⊢
    have HL : Hid (∀ w2, Below W.heap.size W w2 → ∀ v : Int, DidF B w T F ((w2.setCell ⟨b1, 0, none⟩ (.int .i64 0)).setCell ⟨b1, 1, none⟩ (.int .u64 v))) := fun w2 hb2 v => (h.did (hbW.trans (hb2.mono hbW.size))).lay (rr.call hb2) hg1 _ _
    have HA := Lib.hid ha
    have a4 : (a : Int) ≤ 262143 := by omega
    have hma : (a : Int) / 64 = m := by omega
    by_cases p0 : p = 0
    · rw [if_pos (Or.inl p0)]
      subst p0
      clear h hbW ro rr hg0 hg1 hO hE hsp hat hv hp hM hM2 hV ha hm k0 k1 k2 k3 hz e0
      go_enter Tryz.func35, Tryz.ntmps35
      go_upto_region 1 with (fail)
      rw [← HW.out.1, ← HW.out.2.1, ← HW.out.2.2]
      go_upto_region 4 with (go_at_call 20; (with_reducible refine hcell.mono ?_); rintro e w1 ⟨Aq, mq, cq, iq, rfl, hb1, hq⟩; obtain ⟨q, n, rfl, rfl, rfl, rfl, hca⟩ := hq (by first | trivial | rfl))
      obtain ⟨d0, d1, d2⟩ := HFF.out w1 hb1
      have o2 := (HO.out w1 hb1).2.1
      rw [HA.out] at o2
      have HB1 := Lib.hid hb1
      have HCA := Lib.hid hca
      clear hb1 hca
      go_quiet (fail)
      have HB1 := Lib.hid (below_dN HB1.out nq)
      obtain ⟨o0, -, o8⟩ := HO.out _ HB1.out
      clear d0 d1 d2 o2
      go_wp2_with (go_at_call 30; (with_reducible refine (rnone_is _ _).mono ?_); rintro e w2 ⟨rfl, hb2⟩; have HB2 := Lib.hid (HB1.out.trans (hb2.mono HB1.out.size)); obtain ⟨⟨g0, g1⟩, f0, f1⟩ := HR.out w2 HB2.out; clear hb2)
      exact bodyPost_ret (v := .agg #[.int .i64 10, .int .u64 0]) (by simp [results, Tryz.results35, go_sem, *]) rfl ⟨rfl, HN.out w2 HB2.out 10⟩
    · have p0' : (p == 0) = false := by simpa using p0
      by_cases k10 : r.k = 10
      · by_cases p3 : p = 3
        · rw [if_neg (by rintro (k | ⟨_, k⟩); exact p0 k; exact k p3), if_pos k10]
          subst p3
          clear p0 p0'
          rw [k10] at HO
          clear h hbW ro rr hg0 hg1 hO hE hsp hat hv hp hM hM2 hV ha hm k0 k1 k2 k3 hz e0
          go_enter Tryz.func35, Tryz.ntmps35
          go_upto_region 1 with (fail)
          rw [← HW.out.1, ← HW.out.2.1, ← HW.out.2.2]
          go_upto_region 4 with (go_at_call 20; (with_reducible refine hcell.mono ?_); rintro e w1 ⟨Aq, mq, cq, iq, rfl, hb1, hq⟩; obtain ⟨q, n, rfl, rfl, rfl, rfl, hca⟩ := hq (by first | trivial | rfl))
          obtain ⟨d0, d1, d2⟩ := HFF.out w1 hb1
          have o2 := (HO.out w1 hb1).2.1
          rw [HA.out] at o2
          have HB1 := Lib.hid hb1
          have HCA := Lib.hid hca
          clear hb1 hca
          go_quiet (fail)
          have HB1 := Lib.hid (below_dN HB1.out nq)
          obtain ⟨o0, -, o8⟩ := HO.out _ HB1.out
          clear d0 d1 d2 o2
          obtain ⟨⟨v0, v1⟩, v2, hD⟩ := HC.out _ HB1.out q n HCA.out
          have hnl : (n : Int) < (M2 : Int) := by have := HCA.out.1; have := HM2.out; omega
          have n0 : (0 : Int) ≤ n := by omega
          rw [← HM2.out]
          obtain ⟨W3, hW3⟩ : ∃ W3, W3 = (w1.drewN nq).setCell ⟨q.1, n, none⟩ (.int .u64 r.v) := ⟨_, rfl⟩
          obtain ⟨qvs, qr⟩ := v2
          have rr3 : Lrow W3 b1 33 [.int .i64 0, .int .u64 0] := by
            rw [hW3]
            exact (HRR.out.call HB1.out).far ((HRR.out.call HB1.out).apart qr (by decide)) _
          rw [← hW3] at hD
          have HD := Lib.hid hD
          have HR3 := Lib.hid rr3
          have HW3 := Lib.hid hW3
          clear hD rr3 hW3 qr qvs
          go_upto_region 9 with (fail)
          rw [← HW3.out]
          clear v0 v1 o0 o8
          go_wp2_with (go_at_call 30; (with_reducible refine (rnone_is _ _).mono ?_); rintro e w4 ⟨rfl, hb4⟩; have HB4 := Lib.hid hb4; have g0 := (HR3.out.call hb4).cell 0; have g1 := (HR3.out.call hb4).cell 1; have f0 := (HR3.out.call hb4).frozen 0; have f1 := (HR3.out.call hb4).frozen 1; clear hb4)
          exact bodyPost_ret (v := .agg #[.int .i64 0, .int .u64 0]) (by simp [results, Tryz.results35, go_sem, *]) rfl ⟨rfl, (HD.out.post HB4.out).lay (HR3.out.call HB4.out) HG1.out _ _⟩
        · rw [if_pos (Or.inr ⟨k10, p3⟩)]
          have p3' : (p != 3) = true := by simpa using p3
          rw [k10] at HO
          clear h hbW ro rr hg0 hg1 hO hE hsp hat hv hp hM hM2 hV ha hm k0 k1 k2 k3 hz e0
          go_enter Tryz.func35, Tryz.ntmps35
          go_upto_region 1 with (fail)
          rw [← HW.out.1, ← HW.out.2.1, ← HW.out.2.2]
          go_upto_region 4 with (go_at_call 20; (with_reducible refine hcell.mono ?_); rintro e w1 ⟨Aq, mq, cq, iq, rfl, hb1, hq⟩; obtain ⟨q, n, rfl, rfl, rfl, rfl, hca⟩ := hq (by first | trivial | rfl))
          obtain ⟨d0, d1, d2⟩ := HFF.out w1 hb1
          have o2 := (HO.out w1 hb1).2.1
          rw [HA.out] at o2
          have HB1 := Lib.hid hb1
          have HCA := Lib.hid hca
          clear hb1 hca
          go_quiet (fail)
          have HB1 := Lib.hid (below_dN HB1.out nq)
          obtain ⟨o0, -, o8⟩ := HO.out _ HB1.out
          clear d0 d1 d2 o2
          go_wp2_with (go_at_call 30; (with_reducible refine (rnone_is _ _).mono ?_); rintro e w2 ⟨rfl, hb2⟩; have HB2 := Lib.hid (HB1.out.trans (hb2.mono HB1.out.size)); obtain ⟨⟨g0, g1⟩, f0, f1⟩ := HR.out w2 HB2.out; clear hb2)
          exact bodyPost_ret (v := .agg #[.int .i64 10, .int .u64 0]) (by simp [results, Tryz.results35, go_sem, *]) rfl ⟨rfl, HN.out w2 HB2.out 10⟩
      · rw [if_neg (by rintro (k | ⟨k, _⟩); exact p0 k; exact k10 k), if_neg k10]
        have k10' : (r.k == 10) = false := by simpa using k10
        clear h hbW ro rr hg0 hg1 hO hE hsp hat hv hp hM hM2 hV ha hm k0 k1 k2 k3 hz e0
        go_enter Tryz.func35, Tryz.ntmps35
        go_upto_region 1 with (fail)
        rw [← HW.out.1, ← HW.out.2.1, ← HW.out.2.2]
        go_upto_region 4 with (go_at_call 20; (with_reducible refine hcell.mono ?_); rintro e w1 ⟨Aq, mq, cq, iq, rfl, hb1, hq⟩; obtain ⟨q, n, rfl, rfl, rfl, rfl, hca⟩ := hq (by first | trivial | rfl))
        obtain ⟨d0, d1, d2⟩ := HFF.out w1 hb1
        have o2 := (HO.out w1 hb1).2.1
        rw [HA.out] at o2
        have HB1 := Lib.hid hb1
        have HCA := Lib.hid hca
        clear hb1 hca
        go_quiet (fail)
        have HB1 := Lib.hid (below_dN HB1.out nq)
        obtain ⟨o0, -, o8⟩ := HO.out _ HB1.out
        clear d0 d1 d2 o2
        obtain ⟨⟨v0, -⟩, -, -⟩ := HC.out _ HB1.out q n HCA.out
        have hnl : (n : Int) < (M2 : Int) := by have := HCA.out.1; have := HM2.out; omega
        have n0 : (0 : Int) ≤ n := by omega
        rw [← HM2.out]
        obtain ⟨⟨g0, g1⟩, f0, f1⟩ := HR.out _ HB1.out
        go_wp2_with fail
        exact bodyPost_ret (v := .agg #[.int .i64 0, .int .u64 V]) (by simp [results, Tryz.results35, go_sem, *]) rfl ⟨rfl, HL.out _ HB1.out V⟩
  · rw [if_pos (fun k => e0 k)]
    unfold CellF at hcell
    rw [← hE] at hcell
    have e0' : (E != 0) = true := by simpa using e0
    have HW := Lib.hid hO
    clear h hbW ro rr hg0 hg1 hE hO
    go_enter Tryz.func35, Tryz.ntmps35
    go_upto_region 1 with (fail)
    rw [← HW.out.1, ← HW.out.2.1, ← HW.out.2.2]
    go_wp2_with (first | (go_at_call 20; (with_reducible refine hcell.mono ?_); rintro e w1 ⟨Aq, mq, cq, iq, rfl, hb1, hq⟩; clear hq) | (go_at_call 30; (with_reducible refine (rnone_is _ _).mono ?_); rintro e w2 ⟨rfl, hb2⟩; have HB2 := Lib.hid (hb1.trans (hb2.mono hb1.size)); obtain ⟨⟨g0, g1⟩, f0, f1⟩ := HR.out w2 HB2.out; clear hb1 hb2))
    exact bodyPost_ret (v := .agg #[.int .i64 E, .int .u64 0]) (by simp [results, Tryz.results35, go_sem, *]) rfl ⟨rfl, HN.out w2 HB2.out E⟩
end
end Go.Proofs.YtnppnoabhpkmkaaGreat
/- The reference's Unmap. -/
namespace Go.Proofs.YtnppnoabhpkmkaaGreat
open Go.RowKit
/-- A copy under change. -/
structure Bx (B : Nat) (w : World) (xa : Nat) (v : Value) (P : Int → Pg) : Prop where
  top : Lrow w xa 48 [v]
  own : ∃ L : List Pg, L.length = 4096 ∧ EPg.Own B w v L ∧ ∀ (i : Nat) (h : i < L.length), L[i] = P i
  lo : B ≤ xa
  lw : B ≤ w.heap.size
section
variable {w w' : World} {B D xa xb : Nat} {v vb : Value} {P Q : Int → Pg}
theorem Px.bx (h : Px B w xa v P) : Bx B w xa v P := ⟨h.top, h.own, h.lo, h.lw⟩
theorem Bx.px (h : Bx B w xa v P) (ok : PsOk P) : Px B w xa v P := ⟨h.top, h.own, ok, h.lo, h.lw⟩
theorem Bx.keep (h : Bx B w xa v P) (hs : w.heap.size ≤ w'.heap.size) (hk : ∀ k, (k = xa ∨ v.ownBlock = some k) → k < w.heap.size → w'.heap[k]? = w.heap[k]?) : Bx B w' xa v P := by
  obtain ⟨L, hl, ho, hp⟩ := h.own
  exact ⟨(hk xa (Or.inl rfl) h.top.lt).trans h.top, ⟨L, hl, ho.heap (fun g e => hk g (Or.inr e) (by obtain ⟨vs, r, _⟩ := ho.block e; exact r.lt)), hp⟩, h.lo, Nat.le_trans h.lw hs⟩
theorem Bx.call (h : Bx B w xa v P) (hb : Below w.heap.size w w') : Bx B w' xa v P := h.keep hb.size fun k _ hl => hb.block k hl
theorem Bx.drewN (h : Bx B w xa v P) (k : Nat) : Bx B (w.drewN k) xa v P := h.call (below_dN (Below.refl _ _) k)
theorem Bx.c0 (h : Bx B w xa v P) : w.cell? ⟨xa, 0, none⟩ = some v := h.top.cell 0
theorem Bx.congr (h : Bx B w xa v P) (e : ∀ i : Nat, i < 4096 → P i = Q i) : Bx B w xa v Q := by
  obtain ⟨L, hl, ho, hp⟩ := h.own
  exact ⟨h.top, ⟨L, hl, ho, fun i hi => (hp i hi).trans (e i (by omega))⟩, h.lo, h.lw⟩
theorem Bx.form (h : Bx B w xa v P) : ∃ g c, v = .slice (some ⟨g, 0, none⟩) 4096 c ∧ B ≤ g ∧ g < w.heap.size ∧ ∀ i : Nat, i < 4096 → EPg.At w g (i * 4) (P i) := by
  obtain ⟨L, hl, ho, hp⟩ := h.own
  obtain ⟨A, c, rfl⟩ := ho.form
  obtain ⟨g, rfl, hB, hg, -, hat⟩ := ho.some_ (by omega)
  refine ⟨g, c, by rw [hl], hB, hg, fun i hi => ?_⟩
  rw [← hp i (by omega)]
  exact hat i (by omega)
theorem Bx.cells (h : Bx B w xa v P) {g c : Nat} (hv : v = .slice (some ⟨g, 0, none⟩) 4096 c) {i : Nat} (hi : i < 4096) : w.cell? ⟨g, i * 4, none⟩ = some (.int .i64 (P i).h) ∧ w.cell? ⟨g, i * 4 + 1, none⟩ = some (.int .i64 (P i).p) ∧ w.cell? ⟨g, i * 4 + 2, none⟩ = some (.int .i64 (P i).o) ∧ w.cell? ⟨g, i * 4 + 3, none⟩ = some (.int .i64 (P i).x) := by
  obtain ⟨g', c', e, _, _, hat⟩ := h.form
  rw [hv] at e
  injection e with e
  injection e with e
  injection e with e
  subst e
  exact pg_at (hat i hi)
theorem below_set {D g : Nat} (h : Below D w w') (hg : D ≤ g) (i : Nat) (u : Value) : Below D w (w'.setCell ⟨g, i, none⟩ u) :=
  ⟨h.os, h.tape, h.output, by simpa [World.setCell] using h.size, fun k hk => (Below.heap_setCell w' _ u k (by show k ≠ g; omega)).trans (h.block k hk)⟩
theorem ls_keep {w1 : World} {A : Option Addr} {n c : Nat} {l : List Ar} (ho : EAr.Own B w1 (.slice A n c) l) (hb : Below w1.heap.size w1 w) (hf : Foot (fun k => k = xa) w w') (hx : Lrow w xa 48 [v]) : EAr.Own B w' (.slice A n c) l :=
  (ho.call hb).heap fun g e => by
    obtain ⟨vs, r, _⟩ := (ho.call hb).block e
    exact hf.keep g r.lt (r.apart hx (by decide))
/-- One cell of one page. -/
theorem Bx.put (h : Bx B w xa v P) {g c : Nat} (hv : v = .slice (some ⟨g, 0, none⟩) 4096 c) {i q : Nat} (hi : i < 4096) (hq : q < 4) {u : Value} {x : Pg} (hx : EPg.enc x = (EPg.enc (P i)).set q u) :
    (∀ j, w.frozen? ⟨g, j, none⟩ = false) ∧ Bx B (w.setCell ⟨g, i * 4 + q, none⟩ u) xa v (fun k => if k = i then x else P k) := by
  subst hv
  obtain ⟨L, hl, ho, hp⟩ := h.own
  have hne : xa ≠ g := by
    obtain ⟨vs, r, _⟩ := ho.block rfl
    exact h.top.apart r (by decide)
  obtain ⟨f, o2⟩ := ho.put (j := i) (q := q) (by omega) hq (x := x) (by rw [hp i (by omega)]; exact hx) rfl
  refine ⟨f, ⟨(Below.heap_setCell w _ _ xa hne).trans h.top, ⟨L.set i x, by rw [List.length_set, hl], o2, fun k hk => ?_⟩, h.lo, by simpa [World.setCell] using h.lw⟩⟩
  rw [List.getElem_set]
  by_cases e : i = k
  · subst e; rw [if_pos rfl, if_pos rfl]
  · rw [if_neg e, if_neg (by omega)]; exact hp k (by rw [List.length_set] at hk; exact hk)
/-- A whole page. -/
theorem Bx.page (h : Bx B w xa v P) {g c : Nat} (hv : v = .slice (some ⟨g, 0, none⟩) 4096 c) {i : Nat} (hi : i < 4096) (k p o x : Int) :
    Bx B ((((w.setCell ⟨g, i * 4, none⟩ (.int .i64 k)).setCell ⟨g, i * 4 + 1, none⟩ (.int .i64 p)).setCell ⟨g, i * 4 + 2, none⟩ (.int .i64 o)).setCell ⟨g, i * 4 + 3, none⟩ (.int .i64 x)) xa v (fun j => if j = i then ⟨k, p, o, x⟩ else P j)
    ∧ (∃ u, w.cell? ⟨g, i * 4, none⟩ = some u) ∧ w.frozen? ⟨g, i * 4, none⟩ = false
    ∧ (∃ u, (w.setCell ⟨g, i * 4, none⟩ (.int .i64 k)).cell? ⟨g, i * 4 + 1, none⟩ = some u) ∧ (w.setCell ⟨g, i * 4, none⟩ (.int .i64 k)).frozen? ⟨g, i * 4 + 1, none⟩ = false
    ∧ (∃ u, ((w.setCell ⟨g, i * 4, none⟩ (.int .i64 k)).setCell ⟨g, i * 4 + 1, none⟩ (.int .i64 p)).cell? ⟨g, i * 4 + 2, none⟩ = some u) ∧ ((w.setCell ⟨g, i * 4, none⟩ (.int .i64 k)).setCell ⟨g, i * 4 + 1, none⟩ (.int .i64 p)).frozen? ⟨g, i * 4 + 2, none⟩ = false
    ∧ (∃ u, (((w.setCell ⟨g, i * 4, none⟩ (.int .i64 k)).setCell ⟨g, i * 4 + 1, none⟩ (.int .i64 p)).setCell ⟨g, i * 4 + 2, none⟩ (.int .i64 o)).cell? ⟨g, i * 4 + 3, none⟩ = some u) ∧ (((w.setCell ⟨g, i * 4, none⟩ (.int .i64 k)).setCell ⟨g, i * 4 + 1, none⟩ (.int .i64 p)).setCell ⟨g, i * 4 + 2, none⟩ (.int .i64 o)).frozen? ⟨g, i * 4 + 3, none⟩ = false := by
  obtain ⟨f1, h1⟩ := h.put hv (i := i) (q := 0) hi (by decide) (u := .int .i64 k) (x := { P i with h := k }) rfl
  obtain ⟨f2, h2⟩ := h1.put hv (i := i) (q := 1) hi (by decide) (u := .int .i64 p) (x := ⟨k, p, (P i).o, (P i).x⟩) (by rw [if_pos rfl]; rfl)
  obtain ⟨f3, h3⟩ := h2.put hv (i := i) (q := 2) hi (by decide) (u := .int .i64 o) (x := ⟨k, p, o, (P i).x⟩) (by rw [if_pos rfl]; rfl)
  obtain ⟨f4, h4⟩ := h3.put hv (i := i) (q := 3) hi (by decide) (u := .int .i64 x) (x := ⟨k, p, o, x⟩) (by rw [if_pos rfl]; rfl)
  refine ⟨h4.congr fun j _ => ?_, ⟨_, (h.cells hv hi).1⟩, f1 _, ⟨_, (h1.cells hv hi).2.1⟩, f2 _, ⟨_, (h2.cells hv hi).2.2.1⟩, f3 _, ⟨_, (h3.cells hv hi).2.2.2⟩, f4 _⟩
  by_cases e : (j : Int) = i
  · rw [if_pos e, if_pos e]
  · rw [if_neg e, if_neg e, if_neg e, if_neg e, if_neg e]
/-- What a call with a list and an error comes to. -/
def ToldP (B : Nat) (w : World) (xa : Nat) (P Q : Int → Pg) (er : Int) (l : List Ar) (e : Ending) (w' : World) : Prop :=
  ∃ A c, e = .returned (.tuple #[.slice A (if er = 0 then l else []).length c, .int .i64 er]) ∧ EAr.Own w.heap.size w' (.slice A (if er = 0 then l else []).length c) (if er = 0 then l else []) ∧ DidP B w xa (if er = 0 then Q else P) w'
theorem ToldP.no {er : Int} (h0 : er ≠ 0) {l : List Ar} (h : Px B w xa v P) (hb : Below w.heap.size w w') : ToldP B w xa P Q er l (.returned (.tuple #[.slice none 0 0, .int .i64 er])) w' := by
  refine ⟨none, 0, ?_⟩
  rw [if_neg h0, if_neg h0]
  exact ⟨rfl, ⟨rfl, Or.inl ⟨rfl, rfl⟩⟩, v, h.call hb, Foot.of_below hb⟩
theorem ToldP.no' {er : Int} (h0 : er ≠ 0) {l : List Ar} (h : DidP B w xa P w') : ToldP B w xa P Q er l (.returned (.tuple #[.slice none 0 0, .int .i64 er])) w' := by
  refine ⟨none, 0, ?_⟩
  rw [if_neg h0, if_neg h0]
  exact ⟨rfl, ⟨rfl, Or.inl ⟨rfl, rfl⟩⟩, h⟩
theorem ToldP.yes {A : Option Addr} {c : Nat} {l : List Ar} (ho : EAr.Own w.heap.size w' (.slice A l.length c) l) (h : DidP B w xa Q w') : ToldP B w xa P Q 0 l (.returned (.tuple #[.slice A l.length c, .int .i64 0])) w' := by
  refine ⟨A, c, ?_⟩
  rw [if_pos rfl, if_pos rfl]
  exact ⟨rfl, ho, h⟩
theorem unP_zero (P : Int → Pg) (a : Int) : unP P a 0 = P := by
  funext i; unfold unP; rw [if_neg (by unfold inS; omega)]
theorem unP_succ (P : Int → Pg) (a : Int) (j : Nat) (i : Int) : (if i = a + j then zP else unP P a j i) = unP P a ((j : Int) + 1) i := by
  unfold unP
  by_cases e : i = a + j
  · rw [if_pos e, if_pos (by unfold inS; omega)]
  · rw [if_neg e]
    by_cases e2 : inS a j i
    · rw [if_pos e2, if_pos (by unfold inS at *; omega)]
    · rw [if_neg e2, if_neg (by unfold inS at *; omega)]
set_option maxRecDepth 100000 in
set_option maxHeartbeats 2000000 in
theorem unmap_main (h : Px B w xa v P) {a n : Nat} (hr : rtI a n 0 = 0) (hcu : cutsB P a n = false) : Calls Tryz.prog 56 #[.pointer (some ⟨xa, 0, none⟩), .int .i64 a, .int .i64 n] w (ToldP B w xa P (unP P a n) (if fullB (unP P a n) = true then 13 else 0) (pcs P a n)) := by
  obtain ⟨h1, h2, h3⟩ := rt_in hr
  have hri := fun w => right_is (a := a) (n := n) ⟨by omega, by omega⟩ ⟨by omega, by omega⟩ w
  rw [hr] at hri
  have hcs := cuts_is h (a := a) (n := n) (by omega) (by omega) (by omega)
  rw [hcu] at hcs
  have hpc := pieces_is h (a := a) (n := n) (by omega)
  obtain ⟨m, hm⟩ : ∃ m, m = (pcs P a n).length := ⟨_, rfl⟩
  unfold ToldA at hpc
  rw [← hm] at hpc
  have HM := Lib.hid hm
  have HR := Lib.hid (And.intro h1 (And.intro h2 h3))
  have HP := Lib.hid h
  have n4 : (n : Int) ≤ 4096 := by omega
  have a4 : (a : Int) ≤ 4096 := by omega
  have hcp : ∀ w', Below w.heap.size w w' → Calls Tryz.prog 53 #[.pointer (some ⟨xa, 0, none⟩)] w' (CopiedX P w') := fun w' hb => copied_is (HP.out.call hb)
  obtain ⟨er, her⟩ : ∃ er : Int, er = if fullB (unP P a n) = true then 13 else 0 := ⟨_, rfl⟩
  rw [← her]
  have HER := Lib.hid her
  clear h hr hcu hm h1 h2 h3 her
  go_enter Tryz.func56, Tryz.ntmps56
  go_wp2_with (first | (go_at_call 82; (with_reducible refine (hri _).mono ?_); rintro e w1 ⟨rfl, rfl⟩) | (go_at_call 60; (with_reducible refine hcs.mono ?_); rintro e w1 ⟨rfl, rfl⟩))
  (with_reducible refine hpc.mono ?_)
  rintro e w1 ⟨A1, c1, rfl, ho1, hb1⟩
  have HO1 := Lib.hid ho1
  have HB1 := Lib.hid hb1
  clear hpc hcs ho1
  go_wp2_with fail
  refine (hcp _ HB1.out).mono ?_
  rintro e w2 ⟨xb, vb, rfl, hx2, hb2⟩
  obtain ⟨g, c, rfl, hgD, -, -⟩ := hx2.form
  have HG := Lib.hid hgD
  have hB0 : Bx w1.heap.size w2 xb (.slice (some ⟨g, 0, none⟩) 4096 c) (unP P a 0) := by rw [unP_zero]; exact hx2.bx
  have HX := Lib.hid hB0
  have HB2 := Lib.hid hb2
  clear hcp hb1 hb2 hx2 hB0 hgD
  go_wp2_with fail
  go_loopw [11] (fun i wr => ∃ j : Nat, j ≤ n ∧ i = .int .i64 ((a + j : Nat) : Int) ∧ Bx w1.heap.size wr xb (.slice (some ⟨g, 0, none⟩) 4096 c) (unP P a j) ∧ Below w1.heap.size w1 wr) (fun i _ => a + n - (RowKit.intOf i).toNat)
  case atStart => exact ⟨0, Nat.zero_le _, rfl, HX.out, HB2.out⟩
  case round =>
    obtain ⟨j, hj, rfl, hx, hb⟩ := hrel
    obtain ⟨q, hq⟩ : ∃ q : Nat, q = a + j := ⟨_, rfl⟩
    rw [← hq]
    have HBX := Lib.hid hx
    have HBB := Lib.hid hb
    have HQ := Lib.hid hq
    by_cases hlt : j < n
    · have c0 := hx.c0
      obtain ⟨hpg, ⟨u0, k0⟩, f0, ⟨u1, k1⟩, f1, ⟨u2, k2⟩, f2, ⟨u3, k3⟩, f3⟩ := hx.page rfl (i := q) (by have := HR.out; omega) 0 0 0 0
      have HPG := Lib.hid hpg
      have hqn : (q : Int) < (a : Int) + n := by omega
      have hq0 : (0 : Int) ≤ q := by omega
      have hq4 : (q : Int) < 4096 := by have := HR.out; omega
      clear hx hb hpg hq
      go_wp2
      go_round
      case rel =>
        refine ⟨j + 1, by omega, congrArg (Value.int .i64) (by have := HQ.out; omega), HPG.out.congr fun i _ => ?_, below_set (below_set (below_set (below_set HBB.out HG.out _ _) HG.out _ _) HG.out _ _) HG.out _ _⟩
        rw [show (((j + 1 : Nat) : Int)) = (j : Int) + 1 by omega, ← unP_succ, show (q : Int) = (a : Int) + j by have := HQ.out; omega]
        rfl
      case measure => simp [RowKit.intOf]; omega
    · obtain rfl : j = n := by omega
      have hqn : ¬ (q : Int) < (a : Int) + j := by have := HQ.out; omega
      have hw1 : Below w.heap.size w w1 := HB1.out
      have hwr : Below w.heap.size w wr := hw1.trans (hb.mono hw1.size)
      have hbe := become_is (HP.out.call hwr) (hx.px (HP.out.ok.un a j)) (Nat.le_trans HP.out.lw hw1.size)
      unfold Became at hbe
      rw [← HER.out] at hbe
      have HWR := Lib.hid hwr
      clear hx hb hq hwr hw1 HX HBX
      go_wp2_with fail
      refine hbe.mono ?_
      rintro e w4 ⟨rfl, hd⟩
      have HT := Lib.hid (ls_keep HO1.out HBB.out hd.choose_spec.2 (HP.out.call HWR.out).top)
      have HD := Lib.hid (hd.pre (B := B) HWR.out)
      clear hd hbe
      by_cases h0 : er = 0
      · subst h0
        have HF : Hid (¬ fullB (unP P a j) = true) := by
          show ¬ _
          intro e; have := HER.out; rw [if_pos e] at this; omega
        go_wp2
        go_ret2
        have hd := HD.out
        rw [if_neg HF.out] at hd
        have ht := HT.out
        rw [HM.out] at ht ⊢
        exact ToldP.yes ht hd
      · have h0' : (er != 0) = true := by simpa using h0
        have HF : Hid (fullB (unP P a j) = true) := by
          show _ = _
          by_cases e : fullB (unP P a j) = true
          · exact e
          · exact absurd (HER.out.trans (if_neg e)) h0
        go_wp2
        go_ret2
        have hd := HD.out
        rw [if_pos HF.out] at hd
        exact ToldP.no' h0 hd
set_option maxRecDepth 100000 in
theorem unmap_is (h : Px B w xa v P) {a n : Int} (ha : Fits a) (hn : Fits n) : Calls Tryz.prog 56 #[.pointer (some ⟨xa, 0, none⟩), .int .i64 a, .int .i64 n] w (ToldP B w xa P (unP P a n) (unE P a n) (pcs P a n.toNat)) := by
  obtain ⟨er, her⟩ : ∃ er, er = rtI a n 0 := ⟨_, rfl⟩
  have hri := fun w => right_is ha hn w
  by_cases h0 : er = 0
  · have hr : rtI a n 0 = 0 := her.symm.trans h0
    obtain ⟨h1, h2, h3⟩ := rt_in hr
    obtain ⟨a, rfl⟩ : ∃ k : Nat, a = k := ⟨a.toNat, by omega⟩
    obtain ⟨n, rfl⟩ : ∃ k : Nat, n = k := ⟨n.toNat, by omega⟩
    rw [show ((n : Int)).toNat = n from Int.toNat_natCast n]
    by_cases hc : cutsB P a n = true
    · have hE : unE P a n = 2 := by unfold unE; rw [if_neg (by rw [hr]; decide), if_pos hc]
      rw [hE]
      have hcs := cuts_is h (a := a) (n := n) (by omega) (by omega) (by omega)
      rw [hc] at hcs
      rw [hr] at hri
      have HN := Lib.hid (fun w' hb => ToldP.no (w := w) (w' := w') (er := 2) (by decide) (l := pcs P a n) (Q := unP P a n) h hb)
      clear h ha hn her hr h1 h2 h3 hc hE h0
      go_enter Tryz.func56, Tryz.ntmps56
      go_wp2_with (first | (go_at_call 82; (with_reducible refine (hri _).mono ?_); rintro e w1 ⟨rfl, rfl⟩) | (go_at_call 60; (with_reducible refine hcs.mono ?_); rintro e w1 ⟨rfl, rfl⟩))
      go_ret2
      exact HN.out _ (Below.refl _ _)
    · have hE : unE P a n = if fullB (unP P a n) = true then 13 else 0 := by unfold unE; rw [if_neg (by rw [hr]; decide), if_neg hc]
      rw [hE]
      exact unmap_main h hr (by simpa using hc)
  · have hE : unE P a n = er := by unfold unE; rw [← her, if_pos h0]
    rw [hE]
    rw [← her] at hri
    have h0' : (er != 0) = true := by simpa using h0
    have HN := Lib.hid (fun w' hb => ToldP.no (w := w) (w' := w') h0 (l := pcs P a n.toNat) (Q := unP P a n) h hb)
    clear h ha hn her hE
    go_enter Tryz.func56, Tryz.ntmps56
    go_wp2_with (go_at_call 82; (with_reducible refine (hri _).mono ?_); rintro e w1 ⟨rfl, rfl⟩)
    go_ret2
    exact HN.out _ (Below.refl _ _)
end
end Go.Proofs.YtnppnoabhpkmkaaGreat
