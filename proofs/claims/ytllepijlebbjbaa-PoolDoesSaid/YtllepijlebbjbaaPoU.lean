/- Package pool: Grow, Extra, Shrink, Promise, Unpromise. -/
import Derived.Test.YtllepijlebbjbaaPoT
namespace Go.Proofs.Ytllepijlebbjbaa
open Go.RowKit
abbrev PlS (B : Nat) (w : World) (s : Nat) (F U : Value) (S : Pk) : Prop := PlR B w s (szI S.o) S.m F U (lsV S.I 1) (lsV S.I 2) S.P S.U
def PlO (B : Nat) (w : World) (s : Nat) (X : Nat → Prop) (S : Pk) : Prop := ∃ F U, X = MineP s F U ∧ PlS B w s F U S
section
variable {w w' : World} {B s : Nat} {F U F' U' : Value} {S S' : Pk} {Lf Lu : List Int} {P Q : Int}
theorem did_of (h : PlR B w' s (szI S.o) S.m F' U' Lf Lu P Q) (c : Chg (MineP s F U) (MineP s F' U') w w') (eo : S'.o = S.o) (em : S'.m = S.m) (e1 : lsV S'.I 1 = Lf) (e2 : lsV S'.I 2 = Lu) (e3 : S'.P = P) (e4 : S'.U = Q) : DidO PlO B w s (MineP s F U) S' w' := by
  subst e1 e2 e3 e4
  rw [← eo, ← em] at h
  exact ⟨_, ⟨F', U', rfl, h⟩, c.1, c.2⟩
theorem did_same (h : PlS B w s F U S) (hb : Below w.heap.size w w') (e : S' = S) : DidO PlO B w s (MineP s F U) S' w' := by
  subst e
  exact did_of (h.call hb) (Chg.of_below hb) rfl rfl rfl rfl rfl rfl
theorem dN (w : World) (q : Nat) : Below w.heap.size w (w.drewN q) := below_dN (Below.refl _ _) q
set_option maxRecDepth 100000 in
set_option maxHeartbeats 4000000 in
theorem grow_pr (h : PlS B w s F U S) (ok : POk S) (f : Int) : Calls Try.prog 23 #[.pointer (some ⟨s, 0, none⟩), .int .i64 f] w fun e w' => e = .returned (.int .i64 (maE S f)) ∧ DidO PlO B w s (MineP s F U) (grS S f) w' := by
  have hw := wrong_i h ok f
  by_cases c : maE S f = 0
  · obtain ⟨a1, a2, a3, a4⟩ := maE_ok c
    have hf1 : f.toNat < 1024 := by have := (List.getElem?_eq_some_iff.1 a4).1; have := ok.ln; omega
    have ef : ((f.toNat : Nat) : Int) = f := Int.toNat_of_nonneg a1
    have e1 : lsV (grS S f).I 1 = insN f (lsV S.I 1) := by
      unfold grS stP; rw [if_pos c]
      have := lsV_ins (v := 1) hf1 a4 (by decide)
      rwa [ef] at this
    have e2 : lsV (grS S f).I 2 = lsV S.I 2 := by unfold grS stP; rw [if_pos c]; exact lsV_same a4 (by decide) (by decide)
    have hg : grS S f = stP S f 1 := by unfold grS; rw [if_pos c]
    rw [c] at hw ⊢
    obtain ⟨A, cc, hF⟩ := h.f.form
    have d2 := fun q => (h.drewN q).top.cell 2
    have hi := fun q => with_i (h.drewN q).f (h.drewN q).lw (lsV_up S.I 1) (by have := ok.l1 1; omega) f
    simp only [hF] at d2 hi
    have HD2 : Hid (∀ q, (w.drewN q).cell? ⟨s, 2, none⟩ = some (.slice A (lsV S.I 1).length cc)) := fun q => d2 q
    have HI := Lib.hid hi
    have HX := Lib.hid (And.intro h (And.intro e1 (And.intro e2 hg)))
    have HF := Lib.hid hF
    generalize (lsV S.I 1).length = n at *
    clear h ok c a1 a2 a3 a4 hf1 ef e1 e2 hg hF d2 hi
    go_enter Try.func23, Try.ntmps23
    go_wp2_with fail
    refine hw.mono ?_
    rintro e w1 ⟨rfl, q, rfl⟩
    have hd := HD2.out q
    have hi := HI.out q
    clear hw
    go_wp2_with fail
    refine hi.mono ?_
    rintro e w2 ⟨F', rfl, o, g, t⟩
    obtain ⟨hc, hp, hch⟩ := (HX.out.1.drewN q).putF o (by rw [HF.out]; exact g) (by rw [HF.out]; exact t)
    obtain ⟨A', c', rfl⟩ := o.form
    have e2 := (hc 2).1
    rw [hd] at e2
    have y2 := (hc 2).2
    have HE := Lib.hid (And.intro hp hch)
    clear hi o g t hc hp hch hd
    go_wp2_with fail
    go_ret
    refine ⟨rfl, did_of HE.out.1 ((Chg.of_below (dN w q)).trans HE.out.2) ?_ ?_ HX.out.2.1 HX.out.2.2.1 ?_ ?_⟩
    all_goals rw [HX.out.2.2.2]; rfl
  · have HD : Hid (∀ q, DidO PlO B w s (MineP s F U) (grS S f) (w.drewN q)) := fun q => did_same h (dN w q) (by unfold grS; rw [if_neg c])
    have cb : (maE S f == 0) = false := by simpa using c
    generalize maE S f = M at *
    clear h ok
    go_enter Try.func23, Try.ntmps23
    go_wp2_with fail
    refine hw.mono ?_
    rintro e w1 ⟨rfl, q, rfl⟩
    clear hw
    go_wp2_with fail
    go_ret
    exact ⟨rfl, HD.out q⟩
set_option maxRecDepth 100000 in
set_option maxHeartbeats 4000000 in
theorem extra_pr (h : PlS B w s F U S) (ok : POk S) (f : Int) : Calls Try.prog 24 #[.pointer (some ⟨s, 0, none⟩), .int .i64 f] w fun e w' => e = .returned (.int .i64 (exE S f)) ∧ DidO PlO B w s (MineP s F U) (exS S f) w' := by
  have hw := wrong_i h ok f
  by_cases c : maE S f = 0
  · obtain ⟨a1, a2, a3, a4⟩ := maE_ok c
    have hf1 : f.toNat < 1024 := by have := (List.getElem?_eq_some_iff.1 a4).1; have := ok.ln; omega
    have ef : ((f.toNat : Nat) : Int) = f := Int.toNat_of_nonneg a1
    have d1 := fun q => (h.drewN q).top.cell 1
    have d5 := fun q => (h.drewN q).top.cell 5
    rw [c] at hw
    have u1 := ok.u1
    have u0 := ok.u0
    have m1 := ok.m1
    by_cases cu : S.m ≤ S.U
    · have ce : exE S f = 13 := by unfold exE; rw [if_neg (by simpa using c), if_pos cu]
      have HD : Hid (∀ q, DidO PlO B w s (MineP s F U) (exS S f) (w.drewN q)) := fun q => did_same h (dN w q) (by unfold exS; rw [ce, if_neg (by decide)])
      have hum : (S.U == S.m) = true := by simpa using (by omega : S.U = S.m)
      rw [ce]
      have HD1 : Hid (∀ q, (w.drewN q).cell? ⟨s, 1, none⟩ = some (.int .i64 S.m)) := fun q => d1 q
      have HD5 : Hid (∀ q, (w.drewN q).cell? ⟨s, 5, none⟩ = some (.int .i64 S.U)) := fun q => d5 q
      clear h ok c a1 a2 a3 a4 hf1 ef d1 d5 u1 u0 m1 cu ce
      generalize S.U = u at *
      generalize S.m = m at *
      go_enter Try.func24, Try.ntmps24
      go_wp2_with fail
      refine hw.mono ?_
      rintro e w1 ⟨rfl, q, rfl⟩
      have hd1 := HD1.out q
      have hd5 := HD5.out q
      clear hw
      generalize hW : w.drewN q = W at *
      have HW := Lib.hid hW
      clear hW
      go_wp2_with fail
      go_quiet (fail)
      go_wp2_with fail
      go_ret
      refine ⟨rfl, ?_⟩
      rw [← HW.out, World.drewN_drewN]
      exact HD.out _
    · have ce : exE S f = 0 := by unfold exE; rw [if_neg (by simpa using c), if_neg cu]
      have hx : exS S f = ⟨S.o, S.m, S.I.set f.toNat 2, S.P, S.U + 1⟩ := by unfold exS; rw [if_pos ce]
      have e2 : lsV (exS S f).I 2 = insN f (lsV S.I 2) := by
        rw [hx]
        have := lsV_ins (v := 2) hf1 a4 (by decide)
        rwa [ef] at this
      have e1 : lsV (exS S f).I 1 = lsV S.I 1 := by rw [hx]; exact lsV_same a4 (by decide) (by decide)
      have hum : (S.U == S.m) = false := by simpa using (by omega : ¬ S.U = S.m)
      have hw1 : IntKind.i64.wrap (S.U + 1) = S.U + 1 := IntWalk.i64_in _ (by omega)
      rw [ce]
      have HD1 : Hid (∀ q, (w.drewN q).cell? ⟨s, 1, none⟩ = some (.int .i64 S.m)) := fun q => d1 q
      have HD5 : Hid (∀ q, (w.drewN q).cell? ⟨s, 5, none⟩ = some (.int .i64 S.U)) := fun q => d5 q
      obtain ⟨A, cc, hU⟩ := h.u.form
      have d3 := fun q => (h.drewN q).top.cell 3
      have hi := fun q => with_i (h.drewN q).u (h.drewN q).lw (lsV_up S.I 2) (by have := ok.l1 2; omega) f
      simp only [hU] at d3 hi
      have HD3 : Hid (∀ q, (w.drewN q).cell? ⟨s, 3, none⟩ = some (.slice A (lsV S.I 2).length cc)) := fun q => d3 q
      have HI := Lib.hid hi
      have HX := Lib.hid (And.intro h (And.intro e1 (And.intro e2 hx)))
      have HU := Lib.hid hU
      clear h ok c a1 a2 a3 a4 hf1 ef d1 d5 u1 u0 m1 cu ce hx e1 e2 d3 hi hU
      generalize (lsV S.I 2).length = n at *
      obtain ⟨u, hu⟩ : ∃ u, u = S.U := ⟨_, rfl⟩
      rw [← hu] at hum hw1 HD5
      have HUU := Lib.hid hu
      obtain ⟨m, hm⟩ : ∃ m, m = S.m := ⟨_, rfl⟩
      rw [← hm] at hum HD1
      clear hu hm
      go_enter Try.func24, Try.ntmps24
      go_wp2_with fail
      refine hw.mono ?_
      rintro e w1 ⟨rfl, q, rfl⟩
      have hd1 := HD1.out q
      have hd5 := HD5.out q
      clear hw
      generalize hW : w.drewN q = W at *
      have HW := Lib.hid hW
      clear hW
      go_wp2_with fail
      go_quiet (fail)
      obtain ⟨W2, hW2⟩ : ∃ W2, W2 = W.drewN nq := ⟨_, rfl⟩
      rw [← hW2]
      have hW3 : W2 = w.drewN (q + nq) := by rw [hW2, ← HW.out, World.drewN_drewN]
      have hd3 := HD3.out (q + nq)
      have hi := HI.out (q + nq)
      rw [← hW3] at hd3 hi
      have HW2 := Lib.hid hW3
      clear hW2 hW3 hd1 hd5
      go_wp2_with fail
      refine hi.mono ?_
      rintro e w2 ⟨U', rfl, o, g, t⟩
      have h2 := HX.out.1.drewN (q + nq)
      rw [← HW2.out] at h2
      obtain ⟨hc, hp, hch⟩ := h2.putU o (by rw [HU.out]; exact g) (by rw [HU.out]; exact t)
      obtain ⟨A', c', rfl⟩ := o.form
      have e3 := (hc 3).1
      rw [hd3] at e3
      have y3 := (hc 3).2
      have q5' := hp.top.cell 5
      have z5 := hp.top.frozen 5
      obtain ⟨hq, hch2⟩ := hp.setQ (S.U + 1)
      rw [← HUU.out] at hq hch2
      have q5 : (w2.setCell ⟨s, 3, none⟩ (.slice A' (insN f (lsV S.I 2)).length c')).cell? ⟨s, 5, none⟩ = some (.int .i64 u) := by rw [HUU.out]; exact q5'
      have HE := Lib.hid (And.intro hq (hch.trans hch2))
      clear hi o g t hc hp hch hd3 hq hch2 h2 q5'
      go_wp2_with fail
      go_ret
      refine ⟨rfl, did_of HE.out.1 ((Chg.of_below (dN w (q + nq))).trans (by rw [← HW2.out]; exact HE.out.2)) ?_ ?_ HX.out.2.1 HX.out.2.2.1 ?_ ?_⟩
      all_goals rw [HX.out.2.2.2]
      exact HUU.out ▸ rfl
  · have ce : exE S f = maE S f := by unfold exE; rw [if_pos c]
    have HD : Hid (∀ q, DidO PlO B w s (MineP s F U) (exS S f) (w.drewN q)) := fun q => did_same h (dN w q) (by unfold exS; rw [ce, if_neg c])
    have cb : (maE S f == 0) = false := by simpa using c
    rw [ce]
    generalize maE S f = M at *
    clear h ok ce
    go_enter Try.func24, Try.ntmps24
    go_wp2_with fail
    refine hw.mono ?_
    rintro e w1 ⟨rfl, q, rfl⟩
    clear hw
    go_wp2_with fail
    go_ret
    exact ⟨rfl, HD.out q⟩
set_option maxRecDepth 100000 in
set_option maxHeartbeats 4000000 in
theorem promise_pr (h : PlS B w s F U S) (ok : POk S) (n : Int) : Calls Try.prog 26 #[.pointer (some ⟨s, 0, none⟩), .int .i64 n] w fun e w' => e = .returned (.int .i64 (prE S n)) ∧ DidO PlO B w s (MineP s F U) (prS S n) w' := by
  obtain ⟨pk1, pk2, pk3⟩ := ok.p1k
  have p0 := ok.p0
  rw [frL_lsV] at pk2 pk3
  by_cases c1 : n < 0
  · have c : prE S n = 2 := by unfold prE; rw [if_pos c1]
    have HD : Hid (DidO PlO B w s (MineP s F U) (prS S n) w) := did_same h (Below.refl _ _) (by unfold prS; rw [c, if_neg (by decide)])
    rw [c]
    clear h ok c pk2 pk3
    go_enter Try.func26, Try.ntmps26
    go_wp2_with fail
    go_ret
    exact ⟨rfl, HD.out⟩
  · have hl := loose_i h (ok.l1 1) p0 pk1
    obtain ⟨d, hd⟩ : ∃ d, d = ((lsV S.I 1).length : Int) - S.P := ⟨_, rfl⟩
    rw [← hd] at hl
    have d0 : 0 ≤ d := by omega
    have d1 : d ≤ 1024 := by omega
    by_cases c2 : d < n
    · have c : prE S n = 8 := by unfold prE; rw [if_neg c1, if_pos (by rw [frL_lsV]; omega)]
      have HD : Hid (∀ q, DidO PlO B w s (MineP s F U) (prS S n) (w.drewN q)) := fun q => did_same h (dN w q) (by unfold prS; rw [c, if_neg (by decide)])
      rw [c]
      clear h ok c pk1 pk2 pk3 p0 hd
      go_enter Try.func26, Try.ntmps26
      go_wp2_with fail
      refine hl.mono ?_
      rintro e w1 ⟨rfl, q, rfl⟩
      clear hl
      go_wp2_with fail
      go_ret
      exact ⟨rfl, HD.out q⟩
    · have c : prE S n = 0 := by unfold prE; rw [if_neg c1, if_neg (by rw [frL_lsV]; omega)]
      have HS : Hid (prS S n = ⟨S.o, S.m, S.I, S.P + n, S.U⟩) := by show _ = _; unfold prS; rw [if_pos c]
      have hw : IntKind.i64.wrap (S.P + n) = S.P + n := IntWalk.i64_in _ (by omega)
      have HX := Lib.hid h
      have HC4 : Hid (∀ q, (w.drewN q).cell? ⟨s, 4, none⟩ = some (.int .i64 S.P) ∧ (w.drewN q).frozen? ⟨s, 4, none⟩ = false) := fun q => ⟨(h.drewN q).top.cell 4, (h.drewN q).top.frozen 4⟩
      have HD : Hid (∀ q, DidO PlO B w s (MineP s F U) (prS S n) ((w.drewN q).setCell ⟨s, 4, none⟩ (.int .i64 (S.P + n)))) := fun q => by
        obtain ⟨a, b⟩ := (h.drewN q).setP (S.P + n)
        exact did_of a ((Chg.of_below (dN w q)).trans b) (by rw [HS.out]) (by rw [HS.out]) (by rw [HS.out]) (by rw [HS.out]) (by rw [HS.out]) (by rw [HS.out])
      rw [c]
      clear h ok c pk1 pk2 pk3 p0 hd
      generalize S.P = p at *
      go_enter Try.func26, Try.ntmps26
      go_wp2_with fail
      refine hl.mono ?_
      rintro e w1 ⟨rfl, q, rfl⟩
      obtain ⟨h4, y4⟩ := HC4.out q
      clear hl
      go_wp2_with fail
      go_ret
      exact ⟨rfl, HD.out q⟩
set_option maxRecDepth 100000 in
set_option maxHeartbeats 4000000 in
theorem unpromise_pr (h : PlS B w s F U S) (ok : POk S) (n : Int) : Calls Try.prog 27 #[.pointer (some ⟨s, 0, none⟩), .int .i64 n] w fun e w' => e = .returned (.int .i64 (unE S n)) ∧ DidO PlO B w s (MineP s F U) (unS S n) w' := by
  obtain ⟨pk1, -, -⟩ := ok.p1k
  have p0 := ok.p0
  have c4 := h.top.cell 4
  have y4 := h.top.frozen 4
  by_cases c1 : n < 0
  · have c : unE S n = 2 := by unfold unE; rw [if_pos c1]
    have HD : Hid (DidO PlO B w s (MineP s F U) (unS S n) w) := did_same h (Below.refl _ _) (by unfold unS; rw [c, if_neg (by decide)])
    rw [c]
    clear h ok c
    go_enter Try.func27, Try.ntmps27
    go_wp2_with fail
    go_ret
    exact ⟨rfl, HD.out⟩
  · by_cases c2 : S.P < n
    · have c : unE S n = 3 := by unfold unE; rw [if_neg c1, if_pos c2]
      have HD : Hid (DidO PlO B w s (MineP s F U) (unS S n) w) := did_same h (Below.refl _ _) (by unfold unS; rw [c, if_neg (by decide)])
      rw [c]
      clear h ok c
      generalize S.P = p at *
      go_enter Try.func27, Try.ntmps27
      go_wp2_with fail
      go_ret
      exact ⟨rfl, HD.out⟩
    · have c : unE S n = 0 := by unfold unE; rw [if_neg c1, if_neg c2]
      have HS : Hid (unS S n = ⟨S.o, S.m, S.I, S.P - n, S.U⟩) := by show _ = _; unfold unS; rw [if_pos c]
      have hw : IntKind.i64.wrap (S.P - n) = S.P - n := IntWalk.i64_in _ (by omega)
      have HD : Hid (DidO PlO B w s (MineP s F U) (unS S n) (w.setCell ⟨s, 4, none⟩ (.int .i64 (S.P - n)))) := by
        obtain ⟨a, b⟩ := h.setP (S.P - n)
        exact did_of a b (by rw [HS.out]) (by rw [HS.out]) (by rw [HS.out]) (by rw [HS.out]) (by rw [HS.out]) (by rw [HS.out])
      rw [c]
      clear h ok c
      generalize S.P = p at *
      go_enter Try.func27, Try.ntmps27
      go_wp2_with fail
      go_ret
      exact ⟨rfl, HD.out⟩
end
end Go.Proofs.Ytllepijlebbjbaa
