/- Package pool: Give, New, nil ones; the program's calls. -/
import Derived.Test.YtllepijlebbjbaaPoX
import Derived.Test.YtllepijlebbjbaaPoO
namespace Go.Proofs.Ytllepijlebbjbaa
open Go.RowKit
section
variable {w w' : World} {B s : Nat} {F U F' U' : Value} {S S' : Pk} {Lf Lu : List Int} {P Q : Int}
theorem giE_mem (f : Int) : giE S f = 0 ↔ f ∈ lsV S.I 2 := by
  constructor
  · intro c
    obtain ⟨a, b, d⟩ := giE_ok c
    have := (mem_lsV_nat (I := S.I) (v := 2) (i := f.toNat)).2 ⟨by omega, d⟩
    rwa [Int.toNat_of_nonneg a] at this
  · intro c
    obtain ⟨k, rfl, a, b⟩ := mem_lsV.1 c
    unfold giE
    rw [if_neg]
    rintro (e | e | e)
    · omega
    · omega
    · rw [Int.toNat_natCast] at e; exact e b
set_option maxRecDepth 100000 in
set_option maxHeartbeats 4000000 in
theorem give_pr (h : PlS B w s F U S) (ok : POk S) (f : Int) (b : Bool) : Calls Try.prog 25 #[.pointer (some ⟨s, 0, none⟩), .int .i64 f, .bool b] w fun e w' => e = .returned (.tuple #[.bool (giV S f b), .int .i64 (giE S f)]) ∧ DidO PlO B w s (MineP s F U) (giS S f b) w' := by
  obtain ⟨pk1, pk2, pk3⟩ := ok.p1k
  have p0 := ok.p0
  have u0 := ok.u0
  have u1 := ok.u1
  have m1 := ok.m1
  obtain ⟨A2, cu, hU⟩ := h.u.form
  have c3 := h.top.cell 3
  by_cases c0 : giE S f = 0
  · have hm := (giE_mem f).1 c0
    have hh := has_no (b := true) (f := f) (by simpa using hm) h.u (lsV_up S.I 2) (by have := ok.l1 2; omega)
    obtain ⟨a1, a2, a3⟩ := giE_ok c0
    have ef : ((f.toNat : Nat) : Int) = f := Int.toNat_of_nonneg a1
    have hf1 : f.toNat < 1024 := by omega
    obtain ⟨A1, cf, hF⟩ := h.f.form
    have HT : Hid (∀ q, (w.drewN q).cell? ⟨s, 3, none⟩ = some (.slice A2 (lsV S.I 2).length cu) ∧ Calls Try.prog 43 #[.slice A2 (lsV S.I 2).length cu, .int .i64 f] (w.drewN q) (DelI B U (delN f (lsV S.I 2)) (w.drewN q))) := fun q => by
      refine ⟨by rw [← hU]; exact (h.drewN q).top.cell 3, by have := without_i (h.drewN q).u (lsV_up S.I 2) (by have := ok.l1 2; omega) hm; rw [hU] at this ⊢; exact this⟩
    have HT2 : Hid (∀ W U' R, PlR B W s (szI S.o) S.m F U' (lsV S.I 1) R S.P S.U → W.cell? ⟨s, 2, none⟩ = some (.slice A1 (lsV S.I 1).length cf) ∧ Calls Try.prog 44 #[.slice A1 (lsV S.I 1).length cf, .int .i64 f] W (InsI B F (insN f (lsV S.I 1)) W)) := fun W U' R h => by
      refine ⟨by rw [← hF]; exact h.top.cell 2, by have := with_i h.f h.lw (lsV_up S.I 1) (by have := ok.l1 1; omega) f; rw [hF] at this ⊢; exact this⟩
    have hd : ∀ v, v ≠ 2 → lsV (S.I.set f.toNat v) 2 = delN f (lsV S.I 2) := fun v hv => by have := lsV_del (v := 2) (x := v) a3 hf1 hv; rwa [ef] at this
    have HX0 := Lib.hid h
    rw [hU] at c3 hh
    have HU := Lib.hid hU
    have HF := Lib.hid hF
    rw [c0]
    by_cases cA : 0 < S.U ∧ b = false
    · obtain ⟨cu0, rfl⟩ := cA
      have hs : giS S f false = ⟨S.o, S.m, S.I.set f.toNat 0, S.P, S.U - 1⟩ := by unfold giS; rw [if_pos c0, if_pos ⟨cu0, rfl⟩]
      have hv : giV S f false = true := by unfold giV; exact decide_eq_true ⟨c0, cu0, rfl⟩
      have e2 : lsV (giS S f false).I 2 = delN f (lsV S.I 2) := by rw [hs]; exact hd 0 (by decide)
      have e1 : lsV (giS S f false).I 1 = lsV S.I 1 := by rw [hs]; exact lsV_same a3 (by decide) (by decide)
      rw [hv]
      have HX := Lib.hid (And.intro e1 (And.intro e2 hs))
      have hw : IntKind.i64.wrap (S.U - 1) = S.U - 1 := IntWalk.i64_in _ (by omega)
      obtain ⟨u, hu⟩ : ∃ u, u = S.U := ⟨_, rfl⟩
      rw [← hu] at hw cu0
      have HUU := Lib.hid hu
      generalize delN f (lsV S.I 2) = R at *
      generalize (lsV S.I 1).length = n at *
      generalize (lsV S.I 2).length = n2 at *
      clear h ok pk1 pk2 pk3 p0 u0 u1 m1 hU hm a1 a2 a3 ef hf1 hF hd c0 hs hv e1 e2 hu
      go_enter Try.func25, Try.ntmps25
      go_wp2_with fail
      refine hh.mono ?_
      rintro e w1 ⟨rfl, q, rfl⟩
      obtain ⟨hd3, hi⟩ := HT.out q
      have h1 := HX0.out.drewN q
      clear hh c3
      generalize hW : w.drewN q = W at *
      have HW := Lib.hid hW
      clear hW
      go_wp2_with fail
      refine hi.mono ?_
      rintro e w2 ⟨U', rfl, o, g, t⟩
      obtain ⟨hc, hp, hch⟩ := h1.putU o g (Or.inl t)
      obtain ⟨A', c', rfl⟩ := o.form
      have e3 := (hc 3).1
      rw [hd3] at e3
      have y3 := (hc 3).2
      have q5' := hp.top.cell 5
      have z5 := hp.top.frozen 5
      obtain ⟨hq, hch2⟩ := hp.setQ (S.U - 1)
      have q5 : (w2.setCell ⟨s, 3, none⟩ (.slice A' R.length c')).cell? ⟨s, 5, none⟩ = some (.int .i64 u) := by rw [HUU.out]; exact q5'
      rw [← HUU.out] at hq hch2
      have HE := Lib.hid (And.intro hq ((Chg.of_below (dN w q)).trans (by rw [HW.out]; exact hch.trans hch2)))
      clear hi o g t hc hp hch hd3 hq hch2 q5' h1
      go_wp2_with fail
      go_ret2
      refine ⟨rfl, did_of HE.out.1 HE.out.2 ?_ ?_ HX.out.1 HX.out.2.1 ?_ ?_⟩
      all_goals rw [HX.out.2.2]
      exact HUU.out ▸ rfl
    · have hs : giS S f b = ⟨S.o, S.m, S.I.set f.toNat 1, if b = true then S.P + 1 else S.P, S.U⟩ := by unfold giS; rw [if_pos c0, if_neg cA]
      have hv : giV S f b = false := by unfold giV; exact decide_eq_false fun e => cA e.2
      have e2 : lsV (giS S f b).I 2 = delN f (lsV S.I 2) := by rw [hs]; exact hd 1 (by decide)
      have e1 : lsV (giS S f b).I 1 = insN f (lsV S.I 1) := by
        rw [hs]
        have := lsV_ins (v := 1) hf1 a3 (by decide)
        rwa [ef] at this
      rw [hv]
      have HX := Lib.hid (And.intro e1 (And.intro e2 hs))
      have hw : IntKind.i64.wrap (S.P + 1) = S.P + 1 := IntWalk.i64_in _ (by omega)
      have hb0 : b = false → S.U ≤ 0 := fun e => by have : ¬ 0 < S.U := fun c => cA ⟨c, e⟩; omega
      generalize delN f (lsV S.I 2) = R at *
      generalize insN f (lsV S.I 1) = R2 at *
      generalize (lsV S.I 1).length = n at *
      generalize (lsV S.I 2).length = n2 at *
      obtain ⟨u, hu⟩ : ∃ u, u = S.U := ⟨_, rfl⟩
      rw [← hu] at hb0
      have HUU := Lib.hid hu
      obtain ⟨p, hpp⟩ : ∃ p, p = S.P := ⟨_, rfl⟩
      rw [← hpp] at hw
      have HPP := Lib.hid hpp
      clear h ok pk1 pk2 pk3 p0 u0 u1 m1 hU hm a1 a2 a3 ef hf1 hF hd c0 hs hv e1 e2 hu hpp cA
      cases b
      · have hu0 := hb0 rfl
        clear hb0 hw
        go_enter Try.func25, Try.ntmps25
        go_wp2_with fail
        refine hh.mono ?_
        rintro e w1 ⟨rfl, q, rfl⟩
        obtain ⟨hd3, hi⟩ := HT.out q
        have h1 := HX0.out.drewN q
        clear hh c3
        generalize hW : w.drewN q = W at *
        have HW := Lib.hid hW
        clear hW
        go_wp2_with fail
        refine hi.mono ?_
        rintro e w2 ⟨U', rfl, o, g, t⟩
        obtain ⟨hc, hp, hch⟩ := h1.putU o g (Or.inl t)
        obtain ⟨A', c', rfl⟩ := o.form
        have e3 := (hc 3).1
        rw [hd3] at e3
        have y3 := (hc 3).2
        obtain ⟨hd2, hi2⟩ := HT2.out _ _ _ hp
        have q5' := hp.top.cell 5
        have q5 : (w2.setCell ⟨s, 3, none⟩ (.slice A' R.length c')).cell? ⟨s, 5, none⟩ = some (.int .i64 u) := by rw [HUU.out]; exact q5'
        have HE := Lib.hid (And.intro hp ((Chg.of_below (dN w q)).trans (by rw [HW.out]; exact hch)))
        clear hi o g t hc hp hch hd3 q5' h1
        go_wp2_with fail
        refine hi2.mono ?_
        rintro e w4 ⟨F', rfl, o, g, t⟩
        obtain ⟨hc, hp, hch⟩ := HE.out.1.putF o g t
        obtain ⟨A4, c4, rfl⟩ := o.form
        have e2 := (hc 2).1
        rw [hd2] at e2
        have y2 := (hc 2).2
        have HE4 := Lib.hid (And.intro hp (HE.out.2.trans hch))
        clear hi2 o g t hc hp hch hd2
        clear q5
        go_wp2_with fail
        go_ret2
        refine ⟨rfl, did_of HE4.out.1 HE4.out.2 ?_ ?_ HX.out.1 HX.out.2.1 ?_ ?_⟩
        all_goals (rw [HX.out.2.2]; try rfl)
      · by_cases cu0 : 0 < u
        all_goals
          clear hb0
          go_enter Try.func25, Try.ntmps25
          go_wp2_with fail
          refine hh.mono ?_
          rintro e w1 ⟨rfl, q, rfl⟩
          obtain ⟨hd3, hi⟩ := HT.out q
          have h1 := HX0.out.drewN q
          clear hh c3
          generalize hW : w.drewN q = W at *
          have HW := Lib.hid hW
          clear hW
          go_wp2_with fail
          refine hi.mono ?_
          rintro e w2 ⟨U', rfl, o, g, t⟩
          obtain ⟨hc, hp, hch⟩ := h1.putU o g (Or.inl t)
          obtain ⟨A', c', rfl⟩ := o.form
          have e3 := (hc 3).1
          rw [hd3] at e3
          have y3 := (hc 3).2
          obtain ⟨hd2, hi2⟩ := HT2.out _ _ _ hp
          have q5' := hp.top.cell 5
          have q5 : (w2.setCell ⟨s, 3, none⟩ (.slice A' R.length c')).cell? ⟨s, 5, none⟩ = some (.int .i64 u) := by rw [HUU.out]; exact q5'
          have HE := Lib.hid (And.intro hp ((Chg.of_below (dN w q)).trans (by rw [HW.out]; exact hch)))
          clear hi o g t hc hp hch hd3 q5' h1
          go_wp2_with fail
          refine hi2.mono ?_
          rintro e w4 ⟨F', rfl, o, g, t⟩
          obtain ⟨hc, hp, hch⟩ := HE.out.1.putF o g t
          obtain ⟨A4, c4, rfl⟩ := o.form
          have e2 := (hc 2).1
          rw [hd2] at e2
          have y2 := (hc 2).2
          have HE4 := Lib.hid (And.intro hp (HE.out.2.trans hch))
          clear hi2 o g t hc hd2
          have q4' := hp.top.cell 4
          have z4 := hp.top.frozen 4
          obtain ⟨hq, hch2⟩ := hp.setP (S.P + 1)
          have q4 : (w4.setCell ⟨s, 2, none⟩ (.slice A4 R2.length c4)).cell? ⟨s, 4, none⟩ = some (.int .i64 p) := by rw [HPP.out]; exact q4'
          rw [← HPP.out] at hq hch2
          have HE5 := Lib.hid (And.intro hq (HE4.out.2.trans hch2))
          clear hp hch q4' hq hch2 q5
          go_wp2_with fail
          go_ret2
          refine ⟨rfl, did_of HE5.out.1 HE5.out.2 ?_ ?_ HX.out.1 HX.out.2.1 ?_ ?_⟩
          all_goals (rw [HX.out.2.2]; try rfl)
          exact HPP.out ▸ rfl
  · have hm : ¬ f ∈ lsV S.I 2 := fun e => c0 ((giE_mem f).2 e)
    have hh := has_no (b := false) (f := f) (by simpa using hm) h.u (lsV_up S.I 2) (by have := ok.l1 2; omega)
    have HD : Hid (∀ q, DidO PlO B w s (MineP s F U) (giS S f b) (w.drewN q)) := fun q => did_same h (dN w q) (by unfold giS; rw [if_neg c0])
    have hv : giV S f b = false := by unfold giV; exact decide_eq_false fun e => c0 e.1
    have ce : giE S f = 6 := by
      unfold giE at c0 ⊢
      split at c0
      · rename_i c1; rw [if_pos c1]
      · exact absurd rfl c0
    rw [hv, ce]
    rw [hU] at hh c3
    generalize (lsV S.I 2).length = n2 at *
    clear h ok pk1 pk2 pk3 p0 c0 hU hm hv ce u0 u1 m1
    go_enter Try.func25, Try.ntmps25
    go_wp2_with fail
    refine hh.mono ?_
    rintro e w1 ⟨rfl, q, rfl⟩
    clear hh
    go_wp2_with fail
    go_ret2
    exact ⟨rfl, HD.out q⟩
/-! New. -/
set_option maxRecDepth 100000 in
theorem new_pr {o m : Int} (h : nwB o m = true) (w : World) : Calls Try.prog 9 #[.int .i64 o, .int .i64 m] w fun e w' => ∃ s X, e = .returned (.tuple #[.pointer (some ⟨s, 0, none⟩), .int .i64 0]) ∧ PlO w.heap.size w' s X (newP o m) ∧ Below w.heap.size w w' := by
  unfold nwB at h
  obtain ⟨h1, h2, h3⟩ := of_decide_eq_true h
  obtain ⟨z, hz⟩ : ∃ z, z = szI o := ⟨_, rfl⟩
  have HE : Hid (PlO w.heap.size (w.alloc (.cells #[.int .i64 z, .int .i64 m, .slice none 0 0, .slice none 0 0, .int .i64 0, .int .i64 0] 56)) w.heap.size (MineP w.heap.size (.slice none 0 0) (.slice none 0 0)) (newP o m) ∧ Below w.heap.size w (w.alloc (.cells #[.int .i64 z, .int .i64 m, .slice none 0 0, .slice none 0 0, .int .i64 0, .int .i64 0] 56))) := by
    refine ⟨⟨_, _, rfl, ?_⟩, below_new _ _⟩
    unfold PlS
    rw [show (newP o m).I = List.replicate 1024 0 from rfl, lsV_new 1 (by decide), lsV_new 2 (by decide)]
    refine ⟨?_, Enc.Own.nil _ _, Enc.Own.nil _ _, Nat.le_refl _, fun k e => by cases e⟩
    rw [show szI (newP o m).o = z from hz.symm]
    exact Lrow.new w _ _
  clear h
  rcases h1 with rfl | rfl
  all_goals
    have hz' : z = szI _ := hz
    simp only [szI] at hz'
    simp at hz'
    subst hz'
    clear hz
    go_enter Try.func9, Try.ntmps9
    go_wp2_with fail
    go_ret2
    exact ⟨_, _, rfl, HE.out.1, HE.out.2⟩
set_option maxRecDepth 100000 in
theorem new_no {o m : Int} (h : nwB o m = false) (w : World) : Calls Try.prog 9 #[.int .i64 o, .int .i64 m] w fun e w' => e = .returned (.tuple #[.pointer none, .int .i64 2]) ∧ Below w.heap.size w w' := by
  unfold nwB at h
  have h' := of_decide_eq_false h
  clear h
  by_cases a : o = 3
  · subst a
    by_cases b : m < 0
    · clear h'
      go_enter Try.func9, Try.ntmps9
      go_wp2_with fail
      go_ret2
      exact ⟨rfl, Below.refl _ _⟩
    · have c : 64 < m := by omega
      clear h'
      go_enter Try.func9, Try.ntmps9
      go_wp2_with fail
      go_ret2
      exact ⟨rfl, Below.refl _ _⟩
  · by_cases d : o = 6
    · subst d
      by_cases b : m < 0
      · clear h'
        go_enter Try.func9, Try.ntmps9
        go_wp2_with fail
        go_ret2
        exact ⟨rfl, Below.refl _ _⟩
      · have c : 64 < m := by omega
        clear h'
        go_enter Try.func9, Try.ntmps9
        go_wp2_with fail
        go_ret2
        exact ⟨rfl, Below.refl _ _⟩
    · clear h'
      go_enter Try.func9, Try.ntmps9
      go_wp2_with fail
      go_ret2
      exact ⟨rfl, Below.refl _ _⟩
end
/-! Nil ones. -/
theorem nil_shrink (w : World)  : Calls Try.prog 21 #[.pointer none] w fun e w' => e = .returned (.tuple #[.int .i64 0, .int .i64 1]) ∧ w = w' := by
  go_enter Try.func21, Try.ntmps21
  go_wp2_with fail
  go_ret2
  exact ⟨rfl, rfl⟩
theorem nil_take (w : World) (b : Bool) : Calls Try.prog 22 #[.pointer none, .bool b] w fun e w' => e = .returned (.tuple #[.int .i64 0, .int .i64 1]) ∧ w = w' := by
  go_enter Try.func22, Try.ntmps22
  go_wp2_with fail
  go_ret2
  exact ⟨rfl, rfl⟩
theorem nil_give (w : World) (f : Int) (b : Bool) : Calls Try.prog 25 #[.pointer none, .int .i64 f, .bool b] w fun e w' => e = .returned (.tuple #[.bool false, .int .i64 1]) ∧ w = w' := by
  go_enter Try.func25, Try.ntmps25
  go_wp2_with fail
  go_ret2
  exact ⟨rfl, rfl⟩
theorem nil_promise (w : World) (n : Int) : Calls Try.prog 26 #[.pointer none, .int .i64 n] w fun e w' => e = .returned (.int .i64 1) ∧ w = w' := by
  go_enter Try.func26, Try.ntmps26
  go_wp2_with fail
  go_ret
  exact ⟨rfl, rfl⟩
theorem nil_unpromise (w : World) (n : Int) : Calls Try.prog 27 #[.pointer none, .int .i64 n] w fun e w' => e = .returned (.int .i64 1) ∧ w = w' := by
  go_enter Try.func27, Try.ntmps27
  go_wp2_with fail
  go_ret
  exact ⟨rfl, rfl⟩
theorem nil_wrong (w : World) (n : Int) : Calls Try.prog 45 #[.pointer none, .int .i64 n] w fun e w' => e = .returned (.int .i64 1) ∧ w = w' := by
  go_enter Try.func45, Try.ntmps45
  go_wp2_with fail
  go_ret
  exact ⟨rfl, rfl⟩
theorem nil_grow (w : World) (f : Int) : Calls Try.prog 23 #[.pointer none, .int .i64 f] w fun e w' => e = .returned (.int .i64 1) ∧ w = w' := by
  have h := nil_wrong w f
  go_enter Try.func23, Try.ntmps23
  go_wp2_with fail
  refine h.mono ?_
  rintro e w1 ⟨rfl, rfl⟩
  clear h
  go_wp2_with fail
  go_ret
  exact ⟨rfl, rfl⟩
theorem nil_extra (w : World) (f : Int) : Calls Try.prog 24 #[.pointer none, .int .i64 f] w fun e w' => e = .returned (.int .i64 1) ∧ w = w' := by
  have h := nil_wrong w f
  go_enter Try.func24, Try.ntmps24
  go_wp2_with fail
  refine h.mono ?_
  rintro e w1 ⟨rfl, rfl⟩
  clear h
  go_wp2_with fail
  go_ret
  exact ⟨rfl, rfl⟩
theorem nil_free (w : World) : Calls Try.prog 14 #[.pointer none] w fun e w' => e = .returned (.slice none 0 0) ∧ w = w' := by
  have h : Calls Try.prog 35 #[.pointer none, .func (.func 36) #[] #[]] w fun e w' => e = .returned (.slice none 0 0) ∧ w = w' := by
    go_enter Try.func35, Try.ntmps35
    go_wp2_with fail
    go_ret
    exact ⟨rfl, rfl⟩
  go_enter Try.func14, Try.ntmps14
  go_wp2_with fail
  refine h.mono ?_
  rintro e w1 ⟨rfl, rfl⟩
  clear h
  go_wp2_with fail
  go_ret
  exact ⟨rfl, rfl⟩
theorem nil_total (w : World) : Calls Try.prog 16 #[.pointer none] w fun e w' => e = .returned (.int .i64 0) ∧ w = w' := by
  have h : Calls Try.prog 38 #[.pointer none, .func (.func 39) #[] #[]] w fun e w' => e = .returned (.int .i64 0) ∧ w = w' := by
    go_enter Try.func38, Try.ntmps38
    go_wp2_with fail
    go_ret
    exact ⟨rfl, rfl⟩
  go_enter Try.func16, Try.ntmps16
  go_wp2_with fail
  refine h.mono ?_
  rintro e w1 ⟨rfl, rfl⟩
  clear h
  go_wp2_with fail
  go_ret
  exact ⟨rfl, rfl⟩
theorem nil_promised (w : World) : Calls Try.prog 18 #[.pointer none] w fun e w' => e = .returned (.int .i64 0) ∧ w = w' := by
  have h : Calls Try.prog 38 #[.pointer none, .func (.func 40) #[] #[]] w fun e w' => e = .returned (.int .i64 0) ∧ w = w' := by
    go_enter Try.func38, Try.ntmps38
    go_wp2_with fail
    go_ret
    exact ⟨rfl, rfl⟩
  go_enter Try.func18, Try.ntmps18
  go_wp2_with fail
  refine h.mono ?_
  rintro e w1 ⟨rfl, rfl⟩
  clear h
  go_wp2_with fail
  go_ret
  exact ⟨rfl, rfl⟩
theorem nil_surplus (w : World) : Calls Try.prog 19 #[.pointer none] w fun e w' => e = .returned (.int .i64 0) ∧ w = w' := by
  have h : Calls Try.prog 38 #[.pointer none, .func (.func 41) #[] #[]] w fun e w' => e = .returned (.int .i64 0) ∧ w = w' := by
    go_enter Try.func38, Try.ntmps38
    go_wp2_with fail
    go_ret
    exact ⟨rfl, rfl⟩
  go_enter Try.func19, Try.ntmps19
  go_wp2_with fail
  refine h.mono ?_
  rintro e w1 ⟨rfl, rfl⟩
  clear h
  go_wp2_with fail
  go_ret
  exact ⟨rfl, rfl⟩
theorem quiet_nil {f : Nat} {args : Array Value} {w : World} {v : Value} (h : Calls Try.prog f args w fun e w' => e = .returned v ∧ w = w') : Calls Try.prog f args w fun e w' => e = .returned v ∧ Below w.heap.size w w' :=
  h.mono fun e w' ⟨a, b⟩ => ⟨a, by rw [← b]; exact Below.refl _ _⟩
theorem theN : NilI where
  shrink w := quiet_nil (nil_shrink w)
  take w b := quiet_nil (nil_take w b)
  give w f b := quiet_nil (nil_give w f b)
  free w := (nil_free w).mono fun e w' ⟨a, b⟩ => ⟨none, 0, a, by rw [← b]; exact Below.refl _ _⟩
  total w := quiet_nil (nil_total w)
  promised w := quiet_nil (nil_promised w)
  surplus w := quiet_nil (nil_surplus w)
  grow w f := quiet_nil (nil_grow w f)
  extra w f := quiet_nil (nil_extra w f)
  promise w n := quiet_nil (nil_promise w n)
  unpromise w n := quiet_nil (nil_unpromise w n)
/-! The program's calls. -/
theorem PlO.keep {B : Nat} {w w' : World} {s : Nat} {X : Nat → Prop} {S : Pk} (h : PlO B w s X S) (hk : ∀ k, X k → k < w.heap.size → w'.heap[k]? = w.heap[k]?) : PlO B w' s X S := by
  obtain ⟨F, U, rfl, h⟩ := h
  exact ⟨F, U, rfl, PlR.keep h fun k e => hk k e (h.mine k e).2⟩
def theI : PoI where
  Ob := PlO
  keep := fun h _ hk => h.keep hk
  lo := fun ⟨F, U, e, h⟩ k hk => by subst e; exact h.mine k hk
  lw := fun ⟨F, U, e, h⟩ => h.lw
  new := fun h w => new_pr h w
  newN := fun h w => new_no h w
  grow := fun ⟨F, U, e, h⟩ ok f _ => by subst e; exact grow_pr h ok f
  shrink := fun ⟨F, U, e, h⟩ ok => by subst e; exact shrink_pr h ok
  promise := fun ⟨F, U, e, h⟩ ok n _ => by subst e; exact promise_pr h ok n
  unpromise := fun ⟨F, U, e, h⟩ ok n _ => by subst e; exact unpromise_pr h ok n
  take := fun ⟨F, U, e, h⟩ ok b => by subst e; exact take_pr h ok b
  extra := fun ⟨F, U, e, h⟩ ok f _ => by subst e; exact extra_pr h ok f
  give := fun ⟨F, U, e, h⟩ ok f b _ => by subst e; exact give_pr h ok f b
  free := fun ⟨F, U, e, h⟩ ok => free_pr h (ok.l1 1)
  total := fun {B w s X S} ⟨F, U, e, h⟩ ok => by
    have := total_pr h (ok.l1 1) (ok.l1 2)
    rwa [lsV_len ok.ln, lsV_len ok.ln] at this
  promised := fun ⟨F, U, e, h⟩ ok => promised_pr h
  surplus := fun ⟨F, U, e, h⟩ ok => surplus_pr h
end Go.Proofs.Ytllepijlebbjbaa
