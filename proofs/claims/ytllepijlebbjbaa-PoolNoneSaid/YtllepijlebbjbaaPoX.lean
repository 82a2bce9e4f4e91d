/- Package pool: Take. -/
import Derived.Test.YtllepijlebbjbaaPoW
namespace Go.Proofs.Ytllepijlebbjbaa
open Go.RowKit
section
variable {w w' : World} {B s : Nat} {F U F' U' : Value} {S S' : Pk} {Lf Lu : List Int} {P Q : Int}
set_option maxRecDepth 100000 in
set_option maxHeartbeats 4000000 in
theorem take_pr (h : PlS B w s F U S) (ok : POk S) (b : Bool) : Calls Try.prog 22 #[.pointer (some ⟨s, 0, none⟩), .bool b] w fun e w' => e = .returned (.tuple #[.int .i64 (taV S b), .int .i64 (taE S b)]) ∧ DidO PlO B w s (MineP s F U) (taS S b) w' := by
  obtain ⟨pk1, pk2, pk3⟩ := ok.p1k
  have p0 := ok.p0
  have hl := loose_i h (ok.l1 1) p0 pk1
  by_cases c0 : taE S b = 0
  · obtain ⟨t1, t2, t3⟩ := taE_ok ok c0
    rw [frL_lsV] at pk2 pk3
    obtain ⟨i, l1, l2, l3, l4⟩ := frL_head (I := S.I) t1
    rw [frL_lsV] at l1 t1 t3
    have hv : taV S b = i := by unfold taV; rw [if_pos c0, l2]
    have hs : taS S b = ⟨S.o, S.m, S.I.set i 2, if b = true then S.P - 1 else S.P, S.U⟩ := by unfold taS; rw [if_pos c0, l2, Int.toNat_natCast]
    have e1 : lsV (taS S b).I 1 = delN i (lsV S.I 1) := by rw [hs]; exact lsV_del l4 l3 (by decide)
    have e2 : lsV (taS S b).I 2 = insN i (lsV S.I 2) := by rw [hs]; exact lsV_ins l3 l4 (by decide)
    have him : (i : Int) ∈ lsV S.I 1 := mem_lsV_nat.2 ⟨l3, l4⟩
    obtain ⟨gr, cc, hF, -⟩ := list_at h.f l1
    obtain ⟨A2, cu, hU⟩ := h.u.form
    have HT : Hid (∀ W P', PlR B W s (szI S.o) S.m F U (lsV S.I 1) (lsV S.I 2) P' S.U → W.cell? ⟨s, 2, none⟩ = some (.slice (some ⟨gr, 0, none⟩) (lsV S.I 1).length cc) ∧ W.cell? ⟨gr, 0, none⟩ = some (.int .i64 i) ∧ Calls Try.prog 43 #[.slice (some ⟨gr, 0, none⟩) (lsV S.I 1).length cc, .int .i64 i] W (DelI B F (delN i (lsV S.I 1)) W)) := fun W P' h => by
      refine ⟨by rw [← hF]; exact h.top.cell 2, ?_, by have := without_i h.f (lsV_up S.I 1) (by have := ok.l1 1; omega) him; rw [hF] at this ⊢; exact this⟩
      obtain ⟨g', c', e, hat⟩ := list_at h.f l1
      rw [hF] at e
      injection e with e1 e2 e3
      injection e1 with e1
      injection e1 with e1
      subst e1
      exact hat 0
    have HT2 : Hid (∀ W F' R P', PlR B W s (szI S.o) S.m F' U R (lsV S.I 2) P' S.U → W.cell? ⟨s, 3, none⟩ = some (.slice A2 (lsV S.I 2).length cu) ∧ Calls Try.prog 44 #[.slice A2 (lsV S.I 2).length cu, .int .i64 i] W (InsI B U (insN i (lsV S.I 2)) W)) := fun W F' R P' h => by
      refine ⟨by rw [← hU]; exact h.top.cell 3, by have := with_i h.u h.lw (lsV_up S.I 2) (by have := ok.l1 2; omega) (i : Int); rw [hU] at this ⊢; exact this⟩
    rw [c0, hv]
    have HX := Lib.hid (And.intro h (And.intro e1 (And.intro e2 hs)))
    have n0 : 0 < (lsV S.I 1).length := t1
    have n1 : (lsV S.I 1).length ≤ 1024 := pk3
    have hdd : b = false → ((((lsV S.I 1).length : Int) - S.P) == 0) = false := fun e => by have := t3 e; simpa using (by omega : ¬ ((lsV S.I 1).length : Int) - S.P = 0)
    have hpp : b = true → (S.P == 0) = false := fun e => by have := t2 e; simpa using (by omega : ¬ S.P = 0)
    have hw : IntKind.i64.wrap (S.P - 1) = S.P - 1 := IntWalk.i64_in _ (by omega)
    generalize ((lsV S.I 1).length : Int) - S.P = d at hl hdd
    generalize delN i (lsV S.I 1) = R at *
    generalize insN i (lsV S.I 2) = R2 at *
    generalize (lsV S.I 1).length = n at *
    generalize (lsV S.I 2).length = n2 at *
    clear pk1 pk2 pk3 p0 c0 t1 t2 t3 l1 l2 l3 l4 hv hs e1 e2 him hF hU ok
    cases b
    · have hdd := hdd rfl
      clear hpp hw h
      go_enter Try.func22, Try.ntmps22
      go_wp2_with fail
      refine hl.mono ?_
      rintro e w1 ⟨rfl, q, rfl⟩
      obtain ⟨W1, hW1⟩ : ∃ W1, W1 = w.drewN q := ⟨_, rfl⟩
      have H1 : Hid (PlR B W1 s (szI S.o) S.m F U (lsV S.I 1) (lsV S.I 2) S.P S.U ∧ Chg (MineP s F U) (MineP s F U) w W1) := by
        rw [hW1]; exact ⟨HX.out.1.drewN q, Chg.of_below (dN w q)⟩
      rw [← hW1]
      clear hl hW1
      obtain ⟨hd2, hat, hi⟩ := HT.out W1 _ H1.out.1
      go_wp2_with fail
      refine hi.mono ?_
      rintro e w2 ⟨F', rfl, o, g, t⟩
      obtain ⟨hc, hp, hch⟩ := H1.out.1.putF o g (Or.inl t)
      obtain ⟨A', c', rfl⟩ := o.form
      have e2 := (hc 2).1
      rw [hd2] at e2
      have y2 := (hc 2).2
      obtain ⟨hd3, hi3⟩ := HT2.out _ _ _ _ hp
      have HE := Lib.hid (And.intro hp (H1.out.2.trans hch))
      clear hi o g t hc hp hch hd2 hat
      go_wp2_with fail
      refine hi3.mono ?_
      rintro e w4 ⟨U', rfl, o, g, t⟩
      obtain ⟨hc, hp, hch⟩ := HE.out.1.putU o g t
      obtain ⟨A4, c4, rfl⟩ := o.form
      have e3 := (hc 3).1
      rw [hd3] at e3
      have y3 := (hc 3).2
      have HE4 := Lib.hid (And.intro hp (HE.out.2.trans hch))
      clear hi3 o g t hc hp hch hd3
      go_wp2_with fail
      go_ret2
      refine ⟨rfl, did_of HE4.out.1 HE4.out.2 ?_ ?_ HX.out.2.1 HX.out.2.2.1 ?_ ?_⟩
      all_goals (rw [HX.out.2.2.2]; try rfl)
    · have hpp := hpp rfl
      have c4 := h.top.cell 4
      have y4 := h.top.frozen 4
      obtain ⟨W1, hW1⟩ : ∃ W1, W1 = w.setCell ⟨s, 4, none⟩ (.int .i64 (S.P - 1)) := ⟨_, rfl⟩
      have H1 : Hid (PlR B W1 s (szI S.o) S.m F U (lsV S.I 1) (lsV S.I 2) (S.P - 1) S.U ∧ Chg (MineP s F U) (MineP s F U) w W1) := by
        rw [hW1]; exact h.setP (S.P - 1)
      obtain ⟨p, hp⟩ : ∃ p, p = S.P := ⟨_, rfl⟩
      rw [← hp] at hpp c4 hw hW1
      have HW1 := Lib.hid hW1
      clear hdd h hl hp hW1
      go_enter Try.func22, Try.ntmps22
      go_upto_region 9 with (fail)
      rw [← HW1.out]
      clear c4 y4 hpp hw
      obtain ⟨hd2, hat, hi⟩ := HT.out W1 _ H1.out.1
      go_wp2_with fail
      refine hi.mono ?_
      rintro e w2 ⟨F', rfl, o, g, t⟩
      obtain ⟨hc, hp, hch⟩ := H1.out.1.putF o g (Or.inl t)
      obtain ⟨A', c', rfl⟩ := o.form
      have e2 := (hc 2).1
      rw [hd2] at e2
      have y2 := (hc 2).2
      obtain ⟨hd3, hi3⟩ := HT2.out _ _ _ _ hp
      have HE := Lib.hid (And.intro hp (H1.out.2.trans hch))
      clear hi o g t hc hp hch hd2 hat
      go_wp2_with fail
      refine hi3.mono ?_
      rintro e w4 ⟨U', rfl, o, g, t⟩
      obtain ⟨hc, hp, hch⟩ := HE.out.1.putU o g t
      obtain ⟨A4, c4, rfl⟩ := o.form
      have e3 := (hc 3).1
      rw [hd3] at e3
      have y3 := (hc 3).2
      have HE4 := Lib.hid (And.intro hp (HE.out.2.trans hch))
      clear hi3 o g t hc hp hch hd3
      go_wp2_with fail
      go_ret2
      refine ⟨rfl, did_of HE4.out.1 HE4.out.2 ?_ ?_ HX.out.2.1 HX.out.2.2.1 ?_ ?_⟩
      all_goals (rw [HX.out.2.2.2]; try rfl)
  · have HD : Hid (∀ q, DidO PlO B w s (MineP s F U) (taS S b) (w.drewN q)) := fun q => did_same h (dN w q) (by unfold taS; rw [if_neg c0])
    have hv : taV S b = 0 := by unfold taV; rw [if_neg c0]
    rw [hv]
    have c4 := h.top.cell 4
    cases b
    · have ce : taE S false = 9 ∧ ((lsV S.I 1).length : Int) - S.P = 0 := by
        unfold taE at c0 ⊢
        rw [frL_lsV] at c0 pk2 ⊢
        rw [if_neg (by simp)] at c0 ⊢
        split at c0
        · rename_i c1
          rw [if_pos c1]
          exact ⟨rfl, by have := c1.2; omega⟩
        · exact absurd rfl c0
      rw [ce.1]
      rw [ce.2] at hl
      clear h ok ce pk1 pk2 pk3 p0 c0 hv c4
      go_enter Try.func22, Try.ntmps22
      go_wp2_with fail
      refine hl.mono ?_
      rintro e w1 ⟨rfl, q, rfl⟩
      clear hl
      go_wp2_with fail
      go_ret2
      exact ⟨rfl, HD.out q⟩
    · have ce : taE S true = 3 ∧ S.P = 0 := by
        unfold taE at c0 ⊢
        split at c0
        · rename_i c1
          rw [if_pos c1]
          exact ⟨rfl, c1.2⟩
        · rw [if_neg (by simp)] at c0
          exact absurd rfl c0
      rw [ce.1]
      replace c4 : w.cell? ⟨s, 4, none⟩ = some (.int .i64 0) := by rw [← ce.2]; exact c4
      clear h ok ce pk1 pk2 pk3 p0 c0 hv hl
      go_enter Try.func22, Try.ntmps22
      go_wp2_with fail
      go_ret2
      exact ⟨rfl, HD.out 0⟩
end
end Go.Proofs.Ytllepijlebbjbaa
