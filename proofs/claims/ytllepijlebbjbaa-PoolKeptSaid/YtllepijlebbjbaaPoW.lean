/- Package pool: Shrink, Take. -/
import Derived.Test.YtllepijlebbjbaaPoU
namespace Go.Proofs.Ytllepijlebbjbaa
open Go.RowKit
section
variable {w w' : World} {B s : Nat} {F U F' U' : Value} {S S' : Pk} {Lf Lu : List Int} {P Q : Int}
theorem list_at {v : Value} {L : List Int} (h : EI.Own B w v L) {j : Nat} {y : Int} (hj : L[j]? = some y) : ∃ g c, v = .slice (some ⟨g, 0, none⟩) L.length c ∧ ∀ q, (w.drewN q).cell? ⟨g, j, none⟩ = some (.int .i64 y) := by
  obtain ⟨A, c, rfl⟩ := h.form
  obtain ⟨hl, e⟩ := List.getElem?_eq_some_iff.1 hj
  rcases EI_row h with ⟨rfl, rfl, rfl⟩ | ⟨g, rest, rfl, hr, _⟩
  · cases hl
  · refine ⟨g, c, rfl, fun q => ?_⟩
    have := row_at (hr.drewN q) j hl
    rw [Nat.zero_add, List.getD_eq_getElem?_getD, hj] at this
    exact this
set_option maxRecDepth 100000 in
set_option maxHeartbeats 4000000 in
theorem shrink_pr (h : PlS B w s F U S) (ok : POk S) : Calls Try.prog 21 #[.pointer (some ⟨s, 0, none⟩)] w fun e w' => e = .returned (.tuple #[.int .i64 (shV S), .int .i64 (shE S)]) ∧ DidO PlO B w s (MineP s F U) (shS S) w' := by
  obtain ⟨pk1, pk2, pk3⟩ := ok.p1k
  have p0 := ok.p0
  have hl := loose_i h (ok.l1 1) p0 pk1
  rw [frL_lsV] at pk2 pk3
  by_cases c0 : shE S = 0
  · have hn : S.P < ((lsV S.I 1).length : Int) := by
      unfold shE at c0
      split at c0
      · omega
      · rename_i c1; rw [frL_lsV] at c1; omega
    obtain ⟨i, l1, l2, l3, l4⟩ := frL_last (I := S.I) (by rw [frL_lsV]; omega)
    rw [frL_lsV] at l1
    have hv : shV S = i := by unfold shV; rw [if_pos c0, l2]
    have hs : shS S = ⟨S.o, S.m, S.I.set i 0, S.P, S.U⟩ := by unfold shS stP; rw [if_pos c0, l2, Int.toNat_natCast]
    have e1 : lsV (shS S).I 1 = delN i (lsV S.I 1) := by rw [hs]; exact lsV_del l4 l3 (by decide)
    have e2 : lsV (shS S).I 2 = lsV S.I 2 := by rw [hs]; exact lsV_same l4 (by decide) (by decide)
    have him : (i : Int) ∈ lsV S.I 1 := mem_lsV_nat.2 ⟨l3, l4⟩
    obtain ⟨gr, cc, hF, hat⟩ := list_at h.f l1
    have d2 := fun q => (h.drewN q).top.cell 2
    have hi := fun q => without_i (h.drewN q).f (lsV_up S.I 1) (by have := ok.l1 1; omega) him
    simp only [hF] at d2 hi
    rw [c0, hv]
    have HX := Lib.hid (And.intro h (And.intro e1 (And.intro e2 hs)))
    have HF := Lib.hid hF
    have hd0 : ((((lsV S.I 1).length : Int) - S.P) == 0) = false := by simpa using (by omega : ¬ ((lsV S.I 1).length : Int) - S.P = 0)
    generalize ((lsV S.I 1).length : Int) - S.P = d at hl hd0
    generalize delN i (lsV S.I 1) = R at *
    have hn0 : 0 < (lsV S.I 1).length := by omega
    obtain ⟨k, hk⟩ : ∃ k, (lsV S.I 1).length = k + 1 := ⟨(lsV S.I 1).length - 1, by omega⟩
    have hkb : k ≤ 1023 := by omega
    rw [hk] at hat d2 hi
    rw [hk] at HF
    rw [Nat.add_sub_cancel] at hat
    have HAT := Lib.hid hat
    have HD2 : Hid (∀ q, (w.drewN q).cell? ⟨s, 2, none⟩ = some (.slice (some ⟨gr, 0, none⟩) (k + 1) cc)) := fun q => d2 q
    have HI := Lib.hid hi
    have k1 : (k : Int) < (k : Int) + 1 := by omega
    have k0 : (0 : Int) ≤ k := by omega
    have k0n : ¬ (k : Int) < 0 := by omega
    have hw' : IntKind.i64.wrap ((k : Int) + 1 - 1) = (k : Int) := by rw [show (k : Int) + 1 - 1 = (k : Int) by omega]; exact IntWalk.i64_in _ (by omega)
    clear h ok pk1 pk2 pk3 p0 c0 hn l1 l2 l3 l4 hv hs e1 e2 him hF hat d2 hi hn0 hk
    go_enter Try.func21, Try.ntmps21
    go_wp2_with fail
    refine hl.mono ?_
    rintro e w1 ⟨rfl, q, rfl⟩
    have hd2 := HD2.out q
    have hat := HAT.out q
    clear hl
    generalize hW : w.drewN q = W at *
    have HW := Lib.hid hW
    clear hW
    go_wp2_with fail
    go_quiet (fail)
    obtain ⟨W2, hW2⟩ : ∃ W2, W2 = W.drewN nq := ⟨_, rfl⟩
    rw [← hW2]
    have hW3 : W2 = w.drewN (q + nq) := by rw [hW2, ← HW.out, World.drewN_drewN]
    have hd3 := HD2.out (q + nq)
    have hi := HI.out (q + nq)
    rw [← hW3] at hd3 hi
    have HW2 := Lib.hid hW3
    clear hW2 hW3 hd2 hat
    go_wp2_with fail
    refine hi.mono ?_
    rintro e w2 ⟨F', rfl, o, g, t⟩
    have h2 := HX.out.1.drewN (q + nq)
    rw [← HW2.out] at h2
    obtain ⟨hc, hp, hch⟩ := h2.putF o (by rw [HF.out]; exact g) (by rw [HF.out]; exact Or.inl t)
    obtain ⟨A', c', rfl⟩ := o.form
    have e2 := (hc 2).1
    rw [hd3] at e2
    have y2 := (hc 2).2
    have HE := Lib.hid (And.intro hp hch)
    clear hi o g t hc hp hch hd3 h2
    go_wp2_with fail
    go_ret2
    refine ⟨rfl, did_of HE.out.1 ((Chg.of_below (dN w (q + nq))).trans (by rw [← HW2.out]; exact HE.out.2)) ?_ ?_ HX.out.2.1 HX.out.2.2.1 ?_ ?_⟩
    all_goals rw [HX.out.2.2.2]
  · have c12 : shE S = 12 := by unfold shE at c0 ⊢; split at c0 <;> simp_all
    have hz : ((lsV S.I 1).length : Int) - S.P = 0 := by
      unfold shE at c0
      split at c0
      · rename_i c1; rw [frL_lsV] at c1; omega
      · exact absurd rfl c0
    have hv : shV S = 0 := by unfold shV; rw [if_neg c0]
    have HD : Hid (∀ q, DidO PlO B w s (MineP s F U) (shS S) (w.drewN q)) := fun q => did_same h (dN w q) (by unfold shS; rw [if_neg c0])
    rw [c12, hv]
    rw [hz] at hl
    clear h ok pk1 pk2 pk3 p0 c0 c12 hz hv
    go_enter Try.func21, Try.ntmps21
    go_wp2_with fail
    refine hl.mono ?_
    rintro e w1 ⟨rfl, q, rfl⟩
    clear hl
    go_wp2_with fail
    go_ret2
    exact ⟨rfl, HD.out q⟩
end
end Go.Proofs.Ytllepijlebbjbaa
