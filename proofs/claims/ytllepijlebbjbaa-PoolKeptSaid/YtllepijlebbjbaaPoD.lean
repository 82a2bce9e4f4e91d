/- The reference of pools: Extra, Promise, Shrink, Take, Give. -/
import Derived.Test.YtllepijlebbjbaaPoC
namespace Go.Proofs.Ytllepijlebbjbaa
open Go.RowKit
section
variable {w w' : World} {B xa g : Nat} {S S' : Pk} {f : Int}
theorem POk.p1k (h : POk S) : S.P ≤ 1024 ∧ S.P ≤ ((frL S.I).length : Int) ∧ (frL S.I).length ≤ 1024 := by
  have h1 := h.p1
  have h2 := List.count_le_length (a := (1 : Int)) (l := S.I)
  have h3 := h.ln
  rw [frL_len h.ln]
  omega
theorem Px.drewN (h : Px B w xa g S) (k : Nat) : Px B (w.drewN k) xa g S := h.call (below_dN (Below.refl _ _) k)
set_option maxRecDepth 100000 in
set_option maxHeartbeats 2000000 in
theorem extra_x (h : Px B w xa g S) (ok : POk S) (f : Int) : Calls Try.prog 33 #[.pointer (some ⟨xa, 0, none⟩), .int .i64 f] w fun e w' => e = .returned (.int .i64 (exE S f)) ∧ DidX B w xa g (exS S f) w' := by
  have hm := may_x h ok f
  have e1 := h.top.cell 1
  by_cases c : maE S f = 0
  · obtain ⟨a1, a2, a3, a4⟩ := maE_ok c
    obtain ⟨ff, rfl⟩ : ∃ k : Nat, f = k := ⟨f.toNat, by omega⟩
    rw [Int.toNat_natCast] at a4
    have e4 := h.top.cell 4
    by_cases d : S.m ≤ S.U
    · have c' : exE S ff = 13 := by unfold exE; rw [if_neg (by simpa using c), if_pos d]
      have HD : Hid (∀ k, DidX B w xa g (exS S ff) (w.drewN k)) := fun k => by unfold exS; rw [c', if_neg (by decide)]; exact h.did (below_dN (Below.refl _ _) k)
      have dd : decide (S.U ≥ S.m) = true := decide_eq_true d
      rw [c] at hm
      rw [c']
      clear h ok c c' a1 a2 a3 a4
      generalize S.U = U at *
      generalize S.m = m at *
      go_enter Try.func33, Try.ntmps33
      go_wp2_with (go_at_call 47; (with_reducible refine hm.mono ?_); rintro e w1 ⟨rfl, rfl⟩)
      go_quiet (fail)
      go_wp2_with fail
      go_ret
      exact ⟨rfl, HD.out _⟩
    · have c' : exE S ff = 0 := by unfold exE; rw [if_neg (by simpa using c), if_neg d]
      have hff : ff < 1024 := by have := ok.ln; have := (List.getElem?_eq_some_iff.1 a4).1; omega
      have f1 : (ff : Int) < 1024 := by omega
      have f0 : (0 : Int) ≤ ff := by omega
      have f0n : ¬ (ff : Int) < 0 := by omega
      have e2 := fun k => (h.drewN k).top.cell 2
      have d0 := fun k => ((h.drewN k).spot a4).1
      have y0 := fun k => ((h.drewN k).spot a4).2
      have u4 := fun k => ((h.drewN k).set_ ff 2).top.cell 4
      have v4 := fun k => ((h.drewN k).set_ ff 2).top.frozen 4
      have HD : Hid (∀ k, DidX B w xa g (exS S ff) (((w.drewN k).setCell ⟨g, ff, none⟩ (.int .i64 2)).setCell ⟨xa, 4, none⟩ (.int .i64 (S.U + 1)))) := fun k => DidX.pre (below_dN (Below.refl _ _) k) ⟨by
        unfold exS
        rw [if_pos c', Int.toNat_natCast]; exact ((h.drewN k).set_ ff 2).setU (S.U + 1), (Px.foot xa g (Or.inr rfl) _ ff _).trans (Px.foot xa g (Or.inl rfl) _ 4 _) (fun _ e _ => e)⟩
      have hw : IntKind.i64.wrap (S.U + 1) = S.U + 1 := IntWalk.i64_in _ (by have := ok.u0; have := ok.u1; have := ok.m1; omega)
      have dd : decide (S.U ≥ S.m) = false := decide_eq_false d
      dsimp only at u4
      rw [c] at hm
      rw [c']
      clear h ok c c' a1 a2 a3 a4
      generalize S.U = U at *
      generalize S.m = m at *
      go_enter Try.func33, Try.ntmps33
      go_wp2_with (go_at_call 47; (with_reducible refine hm.mono ?_); rintro e w1 ⟨rfl, rfl⟩)
      go_quiet (fail)
      go_wp2_with fail
      go_ret
      exact ⟨rfl, HD.out _⟩
  · have c' : exE S f = maE S f := by unfold exE; rw [if_pos c]
    have HD : Hid (DidX B w xa g (exS S f) w) := by unfold exS; rw [c', if_neg c]; exact h.did (Below.refl _ _)
    have cb : (maE S f == 0) = false := by simpa using c
    rw [c']
    generalize maE S f = M at *
    clear h ok c'
    go_enter Try.func33, Try.ntmps33
    go_wp2_with (go_at_call 47; (with_reducible refine hm.mono ?_); rintro e w1 ⟨rfl, rfl⟩)
    go_ret
    exact ⟨rfl, HD.out⟩
set_option maxRecDepth 100000 in
set_option maxHeartbeats 2000000 in
theorem shrink_x (h : Px B w xa g S) (ok : POk S) : Calls Try.prog 29 #[.pointer (some ⟨xa, 0, none⟩)] w fun e w' => e = .returned (.tuple #[.int .i64 (shV S), .int .i64 (shE S)]) ∧ DidX B w xa g (shS S) w' := by
  have hf := free_x h ok.ln
  obtain ⟨pk1, pk2, pk3⟩ := ok.p1k
  have p0 := ok.p0
  obtain ⟨R, hR⟩ : ∃ R, R = frL S.I := ⟨_, rfl⟩
  obtain ⟨m, hm⟩ : ∃ m, m = R.length := ⟨_, rfl⟩
  unfold ToldI at hf
  rw [← hR, ← hm] at hf pk2 pk3
  have HX := Lib.hid (And.intro h ok)
  have HR := Lib.hid (And.intro hR hm)
  have m1 : (m : Int) ≤ 1024 := by omega
  by_cases hc : (m : Int) ≤ S.P
  · have c0 : shE S = 12 := by unfold shE; rw [← hR, ← hm, if_pos hc]
    have HC := Lib.hid c0
    rw [c0, show shV S = 0 by unfold shV; rw [c0, if_neg (by decide)]]
    clear h ok hR hm c0
    go_enter Try.func29, Try.ntmps29
    go_wp2_with fail
    refine hf.mono ?_
    rintro e w1 ⟨A, c, rfl, ho, hb⟩
    have h1 := HX.out.1.call hb
    have e3 := h1.top.cell 3
    have HD : Hid (DidX B w xa g (shS S) w1) := by unfold shS; rw [HC.out, if_neg (by decide)]; exact HX.out.1.did hb
    clear hf h1 ho hb
    generalize S.P = P at *
    go_wp2_with fail
    go_ret2
    exact ⟨rfl, HD.out⟩
  · have c0 : shE S = 0 := by unfold shE; rw [← hR, ← hm, if_neg hc]
    obtain ⟨i, l1, l2, l3, l4⟩ := frL_last (I := S.I) (by rw [← hR, ← hm]; omega)
    rw [← hR, ← hm] at l1
    rw [← hR] at l2
    have HC := Lib.hid (And.intro c0 (And.intro l2 (And.intro l4 (And.intro l1 l3))))
    rw [c0, show shV S = i by unfold shV; rw [c0, if_pos rfl, ← hR, l2]]
    obtain ⟨k, rfl⟩ : ∃ k, m = k + 1 := ⟨m - 1, by omega⟩
    clear h ok hR hm c0 l1 l2 l3 l4
    go_enter Try.func29, Try.ntmps29
    go_wp2_with fail
    refine hf.mono ?_
    rintro e w1 ⟨A, c, rfl, ho, hb⟩
    have h1 := HX.out.1.call hb
    have e2 := h1.top.cell 2
    have e3 := h1.top.cell 3
    obtain ⟨gr, e, -, -, -, hat⟩ := ho.some_ (by rw [← HR.out.2]; omega)
    subst e
    obtain ⟨hk, hke⟩ := List.getElem?_eq_some_iff.1 HC.out.2.2.2.1
    have q0 : w1.cell? ⟨gr, k, none⟩ = some (.int .i64 i) := by
      have := hat k (by rw [← HR.out.2]; omega) 0 (by decide)
      rw [show k * EI.sz + 0 = k from by show k * 1 + 0 = k; omega] at this
      have e3 : R[k] = (i : Int) := hke
      rw [this]; simp [EI, e3]
    obtain ⟨d0, y0⟩ := h1.spot HC.out.2.2.1
    have HD : Hid (DidX B w xa g (shS S) (w1.setCell ⟨g, i, none⟩ (.int .i64 0))) := DidX.pre hb ⟨by
      unfold shS stP
      rw [if_pos HC.out.1, ← HR.out.1, HC.out.2.1, Int.toNat_natCast]; exact h1.set_ i 0, Px.foot xa g (Or.inr rfl) w1 i _⟩
    have i1 : (i : Int) < 1024 := by have := HC.out.2.2.2.2; omega
    have i0 : (0 : Int) ≤ i := by omega
    have i0n : ¬ (i : Int) < 0 := by omega
    have hw' : IntKind.i64.wrap ((k : Int) + 1 - 1) = (k : Int) := by rw [show (k : Int) + 1 - 1 = (k : Int) by omega]; exact IntWalk.i64_in _ (by omega)
    have k1 : (k : Int) < (k : Int) + 1 := by omega
    have k0 : (0 : Int) ≤ k := by omega
    have k0n : ¬ (k : Int) < 0 := by omega
    have hcd : decide (((k : Int) + 1) ≤ S.P) = false := decide_eq_false (by omega)
    clear hf h1 ho hb hat hk hke
    generalize S.P = P at *
    go_wp2_with fail
    go_ret2
    exact ⟨rfl, HD.out⟩
end
end Go.Proofs.Ytllepijlebbjbaa
