/- The reference of pools: Take. -/
import Derived.Test.YtllepijlebbjbaaPoE
namespace Go.Proofs.Ytllepijlebbjbaa
open Go.RowKit
section
variable {w w' : World} {B xa g : Nat} {S S' : Pk} {f : Int}
theorem head_at {D gr n c : Nat} {W : World} {R : List Int} {y : Int} (ho : EI.Own D W (.slice (some ⟨gr, 0, none⟩) n c) R) (hl : R[0]? = some y) : D ≤ gr ∧ W.cell? ⟨gr, 0, none⟩ = some (.int .i64 y) := by
  obtain ⟨hk, hke⟩ := List.getElem?_eq_some_iff.1 hl
  obtain ⟨g2, e, hD, -, -, hat⟩ := ho.some_ hk
  injection e with e; injection e with e; subst e
  refine ⟨hD, ?_⟩
  have := hat 0 hk 0 (by decide)
  rw [show 0 * EI.sz + 0 = 0 from rfl] at this
  rw [this]; simp [EI, hke]
theorem head_far {D gr n c k i : Nat} {W : World} {R : List Int} {v : Value} (ho : EI.Own D W (.slice (some ⟨gr, 0, none⟩) n c) R) (hk : k < D) : EI.Own D (W.setCell ⟨k, i, none⟩ v) (.slice (some ⟨gr, 0, none⟩) n c) R :=
  ho.heap fun j e => by
    obtain ⟨vs, r, hlo⟩ := ho.block e
    exact Below.heap_setCell _ _ _ j (by show j ≠ k; omega)
set_option maxRecDepth 100000 in
set_option maxHeartbeats 2000000 in
theorem take_x (h : Px B w xa g S) (ok : POk S) (b : Bool) : Calls Try.prog 32 #[.pointer (some ⟨xa, 0, none⟩), .bool b] w fun e w' => e = .returned (.tuple #[.int .i64 (taV S b), .int .i64 (taE S b)]) ∧ DidX B w xa g (taS S b) w' := by
  have hf := free_x h ok.ln
  obtain ⟨pk1, pk2, pk3⟩ := ok.p1k
  have p0 := ok.p0
  obtain ⟨R, hR⟩ : ∃ R, R = frL S.I := ⟨_, rfl⟩
  obtain ⟨m, hm⟩ : ∃ m, m = R.length := ⟨_, rfl⟩
  unfold ToldI at hf
  rw [← hR, ← hm] at hf pk2 pk3
  have m1 : (m : Int) ≤ 1024 := by omega
  have HX := Lib.hid (And.intro h ok)
  have HR := Lib.hid (And.intro hR hm)
  by_cases c : taE S b = 0
  · obtain ⟨c0, c1, c2⟩ := taE_ok ok c
    obtain ⟨i, l1, l2, l3, l4⟩ := frL_head (I := S.I) c0
    rw [← hR] at l1 l2
    rw [← hR, ← hm] at c0 c2
    have HC := Lib.hid (And.intro c (And.intro l2 (And.intro l4 (And.intro l1 l3))))
    rw [show taV S b = i by unfold taV; rw [if_pos c, ← hR, l2], c]
    have i1 : (i : Int) < 1024 := by omega
    have i0 : (0 : Int) ≤ i := by omega
    have i0n : ¬ (i : Int) < 0 := by omega
    have m0 : (0 : Int) < m := by omega
    clear h ok hR hm c l1 l2 l3 l4
    cases b
    · have c2 := c2 rfl
      have cd : decide ((m : Int) ≤ S.P) = false := decide_eq_false (by omega)
      go_enter Try.func32, Try.ntmps32
      go_wp2_with fail
      refine hf.mono ?_
      rintro e w1 ⟨A, cc, rfl, ho, hb⟩
      have h1 := HX.out.1.call hb
      have e2 := h1.top.cell 2
      have e3 := h1.top.cell 3
      obtain ⟨gr, e, -, -, -, -⟩ := ho.some_ (by rw [← HR.out.2]; omega)
      subst e
      have q0 := (head_at ho HC.out.2.2.2.1).2
      obtain ⟨V0, hV0⟩ : ∃ V0, V0 = w1.drew := ⟨_, rfl⟩
      have hV : Px B V0 xa g S := by rw [hV0]; exact h1.drewN 1
      have hoV : EI.Own w.heap.size V0 (.slice (some ⟨gr, 0, none⟩) m cc) R := by rw [hV0]; exact ho.heap fun _ _ => rfl
      have qV := (head_at hoV HC.out.2.2.2.1).2
      obtain ⟨d0, y0⟩ := hV.spot HC.out.2.2.1
      have ho1 := head_far (i := i) (v := .int .i64 2) hoV (HX.out.1.mine g (Or.inr rfl)).2
      have q1 := (head_at ho1 HC.out.2.2.2.1).2
      have HD : Hid (DidX B w xa g (taS S false) (V0.setCell ⟨g, i, none⟩ (.int .i64 2))) := DidX.pre (by rw [hV0]; exact below_dN hb 1) ⟨by
        unfold taS
        rw [if_pos HC.out.1, ← HR.out.1, HC.out.2.1, Int.toNat_natCast, if_neg (by decide)]; exact hV.set_ i 2, Px.foot xa g (Or.inr rfl) _ i _⟩
      have HV := Lib.hid hV0
      clear hf h1 ho hb hV hV0 hoV ho1
      generalize S.P = P at *
      go_upto_region 6 with fail
      go_wp2_with fail
      go_still_tail 8, (by kernel_rfl)
      change wpList _ _ _ _ _ w1.drew
      rw [← HV.out]
      go_wp2_with fail
      go_ret2
      exact ⟨rfl, HD.out⟩
    · have c1 := c1 rfl
      have cd : ((S.P : Int) == 0) = false := by simpa using (by omega : ¬ S.P = 0)
      have hw : IntKind.i64.wrap (S.P - 1) = S.P - 1 := IntWalk.i64_in _ (by omega)
      go_enter Try.func32, Try.ntmps32
      go_wp2_with fail
      refine hf.mono ?_
      rintro e w1 ⟨A, cc, rfl, ho, hb⟩
      have h1 := HX.out.1.call hb
      have e2 := h1.top.cell 2
      have e3 := h1.top.cell 3
      obtain ⟨gr, e, -, -, -, -⟩ := ho.some_ (by rw [← HR.out.2]; omega)
      subst e
      have q0 := (head_at ho HC.out.2.2.2.1).2
      obtain ⟨V0, hV0⟩ : ∃ V0, V0 = w1.drew := ⟨_, rfl⟩
      have hV : Px B V0 xa g S := by rw [hV0]; exact h1.drewN 1
      have hoV : EI.Own w.heap.size V0 (.slice (some ⟨gr, 0, none⟩) m cc) R := by rw [hV0]; exact ho.heap fun _ _ => rfl
      have qV := (head_at hoV HC.out.2.2.2.1).2
      obtain ⟨d0, y0⟩ := hV.spot HC.out.2.2.1
      have ho1 := head_far (i := i) (v := .int .i64 2) hoV (HX.out.1.mine g (Or.inr rfl)).2
      have q1 := (head_at ho1 HC.out.2.2.2.1).2
      have hV1 := hV.set_ i 2
      have u3 := hV1.top.cell 3
      have v3 := hV1.top.frozen 3
      dsimp only at u3
      have ho2 := head_far (i := 3) (v := .int .i64 (S.P - 1)) ho1 (HX.out.1.mine xa (Or.inl rfl)).2
      have q2 := (head_at ho2 HC.out.2.2.2.1).2
      have HD : Hid (DidX B w xa g (taS S true) ((V0.setCell ⟨g, i, none⟩ (.int .i64 2)).setCell ⟨xa, 3, none⟩ (.int .i64 (S.P - 1)))) := DidX.pre (by rw [hV0]; exact below_dN hb 1) ⟨by
        unfold taS
        rw [if_pos HC.out.1, ← HR.out.1, HC.out.2.1, Int.toNat_natCast, if_pos rfl]; exact hV1.setP (S.P - 1), (Px.foot xa g (Or.inr rfl) _ i _).trans (Px.foot xa g (Or.inl rfl) _ 3 _) (fun _ e _ => e)⟩
      clear hV1 ho2
      have HV := Lib.hid hV0
      clear hf h1 ho hb hV hV0 hoV ho1
      generalize S.P = P at *
      go_upto_region 6 with fail
      go_wp2_with fail
      go_still_tail 8, (by kernel_rfl)
      change wpList _ _ _ _ _ w1.drew
      rw [← HV.out]
      go_wp2_with fail
      go_ret2
      exact ⟨rfl, HD.out⟩
  · have HN : Hid (∀ W, Below w.heap.size w W → DidX B w xa g (taS S b) W) := fun W hb => by unfold taS; rw [if_neg c]; exact HX.out.1.did hb
    rw [show taV S b = 0 by unfold taV; rw [if_neg c]]
    cases b
    · have hc : (m : Int) ≤ S.P := by
        rcases Int.lt_or_le S.P m with k | k
        · exfalso; apply c; unfold taE; rw [if_neg (by simp), if_neg (by rw [← hR, ← hm]; omega)]
        · exact k
      have c9 : taE S false = 9 := by unfold taE; rw [if_neg (by simp), if_pos ⟨rfl, by rw [← hR, ← hm]; exact hc⟩]
      have cd : decide ((m : Int) ≤ S.P) = true := decide_eq_true hc
      rw [c9]
      clear h ok hR hm c c9
      go_enter Try.func32, Try.ntmps32
      go_wp2_with fail
      refine hf.mono ?_
      rintro e w1 ⟨A, cc, rfl, ho, hb⟩
      have e3 := (HX.out.1.call hb).top.cell 3
      have HD := Lib.hid (HN.out _ hb)
      clear hf ho hb
      generalize S.P = P at *
      go_wp2_with fail
      go_ret2
      exact ⟨rfl, HD.out⟩
    · have hc : S.P = 0 := by
        rcases Decidable.em (S.P = 0) with k | k
        · exact k
        · exfalso; apply c; unfold taE; rw [if_neg (by simpa using k), if_neg (by simp)]
      have c9 : taE S true = 3 := by unfold taE; rw [if_pos ⟨rfl, hc⟩]
      rw [c9]
      clear h ok hR hm c c9
      go_enter Try.func32, Try.ntmps32
      go_wp2_with fail
      refine hf.mono ?_
      rintro e w1 ⟨A, cc, rfl, ho, hb⟩
      have e3 := (HX.out.1.call hb).top.cell 3
      have HD := Lib.hid (HN.out _ hb)
      rw [hc] at e3
      clear hf ho hb
      go_wp2_with fail
      go_ret2
      exact ⟨rfl, HD.out⟩
end
end Go.Proofs.Ytllepijlebbjbaa
