/- What must come at any rate; and the law of a nil one. -/
import Derived.Test.YtfjphlickpgbnaaKl
namespace Go.Proofs.Ytfjphlickpgbnaa
open Go.RowKit

theorem aw1 : ktV (List.replicate 16 true) (List.replicate 2 1) 0 0 = 0 ∧ ktE (List.replicate 16 true) (List.replicate 2 1) 0 0 = 0 := by decide
theorem aw2 : ktF (List.replicate 16 true) (List.replicate 2 1) 0 0 = false :: List.replicate 15 true ∧ ktS (List.replicate 16 true) (List.replicate 2 1) 0 0 = [0, 1] := by decide
theorem aw3 : ktV (false :: List.replicate 15 true) [0, 1] 0 1 = 8 ∧ ktE (false :: List.replicate 15 true) [0, 1] 0 1 = 0 := by decide
theorem aw4 : ktF (false :: List.replicate 15 true) [0, 1] 0 1 = (false :: List.replicate 7 true) ++ (false :: List.replicate 7 true) ∧ ktS (false :: List.replicate 15 true) [0, 1] 0 1 = [0, 1] := by decide
theorem aw5 : ktV ((false :: List.replicate 7 true) ++ (false :: List.replicate 7 true)) [0, 1] 0 0 = 1 ∧ ktE ((false :: List.replicate 7 true) ++ (false :: List.replicate 7 true)) [0, 1] 0 0 = 0 := by decide
theorem aw6 : kdZ 16 (ktS ((false :: List.replicate 7 true) ++ (false :: List.replicate 7 true)) [0, 1] 0 0) 3 = 0 := by decide
set_option maxHeartbeats 1000000 in
theorem awake_any (w : World) : Calls Try.prog 9 #[] w fun e w' => e = .returned (.bool true) ∧ Below w.heap.size w w' := by
  have hN := kNew_any (Xc := fun _ => False) 16 (by omega) (by omega) w (fun _ h => h.elim)
  have hT1 := fun (w1 : World) (k a g : Nat) (h : KinX (fun _ => False) w.heap.size w1 k a g 16 (List.replicate 16 true) (List.replicate 2 1)) => kTake_any h 0 0
  rw [aw1.1, aw1.2, aw2.1, aw2.2] at hT1
  have hT2 := fun (w1 : World) (k a g : Nat) (h : KinX (fun _ => False) w.heap.size w1 k a g 16 (false :: List.replicate 15 true) [0, 1]) => kTake_any h 0 1
  rw [aw3.1, aw3.2, aw4.1, aw4.2] at hT2
  have hT3 := fun (w1 : World) (k a g : Nat) (h : KinX (fun _ => False) w.heap.size w1 k a g 16 ((false :: List.replicate 7 true) ++ (false :: List.replicate 7 true)) [0, 1]) => kTake_any h 0 0
  rw [aw5.1, aw5.2] at hT3
  have A6 := Lib.hid aw6
  generalize ktF ((false :: List.replicate 7 true) ++ (false :: List.replicate 7 true)) [0, 1] 0 0 = F4 at hT3
  generalize ktS ((false :: List.replicate 7 true) ++ (false :: List.replicate 7 true)) [0, 1] 0 0 = S4 at hT3 A6
  generalize ((false :: List.replicate 7 true) ++ (false :: List.replicate 7 true)) = F3 at hT2 hT3
  generalize (false :: List.replicate 15 true) = F2 at hT1 hT2
  unfold KNewly at hN
  simp only [Nat.reduceAdd, Nat.reduceDiv] at hN
  generalize List.replicate 16 true = F1 at hN hT1
  generalize List.replicate 2 1 = S1 at hN hT1
  generalize [0, 1] = S2 at hT1 hT2 hT3
  generalize hgg : w.heap.size = g0 at hN hT1 hT2 hT3
  have HT1 := Lib.hid hT1
  have HT2 := Lib.hid hT2
  have HT3 := Lib.hid hT3
  clear hT1 hT2 hT3 hgg
  go_enter Try.func9, Try.ntmps9
  go_wp2_with fail
  refine Calls.mono hN ?_
  rintro e w1 ⟨k, a, g, rfl, hb1, hx1⟩
  have HB1 := Lib.hid hb1
  have HX1 := Lib.hid hx1
  clear hb1 hx1 hN
  go_wp2_with fail
  refine Calls.mono (HT1.out _ _ _ _ HX1.out) ?_
  rintro e w2 ⟨rfl, ht2, hx2⟩
  have HB2 := Lib.hid (HB1.out.trans ht2.below)
  have HX2 := Lib.hid hx2
  clear ht2 hx2 HX1 HB1
  go_wp2_with fail
  refine Calls.mono (HT2.out _ _ _ _ HX2.out) ?_
  rintro e w3 ⟨rfl, ht3, hx3⟩
  have HB3 := Lib.hid (HB2.out.trans ht3.below)
  have HX3 := Lib.hid hx3
  clear ht3 hx3 HX2 HB2
  go_wp2_with fail
  refine Calls.mono (HT3.out _ _ _ _ HX3.out) ?_
  rintro e w4 ⟨rfl, ht4, hx4⟩
  have HB4 := Lib.hid (HB3.out.trans ht4.below)
  have hK := kind_any hx4 3
  rw [A6.out] at hK
  clear ht4 hx4 HX3 HB3
  go_wp2_with (go_at_call 12; refine hK.mono ?_; rintro e w' ⟨rfl, rfl⟩)
  go_ret
  exact ⟨rfl, HB4.out⟩
set_option maxHeartbeats 1000000 in
theorem none_walk (K Fr O Of N : Int) (w : World) : Calls Try.prog 7 #[.agg #[.int .i64 K, .int .i64 Fr, .int .i64 O, .int .i64 Of, .int .i64 N]] w fun e w' => e = .returned (.bool true) ∧ Below w.heap.size w w' := by
  have hbox : Lrow (w.alloc (.cells #[.int .i64 K, .int .i64 Fr, .int .i64 O, .int .i64 Of, .int .i64 N] 29)) w.heap.size 29 [.int .i64 K, .int .i64 Fr, .int .i64 O, .int .i64 Of, .int .i64 N] := Lrow.new w _ _
  have HB := Lib.hid hbox
  clear hbox
  go_enter Try.func7, Try.ntmps7
  go_wp2_with (go_at_call 15; refine (kTake_nil _ _ _).mono ?_; rintro e w' ⟨rfl, rfl⟩)
  simp only [List.append_eq, List.cons_append, List.nil_append]
  obtain ⟨W, hW⟩ : ∃ W, W = w.alloc (.cells #[.int .i64 K, .int .i64 Fr, .int .i64 O, .int .i64 Of, .int .i64 N] 29) := ⟨_, rfl⟩
  obtain ⟨q, hq⟩ : ∃ q, q = w.heap.size := ⟨_, rfl⟩
  rw [← hW, ← hq]
  have HR : Hid (Lrow W q 29 [.int .i64 K, .int .i64 Fr, .int .i64 O, .int .i64 Of, .int .i64 N]) := by show Lrow _ _ _ _; rw [hW, hq]; exact HB.out
  have HBW : Hid (Below w.heap.size w W) := by show Below _ _ _; rw [hW]; exact (Below.refl _ _).alloc (Nat.le_refl _) _
  clear hW hq HB
  have hs1 : W.cell? ⟨q, 1, none⟩ = some (.int .i64 Fr) ∧ W.cell? ⟨q, 2, none⟩ = some (.int .i64 O) ∧ W.cell? ⟨q, 3, none⟩ = some (.int .i64 Of) := ⟨HR.out.cell 1, HR.out.cell 2, HR.out.cell 3⟩
  go_region_held3 (fun v => v.cell? ⟨q, 1, none⟩ = some (.int .i64 Fr) ∧ v.cell? ⟨q, 2, none⟩ = some (.int .i64 O) ∧ v.cell? ⟨q, 3, none⟩ = some (.int .i64 Of)) (first | exact hs1 | exact hs2) (first | (go_at_call 9; refine Calls.mono (awake_any _) ?_; rintro e w1 ⟨rfl, hb1⟩; have hr := (HR.out.drewN 1).call hb1; have hs2 : w1.cell? ⟨q, 1, none⟩ = some (.int .i64 Fr) ∧ w1.cell? ⟨q, 2, none⟩ = some (.int .i64 O) ∧ w1.cell? ⟨q, 3, none⟩ = some (.int .i64 Of) := ⟨hr.cell 1, hr.cell 2, hr.cell 3⟩; have HB1 := Lib.hid ((below_dN HBW.out 1).trans (hb1.mono HBW.out.size)); clear hb1 hr) | (go_at_call 22; refine (kTakeAt_nil _ _ _).mono ?_; rintro e w' ⟨rfl, q1, rfl⟩) | (go_at_call 23; refine (kGive_nil _ _ _).mono ?_; rintro e w' ⟨rfl, q2, rfl⟩) | (go_at_call 24; refine (kSet_nil _ _ _).mono ?_; rintro e w' ⟨rfl, rfl⟩) | (go_at_call 12; refine (kind_nil _ _).mono ?_; rintro e w' ⟨rfl, rfl⟩) | (go_at_call 21; refine (kFree_nil _).mono ?_; rintro e w' ⟨rfl, rfl⟩) | (go_at_call 25; refine (kFreeOf_nil _ _).mono ?_; rintro e w' ⟨rfl, rfl⟩) | (go_at_call 19; refine (kBlocks_nil _).mono ?_; rintro e w' ⟨rfl, rfl⟩) | (go_at_call 26; refine (kHas_nil _ _).mono ?_; rintro e w' ⟨rfl, rfl⟩))
  all_goals
    go_wp2_with fail
    go_ret
    exact ⟨rfl, by first | exact HB1.out | exact below_dN HB1.out _ | exact below_dN (below_dN HB1.out _) _⟩
end Go.Proofs.Ytfjphlickpgbnaa
