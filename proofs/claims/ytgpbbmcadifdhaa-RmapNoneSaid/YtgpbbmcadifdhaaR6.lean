/- The calls of package rmap that only look: isFrame, isSpot, place, Count, Spots, Frames; New; those of a nil one. -/
import Derived.Test.YtgpbbmcadifdhaaR5
namespace Go.Proofs.Ytgpbbmcadifdhaa
open Go.RowKit

theorem isFrame_any (f : Int) (w : World) : Calls Try.prog 22 #[.int .i64 f] w fun e w' => e = .returned (.bool (decide (okF f))) ∧ w = w' := by
  by_cases h : 0 ≤ f
  · go_enter Try.func22, Try.ntmps22
    go_wp2
    go_ret
    exact ⟨ret_bool (by rw [decide_eq_decide]; unfold okF; omega), rfl⟩
  · go_enter Try.func22, Try.ntmps22
    go_wp2
    go_ret
    exact ⟨ret_bool (decide_eq_false (by unfold okF; omega)).symm, rfl⟩
theorem isSpot_any (x y : Int) (w : World) : Calls Try.prog 23 #[.agg #[.int .i64 x, .int .i64 y]] w fun e w' => e = .returned (.bool (decide (okS (x, y)))) ∧ Below w.heap.size w w' := by
  by_cases h : 0 ≤ x
  · by_cases k : 0 ≤ y
    · go_enter Try.func23, Try.ntmps23
      go_wp2
      go_ret
      exact ⟨ret_bool (by rw [decide_eq_decide]; unfold okS; simp only; omega), (Below.refl _ _).alloc (Nat.le_refl _) _⟩
    · go_enter Try.func23, Try.ntmps23
      go_wp2
      go_ret
      exact ⟨ret_bool (decide_eq_false (by unfold okS; simp only; omega)).symm, (Below.refl _ _).alloc (Nat.le_refl _) _⟩
  · go_enter Try.func23, Try.ntmps23
    go_wp2
    go_ret
    exact ⟨ret_bool (decide_eq_false (by unfold okS; simp only; omega)).symm, (Below.refl _ _).alloc (Nat.le_refl _) _⟩
section
variable {B : Nat} {w : World} {T : Rm} {L : List On}
theorem RmIs.c0 (h : RmIs B w T L) : w.cell? ⟨T.s, 0, none⟩ = some (.map (some T.b)) := h.top.cell 0
theorem spsl (hL : L.length ≤ 200) (f : Int) : (sps L f).length ≤ 1000 := by have := sps_len L f; omega
set_option maxHeartbeats 1000000 in
theorem place_any (h : RmIs B w T L) (hL : L.length ≤ 200) {f x y : Int} (hf : Fits f) :
    Calls Try.prog 24 #[.pointer (some ⟨T.s, 0, none⟩), .int .i64 f, .agg #[.int .i64 x, .int .i64 y]] w (Searched (x, y) (sps L f) w) := by
  obtain ⟨W, hW⟩ : ∃ W, W = w.alloc (.cells #[.int .i64 x, .int .i64 y] 27) := ⟨_, rfl⟩
  have hb : Lrow W w.heap.size 27 [.int .i64 x, .int .i64 y] := by rw [hW]; exact Lrow.new w _ _
  have hWB : Below w.heap.size w W := by rw [hW]; exact below_new _ _
  have hX := (h.call hWB).drewN 1
  have hs : W.drew.cell? ⟨T.s, 0, none⟩ = some (.map (some T.b)) ∧ (W.drew.cell? ⟨w.heap.size, 0, none⟩ = some (.int .i64 x) ∧ W.drew.cell? ⟨w.heap.size, 1, none⟩ = some (.int .i64 y)) ∧ (Instr.lookup 49 (.map (some T.b)) (.int .i64 f) false).run Try.prog W.drew = .ok (T.row f) W.drew := ⟨hX.c0, ⟨hb.cell 0, hb.cell 1⟩, hX.look hf⟩
  have hc := search_any (x := x) (y := y) (hX.row f hf) (spsl hL f) (sps_up hX.good.up f)
  have hk : ∀ w1, Below (W.drewN 1).heap.size (W.drewN 1) w1 → w1.cell? ⟨T.s, 0, none⟩ = some (.map (some T.b)) ∧ (w1.cell? ⟨w.heap.size, 0, none⟩ = some (.int .i64 x) ∧ w1.cell? ⟨w.heap.size, 1, none⟩ = some (.int .i64 y)) ∧ (Instr.lookup 49 (.map (some T.b)) (.int .i64 f) false).run Try.prog w1 = .ok (T.row f) w1 := fun w1 h1 => ⟨(hX.call h1).c0, ⟨((hb.drewN 1).call h1).cell 0, ((hb.drewN 1).call h1).cell 1⟩, (hX.call h1).look hf⟩
  obtain ⟨v, hv⟩ : ∃ v, v = T.row f := ⟨_, rfl⟩
  rw [← hv] at hs hc hk
  obtain ⟨A, c, rfl⟩ : ∃ A c, v = .slice A (sps L f).length c := by rw [hv]; exact own_form (hX.row f hf)
  generalize (sps L f).length = n at *
  have HW := Lib.hid hW
  have HB := Lib.hid hWB
  clear h hX hWB hb hv hL hf
  go_enter Try.func24, Try.ntmps24
  go_upto_region 1 with (fail)
  rw [← HW.out]
  clear hW
  go_region_held3 (fun v => v.cell? ⟨T.s, 0, none⟩ = some (.map (some T.b)) ∧ (v.cell? ⟨w.heap.size, 0, none⟩ = some (.int .i64 x) ∧ v.cell? ⟨w.heap.size, 1, none⟩ = some (.int .i64 y)) ∧ (Instr.lookup 49 (.map (some T.b)) (.int .i64 f) false).run Try.prog v = .ok (.slice A n c) v)
    (first | exact hs | exact hk _ hb1)
    (first | (go_at_call 33; refine hc.mono ?_; rintro e w1 ⟨rfl, hb1⟩))
  all_goals
    go_wp2
    go_ret2
    exact ⟨rfl, (below_dN HB.out 1).trans (hb1.mono HB.out.size)⟩
end
end Go.Proofs.Ytgpbbmcadifdhaa
