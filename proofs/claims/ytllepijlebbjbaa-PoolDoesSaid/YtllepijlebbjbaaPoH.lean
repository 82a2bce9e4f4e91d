/- The reference of pools: New: THE REFERENCE WHOLE. -/
import Derived.Test.YtllepijlebbjbaaPoG
import Derived.Deep.OwnRows
namespace Go.Proofs.Ytllepijlebbjbaa
open Go.RowKit
theorem info_int : (Try.prog.info? 3).map (fun i => (i.zero, i.size, i.bytes)) = some (some (.int .i64 0), 1, 8) := by kernel_rfl
theorem made_ints (n : Nat) : (madeCells #[Value.int .i64 0] n).toList = List.replicate n (.int .i64 0) := by
  apply List.ext_getElem?
  intro i
  rw [List.getElem?_replicate]
  simp only [madeCells, Array.getElem?_toList, Array.getElem?_map]
  by_cases hi : i < n
  · rw [if_pos hi]
    simp [hi, Nat.mod_one]
  · rw [if_neg hi]
    simp; omega
/-- A pool without pages; when there is one. -/
def newP (o m : Int) : Pk := ⟨o, m, List.replicate 1024 0, 0, 0⟩
def nwB (o m : Int) : Bool := decide ((o = 3 ∨ o = 6) ∧ 0 ≤ m ∧ m ≤ 64)
theorem newP_ok {o m : Int} (h : nwB o m = true) : POk (newP o m) := by
  unfold nwB at h
  rw [decide_eq_true_eq] at h
  refine ⟨h.1, h.2.1, h.2.2, List.length_replicate, fun i x hx => ?_, Int.le_refl _, ?_, Int.le_refl _, h.2.1⟩
  · have hx' : (List.replicate 1024 (0 : Int))[i]? = some x := hx
    rw [List.getElem?_replicate] at hx'
    split at hx'
    · injection hx' with e; exact Or.inl e.symm
    · cases hx'
  · show (0 : Int) ≤ ((List.replicate 1024 (0 : Int)).count 1 : Nat); omega
section
variable {w : World} {o m : Int}
set_option maxRecDepth 100000 in
set_option maxHeartbeats 2000000 in
theorem new_x_no (h : nwB o m = false) (w : World) : Calls Try.prog 10 #[.int .i64 o, .int .i64 m] w fun e w' => e = .returned (.tuple #[.pointer none, .int .i64 2]) ∧ w = w' := by
  unfold nwB at h
  rw [decide_eq_false_iff_not] at h
  rcases (show (¬ o = 3 ∧ ¬ o = 6) ∨ ((o = 3 ∨ o = 6) ∧ m < 0) ∨ ((o = 3 ∨ o = 6) ∧ ¬ m < 0 ∧ 64 < m) by omega) with ⟨c1, c2⟩ | ⟨c1 | c1, c2⟩ | ⟨c1 | c1, c2, c3⟩
  · have b1 : (o == 3) = false := by simpa using c1
    have b2 : (o == 6) = false := by simpa using c2
    clear h
    go_enter Try.func10, Try.ntmps10
    go_wp2_with fail
    go_ret2
    exact ⟨rfl, rfl⟩
  all_goals
    subst c1
    clear h
    go_enter Try.func10, Try.ntmps10
    go_wp2_with fail
    go_ret2
    exact ⟨rfl, rfl⟩
set_option maxRecDepth 100000 in
set_option maxHeartbeats 2000000 in
theorem new_x (h : nwB o m = true) (w : World) : Calls Try.prog 10 #[.int .i64 o, .int .i64 m] w fun e w' => ∃ xa g, e = .returned (.tuple #[.pointer (some ⟨xa, 0, none⟩), .int .i64 0]) ∧ Px w.heap.size w' xa g (newP o m) ∧ Below w.heap.size w w' := by
  unfold nwB at h
  rw [decide_eq_true_eq] at h
  obtain ⟨ho, h0, h1⟩ := h
  have hmk : (Instr.makeSlice 35 (.int .i64 1024) (.int .i64 1024)).run Try.prog w = .ok (.slice (some ⟨w.heap.size, 0, none⟩) 1024 1024) (w.alloc (.cells (madeCells #[.int .i64 0] 1024) 3)) :=
    run_make_row' (P := Try.prog) 35 3 (.int .i64 0) 8 Try.underlying35 info_int rfl .i64 .i64 1024 (by omega) (by omega) w
  obtain ⟨g, hg⟩ : ∃ g, g = w.heap.size := ⟨_, rfl⟩
  obtain ⟨W1, hW1⟩ : ∃ W1, W1 = w.alloc (.cells (madeCells #[.int .i64 0] 1024) 3) := ⟨_, rfl⟩
  have hr : Lrow W1 g 3 ((List.replicate 1024 (0 : Int)).map (Value.int .i64)) := by
    rw [hW1, hg, List.map_replicate, ← made_ints]
    simpa using Lrow.new w 3 (madeCells #[Value.int .i64 0] 1024).toList
  have hb1 : Below w.heap.size w W1 := by rw [hW1]; exact below_new _ _
  rw [← hW1, ← hg] at hmk
  obtain ⟨xa, hx⟩ : ∃ xa, xa = W1.heap.size := ⟨_, rfl⟩
  obtain ⟨W2, hW2⟩ : ∃ W2, W2 = W1.alloc (.cells #[.int .i64 o, .int .i64 m, .slice (some ⟨g, 0, none⟩) 1024 1024, .int .i64 0, .int .i64 0] 40) := ⟨_, rfl⟩
  have hb2 : Below W1.heap.size W1 W2 := by rw [hW2]; exact below_new _ _
  have HD : Hid (Px w.heap.size W2 xa g (newP o m) ∧ Below w.heap.size w W2) := by
    refine ⟨⟨?_, hr.call hb2, ?_, ?_⟩, hb1.trans (hb2.mono hb1.size)⟩
    · rw [hW2, hx]; exact Lrow.new W1 _ [.int .i64 o, .int .i64 m, .slice (some ⟨g, 0, none⟩) 1024 1024, .int .i64 0, .int .i64 0]
    · have := hr.lt; omega
    · exact ⟨by rw [hx]; exact hb1.size, by rw [hg]; exact Nat.le_refl _⟩
  have HW := Lib.hid (And.intro hW2 hx)
  clear hr hb1 hb2 hW1 hW2 hx hg
  rcases ho with rfl | rfl
  all_goals
    go_enter Try.func10, Try.ntmps10
    go_wp2_with fail
    rw [← HW.out.1, ← HW.out.2]
    go_ret2
    exact ⟨xa, g, rfl, HD.out⟩
end
end Go.Proofs.Ytllepijlebbjbaa
