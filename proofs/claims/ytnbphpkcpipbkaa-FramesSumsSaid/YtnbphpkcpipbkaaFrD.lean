/- Package frames: Next, New, are. -/
import Derived.Test.YtnbphpkcpipbkaaFrC
namespace Go.Proofs.Ytnbphpkcpipbkaa
open Go.RowKit
section
variable {w w' : World} {B s g : Nat} {I : List Int} {x f r : Int}
set_option maxHeartbeats 2000000 in
set_option maxRecDepth 100000 in
theorem next_f (h : Fx B w s g I) (l1 : I.length ≤ 1024) (hf : Fits f) (hr : NxIs I f x r) : Calls Try.prog 14 #[.pointer (some ⟨s, 0, none⟩), .int .i64 f, .int .i64 x] w fun e w' => e = .returned (.int .i64 r) ∧ w = w' := by
  have hl := len_f h
  obtain ⟨m, hm, hmf⟩ : ∃ m : Nat, (if f < 0 then (0 : Int) else f) = m ∧ ∀ i : Nat, f ≤ i ↔ m ≤ i := by
    by_cases c : f < 0
    · exact ⟨0, by rw [if_pos c]; rfl, fun i => by omega⟩
    · exact ⟨f.toNat, by rw [if_neg c]; omega, fun i => by omega⟩
  have m1 : (m : Int) ≤ 9223372036854775807 := by have := hf.2; split at hm <;> omega
  obtain ⟨n, hn⟩ : ∃ n, n = I.length := ⟨_, rfl⟩
  have HX := Lib.hid (And.intro h (And.intro hr (And.intro hmf hn)))
  rw [← hn] at hl l1
  have hw : IntKind.i64.wrap ((n : Int) - (m : Int)) = (n : Int) - (m : Int) := IntWalk.i64_in _ (by omega)
  clear h hr hmf hn hf
  have HM : Hid (∀ j : Nat, (∀ i : Nat, m ≤ i → i < m + j → I[i]? ≠ some x) → n ≤ m + j → r = -1) := fun j hj hle =>
    nx_one HX.out.2.1 (Or.inl ⟨rfl, fun i h1 h2 => hj i ((HX.out.2.2.1 i).1 h1) (by have := (List.getElem?_eq_some_iff.1 h2).1; have := HX.out.2.2.2; omega) h2⟩)
  have HN : Hid (∀ j : Nat, (∀ i : Nat, m ≤ i → i < m + j → I[i]? ≠ some x) → I[m + j]? = some x → r = ((m + j : Nat) : Int)) := fun j hj he =>
    nx_one HX.out.2.1 (Or.inr ⟨m + j, rfl, (HX.out.2.2.1 _).2 (by omega), he, fun i h1 => hj i ((HX.out.2.2.1 i).1 h1)⟩)
  by_cases c : f < 0
  all_goals
    first
    | (rw [if_pos c] at hm; have c' : (f < 0) = True := eq_true c)
    | (rw [if_neg c] at hm; subst hm)
    go_enter Try.func14, Try.ntmps14
    go_wp2_with (go_at_call 16; (with_reducible refine hl.mono ?_); rintro e w1 ⟨rfl, rfl⟩)
    (try clear hm)
    clear hl
    go_loopw [15] (fun k wr => ∃ j : Nat, k = .int .i64 j ∧ (j = 0 ∨ m + j ≤ n) ∧ (∀ i : Nat, m ≤ i → i < m + j → I[i]? ≠ some x) ∧ w = wr) (fun k _ => n - (RowKit.intOf k).toNat)
    case atStart => exact ⟨0, rfl, Or.inl rfl, fun i h1 h2 => absurd h1 (by omega), rfl⟩
    case round =>
      obtain ⟨j, rfl, hj, hno, rfl⟩ := hrel
      have HNO := Lib.hid hno
      by_cases hlt : m + j < n
      · have hq : m + j < I.length := by have := HX.out.2.2.2; omega
        have c0 := HX.out.1.top.cell 0
        rw [← HX.out.2.2.2] at c0
        have d0 : w.cell? ⟨g, m + j, none⟩ = some (.int .i64 I[m + j]) := by rw [HX.out.1.at_, List.getElem?_eq_getElem hq]; rfl
        have HG : Hid (I[m + j]? = some I[m + j]) := List.getElem?_eq_getElem hq
        generalize I[m + j] = y at d0 HG
        obtain ⟨q, hqe⟩ : ∃ q, q = m + j := ⟨_, rfl⟩
        have hw2 : IntKind.i64.wrap ((m : Int) + (j : Int)) = (q : Int) := by rw [show (m : Int) + (j : Int) = (q : Int) by omega]; exact IntWalk.i64_in _ (by omega)
        have hw3 : IntKind.i64.wrap ((j : Int) + 1) = (j : Int) + 1 := IntWalk.i64_in _ (by omega)
        rw [← hqe] at d0 hq
        have q1 : (q : Int) < n := by omega
        have q0 : (0 : Int) ≤ q := by omega
        have j1 : (j : Int) < (n : Int) - (m : Int) := by omega
        have HQ := Lib.hid (And.intro hqe hlt)
        clear hno hj hq hqe hlt
        by_cases cy : y = x
        · have HR : Hid (r = (q : Int)) := by have := HN.out j HNO.out (by rw [HG.out, cy]); rw [HQ.out.1]; exact this
          have hb : (y == x) = true := by simpa using cy
          clear cy
          go_wp2_with fail
          go_ret
          exact ⟨ret_int HR.out.symm, rfl⟩
        · have hb : (y == x) = false := by simpa using cy
          have HCY := Lib.hid cy
          clear cy
          go_wp2_with fail
          go_roundw
          case rel =>
            refine ⟨j + 1, by go_num, Or.inr (by have := HQ.out.2; omega), fun i h1 h2 => ?_, trivial⟩
            rcases Nat.lt_or_ge i (m + j) with h3 | h3
            · exact HNO.out i h1 h3
            · rw [show i = m + j by omega, HG.out]
              intro e; injection e with e; exact HCY.out e
          case measure => simp [RowKit.intOf]; have := HQ.out.2; omega
      · have HR : Hid (r = -1) := HM.out j hno (by omega)
        have j1 : ¬ (j : Int) < (n : Int) - (m : Int) := by omega
        clear hno hj hlt
        go_wp2_with fail
        go_ret
        exact ⟨ret_int HR.out.symm, rfl⟩
theorem next_nil (hf : Fits f) (x : Int) (w : World) : Calls Try.prog 14 #[.pointer none, .int .i64 f, .int .i64 x] w fun e w' => e = .returned (.int .i64 (-1)) ∧ w = w' := by
  have hl := len_nil w
  by_cases c : f < 0
  · have c' : (f < 0) = True := eq_true c
    clear hf
    go_enter Try.func14, Try.ntmps14
    go_wp2_with (go_at_call 16; (with_reducible refine hl.mono ?_); rintro e w1 ⟨rfl, rfl⟩)
    clear hl
    go_loopw [15] (fun k wr => k = .int .i64 0 ∧ w = wr) (fun _ _ => 0)
    case atStart => exact ⟨rfl, rfl⟩
    case round =>
      obtain ⟨rfl, rfl⟩ := hrel
      go_wp2_with fail
      go_ret
      exact ⟨rfl, rfl⟩
  · have hw : IntKind.i64.wrap (-f) = -f := IntWalk.i64_in _ (by have := hf.2; omega)
    have m2 : ¬ (0 : Int) < -f := by omega
    clear hf
    go_enter Try.func14, Try.ntmps14
    go_wp2_with (go_at_call 16; (with_reducible refine hl.mono ?_); rintro e w1 ⟨rfl, rfl⟩)
    clear hl
    go_loopw [15] (fun k wr => k = .int .i64 0 ∧ w = wr) (fun _ _ => 0)
    case atStart => exact ⟨rfl, rfl⟩
    case round =>
      obtain ⟨rfl, rfl⟩ := hrel
      go_wp2_with fail
      go_ret
      exact ⟨rfl, rfl⟩
end
/-! New. -/
section
variable {n : Int}
set_option maxRecDepth 100000 in
theorem new_no (h : nwF n = false) (w : World) : Calls Try.prog 18 #[.int .i64 n] w fun e w' => e = .returned (.tuple #[.pointer none, .int .i64 2]) ∧ w = w' := by
  have h := of_decide_eq_false h
  rcases (show n < 8 ∨ (¬ n < 8 ∧ 1024 < n) by omega) with c1 | ⟨c1, c2⟩
  all_goals
    clear h
    go_enter Try.func18, Try.ntmps18
    go_wp2_with fail
    go_ret2
    exact ⟨rfl, rfl⟩
set_option maxRecDepth 100000 in
set_option maxHeartbeats 2000000 in
theorem new_f (h : nwF n = true) (w : World) : Calls Try.prog 18 #[.int .i64 n] w fun e w' => ∃ s g, e = .returned (.tuple #[.pointer (some ⟨s, 0, none⟩), .int .i64 0]) ∧ Fx w.heap.size w' s g (newF n) ∧ Below w.heap.size w w' := by
  have h := of_decide_eq_true h
  obtain ⟨m, rfl⟩ : ∃ m : Nat, n = m := ⟨n.toNat, by omega⟩
  have hmk : (Instr.makeSlice 30 (.int .i64 m) (.int .i64 m)).run Try.prog w = .ok (.slice (some ⟨w.heap.size, 0, none⟩) m m) (w.alloc (.cells (madeCells #[.int .i64 0] m) 3)) :=
    run_make_row' (P := Try.prog) 30 3 (.int .i64 0) 8 Try.underlying30 info_int rfl .i64 .i64 m (by omega) (by omega) w
  obtain ⟨g, hg⟩ : ∃ g, g = w.heap.size := ⟨_, rfl⟩
  obtain ⟨W1, hW1⟩ : ∃ W1, W1 = w.alloc (.cells (madeCells #[.int .i64 0] m) 3) := ⟨_, rfl⟩
  have hr : Lrow W1 g 3 ((List.replicate m (0 : Int)).map (Value.int .i64)) := by
    rw [hW1, hg, List.map_replicate, ← made_ints]
    simpa using Lrow.new w 3 (madeCells #[Value.int .i64 0] m).toList
  have hb1 : Below w.heap.size w W1 := by rw [hW1]; exact below_new _ _
  rw [← hW1, ← hg] at hmk
  obtain ⟨s, hs⟩ : ∃ s, s = W1.heap.size := ⟨_, rfl⟩
  obtain ⟨W2, hW2⟩ : ∃ W2, W2 = W1.alloc (.cells #[.slice (some ⟨g, 0, none⟩) m m, .int .i64 0, .int .i64 0, .int .i64 0, .int .i64 0, .int .i64 0, .int .i64 0] 52) := ⟨_, rfl⟩
  have hb2 : Below W1.heap.size W1 W2 := by rw [hW2]; exact below_new _ _
  have ht : Lrow W2 s 52 [.slice (some ⟨g, 0, none⟩) m m, .int .i64 0, .int .i64 0, .int .i64 0, .int .i64 0, .int .i64 0, .int .i64 0] := by rw [hW2, hs]; exact Lrow.new W1 _ _
  have hgs : g < W1.heap.size := hr.lt
  have HD : Hid (Fx w.heap.size (W2.setCell ⟨s, 1, none⟩ (.int .i64 m)) s g (newF m) ∧ Below w.heap.size w (W2.setCell ⟨s, 1, none⟩ (.int .i64 m))) := by
    refine ⟨⟨?_, ?_, by omega, ?_⟩, (hb1.trans (hb2.mono hb1.size)).grown (grown_set W2 s 1 _) (hb1.trans (hb2.mono hb1.size)).size (fun k e => by injection e with e; have := hb1.size; omega)⟩
    · have := ht.set_ 1 (.int .i64 m)
      unfold newF ctF
      rw [Int.toNat_natCast, List.length_replicate]
      simp only [List.count_replicate]
      exact this
    · unfold newF
      rw [Int.toNat_natCast]
      exact (hr.call hb2).far (p := ⟨s, 1, none⟩) (show g ≠ s by omega) _
    · exact ⟨by rw [hs]; exact hb1.size, by rw [hg]; exact Nat.le_refl _⟩
  have y1 := ht.frozen 1
  have e1 := ht.cell 1
  have HW := Lib.hid (And.intro hW2 hs)
  have m1 : ¬ (m : Int) < 8 := by omega
  have m2 : ¬ (1024 : Int) < m := by omega
  clear hr hb1 hb2 hW1 hW2 hs hg ht hgs h
  go_enter Try.func18, Try.ntmps18
  go_upto_region 4 with (fail)
  rw [← HW.out.1, ← HW.out.2]
  go_wp2_with fail
  go_ret2
  exact ⟨s, rfl, ⟨g, HD.out.1⟩, HD.out.2⟩
end
end Go.Proofs.Ytnbphpkcpipbkaa
