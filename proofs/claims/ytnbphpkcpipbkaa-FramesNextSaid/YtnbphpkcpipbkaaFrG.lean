/- The reference of frames: New, Count, Next. -/
import Derived.Test.YtnbphpkcpipbkaaFrF
namespace Go.Proofs.Ytnbphpkcpipbkaa
open Go.RowKit
section
variable {n : Int}
set_option maxRecDepth 100000 in
theorem rnew_no (h : nwF n = false) (w : World) : Calls Try.prog 19 #[.int .i64 n] w fun e w' => e = .returned (.tuple #[.pointer none, .int .i64 2]) ∧ w = w' := by
  have h := of_decide_eq_false h
  rcases (show n < 8 ∨ (¬ n < 8 ∧ 1024 < n) by omega) with c1 | ⟨c1, c2⟩
  all_goals
    clear h
    go_enter Try.func19, Try.ntmps19
    go_wp2_with fail
    go_ret2
    exact ⟨rfl, rfl⟩
set_option maxRecDepth 100000 in
set_option maxHeartbeats 2000000 in
theorem rnew (h : nwF n = true) (w : World) : Calls Try.prog 19 #[.int .i64 n] w fun e w' => ∃ x v, e = .returned (.tuple #[.pointer (some ⟨x, 0, none⟩), .int .i64 0]) ∧ (Rx w.heap.size w' x v (newF n) ∧ (∃ k, v.ownBlock = some k ∧ w.heap.size ≤ k)) ∧ Below w.heap.size w w' := by
  have h := of_decide_eq_true h
  obtain ⟨m, rfl⟩ : ∃ m : Nat, n = m := ⟨n.toNat, by omega⟩
  have hmk : (Instr.makeSlice 30 (.int .i64 m) (.int .i64 m)).run Try.prog w = .ok (.slice (some ⟨w.heap.size, 0, none⟩) m m) (w.alloc (.cells (madeCells #[.int .i64 0] m) 3)) :=
    run_make_row' (P := Try.prog) 30 3 (.int .i64 0) 8 Try.underlying30 info_int rfl .i64 .i64 m (by omega) (by omega) w
  obtain ⟨g, hg⟩ : ∃ g, g = w.heap.size := ⟨_, rfl⟩
  obtain ⟨W1, hW1⟩ : ∃ W1, W1 = w.alloc (.cells (madeCells #[.int .i64 0] m) 3) := ⟨_, rfl⟩
  have hr : Lrow W1 g 3 ((List.replicate m (0 : Int)).map (Value.int .i64)) := by
    rw [hW1, hg, List.map_replicate, ← made_ints]
    simpa using Lrow.new w 3 (madeCells #[Value.int .i64 0] m).toList
  have hb1 : Below w.heap.size w W1 := by rw [hW1]; exact below_new _ _
  rw [← hW1, ← hg] at hmk
  obtain ⟨s, hs⟩ : ∃ s, s = W1.heap.size := ⟨_, rfl⟩
  obtain ⟨W2, hW2⟩ : ∃ W2, W2 = W1.alloc (.cells #[.slice (some ⟨g, 0, none⟩) m m] 32) := ⟨_, rfl⟩
  have hb2 : Below W1.heap.size W1 W2 := by rw [hW2]; exact below_new _ _
  have ht : Lrow W2 s 32 [.slice (some ⟨g, 0, none⟩) m m] := by rw [hW2, hs]; exact Lrow.new W1 _ _
  have hD : Rx w.heap.size W2 s (.slice (some ⟨g, 0, none⟩) m m) (newF m) := by
    refine ⟨ht, ?_, by rw [hs]; exact hb1.size⟩
    have := EI_of (B := w.heap.size) (c := m) (L := List.replicate m (0 : Int)) (rest := []) (by rw [List.append_nil]; exact hr.call hb2) (by rw [hg]; exact Nat.le_refl _) (by rw [List.length_replicate]; exact Nat.le_refl _) (by unfold maxLen; omega) (by rw [List.length_replicate]; rfl)
    rw [List.length_replicate] at this
    unfold newF
    rw [Int.toNat_natCast]
    exact this
  have HD : Hid ((Rx w.heap.size W2 s (.slice (some ⟨g, 0, none⟩) m m) (newF m) ∧ (∃ k, (Value.slice (some ⟨g, 0, none⟩) m m).ownBlock = some k ∧ w.heap.size ≤ k)) ∧ Below w.heap.size w W2) := ⟨⟨hD, ⟨g, rfl, by rw [hg]; exact Nat.le_refl _⟩⟩, hb1.trans (hb2.mono hb1.size)⟩
  have HW := Lib.hid (And.intro hW2 hs)
  have m1 : ¬ (m : Int) < 8 := by omega
  have m2 : ¬ (1024 : Int) < m := by omega
  clear hr hb1 hb2 hW1 hW2 hs hg ht h hD
  go_enter Try.func19, Try.ntmps19
  go_wp2_with fail
  rw [← HW.out.1, ← HW.out.2]
  go_ret2
  exact ⟨s, rfl, ⟨.slice (some ⟨g, 0, none⟩) m m, HD.out.1⟩, HD.out.2⟩
end
section
variable {w w' : World} {B x : Nat} {v : Value} {I : List Int} {y f r : Int}
set_option maxRecDepth 100000 in
set_option maxHeartbeats 2000000 in
theorem rcount (h : Rx B w x v I) (l1 : I.length ≤ 1024) (y : Int) : Calls Try.prog 13 #[.pointer (some ⟨x, 0, none⟩), .int .i64 y] w fun e w' => e = .returned (.int .i64 (I.count y : Nat)) ∧ w = w' := by
  obtain ⟨A, c, hv⟩ := h.2.1.form
  subst hv
  obtain ⟨n, hn⟩ : ∃ n, n = I.length := ⟨_, rfl⟩
  have HX := Lib.hid (And.intro h hn)
  have c0 : w.cell? ⟨x, 0, none⟩ = some (.slice A n c) := by rw [hn]; exact HX.out.1.1.cell 0
  rw [← hn] at l1
  clear h hn
  go_enter Try.func13, Try.ntmps13
  go_wp2_with fail
  go_loopw [5, 6] (fun r k wr => ∃ j : Nat, j ≤ n ∧ k = .int .i64 j ∧ r = .int .i64 (cnF I y j) ∧ w = wr) (fun _ k _ => n - (RowKit.intOf k).toNat)
  case atStart => exact ⟨0, Nat.zero_le _, rfl, by simp [cnF], rfl⟩
  case round =>
    obtain ⟨j, hj, rfl, rfl, rfl⟩ := hrel
    by_cases hlt : j < n
    · have hjl : j < I.length := by rw [← HX.out.2]; exact hlt
      obtain ⟨g, rest, rfl, hr, -⟩ := EI_row HX.out.1.2.1 (by omega)
      have d0 : w.cell? ⟨g, j, none⟩ = some (.int .i64 I[j]) := by
        rw [hr.cell, List.getElem?_append_left (by rw [List.length_map]; exact hjl), List.getElem?_map, List.getElem?_eq_getElem hjl]; rfl
      have HSU := Lib.hid (cnF_succ I y j)
      have hle := cnF_le I y j
      rw [List.getElem?_eq_getElem hjl] at HSU
      generalize I[j] = z at d0 HSU
      obtain ⟨m, hm⟩ : ∃ m, m = cnF I y j := ⟨_, rfl⟩
      rw [← hm] at HSU hle ⊢
      have j1 : (j : Int) < n := by omega
      have j0 : (0 : Int) ≤ j := by omega
      have hw : IntKind.i64.wrap ((m : Int) + 1) = (m : Int) + 1 := IntWalk.i64_in _ (by omega)
      have hw2 : IntKind.i64.wrap ((j : Int) + 1) = (j : Int) + 1 := IntWalk.i64_in _ (by omega)
      clear hjl hm hr
      by_cases hc : z = y
      · have HF : Hid (cnF I y (j + 1) = m + 1) := by show _ = _; rw [HSU.out, if_pos (by rw [hc])]
        have hc1 : (z == y) = true := by simpa using hc
        clear hc
        go_wp2_with fail
        go_roundw
        case rel => exact ⟨j + 1, by omega, by go_num, by rw [HF.out]; rfl, trivial⟩
        case measure => simp [RowKit.intOf]; omega
      · have HF : Hid (cnF I y (j + 1) = m) := by show _ = _; rw [HSU.out, if_neg (by simpa using hc)]
        have hc1 : (z == y) = false := by simpa using hc
        clear hc
        go_wp2_with fail
        go_roundw
        case rel => exact ⟨j + 1, by omega, by go_num, by rw [HF.out], trivial⟩
        case measure => simp [RowKit.intOf]; omega
    · have hjn : j = n := by omega
      subst hjn
      have HE : Hid (cnF I y j = I.count y) := by show _ = _; rw [HX.out.2]; exact cnF_all I y
      go_wp2_with fail
      go_ret
      exact ⟨ret_int (by rw [HE.out]), rfl⟩
set_option maxRecDepth 100000 in
set_option maxHeartbeats 2000000 in
theorem rnext (h : Rx B w x v I) (l1 : I.length ≤ 1024) (hr : NxIs I f y r) : Calls Try.prog 15 #[.pointer (some ⟨x, 0, none⟩), .int .i64 f, .int .i64 y] w fun e w' => e = .returned (.int .i64 r) ∧ w = w' := by
  obtain ⟨A, c, hv⟩ := h.2.1.form
  subst hv
  obtain ⟨n, hn⟩ : ∃ n, n = I.length := ⟨_, rfl⟩
  have HX := Lib.hid (And.intro h (And.intro hn hr))
  have c0 : w.cell? ⟨x, 0, none⟩ = some (.slice A n c) := by rw [hn]; exact HX.out.1.1.cell 0
  rw [← hn] at l1
  have HM : Hid (∀ j : Nat, (∀ i : Nat, f ≤ i → i < j → I[i]? ≠ some y) → n ≤ j → r = -1) := fun j hj hle =>
    nx_one HX.out.2.2 (Or.inl ⟨rfl, fun i h1 h2 => hj i h1 (by have := (List.getElem?_eq_some_iff.1 h2).1; have := HX.out.2.1; omega) h2⟩)
  have HN : Hid (∀ j : Nat, (∀ i : Nat, f ≤ i → i < j → I[i]? ≠ some y) → f ≤ j → I[j]? = some y → r = ((j : Nat) : Int)) := fun j hj hf he =>
    nx_one HX.out.2.2 (Or.inr ⟨j, rfl, hf, he, hj⟩)
  clear h hn hr
  go_enter Try.func15, Try.ntmps15
  go_wp2_with fail
  go_loopw [7] (fun k wr => ∃ j : Nat, j ≤ n ∧ k = .int .i64 j ∧ (∀ i : Nat, f ≤ i → i < j → I[i]? ≠ some y) ∧ w = wr) (fun k _ => n - (RowKit.intOf k).toNat)
  case atStart => exact ⟨0, Nat.zero_le _, rfl, fun i _ h => absurd h (by omega), rfl⟩
  case round =>
    obtain ⟨j, hj, rfl, hno, rfl⟩ := hrel
    have HNO := Lib.hid hno
    by_cases hlt : j < n
    · have hjl : j < I.length := by rw [← HX.out.2.1]; exact hlt
      obtain ⟨g, rest, rfl, hr, -⟩ := EI_row HX.out.1.2.1 (by omega)
      have d0 : w.cell? ⟨g, j, none⟩ = some (.int .i64 I[j]) := by
        rw [hr.cell, List.getElem?_append_left (by rw [List.length_map]; exact hjl), List.getElem?_map, List.getElem?_eq_getElem hjl]; rfl
      have HG : Hid (I[j]? = some I[j]) := List.getElem?_eq_getElem hjl
      generalize I[j] = z at d0 HG
      have j1 : (j : Int) < n := by omega
      have j0 : (0 : Int) ≤ j := by omega
      have hw : IntKind.i64.wrap ((j : Int) + 1) = (j : Int) + 1 := IntWalk.i64_in _ (by omega)
      clear hjl hr hno hj
      by_cases hf : f ≤ j
      · by_cases hc : z = y
        · have HR : Hid (r = (j : Int)) := HN.out j HNO.out hf (by rw [HG.out, hc])
          have hc1 : (z == y) = true := by simpa using hc
          clear hc
          go_wp2_with fail
          go_ret
          exact ⟨ret_int HR.out.symm, rfl⟩
        · have hc1 : (z == y) = false := by simpa using hc
          have HCY := Lib.hid hc
          clear hc
          go_wp2_with fail
          go_roundw
          case rel =>
            refine ⟨j + 1, by omega, by go_num, fun i h1 h2 => ?_, trivial⟩
            rcases Nat.lt_or_ge i j with h3 | h3
            · exact HNO.out i h1 h3
            · rw [show i = j by omega, HG.out]
              intro e; injection e with e; exact HCY.out e
          case measure => simp [RowKit.intOf]; omega
      · go_wp2_with fail
        go_roundw
        case rel =>
          refine ⟨j + 1, by omega, by go_num, fun i h1 h2 => ?_, trivial⟩
          exact HNO.out i h1 (by omega)
        case measure => simp [RowKit.intOf]; omega
    · have HR : Hid (r = -1) := HM.out j hno (by omega)
      have hjn : j = n := by omega
      subst hjn
      clear hno
      go_wp2_with fail
      go_ret
      exact ⟨ret_int HR.out.symm, rfl⟩
end
end Go.Proofs.Ytnbphpkcpipbkaa
