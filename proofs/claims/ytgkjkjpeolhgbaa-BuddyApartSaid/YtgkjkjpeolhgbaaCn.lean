/- The reference: Greatest and Take. -/
import Derived.Test.YtgkjkjpeolhgbaaCm
namespace Go.Proofs.Ytgkjkjpeolhgbaa
open Go.RowKit

/-- A block of a row. -/
theorem blk_cell {w : World} {A : Option Addr} {M : List (Nat × Nat)} (h : BlkRow w A M) {i : Nat} (hi : i < M.length) : ∃ g, A = some ⟨g, 0, none⟩ ∧ g < w.heap.size ∧ w.cell? ⟨g, i * 2, none⟩ = some (.int .i64 (M[i].1 : Nat)) ∧ w.cell? ⟨g, i * 2 + 1, none⟩ = some (.int .i64 (M[i].2 : Nat)) := by
  obtain ⟨g, e, hg, hc⟩ := h.at_ (by omega)
  obtain ⟨c1, c2⟩ := hc i hi
  have e2 : M.getD i (0, 0) = M[i] := by rw [List.getD_eq_getElem?_getD, List.getElem?_eq_getElem hi]; rfl
  rw [e2] at c1 c2
  exact ⟨g, e, hg, c1, c2⟩
section
variable {w : World} {x y n : Nat} {F : List Bool}
theorem refGreatest_any (h : RefAt w x y n F) : Calls Try.prog 17 #[.pointer (some ⟨x, 0, none⟩)] w fun e w' => e = .returned (.int .i64 (grt F)) ∧ Below w.heap.size w w' := by
  have hB := refBlocks_any h
  have hlen : (bk F).length ≤ 1024 := by have := bk_len F; have := h.len; have := h.hi; omega
  clear h
  go_enter Try.func17, Try.ntmps17
  go_wp2_with fail
  refine Calls.mono hB ?_
  rintro e w1 ⟨A, c, rfl, hr, hb⟩
  have HG : Hid (grt F = (bk F).foldl (fun k x => max k (x.2 : Int)) (-1)) := by
    show _ = _
    rfl
  have hk8 : ∀ x ∈ bk F, x.2 ≤ 8 := fun x hx => (bk_mem.1 (show (x.1, x.2) ∈ bk F from hx)).1
  have HR := Lib.hid hr
  have HB := Lib.hid hb
  have HK := Lib.hid hk8
  clear hr hb hk8 hB
  generalize bk F = M at HG HR HK hlen ⊢
  obtain ⟨m, hm⟩ : ∃ m, m = M.length := ⟨_, rfl⟩
  rw [← hm] at hlen ⊢
  have HM := Lib.hid hm
  clear hm
  go_wp2_with fail
  go_loop [4, 5] (fun s i => ∃ j : Nat, j ≤ m ∧ i = .int .i64 j ∧ s = .int .i64 ((M.take j).foldl (fun k x => max k (x.2 : Int)) (-1))) (fun _ i => m - (intOf i).toNat)
  case atStart => exact ⟨0, Nat.zero_le _, rfl, by simp⟩
  case round =>
    obtain ⟨j, hj, rfl, rfl⟩ := hrel
    by_cases hlt : j < m
    · have hjM : j < M.length := by rw [← HM.out]; exact hlt
      obtain ⟨g, hA, -, -, hc⟩ := blk_cell HR.out hjM
      subst hA
      have HT : Hid ((M.take (j + 1)).foldl (fun k x => max k (x.2 : Int)) (-1) = max ((M.take j).foldl (fun k x => max k (x.2 : Int)) (-1)) (M[j].2 : Int)) := by
        show _ = _
        rw [List.take_succ_eq_append_getElem hjM, List.foldl_append]; rfl
      obtain ⟨u, hu⟩ : ∃ u, u = M[j].2 := ⟨_, rfl⟩
      rw [← hu] at hc HT
      clear hu
      generalize (M.take j).foldl (fun k x => max k (x.2 : Int)) (-1) = z at HT ⊢
      go_wp2
      go_round
      case rel => exact ⟨j + 1, by omega, by go_num, by rw [HT.out]⟩
      case measure => simp [intOf]; omega
    · obtain rfl : j = m := by omega
      have HT : Hid ((M.take j).foldl (fun k x => max k (x.2 : Int)) (-1) = grt F) := by
        show _ = _
        rw [List.take_of_length_le (by rw [← HM.out]; exact Nat.le_refl _), HG.out]
      go_wp2
      go_ret
      exact ⟨ret_int HT.out, HB.out⟩
/-- A taking of the reference. -/
def RefTook (x y n : Nat) (V E : Int) (G : List Bool) (w : World) (e : Ending) (w' : World) : Prop := e = .returned (.tuple #[.int .i64 V, .int .i64 E]) ∧ RefAt w' x y n G ∧ ∃ w1, Below w.heap.size w w1 ∧ w1.grownBy w' (some y)
/-- What the search has found so far. -/
def Best (k : Nat) (M : List (Nat × Nat)) (i : Nat) (s : Value) : Prop :=
  (bst k (M.take i) = none ∧ s = .int .i64 (-1)) ∨ ∃ b : Nat, ∃ hb : b < M.length, b < i ∧ bst k (M.take i) = some M[b] ∧ s = .int .i64 b
set_option maxHeartbeats 400000 in
theorem refTake_any (h : RefAt w x y n F) (o : Int) : Calls Try.prog 30 #[.pointer (some ⟨x, 0, none⟩), .int .i64 o] w (RefTook x y n (tkV F o) (tkE F o) (tkL F o) w) := by
  have HX := Lib.hid h
  rcases Bool.eq_false_or_eq_true (orB o) with ho | ho
  · have hB := refBlocks_any h
    have h1 : 0 ≤ o ∧ o ≤ 8 := by simpa [orB] using ho
    obtain ⟨k, rfl⟩ : ∃ k : Nat, o = k := ⟨o.toNat, by omega⟩
    have hk8 : k ≤ 8 := by omega
    have hlen : (bk F).length ≤ 1024 := by have := bk_len F; have := h.len; have := h.hi; omega
    have hT : tkB F k = bst k (bk F) := by
      unfold tkB
      rw [if_pos ho, Int.toNat_natCast]
    have hE : ∀ b, tkB F k = some b → (b.1 : Int) = tkV F k ∧ 0 = tkE F k ∧ tkL F k = setR F b.1 (2 ^ k) false ∧ b.1 + 2 ^ k ≤ n := fun b hb => by
      refine ⟨?_, ?_, ?_, ?_⟩
      · unfold tkV; rw [hb]
      · unfold tkE; rw [if_neg (by rw [ho]; decide), hb]; rfl
      · unfold tkL; rw [hb, Int.toNat_natCast]
      · rw [← h.len]; exact (tk_fre hb).2.2
    have hN : tkB F k = none → 0 = tkV F k ∧ 8 = tkE F k ∧ tkL F k = F := fun hb => by
      refine ⟨?_, ?_, ?_⟩
      · unfold tkV; rw [hb]
      · unfold tkE; rw [if_neg (by rw [ho]; decide), hb]; rfl
      · unfold tkL; rw [hb]
    rw [hT] at hE hN
    have HE := Lib.hid hE
    have HN := Lib.hid hN
    clear hE hN hT ho h1 h
    go_enter Try.func30, Try.ntmps30
    go_wp2_with fail
    refine Calls.mono hB ?_
    rintro e w1 ⟨A, c, rfl, hr, hb⟩
    have HR := Lib.hid hr
    have HB := Lib.hid hb
    have HX1 := Lib.hid (HX.out.call hb)
    clear hr hb hB
    generalize bk F = M at HE HN HR hlen ⊢
    obtain ⟨m, hm⟩ : ∃ m, m = M.length := ⟨_, rfl⟩
    rw [← hm] at hlen ⊢
    have HM := Lib.hid hm
    clear hm
    go_wp2_with fail
    go_loopw [7, 8] (fun s t wr => ∃ j q : Nat, j ≤ m ∧ t = .int .i64 j ∧ Best k M j s ∧ wr = w1.drewN q) (fun _ t _ => m - (intOf t).toNat)
    case atStart => exact ⟨0, 0, Nat.zero_le _, rfl, Or.inl ⟨rfl, rfl⟩, rfl⟩
    case round =>
      obtain ⟨j, q, hj, rfl, hbest, rfl⟩ := hrel
      by_cases hlt : j < m
      · have hjM : j < M.length := by rw [← HM.out]; exact hlt
        obtain ⟨g, hA, hgs, hc1, hc⟩ := blk_cell HR.out hjM
        have hsn : M.take (j + 1) = M.take j ++ [M[j]] := List.take_succ_eq_append_getElem hjM
        obtain ⟨u, hu⟩ : ∃ u, u = M[j].2 := ⟨_, rfl⟩
        have hbs := bst_snoc k (M.take j) M[j]
        rw [← hsn, ← hu] at hbs
        rw [← hu] at hc
        have HBS := Lib.hid hbs
        clear hsn hbs hu hc1
        rcases hbest with ⟨hn0, rfl⟩ | ⟨b, hb, hbj, hy, rfl⟩
        · subst hA
          have HN0 := Lib.hid hn0
          clear hn0
          by_cases hk : k ≤ u
          · have hd1 : decide (k ≤ u) = true := by simpa using hk
            have HB1 : Hid (bst k (M.take (j + 1)) = some M[j]) := by
              show _ = _
              rw [HBS.out, if_pos ⟨hk, fun y hy => by rw [HN0.out] at hy; cases hy⟩]
            go_wp2_with fail
            go_quiet (fail)
            go_wp2
            go_roundw
            case rel => exact ⟨j + 1, _, by omega, by go_num, Or.inr ⟨j, hjM, by omega, HB1.out, rfl⟩, rfl⟩
            case measure => simp [intOf]; omega
          · have hd1 : decide (k ≤ u) = false := by simpa using hk
            have HB1 : Hid (bst k (M.take (j + 1)) = none) := by
              show _ = _
              rw [HBS.out, if_neg (fun h => hk h.1), HN0.out]
            go_wp2_with fail
            go_quiet (fail)
            go_wp2
            go_roundw
            case rel => exact ⟨j + 1, _, by omega, by go_num, Or.inl ⟨HB1.out, rfl⟩, rfl⟩
            case measure => simp [intOf]; omega
        · obtain ⟨g', hA', -, -, hcb⟩ := blk_cell HR.out hb
          rw [hA] at hA'
          injection hA' with e1
          injection e1 with e1
          subst e1
          subst hA
          obtain ⟨z, hz⟩ : ∃ z, z = M[b].2 := ⟨_, rfl⟩
          rw [← hz] at hcb
          have HZ := Lib.hid hz
          have HY := Lib.hid hy
          clear hz hy
          have b0 : (0 : Int) ≤ b := by omega
          have bm : (b : Int) < m := by omega
          have hb2 : b < m := by omega
          have hd0 : decide ((b : Int) < 0) = false := by simp
          by_cases hk : k ≤ u
          · have hd1 : decide (k ≤ u) = true := by simpa using hk
            by_cases hz : u < z
            · have hd2 : decide (u < z) = true := by simpa using hz
              have HB1 : Hid (bst k (M.take (j + 1)) = some M[j]) := by
                show _ = _
                rw [HBS.out, if_pos ⟨hk, fun y hy => by rw [HY.out] at hy; injection hy with hy; rw [← hy, ← HZ.out]; exact hz⟩]
              go_wp2_with fail
              go_quiet (fail)
              go_wp2
              go_roundw
              case rel => exact ⟨j + 1, _, by omega, by go_num, Or.inr ⟨j, hjM, by omega, HB1.out, rfl⟩, rfl⟩
              case measure => simp [intOf]; omega
            · have hd2 : decide (u < z) = false := by simpa using hz
              have HB1 : Hid (bst k (M.take (j + 1)) = some M[b]) := by
                show _ = _
                rw [HBS.out, if_neg (fun h => hz (by have := h.2 _ HY.out; rw [HZ.out]; exact this)), HY.out]
              go_wp2_with fail
              go_quiet (fail)
              go_wp2
              go_roundw
              case rel => exact ⟨j + 1, _, by omega, by go_num, Or.inr ⟨b, hb, by omega, HB1.out, rfl⟩, rfl⟩
              case measure => simp [intOf]; omega
          · have hd1 : decide (k ≤ u) = false := by simpa using hk
            have HB1 : Hid (bst k (M.take (j + 1)) = some M[b]) := by
              show _ = _
              rw [HBS.out, if_neg (fun h => hk h.1), HY.out]
            go_wp2_with fail
            go_quiet (fail)
            go_wp2
            go_roundw
            case rel => exact ⟨j + 1, _, by omega, by go_num, Or.inr ⟨b, hb, by omega, HB1.out, rfl⟩, rfl⟩
            case measure => simp [intOf]; omega
      · obtain rfl : j = m := by omega
        have htk : M.take j = M := List.take_of_length_le (by rw [← HM.out]; exact Nat.le_refl _)
        unfold Best at hbest
        rw [htk] at hbest
        clear htk
        rcases hbest with ⟨hn0, rfl⟩ | ⟨b, hb, hbj, hy, rfl⟩
        · have HV := Lib.hid (HN.out hn0)
          clear hn0
          go_wp2
          go_ret2
          exact ⟨ret2_int HV.out.1 HV.out.2.1, by rw [HV.out.2.2]; exact HX1.out.drewN _, _, below_dN HB.out q, World.grownBy.refl _ _⟩
        · obtain ⟨h1, h2, h3, h4⟩ := HE.out _ hy
          obtain ⟨g, hA, hgs, hcb, -⟩ := blk_cell HR.out hb
          obtain ⟨g', vs, hA', hrow, -⟩ := HR.out (by omega)
          rw [hA] at hA'
          injection hA' with e1
          injection e1 with e1
          subst e1
          subst hA
          obtain ⟨f, hf⟩ : ∃ f, f = M[b].1 := ⟨_, rfl⟩
          rw [← hf] at hcb h1 h3 h4
          have HV1 := Lib.hid h1
          have HV2 := Lib.hid h2
          have HV3 := Lib.hid h3
          have b0 : (0 : Int) ≤ b := by omega
          have bm : (b : Int) < j := by omega
          have hS := set_any (HX1.out.drewN q) hk8 h4 false
          have HW := Lib.hid hrow
          clear h1 h2 h3 hy hf hrow
          go_wp2_with fail
          refine Calls.mono hS ?_
          rintro e w2 ⟨rfl, hx2, hg2⟩
          have hr2 := (HW.out.drewN q).grown hg2 (by
            intro e
            injection e with e
            exact HW.out.apart HX1.out.row (by decide) e)
          have hcb2 : w2.cell? ⟨g, b * 2, none⟩ = some (.int .i64 f) := by rw [hr2.cell, ← HW.out.cell]; exact hcb
          have HX2 := Lib.hid hx2
          have HG2 := Lib.hid hg2
          clear hx2 hg2 hr2 hcb hS
          go_wp2
          go_ret2
          exact ⟨ret2_int HV1.out HV2.out, by rw [HV3.out]; exact HX2.out, _, below_dN HB.out q, HG2.out⟩
  · have HE : Hid (0 = tkV F o ∧ 2 = tkE F o ∧ tkL F o = F) := by
      show _ ∧ _ ∧ _
      have : tkB F o = none := by unfold tkB; rw [if_neg (by simp [ho])]
      unfold tkV tkL tkE; rw [this, if_pos ho]; exact ⟨rfl, rfl, rfl⟩
    have h1 : ¬ (0 ≤ o ∧ o ≤ 8) := by simpa [orB] using ho
    have h2 : o < 0 ∨ 8 < o := by omega
    clear ho h1 h
    rcases h2 with h2 | h2
    · go_enter Try.func30, Try.ntmps30
      go_wp2
      go_ret2
      exact ⟨ret2_int HE.out.1 HE.out.2.1, by rw [HE.out.2.2]; exact HX.out, _, Below.refl _ _, World.grownBy.refl _ _⟩
    · have h3 : ¬ o < 0 := by omega
      go_enter Try.func30, Try.ntmps30
      go_wp2
      go_ret2
      exact ⟨ret2_int HE.out.1 HE.out.2.1, by rw [HE.out.2.2]; exact HX.out, _, Below.refl _ _, World.grownBy.refl _ _⟩
end
end Go.Proofs.Ytgkjkjpeolhgbaa
