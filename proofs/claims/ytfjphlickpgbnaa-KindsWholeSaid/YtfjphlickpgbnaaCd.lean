/- The contracts of Free and Greatest. -/
import Derived.Test.YtfjphlickpgbnaaCb
import Derived.Deep.MidRow
namespace Go.Proofs.Ytfjphlickpgbnaa
variable {Xc : Nat → Prop}
open Go.RowKit
section
variable {w : World} {B a n : Nat} {L : Nat → List Nat} {F : List Bool}
theorem orB_nat {k : Nat} (hk : k ≤ 8) : orB k = true := by simp [orB]; omega
theorem idx0 (v0 v1 v2 v3 v4 v5 v6 v7 v8 : Value) (w : World) : (Instr.index 93 (.agg #[v0, v1, v2, v3, v4, v5, v6, v7, v8]) (.int .i64 0)).run Try.prog w = .ok v0 w := by kernel_rfl
theorem idx1 (v0 v1 v2 v3 v4 v5 v6 v7 v8 : Value) (w : World) : (Instr.index 93 (.agg #[v0, v1, v2, v3, v4, v5, v6, v7, v8]) (.int .i64 1)).run Try.prog w = .ok v1 w := by kernel_rfl
theorem idx2 (v0 v1 v2 v3 v4 v5 v6 v7 v8 : Value) (w : World) : (Instr.index 93 (.agg #[v0, v1, v2, v3, v4, v5, v6, v7, v8]) (.int .i64 2)).run Try.prog w = .ok v2 w := by kernel_rfl
theorem idx3 (v0 v1 v2 v3 v4 v5 v6 v7 v8 : Value) (w : World) : (Instr.index 93 (.agg #[v0, v1, v2, v3, v4, v5, v6, v7, v8]) (.int .i64 3)).run Try.prog w = .ok v3 w := by kernel_rfl
theorem idx4 (v0 v1 v2 v3 v4 v5 v6 v7 v8 : Value) (w : World) : (Instr.index 93 (.agg #[v0, v1, v2, v3, v4, v5, v6, v7, v8]) (.int .i64 4)).run Try.prog w = .ok v4 w := by kernel_rfl
theorem idx5 (v0 v1 v2 v3 v4 v5 v6 v7 v8 : Value) (w : World) : (Instr.index 93 (.agg #[v0, v1, v2, v3, v4, v5, v6, v7, v8]) (.int .i64 5)).run Try.prog w = .ok v5 w := by kernel_rfl
theorem idx6 (v0 v1 v2 v3 v4 v5 v6 v7 v8 : Value) (w : World) : (Instr.index 93 (.agg #[v0, v1, v2, v3, v4, v5, v6, v7, v8]) (.int .i64 6)).run Try.prog w = .ok v6 w := by kernel_rfl
theorem idx7 (v0 v1 v2 v3 v4 v5 v6 v7 v8 : Value) (w : World) : (Instr.index 93 (.agg #[v0, v1, v2, v3, v4, v5, v6, v7, v8]) (.int .i64 7)).run Try.prog w = .ok v7 w := by kernel_rfl
theorem idx8 (v0 v1 v2 v3 v4 v5 v6 v7 v8 : Value) (w : World) : (Instr.index 93 (.agg #[v0, v1, v2, v3, v4, v5, v6, v7, v8]) (.int .i64 8)).run Try.prog w = .ok v8 w := by kernel_rfl
theorem sumL_mono (L : Nat → List Nat) {j k : Nat} (h : j ≤ k) : sumL L j ≤ sumL L k := by
  induction k with
  | zero => rw [show j = 0 by omega]; exact Nat.le_refl _
  | succ k ih =>
    by_cases hj : j = k + 1
    · rw [hj]; exact Nat.le_refl _
    · have := ih (by omega)
      simp only [sumL]
      omega
theorem foldl_max (l : List (Nat × Nat)) : ∀ (z : Int), z ≤ l.foldl (fun k x => max k (x.2 : Int)) z ∧ (∀ x ∈ l, (x.2 : Int) ≤ l.foldl (fun k x => max k (x.2 : Int)) z) ∧ (l.foldl (fun k x => max k (x.2 : Int)) z = z ∨ ∃ x ∈ l, l.foldl (fun k x => max k (x.2 : Int)) z = x.2) := by
  induction l with
  | nil => intro z; exact ⟨Int.le_refl _, fun x hx => by (cases hx), Or.inl rfl⟩
  | cons y r ih =>
    intro z
    obtain ⟨h1, h2, h3⟩ := ih (max z y.2)
    simp only [List.foldl_cons]
    refine ⟨by omega, fun x hx => ?_, ?_⟩
    · rcases List.mem_cons.1 hx with rfl | hx
      · omega
      · exact h2 x hx
    · rcases h3 with h3 | ⟨x, hx, h3⟩
      · rcases Int.le_total z y.2 with g | g
        · right; exact ⟨y, List.mem_cons_self, by rw [h3]; omega⟩
        · left; rw [h3]; omega
      · right; exact ⟨x, List.mem_cons_of_mem _ hx, h3⟩
theorem grt_of {F : List Bool} {x m : Nat} (h : (x, m) ∈ bk F) (hm : ∀ y ∈ bk F, y.2 ≤ m) : grt F = m := by
  obtain ⟨h1, h2, h3⟩ := foldl_max (bk F) (-1)
  have h4 := h2 (x, m) h
  unfold grt
  rcases h3 with h3 | ⟨y, hy, h3⟩
  · simp only at h4; omega
  · have := hm y hy
    simp only at h4; omega
theorem free_nil (w : World) : Calls Try.prog 41 #[.pointer none] w fun e w' => e = .returned (.int .i64 0) ∧ w = w' := by
  go_enter Try.func41, Try.ntmps41
  go_wp2
  go_ret
  exact ⟨rfl, rfl⟩
theorem blocks_nil (w : World) : Calls Try.prog 40 #[.pointer none] w fun e w' => e = .returned (.slice none 0 0) ∧ w = w' := by
  go_enter Try.func40, Try.ntmps40
  go_wp2
  go_ret
  exact ⟨rfl, rfl⟩
set_option maxRecDepth 100000 in
theorem free_any (h : BudAt Xc B w a n L) (hG : Good F L) (hn : F.length ≤ 1024) :
    Calls Try.prog 41 #[.pointer (some ⟨a, 0, none⟩)] w fun e w' => e = .returned (.int .i64 (F.count true : Nat)) ∧ w = w' := by
  obtain ⟨p, c, hX⟩ := h
  have c0 := hX.field (k := 0) (by omega)
  have c1 := hX.field (k := 1) (by omega)
  have c2 := hX.field (k := 2) (by omega)
  have c3 := hX.field (k := 3) (by omega)
  have c4 := hX.field (k := 4) (by omega)
  have c5 := hX.field (k := 5) (by omega)
  have c6 := hX.field (k := 6) (by omega)
  have c7 := hX.field (k := 7) (by omega)
  have c8 := hX.field (k := 8) (by omega)
  have hsum : ∀ k, k < 9 → sumL L k + (L k).length * 2 ^ k ≤ 1024 := fun k hk => by
    have h1 := sumL_mono L (show k + 1 ≤ 9 by omega)
    have h2 := hG.cnt
    have h3 : F.count true ≤ F.length := List.count_le_length
    simp only [sumL] at h1 h2
    omega
  have HC := Lib.hid hG.cnt
  have HS := Lib.hid hsum
  clear hX hsum hG hn
  simp only [Nat.reduceAdd] at c0 c1 c2 c3 c4 c5 c6 c7 c8
  go_enter Try.func41, Try.ntmps41
  go_wp2
  clear c0 c1 c2 c3 c4 c5 c6 c7 c8
  go_loop [3, 12] (fun s i => ∃ k : Nat, k ≤ 9 ∧ i = .int .i64 k ∧ s = .int .i64 (sumL L k : Nat)) (fun _ i => 9 - (intOf i).toNat)
  case atStart => exact ⟨0, by omega, rfl, rfl⟩
  case round =>
    obtain ⟨k, hk, rfl, rfl⟩ := hrel
    by_cases hlt : k < 9
    · have hs := HS.out k hlt
      have HE := Lib.hid (show ((sumL L (k + 1) : Nat) : Int) = (sumL L k : Nat) + (L k).length * 2 ^ k by simp [sumL])
      have hl : ∃ m, m = sumL L k := ⟨_, rfl⟩
      obtain ⟨m, hm⟩ := hl
      rw [← hm] at hs ⊢
      have HM := Lib.hid hm
      clear hm
      rcases pow9 (show k ≤ 8 by omega) with rfl | rfl | rfl | rfl | rfl | rfl | rfl | rfl | rfl
      · simp only [Nat.reducePow] at hs
        have hx := idx0 (.slice (slA (p 0)) (L 0).length (c 0)) (.slice (slA (p 1)) (L 1).length (c 1)) (.slice (slA (p 2)) (L 2).length (c 2)) (.slice (slA (p 3)) (L 3).length (c 3)) (.slice (slA (p 4)) (L 4).length (c 4)) (.slice (slA (p 5)) (L 5).length (c 5)) (.slice (slA (p 6)) (L 6).length (c 6)) (.slice (slA (p 7)) (L 7).length (c 7)) (.slice (slA (p 8)) (L 8).length (c 8))
        go_wp2
        go_round
        case rel => exact ⟨1, by omega, rfl, by rw [HE.out, ← HM.out, Int.pow_zero, Int.mul_one]⟩
        case measure => simp [intOf]
      · simp only [Nat.reducePow] at hs
        have hx := idx1 (.slice (slA (p 0)) (L 0).length (c 0)) (.slice (slA (p 1)) (L 1).length (c 1)) (.slice (slA (p 2)) (L 2).length (c 2)) (.slice (slA (p 3)) (L 3).length (c 3)) (.slice (slA (p 4)) (L 4).length (c 4)) (.slice (slA (p 5)) (L 5).length (c 5)) (.slice (slA (p 6)) (L 6).length (c 6)) (.slice (slA (p 7)) (L 7).length (c 7)) (.slice (slA (p 8)) (L 8).length (c 8))
        go_wp2
        go_round
        case rel => exact ⟨2, by omega, rfl, by rw [HE.out, ← HM.out]; rfl⟩
        case measure => simp [intOf]
      · simp only [Nat.reducePow] at hs
        have hx := idx2 (.slice (slA (p 0)) (L 0).length (c 0)) (.slice (slA (p 1)) (L 1).length (c 1)) (.slice (slA (p 2)) (L 2).length (c 2)) (.slice (slA (p 3)) (L 3).length (c 3)) (.slice (slA (p 4)) (L 4).length (c 4)) (.slice (slA (p 5)) (L 5).length (c 5)) (.slice (slA (p 6)) (L 6).length (c 6)) (.slice (slA (p 7)) (L 7).length (c 7)) (.slice (slA (p 8)) (L 8).length (c 8))
        go_wp2
        go_round
        case rel => exact ⟨3, by omega, rfl, by rw [HE.out, ← HM.out]; rfl⟩
        case measure => simp [intOf]
      · simp only [Nat.reducePow] at hs
        have hx := idx3 (.slice (slA (p 0)) (L 0).length (c 0)) (.slice (slA (p 1)) (L 1).length (c 1)) (.slice (slA (p 2)) (L 2).length (c 2)) (.slice (slA (p 3)) (L 3).length (c 3)) (.slice (slA (p 4)) (L 4).length (c 4)) (.slice (slA (p 5)) (L 5).length (c 5)) (.slice (slA (p 6)) (L 6).length (c 6)) (.slice (slA (p 7)) (L 7).length (c 7)) (.slice (slA (p 8)) (L 8).length (c 8))
        go_wp2
        go_round
        case rel => exact ⟨4, by omega, rfl, by rw [HE.out, ← HM.out]; rfl⟩
        case measure => simp [intOf]
      · simp only [Nat.reducePow] at hs
        have hx := idx4 (.slice (slA (p 0)) (L 0).length (c 0)) (.slice (slA (p 1)) (L 1).length (c 1)) (.slice (slA (p 2)) (L 2).length (c 2)) (.slice (slA (p 3)) (L 3).length (c 3)) (.slice (slA (p 4)) (L 4).length (c 4)) (.slice (slA (p 5)) (L 5).length (c 5)) (.slice (slA (p 6)) (L 6).length (c 6)) (.slice (slA (p 7)) (L 7).length (c 7)) (.slice (slA (p 8)) (L 8).length (c 8))
        go_wp2
        go_round
        case rel => exact ⟨5, by omega, rfl, by rw [HE.out, ← HM.out]; rfl⟩
        case measure => simp [intOf]
      · simp only [Nat.reducePow] at hs
        have hx := idx5 (.slice (slA (p 0)) (L 0).length (c 0)) (.slice (slA (p 1)) (L 1).length (c 1)) (.slice (slA (p 2)) (L 2).length (c 2)) (.slice (slA (p 3)) (L 3).length (c 3)) (.slice (slA (p 4)) (L 4).length (c 4)) (.slice (slA (p 5)) (L 5).length (c 5)) (.slice (slA (p 6)) (L 6).length (c 6)) (.slice (slA (p 7)) (L 7).length (c 7)) (.slice (slA (p 8)) (L 8).length (c 8))
        go_wp2
        go_round
        case rel => exact ⟨6, by omega, rfl, by rw [HE.out, ← HM.out]; rfl⟩
        case measure => simp [intOf]
      · simp only [Nat.reducePow] at hs
        have hx := idx6 (.slice (slA (p 0)) (L 0).length (c 0)) (.slice (slA (p 1)) (L 1).length (c 1)) (.slice (slA (p 2)) (L 2).length (c 2)) (.slice (slA (p 3)) (L 3).length (c 3)) (.slice (slA (p 4)) (L 4).length (c 4)) (.slice (slA (p 5)) (L 5).length (c 5)) (.slice (slA (p 6)) (L 6).length (c 6)) (.slice (slA (p 7)) (L 7).length (c 7)) (.slice (slA (p 8)) (L 8).length (c 8))
        go_wp2
        go_round
        case rel => exact ⟨7, by omega, rfl, by rw [HE.out, ← HM.out]; rfl⟩
        case measure => simp [intOf]
      · simp only [Nat.reducePow] at hs
        have hx := idx7 (.slice (slA (p 0)) (L 0).length (c 0)) (.slice (slA (p 1)) (L 1).length (c 1)) (.slice (slA (p 2)) (L 2).length (c 2)) (.slice (slA (p 3)) (L 3).length (c 3)) (.slice (slA (p 4)) (L 4).length (c 4)) (.slice (slA (p 5)) (L 5).length (c 5)) (.slice (slA (p 6)) (L 6).length (c 6)) (.slice (slA (p 7)) (L 7).length (c 7)) (.slice (slA (p 8)) (L 8).length (c 8))
        go_wp2
        go_round
        case rel => exact ⟨8, by omega, rfl, by rw [HE.out, ← HM.out]; rfl⟩
        case measure => simp [intOf]
      · simp only [Nat.reducePow] at hs
        have hx := idx8 (.slice (slA (p 0)) (L 0).length (c 0)) (.slice (slA (p 1)) (L 1).length (c 1)) (.slice (slA (p 2)) (L 2).length (c 2)) (.slice (slA (p 3)) (L 3).length (c 3)) (.slice (slA (p 4)) (L 4).length (c 4)) (.slice (slA (p 5)) (L 5).length (c 5)) (.slice (slA (p 6)) (L 6).length (c 6)) (.slice (slA (p 7)) (L 7).length (c 7)) (.slice (slA (p 8)) (L 8).length (c 8))
        go_wp2
        go_round
        case rel => exact ⟨9, by omega, rfl, by rw [HE.out, ← HM.out]; rfl⟩
        case measure => simp [intOf]
    · obtain rfl : k = 9 := by omega
      go_wp2
      go_ret
      exact ⟨ret_int (by rw [HC.out]), rfl⟩
end
end Go.Proofs.Ytfjphlickpgbnaa
