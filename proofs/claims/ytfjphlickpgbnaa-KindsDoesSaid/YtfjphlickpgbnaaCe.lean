/- The contract of New. -/
import Derived.Test.YtfjphlickpgbnaaCd
namespace Go.Proofs.Ytfjphlickpgbnaa
variable {Xc : Nat → Prop}
open Go.RowKit
section
variable {w : World}
theorem new_bad {f : Int} (h : f < 8 ∨ 1024 < f) (w : World) : Calls Try.prog 45 #[.int .i64 f] w fun e w' => e = .returned (.tuple #[.pointer none, .int .i64 2]) ∧ w = w' := by
  rcases h with h | h
  · go_enter Try.func45, Try.ntmps45
    go_wp2
    go_ret2
    exact ⟨rfl, rfl⟩
  · have h8 : ¬ f < 8 := by omega
    go_enter Try.func45, Try.ntmps45
    go_wp2
    go_ret2
    exact ⟨rfl, rfl⟩
/-- The frames on the way: the first i are free. -/
def upto (n i : Nat) : List Bool := List.replicate i true ++ List.replicate (n - i) false
theorem upto_len {n i : Nat} (h : i ≤ n) : (upto n i).length = n := by simp [upto]; omega
theorem upto_get {n i : Nat} (h : i ≤ n) (x : Nat) : (upto n i)[x]? = if x < i then some true else if x < n then some false else none := by
  unfold upto
  by_cases h1 : x < i
  · rw [if_pos h1, List.getElem?_append_left (by simpa using h1), List.getElem?_replicate, if_pos h1]
  · rw [if_neg h1, List.getElem?_append_right (by simp; omega), List.getElem?_replicate]
    simp only [List.length_replicate]
    by_cases h2 : x < n
    · rw [if_pos h2, if_pos (by omega)]
    · rw [if_neg h2, if_neg (by omega)]
theorem upto_join {n i : Nat} (h : i < n) : Join (upto n (i + 1)) (upto n i) i 0 := by
  refine ⟨by omega, Nat.mod_one i, by rw [upto_len (by omega), Nat.pow_zero]; omega, fun x h1 h2 => ?_, ?_⟩
  · rw [Nat.pow_zero] at h2
    rw [upto_get (by omega), if_neg (by omega), if_pos (by omega)]
  · apply List.ext_getElem?
    intro x
    rw [setR_get _ _ _ _ (by rw [upto_len (by omega), Nat.pow_zero]; omega), upto_get (by omega), upto_get (by omega), Nat.pow_zero]
    by_cases c : i ≤ x ∧ x < i + 1
    · rw [if_pos c, if_pos (by omega)]
    · rw [if_neg c]
      by_cases c2 : x < i
      · rw [if_pos c2, if_pos (by omega)]
      · have c3 : ¬ x < i + 1 := by omega
        rw [if_neg c2, if_neg c3]
theorem upto_zero (n : Nat) : upto n 0 = List.replicate n false := by simp [upto]
theorem upto_all (n : Nat) : upto n n = List.replicate n true := by simp [upto]
theorem bud_new (w : World) (n : Nat) (hX : ∀ g, Xc g → g < w.heap.size) : BudAt Xc w.heap.size (w.alloc (.cells #[.int .i64 n, .slice none 0 0, .slice none 0 0, .slice none 0 0, .slice none 0 0, .slice none 0 0, .slice none 0 0, .slice none 0 0, .slice none 0 0, .slice none 0 0] 95)) w.heap.size n (fun _ => []) :=
  ⟨fun _ => none, fun _ => 0, Lrow.new w _ _, Nat.le_refl _, fun _ _ _ => ⟨rfl, rfl⟩, fun _ _ b h => by (cases h), fun _ _ _ _ _ b h => by (cases h), fun g hg => ⟨by have := hX g hg; simp; omega, by have := hX g hg; omega, fun _ _ => by simp⟩⟩
/-- New lists of n frames, all of them free. -/
def Newly (Xc : Nat → Prop) (n : Nat) (w : World) (e : Ending) (w' : World) : Prop :=
  ∃ L', e = .returned (.tuple #[.pointer (some ⟨w.heap.size, 0, none⟩), .int .i64 0]) ∧ Below w.heap.size w w' ∧ BudAt Xc w.heap.size w' w.heap.size n L' ∧ Good (List.replicate n true) L'
theorem new_any (n : Nat) (h1 : 8 ≤ n) (h2 : n ≤ 1024) (w : World) (hX : ∀ g, Xc g → g < w.heap.size) : Calls Try.prog 45 #[.int .i64 n] w (Newly Xc n w) := by
  have hN := bud_new w n hX
  have HN := Lib.hid hN
  clear hN
  go_enter Try.func45, Try.ntmps45
  go_wp2
  go_loopw [16] (fun s wr => ∃ (i : Nat) (L' : Nat → List Nat), i ≤ n ∧ s = .int .i64 i ∧ Good (upto n i) L' ∧ BudAt Xc w.heap.size wr w.heap.size n L' ∧ Below w.heap.size w wr) (fun s _ => n - (intOf s).toNat)
  case atStart => exact ⟨0, _, Nat.zero_le _, rfl, by rw [upto_zero]; exact good_none n, HN.out, (Below.refl _ _).alloc (Nat.le_refl _) _⟩
  case round =>
    obtain ⟨i, L', hi, rfl, hG, hX, hB⟩ := hrel
    have HG := Lib.hid hG
    have HX := Lib.hid hX
    have HB := Lib.hid hB
    clear hG hX hB
    by_cases hlt : i < n
    · go_wp2_with fail
      refine Calls.mono (join_any HX.out HG.out (by rw [upto_len (by omega)]; exact h2) (upto_join hlt)) ?_
      rintro e w2 ⟨rfl, ht2, L2, hx2, hg2⟩
      have HX2 := Lib.hid hx2
      have HG2 := Lib.hid hg2
      have HT2 := Lib.hid ht2
      clear ht2 hx2 hg2
      go_wp2
      go_roundw
      case rel => exact ⟨i + 1, _, by omega, by go_num, HG2.out, HX2.out, HB.out.trans HT2.out.below⟩
      case measure => simp [intOf]; omega
    · obtain rfl : i = n := by omega
      go_wp2
      go_ret2
      exact ⟨_, rfl, HB.out, HX.out, by rw [← upto_all]; exact HG.out⟩
end
end Go.Proofs.Ytfjphlickpgbnaa
