/- The contracts of Digits and Page, of the program and of the reference, and of the reference's look at two lists of numbers. -/
import Derived.Test.YtpcpcgbejinlmaaMk11
import Derived.Test.YtpcpcgbejinlmaaMk02
import Derived.Deep.OwnRows
import Derived.RegionTactic
import Derived.BigRegion
import Derived.StillTailTactics
namespace Go.Proofs.Ytpcpcgbejinlmaa
open Go.RowKit
def dgRow (p : Int) : Nat → Array Value
  | 0 => #[.int .i64 0, .int .i64 0, .int .i64 0, .int .i64 0]
  | 1 => #[.int .i64 0, .int .i64 0, .int .i64 0, .int .i64 (p % 8)]
  | 2 => #[.int .i64 0, .int .i64 0, .int .i64 (p / 8 % 8), .int .i64 (p % 8)]
  | 3 => #[.int .i64 0, .int .i64 (p / 64 % 8), .int .i64 (p / 8 % 8), .int .i64 (p % 8)]
  | _ => #[.int .i64 (p / 512), .int .i64 (p / 64 % 8), .int .i64 (p / 8 % 8), .int .i64 (p % 8)]
def dgPg (p : Int) : Nat → Int
  | 0 => p
  | 1 => p / 8
  | 2 => p / 64
  | 3 => p / 512
  | _ => 0
theorem digits_bad_new (p : Int) (h : ¬ (0 ≤ p ∧ p ≤ 4095)) (w : World) : Calls Try.prog 42 #[.int .i64 p] w (NewInts w (dgL p) (dgE p)) := by
  have hl : dgL p = [] := by simp only [dgL, if_neg h]
  have he : dgE p = 3 := by simp only [dgE, if_neg h]
  rw [hl, he]
  clear hl he
  by_cases h0 : p < 0
  · clear h
    go_enter Try.func42, Try.ntmps42
    go_wp2
    go_ret2
    exact ⟨none, 0, 0, rfl, IntsAt.nil _ _ _, Below.refl _ _, fun g e => by cases e⟩
  · have h1 : 4096 ≤ p := by omega
    clear h h0
    go_enter Try.func42, Try.ntmps42
    go_wp2
    go_ret2
    exact ⟨none, 0, 0, rfl, IntsAt.nil _ _ _, Below.refl _ _, fun g e => by cases e⟩
theorem digits_good_new (p : Int) (h0 : 0 ≤ p) (h1 : p ≤ 4095) (w : World) : Calls Try.prog 42 #[.int .i64 p] w (NewInts w (dgL p) (dgE p)) := by
  have hl : dgL p = [p / 512, p / 64 % 8, p / 8 % 8, p % 8] := by simp only [dgL, if_pos (And.intro h0 h1)]
  have he : dgE p = 0 := by simp only [dgE, if_pos (And.intro h0 h1)]
  rw [hl, he]
  clear hl he
  have hmk : ∀ w : World, (Instr.makeSlice 44 (.int .i64 4) (.int .i64 4)).run Try.prog w = .ok (.slice (some ⟨w.heap.size, 0, none⟩) 4 4) (w.alloc (.cells (dgRow p 0) 3)) := fun _ => by kernel_rfl
  go_enter Try.func42, Try.ntmps42
  go_wp2
  go_loopw [0, 13] (fun pg i wr => ∃ j : Nat, j ≤ 4 ∧ i = .int .i64 j ∧ pg = .int .i64 (dgPg p j) ∧ RowA wr w.heap.size 3 (dgRow p j) ∧ Below w.heap.size w wr) (fun _ i _ => 4 - (intOf i).toNat)
  case atStart => exact ⟨0, by omega, rfl, rfl, RowA.new _ _ _, (Below.refl _ _).alloc (Nat.le_refl _) _⟩
  case round =>
    obtain ⟨j, hj, rfl, rfl, hr, hb⟩ := hrel
    have hj' : j = 0 ∨ j = 1 ∨ j = 2 ∨ j = 3 ∨ j = 4 := by omega
    rcases hj' with rfl | rfl | rfl | rfl | rfl
    · have hf := hr.frozen 3
      have hc := hr.cell 3
      have hr2 := Lib.hid (hr.set_ 3 (.int .i64 (dgPg p 0 % 8)))
      have hb2 := Lib.hid (hb.setCell (p := ⟨w.heap.size, 3, none⟩) (Nat.le_refl _) (.int .i64 (dgPg p 0 % 8)))
      obtain ⟨z, hz⟩ : ∃ z, z = dgPg p 0 := ⟨_, rfl⟩
      have hz0 : 0 ≤ z := by rw [hz]; simp only [dgPg]; omega
      have hz1 : z ≤ 4095 := by rw [hz]; simp only [dgPg]; omega
      have HZ : Hid (z / 8 = dgPg p 1) := by
        rw [hz]; show p / 8 = p / 8; omega
      have HS : Hid ((dgRow p 0).setIfInBounds 3 (.int .i64 (z % 8)) = dgRow p 1) := by
        show _ = _
        rw [hz]
        simp [dgRow, dgPg]
      rw [← hz] at hr2 hb2 ⊢
      have HC : wr.cell? ⟨w.heap.size, 3, none⟩ = some (.int .i64 0) := hc
      clear hc hz hr hb
      go_wp2
      go_roundw
      case rel => exact ⟨1, by omega, rfl, by rw [HZ.out], by have := hr2.out; rwa [HS.out] at this, hb2.out⟩
      case measure => simp [intOf]
    · have hf := hr.frozen 2
      have hc := hr.cell 2
      have hr2 := Lib.hid (hr.set_ 2 (.int .i64 (dgPg p 1 % 8)))
      have hb2 := Lib.hid (hb.setCell (p := ⟨w.heap.size, 2, none⟩) (Nat.le_refl _) (.int .i64 (dgPg p 1 % 8)))
      obtain ⟨z, hz⟩ : ∃ z, z = dgPg p 1 := ⟨_, rfl⟩
      have hz0 : 0 ≤ z := by rw [hz]; simp only [dgPg]; omega
      have hz1 : z ≤ 4095 := by rw [hz]; simp only [dgPg]; omega
      have HZ : Hid (z / 8 = dgPg p 2) := by
        rw [hz]; show p / 8 / 8 = p / 64; omega
      have HS : Hid ((dgRow p 1).setIfInBounds 2 (.int .i64 (z % 8)) = dgRow p 2) := by
        show _ = _
        rw [hz]
        simp [dgRow, dgPg]
      rw [← hz] at hr2 hb2 ⊢
      have HC : wr.cell? ⟨w.heap.size, 2, none⟩ = some (.int .i64 0) := hc
      clear hc hz hr hb
      go_wp2
      go_roundw
      case rel => exact ⟨2, by omega, rfl, by rw [HZ.out], by have := hr2.out; rwa [HS.out] at this, hb2.out⟩
      case measure => simp [intOf]
    · have hf := hr.frozen 1
      have hc := hr.cell 1
      have hr2 := Lib.hid (hr.set_ 1 (.int .i64 (dgPg p 2 % 8)))
      have hb2 := Lib.hid (hb.setCell (p := ⟨w.heap.size, 1, none⟩) (Nat.le_refl _) (.int .i64 (dgPg p 2 % 8)))
      obtain ⟨z, hz⟩ : ∃ z, z = dgPg p 2 := ⟨_, rfl⟩
      have hz0 : 0 ≤ z := by rw [hz]; simp only [dgPg]; omega
      have hz1 : z ≤ 4095 := by rw [hz]; simp only [dgPg]; omega
      have HZ : Hid (z / 8 = dgPg p 3) := by
        rw [hz]; show p / 64 / 8 = p / 512; omega
      have HS : Hid ((dgRow p 2).setIfInBounds 1 (.int .i64 (z % 8)) = dgRow p 3) := by
        show _ = _
        rw [hz]
        simp [dgRow, dgPg]
      rw [← hz] at hr2 hb2 ⊢
      have HC : wr.cell? ⟨w.heap.size, 1, none⟩ = some (.int .i64 0) := hc
      clear hc hz hr hb
      go_wp2
      go_roundw
      case rel => exact ⟨3, by omega, rfl, by rw [HZ.out], by have := hr2.out; rwa [HS.out] at this, hb2.out⟩
      case measure => simp [intOf]
    · have hf := hr.frozen 0
      have hc := hr.cell 0
      have hr2 := Lib.hid (hr.set_ 0 (.int .i64 (dgPg p 3 % 8)))
      have hb2 := Lib.hid (hb.setCell (p := ⟨w.heap.size, 0, none⟩) (Nat.le_refl _) (.int .i64 (dgPg p 3 % 8)))
      obtain ⟨z, hz⟩ : ∃ z, z = dgPg p 3 := ⟨_, rfl⟩
      have hz0 : 0 ≤ z := by rw [hz]; simp only [dgPg]; omega
      have hz1 : z ≤ 4095 := by rw [hz]; simp only [dgPg]; omega
      have HZ : Hid (z / 8 = dgPg p 4) := by
        rw [hz]; show p / 512 / 8 = 0; omega
      have HS : Hid ((dgRow p 3).setIfInBounds 0 (.int .i64 (z % 8)) = dgRow p 4) := by
        show _ = _
        rw [hz]
        simp [dgRow, dgPg]; omega
      rw [← hz] at hr2 hb2 ⊢
      have HC : wr.cell? ⟨w.heap.size, 0, none⟩ = some (.int .i64 0) := hc
      clear hc hz hr hb
      go_wp2
      go_roundw
      case rel => exact ⟨4, by omega, rfl, by rw [HZ.out], by have := hr2.out; rwa [HS.out] at this, hb2.out⟩
      case measure => simp [intOf]
    · have HR := Lib.hid (hr.ints [p / 512, p / 64 % 8, p / 8 % 8, p % 8] 4 rfl (fun j hj => by
        have : j = 0 ∨ j = 1 ∨ j = 2 ∨ j = 3 := by omega
        rcases this with rfl | rfl | rfl | rfl <;> rfl))
      have HB := Lib.hid hb
      clear hr hb
      go_wp2
      go_ret2
      exact ⟨_, _, _, rfl, HR.out, HB.out, fun g e => by injection e with e; subst e; exact Nat.le_refl _⟩
theorem digits_bad (p : Int) (h : ¬ (0 ≤ p ∧ p ≤ 4095)) (w : World) : Calls Try.prog 42 #[.int .i64 p] w (SomeInts w (dgL p) (dgE p)) := (digits_bad_new p h w).mono NewInts.weak
theorem digits_good (p : Int) (h0 : 0 ≤ p) (h1 : p ≤ 4095) (w : World) : Calls Try.prog 42 #[.int .i64 p] w (SomeInts w (dgL p) (dgE p)) := (digits_good_new p h0 h1 w).mono NewInts.weak
theorem digits_new (p : Int) (w : World) : Calls Try.prog 42 #[.int .i64 p] w (NewInts w (dgL p) (dgE p)) := by
  by_cases h : 0 ≤ p ∧ p ≤ 4095
  · exact digits_good_new p h.1 h.2 w
  · exact digits_bad_new p h w
end Go.Proofs.Ytpcpcgbejinlmaa
/- The contracts of Page and of the reference's Digits and Page; the reference's look at two lists of numbers that are the same. -/
namespace Go.Proofs.Ytpcpcgbejinlmaa
open Go.RowKit
theorem digits_any (p : Int) (w : World) : Calls Try.prog 42 #[.int .i64 p] w (SomeInts w (dgL p) (dgE p)) := by
  by_cases h : 0 ≤ p ∧ p ≤ 4095
  · exact digits_good p h.1 h.2 w
  · exact digits_bad p h w
section
variable {w : World} {B n c : Nat} {A : Option Addr} {l : List Int}
end
section
variable {w : World} {B B' n c c' : Nat} {A A' : Option Addr} {l : List Int}
end
end Go.Proofs.Ytpcpcgbejinlmaa
