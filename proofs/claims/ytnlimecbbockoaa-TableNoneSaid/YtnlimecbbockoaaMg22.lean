/- The contracts of package table's checks. -/
import Derived.Test.YtnlimecbbockoaaMg20
import Derived.Test.YtnlimecbbockoaaMg21
import Derived.Deep.RegionHeld3
namespace Go.Proofs.Ytnlimecbbockoaa
open Go.RowKit
/-- What is wrong with a root. -/
def rtE (R : List Int) (r : Int) : Int := if r ∈ R then 0 else 3
theorem checkRoot_nil (r : Int) (w : World) : Calls Try.prog 26 #[.pointer none, .int .i64 r] w fun e w' => e = .returned (.int .i64 1) ∧ w = w' := by
  go_enter Try.func26, Try.ntmps26
  go_wp2
  go_ret
  exact ⟨rfl, rfl⟩
section
variable {w : World} {s : Seat} {v : Value} {ws L R : List Int}
theorem Tab.cells (h : Tab w s v ws L R) : w.cell? ⟨s.x, 0, none⟩ = some (.pointer (some ⟨s.a, 0, none⟩)) ∧ w.cell? ⟨s.x, 1, none⟩ = some (bagV s) ∧ w.cell? ⟨s.x, 2, none⟩ = some (.map (some s.m)) :=
  ⟨h.top.cell 0, h.top.cell 1, h.top.cell 2⟩
theorem checkRoot_any (h : Tab w s v ws L R) (r : Int) (hr : Fits r) : Calls Try.prog 26 #[.pointer (some ⟨s.x, 0, none⟩), .int .i64 r] w fun e w' => e = .returned (.int .i64 (rtE R r)) ∧ Below w.heap.size w w' := by
  obtain ⟨-, -, hc⟩ := h.cells
  have hl := h.set.look hr
  unfold rtE
  clear h hr
  by_cases hm : r ∈ R
  · rw [if_pos hm]
    have hd : decide (r ∈ R) = true := by simpa using hm
    rw [hd] at hl
    clear hm hd
    go_enter Try.func26, Try.ntmps26
    go_wp2
    go_ret
    exact ⟨rfl, (Below.refl _ _).alloc (Nat.le_refl _) _⟩
  · rw [if_neg hm]
    have hd : decide (r ∈ R) = false := by simpa using hm
    rw [hd] at hl
    clear hm hd
    go_enter Try.func26, Try.ntmps26
    go_wp2
    go_ret
    exact ⟨rfl, (Below.refl _ _).alloc (Nat.le_refl _) _⟩
end
/-- How many tables are read on the way to a leaf of an order. -/
def tto (o : Int) : Int := 4 - o / 3
theorem tablesTo_any {o : Int} (ho : o = 0 ∨ o = 3 ∨ o = 6) (w : World) : Calls Try.prog 43 #[.int .i64 o] w fun e w' => e = .returned (.int .i64 (tto o)) ∧ w = w' := by
  rcases ho with rfl | rfl | rfl
  all_goals
    go_enter Try.func43, Try.ntmps43
    go_wp2
    go_ret
    exact ⟨rfl, rfl⟩
/-- Is a block of frames there? -/
def frE (f o : Int) : Int := if 0 ≤ f ∧ f + szO o ≤ 512 then 0 else 3
section
variable {w : World} {s : Seat} {v : Value} {ws L R : List Int}
theorem checkFrames_at (h : Tab w s v ws L R) (f o : Int) (ho : o = 0 ∨ o = 3 ∨ o = 6) : Calls Try.prog 50 #[.pointer (some ⟨s.x, 0, none⟩), .int .i64 f, .int .i64 o] w fun e w' => e = .returned (.int .i64 (frE f o)) ∧ ∃ n, w' = w.drewN n := by
  obtain ⟨hc, -, -⟩ := h.cells
  have hF : ∀ n : Nat, Calls Try.prog 67 #[.pointer (some ⟨s.a, 0, none⟩)] (w.drewN n) fun e w' => e = .returned (.int .i64 512) ∧ w' = w.drewN n := fun n => (frames_any (w := w.drewN n) (h.ram.drewN n)).mono fun _ _ k => ⟨by rw [k.1]; rfl, k.2.symm⟩
  clear h
  unfold frE
  by_cases h0 : f < 0
  · rw [if_neg (by omega)]
    have d0 : decide (f < 0) = true := by simpa using h0
    clear h0
    go_enter Try.func50, Try.ntmps50
    go_wp2
    go_quiet (fail)
    go_wp2
    go_ret
    exact ⟨rfl, _, rfl⟩
  · have d0 : decide (f < 0) = false := by simpa using h0
    have h0' : 0 ≤ f := by omega
    clear h0
    rcases ho with rfl | rfl | rfl
    · by_cases h1 : 511 < f
      · rw [if_neg (by simp [szO]; omega)]
        have d1 : decide (511 < f) = true := by simpa using h1
        clear h1
        go_enter Try.func50, Try.ntmps50
        go_wp2
        go_quiet ((go_at_call 67; exact Calls.quiet_of_same (hF _)))
        go_wp2
        go_ret
        exact ⟨rfl, _, rfl⟩
      · rw [if_pos (by simp [szO]; omega)]
        have d1 : decide (511 < f) = false := by simpa using h1
        clear h1
        go_enter Try.func50, Try.ntmps50
        go_wp2
        go_quiet ((go_at_call 67; exact Calls.quiet_of_same (hF _)))
        go_wp2
        go_ret
        exact ⟨rfl, _, rfl⟩
    · by_cases h1 : 504 < f
      · rw [if_neg (by simp [szO]; omega)]
        have d1 : decide (504 < f) = true := by simpa using h1
        clear h1
        go_enter Try.func50, Try.ntmps50
        go_wp2
        go_quiet ((go_at_call 67; exact Calls.quiet_of_same (hF _)))
        go_wp2
        go_ret
        exact ⟨rfl, _, rfl⟩
      · rw [if_pos (by simp [szO]; omega)]
        have d1 : decide (504 < f) = false := by simpa using h1
        clear h1
        go_enter Try.func50, Try.ntmps50
        go_wp2
        go_quiet ((go_at_call 67; exact Calls.quiet_of_same (hF _)))
        go_wp2
        go_ret
        exact ⟨rfl, _, rfl⟩
    · by_cases h1 : 448 < f
      · rw [if_neg (by simp [szO]; omega)]
        have d1 : decide (448 < f) = true := by simpa using h1
        clear h1
        go_enter Try.func50, Try.ntmps50
        go_wp2
        go_quiet ((go_at_call 67; exact Calls.quiet_of_same (hF _)))
        go_wp2
        go_ret
        exact ⟨rfl, _, rfl⟩
      · rw [if_pos (by simp [szO]; omega)]
        have d1 : decide (448 < f) = false := by simpa using h1
        clear h1
        go_enter Try.func50, Try.ntmps50
        go_wp2
        go_quiet ((go_at_call 67; exact Calls.quiet_of_same (hF _)))
        go_wp2
        go_ret
        exact ⟨rfl, _, rfl⟩
end
end Go.Proofs.Ytnlimecbbockoaa
