/- The law's own first calls: their words. -/
import Derived.Test.YtpcpcgbejinlmaaMk40
namespace Go.Proofs.Ytpcpcgbejinlmaa
open Go.RowKit
def goodB (ws : List Int) : Nat → Int → Bool
  | 0, t => decide (0 ≤ t ∧ t < FF ws) && (List.range 8).all fun i : Nat => decide (say (FF ws) 0 (wd ws t (i : Int)) ≠ 0)
  | l + 1, t => decide (0 ≤ t ∧ t < FF ws) && (List.range 8).all fun i : Nat => decide (say (FF ws) ((l + 1 : Nat) : Int) (wd ws t (i : Int)) ≠ 0) && (!decide (say (FF ws) ((l + 1 : Nat) : Int) (wd ws t (i : Int)) = 2) || goodB ws l (unF (wd ws t (i : Int))))
theorem good_of {ws : List Int} : ∀ (l : Nat) (t : Int), goodB ws l t = true → Good ws l t
  | 0, t, h => by
    unfold goodB at h
    rw [Bool.and_eq_true, decide_eq_true_eq, List.all_eq_true] at h
    refine ⟨h.1, fun i hi => ?_⟩
    have := h.2 i (List.mem_range.2 hi)
    simpa using this
  | l + 1, t, h => by
    unfold goodB at h
    rw [Bool.and_eq_true, decide_eq_true_eq, List.all_eq_true] at h
    refine ⟨h.1, fun i hi => ?_⟩
    have := h.2 i (List.mem_range.2 hi)
    rw [Bool.and_eq_true, decide_eq_true_eq, Bool.or_eq_true] at this
    refine ⟨this.1, fun hs => good_of l _ ?_⟩
    rcases this.2 with e | e
    · rw [decide_eq_true hs] at e; cases e
    · exact e
def kR : List Int := [430, 431]
def kL0 : List Int := bagL 18
def k1 : List Int := mapW k0 kL0 431 8 3 16 true false false false false
def kL1 : List Int := kL0.take (kL0.length - lck (fol k0 431 8) 3)
def k2 : List Int := spW k1 kL1 431 9
def kL2 : List Int := kL1.dropLast
def k3 : List Int := meW k2 431 8
theorem k_map : mapE k0 kL0 kR 431 8 3 16 true false false false false = 0 := by kernel_rfl
theorem k_l1 : kL1 = bagL 16 := by kernel_rfl
theorem k_g1 : goodB k1 3 431 = true := by kernel_rfl
theorem k_c1 : (thT k1 kR 431).length = 3 := by kernel_rfl
theorem k_n1 : k1.length = 4096 := by kernel_rfl
theorem k_sp : spE k1 kL1 kR 431 9 = 0 := by kernel_rfl
end Go.Proofs.Ytpcpcgbejinlmaa
/- The law's own first calls: their words behind the split. -/
namespace Go.Proofs.Ytpcpcgbejinlmaa
open Go.RowKit
theorem k_g2 : goodB k2 3 431 = true := by kernel_rfl
theorem k_c2 : (thT k2 kR 431).length = 4 := by kernel_rfl
theorem k_n2 : k2.length = 4096 := by kernel_rfl
theorem k_me : meE k2 kR 431 8 = 0 := by kernel_rfl
end Go.Proofs.Ytpcpcgbejinlmaa
