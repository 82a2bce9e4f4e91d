/- The contracts of the reference of package ram: clearing and copying, by loops. -/
import Derived.Test.YtaphihoomipdaaaRc
import Derived.StillTailTactics
import Derived.Deep.RegionHeld3
import Derived.RegionTactic
import Derived.BigRegion
import Derived.IntWalk
namespace Go.Proofs.Ytaphihoomipdaaa
open Go.RowKit

section
variable {w : World} {a b n : Nat} {T : TypeId} {ws : List Int}
theorem thB_of {n : Nat} {f k : Int} (hk : 1 ≤ k) : thB n f k = decide (errF n f k = 0) := by
  unfold thB errF
  rw [Bool.eq_iff_iff]
  simp only [Bool.and_eq_true, decide_eq_true_eq]
  constructor
  · rintro ⟨⟨h1, h2⟩, h3⟩; rw [if_neg (by omega)]
  · intro h
    split at h
    · omega
    · omega
/-- A row that reads as words. -/
def Says (w : World) (g : Nat) (ws : List Int) : Prop := ∀ i, i < ws.length → w.cell? ⟨g, i, none⟩ = some (.int .u64 (ws.getD i 0))
theorem Says.far {w w' : World} {g : Nat} {ws : List Int} (h : Says w g ws) {row : Option Nat} (hg : w.grownBy w' row) (hlt : g < w.heap.size) (hr : some g ≠ row) : Says w' g ws := fun i hi =>
  (World.cell?_of_block (a := ⟨g, i, none⟩) (hg.block g hlt hr)).trans (h i hi)
theorem own_words {w2 : World} {base n : Nat} {t : TypeId} {v : Value} {ws : List Int} (h : w2.ownsRow base t 1 v (0 + n) ([] ++ wcells ws)) (hn : 0 < n) :
    ∃ g cap, v = .slice (some ⟨g, 0, none⟩) n cap ∧ base ≤ g ∧ g < w2.heap.size ∧ Says w2 g ws := by
  rw [Nat.zero_add, List.nil_append] at h
  have h' := h
  rcases h.2 with ⟨_, h0⟩ | ⟨g, cap, cur, rfl, hb, hg, _⟩
  · omega
  · refine ⟨g, cap, rfl, hb, (Array.getElem?_eq_some_iff.1 hg).1, fun i hi => ?_⟩
    have hl := h'.1
    rw [wcells_length] at hl
    rw [h'.cellAt i (by omega), wcells_get, List.getD_eq_getElem?_getD, List.getElem?_eq_getElem hi]; rfl
theorem part_snoc (ws : List Int) (o j k : Nat) (hj : j < k) (hk : o + k ≤ ws.length) : (ws.drop o).take (j + 1) = (ws.drop o).take j ++ [ws.getD (o + j) 0] := by
  rw [List.take_succ_eq_append_getElem (by rw [List.length_drop]; omega), List.getElem_drop, List.getD_eq_getElem?_getD, List.getElem?_eq_getElem (by omega)]; rfl
theorem rep_snoc (j : Nat) : List.replicate (j + 1) (0 : Int) = List.replicate j 0 ++ [0] := List.replicate_succ'
end
end Go.Proofs.Ytaphihoomipdaaa
