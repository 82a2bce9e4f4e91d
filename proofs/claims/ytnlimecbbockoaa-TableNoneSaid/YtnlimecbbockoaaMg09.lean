/- The contracts of the reference of package ram: clearing and copying, by loops. -/
import Derived.Test.YtnlimecbbockoaaMg08
import Derived.StillTailTactics
import Derived.Deep.RegionHeld3
import Derived.RegionTactic
import Derived.BigRegion
import Derived.IntWalk
namespace Go.Proofs.Ytnlimecbbockoaa
open Go.RowKit

section
variable {w : World} {a b n : Nat} {T : TypeId} {ws : List Int}
theorem thB_of {n : Nat} {f k : Int} (hk : 1 ≤ k) : thB n f k = decide (errF n f k = 0) := by
  unfold thB errF
  rw [Bool.eq_iff_iff]
  simp only [Bool.and_eq_true, decide_eq_true_eq]
  constructor
  · rintro ⟨⟨h1, h2⟩, h3⟩; rw [if_neg (by omega)]
  · intro h
    split at h
    · omega
    · omega
/-- A row that reads as words. -/
def Says (w : World) (g : Nat) (ws : List Int) : Prop := ∀ i, i < ws.length → w.cell? ⟨g, i, none⟩ = some (.int .u64 (ws.getD i 0))
theorem Says.far {w w' : World} {g : Nat} {ws : List Int} (h : Says w g ws) {row : Option Nat} (hg : w.grownBy w' row) (hlt : g < w.heap.size) (hr : some g ≠ row) : Says w' g ws := fun i hi =>
  (World.cell?_of_block (a := ⟨g, i, none⟩) (hg.block g hlt hr)).trans (h i hi)
theorem own_words {w2 : World} {base n : Nat} {t : TypeId} {v : Value} {ws : List Int} (h : w2.ownsRow base t 1 v (0 + n) ([] ++ wcells ws)) (hn : 0 < n) :
    ∃ g cap, v = .slice (some ⟨g, 0, none⟩) n cap ∧ base ≤ g ∧ g < w2.heap.size ∧ Says w2 g ws := by
  rw [Nat.zero_add, List.nil_append] at h
  have h' := h
  rcases h.2 with ⟨_, h0⟩ | ⟨g, cap, cur, rfl, hb, hg, _⟩
  · omega
  · refine ⟨g, cap, rfl, hb, (Array.getElem?_eq_some_iff.1 hg).1, fun i hi => ?_⟩
    have hl := h'.1
    rw [wcells_length] at hl
    rw [h'.cellAt i (by omega), wcells_get, List.getD_eq_getElem?_getD, List.getElem?_eq_getElem hi]; rfl
theorem part_snoc (ws : List Int) (o j k : Nat) (hj : j < k) (hk : o + k ≤ ws.length) : (ws.drop o).take (j + 1) = (ws.drop o).take j ++ [ws.getD (o + j) 0] := by
  rw [List.take_succ_eq_append_getElem (by rw [List.length_drop]; omega), List.getElem_drop, List.getD_eq_getElem?_getD, List.getElem?_eq_getElem (by omega)]; rfl
theorem rep_snoc (j : Nat) : List.replicate (j + 1) (0 : Int) = List.replicate j 0 ++ [0] := List.replicate_succ'
end
end Go.Proofs.Ytnlimecbbockoaa
/- A call of both: the program and the reference come to the same, over the same list of words; and the law's own first calls come as the document says. -/
namespace Go.Proofs.Ytnlimecbbockoaa
open Go.RowKit

/-- Blocks b and d alone may have turned, and what is new. -/
structure Only (w w' : World) (b d : Nat) : Prop where
  os : w'.os = w.os
  tape : w'.tape = w.tape
  output : w'.output = w.output
  size : w.heap.size ≤ w'.heap.size
  block : ∀ k, k < w.heap.size → k ≠ b → k ≠ d → w'.heap[k]? = w.heap[k]?
section
variable {w w' w'' : World} {b d : Nat}
theorem Only.refl (w : World) (b d : Nat) : Only w w b d := ⟨rfl, rfl, rfl, Nat.le_refl _, fun _ _ _ _ => rfl⟩
theorem Only.trans (h : Only w w' b d) (k : Only w' w'' b d) : Only w w'' b d :=
  ⟨k.os.trans h.os, k.tape.trans h.tape, k.output.trans h.output, Nat.le_trans h.size k.size, fun i hi h1 h2 => (k.block i (Nat.lt_of_lt_of_le hi h.size) h1 h2).trans (h.block i hi h1 h2)⟩
theorem Only.alloc (h : Only w w' b d) (o : Obj) : Only w (w'.alloc o) b d :=
  h.trans ⟨rfl, rfl, rfl, by simp, fun k hk _ _ => Below.heap_alloc _ _ _ hk⟩
theorem Only.drew (h : Only w w' b d) : Only w w'.drew b d := ⟨h.os, h.tape, h.output, h.size, h.block⟩
theorem Only.left (h : w.grownBy w' (some b)) : Only w w' b d := ⟨h.os, h.tape, h.output, h.size, fun k hk h1 _ => h.block k hk (by intro e; injection e with e; exact h1 e)⟩
theorem Only.right (h : w.grownBy w' (some d)) : Only w w' b d := ⟨h.os, h.tape, h.output, h.size, fun k hk _ h1 => h.block k hk (by intro e; injection e with e; exact h1 e)⟩
theorem Only.below {B : Nat} {W : World} (h : Below B W w) (k : Only w w' b d) (hB : B ≤ w.heap.size) (hb : B ≤ b) (hd : B ≤ d) : Below B W w' :=
  h.trans ⟨k.os, k.tape, k.output, k.size, fun i hi => k.block i (by omega) (by omega) (by omega)⟩
theorem Only.of_below (h : Below w.heap.size w w') : Only w w' b d := ⟨h.os, h.tape, h.output, h.size, fun k hk _ _ => h.block k hk⟩
theorem Row.only {g : Nat} {t : TypeId} {vs : List Value} (h : Row w g t vs) (k : Only w w' b d) (h1 : g ≠ b) (h2 : g ≠ d) : Row w' g t vs := (k.block g h.lt h1 h2).trans h
end

/-- The five fields of a call in a block. -/
theorem keepBox {v v' : World} {g b : Nat} {x1 x2 x3 x4 : Value} (h : v.cell? ⟨g, 1, none⟩ = some x1 ∧ v.cell? ⟨g, 2, none⟩ = some x2 ∧ v.cell? ⟨g, 3, none⟩ = some x3 ∧ v.cell? ⟨g, 4, none⟩ = some x4) (hg : v.grownBy v' (some b)) (hne : g ≠ b) :
    v'.cell? ⟨g, 1, none⟩ = some x1 ∧ v'.cell? ⟨g, 2, none⟩ = some x2 ∧ v'.cell? ⟨g, 3, none⟩ = some x3 ∧ v'.cell? ⟨g, 4, none⟩ = some x4 := by
  have hlt : g < v.heap.size := World.block_lt_of_cell? v _ h.1
  have hb := hg.block g hlt (by intro e; injection e with e; exact hne e)
  exact ⟨(World.cell?_of_block (a := ⟨g, 1, none⟩) hb).trans h.1, (World.cell?_of_block (a := ⟨g, 2, none⟩) hb).trans h.2.1, (World.cell?_of_block (a := ⟨g, 3, none⟩) hb).trans h.2.2.1, (World.cell?_of_block (a := ⟨g, 4, none⟩) hb).trans h.2.2.2⟩

/-- What a call comes to. -/
def doL (ws : List Int) (K A B N V : Int) : List Int := if K = 0 ∨ K = 1 then stL ws A V else if K = 2 then zeL ws A N else cpL ws A B N
theorem doL_st {ws : List Int} {K A B N V : Int} (h : K = 0 ∨ K = 1) : doL ws K A B N V = stL ws A V := by simp [doL, h]
theorem doL_ze {ws : List Int} {K A B N V : Int} (h : K = 2) : doL ws K A B N V = zeL ws A N := by subst h; simp [doL]
theorem doL_cp {ws : List Int} {K A B N V : Int} (h0 : K ≠ 0) (h1 : K ≠ 1) (h2 : K ≠ 2) : doL ws K A B N V = cpL ws A B N := by simp [doL, h0, h1, h2]

section
variable {w : World} {a b c d n : Nat} {ws : List Int}
end
end Go.Proofs.Ytnlimecbbockoaa
