/- A list of calls that comes in, alone or in a struct, opened. -/
import Derived.Test.YtlenoofhognmmaaRo
namespace Go.Proofs.Ytlenoofhognmmaa
open Go.RowKit
section
open Go.Joins Go.ChangeShapes Go.WideShapes Go.ChangeAt Go.RowKit Go.Deep
variable {H : Type} {enc : TypeId × Value → H} {w : World} {base : Nat} {spare : Nat → Bool} {held : Bool}
theorem add_at (a : Addr) (j : Nat) (h : 0 < j) : a.add j = ⟨a.block, a.off + j, none⟩ := by unfold Addr.add; rw [if_neg (by omega)]
theorem act_at {p : Addr} {cs : List Value} {fuel : Nat} {x : DataW H × List MemPlace} (hc : w.cells? base p 5 = some cs) (ht : DataW.trod enc Try.prog w base spare held fuel 34 cs = some x) :
    ∃ K A B N V : Int, IsAct (K, A, B, N, V) ∧ ActAt w p K A B N V := by
  obtain ⟨_, hl, hcell⟩ := World.cells?_some hc
  obtain ⟨⟨K, A, B, N, V⟩, rfl, ok⟩ := act_cells ht
  refine ⟨K, A, B, N, V, ok, ?_, ?_, ?_, ?_, ?_⟩
  · have := hcell 0 (by omega); simpa [Addr.add, actCells] using this
  · have := hcell 1 (by omega); rw [add_at p 1 (by omega)] at this; exact this
  · have := hcell 2 (by omega); rw [add_at p 2 (by omega)] at this; exact this
  · have := hcell 3 (by omega); rw [add_at p 3 (by omega)] at this; exact this
  · have := hcell 4 (by omega); rw [add_at p 4 (by omega)] at this; exact this
theorem acts_of {fuel : Nat} {cs : List Value} {x : DataW H × List MemPlace} (h : DataW.trod enc Try.prog w base spare held fuel 22 cs = some x) :
    ∃ A n c, cs = [.slice A n c] ∧ n ≤ maxLen ∧ Acts w w.heap.size A n := by
  rcases DataW.trod_slice Try.underlying22 h with ⟨rfl, _⟩ | ⟨a, len, cap, elems, rest, m, _, rfl, _, _, hlc, hcap, hlen, hel, _⟩
  · exact ⟨none, 0, 0, rfl, Nat.zero_le _, fun h0 => absurd h0 (Nat.lt_irrefl 0)⟩
  · have hat : ∀ i, i < len → ∃ K A B N V : Int, IsAct (K, A, B, N, V) ∧ ActAt w (a.add (i * 5)) K A B N V := fun i hi => by
      have he := hel i hi
      rw [List.getElem?_eq_getElem (by omega), cellsAct] at he
      obtain ⟨cs', hc, ht⟩ := Option.bind_eq_some_iff.1 he
      exact act_at hc ht
    refine ⟨some a, len, cap, rfl, Nat.le_trans hlc hcap, fun h0 => ⟨a, rfl, ?_, hat⟩⟩
    obtain ⟨_, _, _, _, _, _, g⟩ := hat 0 h0
    have := World.block_lt_of_cell? w _ g.c0
    rwa [block_add] at this
theorem open_acts {r : Reach} {b0 : Nat} {v : Value} {x : DataW H} {ps : List MemPlace} (hv : Value.okWide Try.prog w r b0 22 v) (h : DataW.Trod enc Try.prog w base spare held 22 v x ps) :
    ∃ A n c, v = .slice A n c ∧ n ≤ maxLen ∧ Acts w w.heap.size A n := by
  obtain ⟨A, n, c, rfl⟩ := okWide_slice Try.underlying22 hv
  obtain ⟨fuel, hf⟩ := h
  obtain ⟨A', n', c', e, hn, ha⟩ := acts_of hf
  simp only [Value.cells] at e
  injection e with e
  injection e with e1 e2 e3
  subst e1 e2 e3
  exact ⟨_, _, _, rfl, hn, ha⟩
theorem open_four {r : Reach} {b0 : Nat} {v : Value} {x : DataW H} {ps : List MemPlace} (hv : Value.okWide Try.prog w r b0 50 v) (h : DataW.Trod enc Try.prog w base spare held 50 v x ps) :
    ∃ A n c, ∃ t f k : Int, v = .agg #[.slice A n c, .int .u8 t, .int .u8 f, .int .u8 k] ∧ Acts w w.heap.size A n ∧ (0 ≤ t ∧ t < 256) ∧ (0 ≤ f ∧ f < 256) ∧ 0 ≤ k ∧ k < 256 := by
  obtain ⟨cs, rfl, hl⟩ := okWide_struct Try.underlying50 hv
  obtain ⟨l⟩ := cs
  obtain ⟨fuel, hf⟩ := h
  have hf' : DataW.trod enc Try.prog w base spare held fuel 50 l = some (x, ps) := by simpa [Value.cells] using hf
  obtain ⟨s, n0, y0, h0, t0⟩ := cell_reads Try.underlying50 (by kernel_rfl) cellsFour hf' 0 _ rfl
  obtain ⟨A, n, c, e, _, ha⟩ := acts_of t0
  injection e with e
  subst e
  obtain ⟨t, h1, w1⟩ := cell_int Try.underlying50 (by kernel_rfl) cellsFour hf' 1 _ rfl .u8 Try.underlying5
  obtain ⟨f, h2, w2⟩ := cell_int Try.underlying50 (by kernel_rfl) cellsFour hf' 2 _ rfl .u8 Try.underlying5
  obtain ⟨k, h3, w3⟩ := cell_int Try.underlying50 (by kernel_rfl) cellsFour hf' 3 _ rfl .u8 Try.underlying5
  have hl4 : l = _ := list4 (by simpa [cellsFour] using hl) h0 h1 h2 h3
  subst hl4
  exact ⟨A, n, c, t, f, k, rfl, ha, ⟨u8_lo w1, u8_hi w1⟩, ⟨u8_lo w2, u8_hi w2⟩, u8_lo w3, u8_hi w3⟩
end
end Go.Proofs.Ytlenoofhognmmaa
