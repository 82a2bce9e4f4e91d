/- What comes in, opened: a call (five numbers), a list of calls, alone or in a struct. -/
import Derived.Test.YtfjphlickpgbnaaProg
import Derived.WalkKit
import Derived.WalkSpells
import Derived.Below
import Derived.ProofKit
import Derived.OpenShut
import Derived.Lib.SmallJoins
import Derived.Deep.Slices
import Derived.Deep.Fields
import Derived.ChangeSame
import Derived.Carry
namespace Go.Proofs.Ytfjphlickpgbnaa
open Go.RowKit

theorem laidOut : laidOutB Try.prog = true := by kernel_rfl
theorem own : ownKnob Try.prog.godebug = none := by kernel_rfl
theorem cellsAct : Try.prog.cellsOf 29 = 5 := by kernel_rfl
theorem cellsFour : Try.prog.cellsOf 45 = 4 := by kernel_rfl
theorem u8_lo {n : Int} (h : (Lit.int .u8 n).wf = true) : 0 ≤ n := by simp [Lit.wf, IntKind.min, IntKind.max, IntKind.signed, IntKind.bits] at h; omega
theorem u8_hi {n : Int} (h : (Lit.int .u8 n).wf = true) : n < 256 := by simp [Lit.wf, IntKind.min, IntKind.max, IntKind.signed, IntKind.bits] at h; omega
theorem i64_lo {n : Int} (h : (Lit.int .i64 n).wf = true) : -9223372036854775808 ≤ n := by simp [Lit.wf, IntKind.min, IntKind.max, IntKind.signed, IntKind.bits] at h; omega
theorem i64_hi {n : Int} (h : (Lit.int .i64 n).wf = true) : n ≤ 9223372036854775807 := by simp [Lit.wf, IntKind.min, IntKind.max, IntKind.signed, IntKind.bits] at h; omega
/-- A number of int's range. -/
def I64 (x : Int) : Prop := -9223372036854775808 ≤ x ∧ x ≤ 9223372036854775807
/-- Five cells that are a call. -/
def IsAct (c : Int × Int × Int × Int × Int) : Prop := I64 c.1 ∧ I64 c.2.1 ∧ I64 c.2.2.1 ∧ I64 c.2.2.2.1 ∧ I64 c.2.2.2.2
def actCells (c : Int × Int × Int × Int × Int) : List Value := [.int .i64 c.1, .int .i64 c.2.1, .int .i64 c.2.2.1, .int .i64 c.2.2.2.1, .int .i64 c.2.2.2.2]
/-- A call as it lies from an address on. -/
structure ActAt (w : World) (p : Addr) (c : Int × Int × Int × Int × Int) : Prop where
  c0 : w.cell? p = some (.int .i64 c.1)
  c1 : w.cell? ⟨p.block, p.off + 1, none⟩ = some (.int .i64 c.2.1)
  c2 : w.cell? ⟨p.block, p.off + 2, none⟩ = some (.int .i64 c.2.2.1)
  c3 : w.cell? ⟨p.block, p.off + 3, none⟩ = some (.int .i64 c.2.2.2.1)
  c4 : w.cell? ⟨p.block, p.off + 4, none⟩ = some (.int .i64 c.2.2.2.2)
/-- A list of calls as it lies below block b. -/
def Acts (w : World) (b : Nat) (A : Option Addr) (n : Nat) : Prop :=
  0 < n → ∃ a, A = some a ∧ a.block < b ∧ ∀ i, i < n → ∃ c, IsAct c ∧ ActAt w (a.add (i * 5)) c
theorem block_add (a : Addr) (n : Nat) : (a.add n).block = a.block := by unfold Addr.add; split <;> rfl
theorem Acts.below {w w' : World} {b n : Nat} {A : Option Addr} (h : Acts w b A n) (hb : Below b w w') : Acts w' b A n := fun hn => by
  obtain ⟨a, e, hlt, hc⟩ := h hn
  refine ⟨a, e, hlt, fun i hi => ?_⟩
  obtain ⟨c, ok, g⟩ := hc i hi
  have hp : (a.add (i * 5)).block < b := by rw [block_add]; exact hlt
  exact ⟨c, ok, (hb.cell hp).trans g.c0, (hb.cell (p := ⟨_, _, none⟩) hp).trans g.c1, (hb.cell (p := ⟨_, _, none⟩) hp).trans g.c2, (hb.cell (p := ⟨_, _, none⟩) hp).trans g.c3, (hb.cell (p := ⟨_, _, none⟩) hp).trans g.c4⟩
section
open Go.Joins Go.ChangeShapes Go.WideShapes Go.ChangeAt Go.RowKit Go.Deep
variable {H : Type} {enc : TypeId × Value → H} {P : Program} {w : World} {base : Nat} {spare : Nat → Bool} {held : Bool}
/-- A struct of one-cell fields that reads: each of its cells reads as its field. -/
theorem cell_reads {e : TypeId} {fs : Array Field} {fuel : Nat} {cs : List Value} {x : DataW H × List MemPlace} (he : P.underlying e = some (.struct fs)) (hone : oneCellFields P fs = true) (hC : P.cellsOf e = fs.size)
    (h : DataW.trod enc P w base spare held fuel e cs = some x) (j : Nat) (f : Field) (hj : fs[j]? = some f) : ∃ c n y, cs[j]? = some c ∧ DataW.trod enc P w base spare held n f.type [c] = some y := by
  obtain ⟨xs, n, _, _, hl, hxl, hf⟩ := DataW.trod_struct he h
  have hjl : j < fs.size := (Array.getElem?_eq_some_iff.1 hj).1
  have hc : j < cs.length := by rw [hl, hC]; exact hjl
  have hr := hf j f hj
  obtain ⟨ho, hk⟩ := hone_of hone j f hj
  rw [ho, hk, List.drop_eq_getElem_cons hc, List.take_succ_cons, List.take_zero, List.getElem?_eq_getElem (by omega)] at hr
  exact ⟨cs[j], n, _, List.getElem?_eq_getElem hc, hr⟩
theorem cell_int {e : TypeId} {fs : Array Field} {fuel : Nat} {cs : List Value} {x : DataW H × List MemPlace} (he : P.underlying e = some (.struct fs)) (hone : oneCellFields P fs = true) (hC : P.cellsOf e = fs.size)
    (h : DataW.trod enc P w base spare held fuel e cs = some x) (j : Nat) (f : Field) (hj : fs[j]? = some f) (k : IntKind) (ht : P.underlying f.type = some (.int k)) : ∃ v, cs[j]? = some (.int k v) ∧ (Lit.int k v).wf = true := by
  obtain ⟨c, n, y, hc, hy⟩ := cell_reads he hone hC h j f hj
  obtain ⟨v, e1, _, wf⟩ := DataW.trod_int ht hy
  simp only [List.cons.injEq, and_true] at e1
  subst e1
  exact ⟨v, hc, wf⟩
theorem list5 {cs : List Value} {a b c d e : Value} (hl : cs.length = 5) (h0 : cs[0]? = some a) (h1 : cs[1]? = some b) (h2 : cs[2]? = some c) (h3 : cs[3]? = some d) (h4 : cs[4]? = some e) : cs = [a, b, c, d, e] := by
  match cs, hl with
  | [_, _, _, _, _], _ => simp at h0 h1 h2 h3 h4; subst h0 h1 h2 h3 h4; rfl
theorem list4 {cs : List Value} {a b c d : Value} (hl : cs.length = 4) (h0 : cs[0]? = some a) (h1 : cs[1]? = some b) (h2 : cs[2]? = some c) (h3 : cs[3]? = some d) : cs = [a, b, c, d] := by
  match cs, hl with
  | [_, _, _, _], _ => simp at h0 h1 h2 h3; subst h0 h1 h2 h3; rfl
theorem act_cells {fuel : Nat} {cs : List Value} {x : DataW H × List MemPlace} (h : DataW.trod enc Try.prog w base spare held fuel 29 cs = some x) : ∃ c, cs = actCells c ∧ IsAct c := by
  have hl : cs.length = 5 := by
    obtain ⟨_, _, _, _, hl, _⟩ := DataW.trod_struct Try.underlying29 h
    rw [hl]; exact cellsAct
  obtain ⟨K, h0, w0⟩ := cell_int Try.underlying29 (by kernel_rfl) cellsAct h 0 _ rfl .i64 Try.underlying3
  obtain ⟨A, h1, w1⟩ := cell_int Try.underlying29 (by kernel_rfl) cellsAct h 1 _ rfl .i64 Try.underlying3
  obtain ⟨B, h2, w2⟩ := cell_int Try.underlying29 (by kernel_rfl) cellsAct h 2 _ rfl .i64 Try.underlying3
  obtain ⟨N, h3, w3⟩ := cell_int Try.underlying29 (by kernel_rfl) cellsAct h 3 _ rfl .i64 Try.underlying3
  obtain ⟨V, h4, w4⟩ := cell_int Try.underlying29 (by kernel_rfl) cellsAct h 4 _ rfl .i64 Try.underlying3
  exact ⟨(K, A, B, N, V), list5 hl h0 h1 h2 h3 h4, ⟨i64_lo w0, i64_hi w0⟩, ⟨i64_lo w1, i64_hi w1⟩, ⟨i64_lo w2, i64_hi w2⟩, ⟨i64_lo w3, i64_hi w3⟩, i64_lo w4, i64_hi w4⟩
set_option maxRecDepth 100000 in
theorem open_act {r : Reach} {b0 : Nat} {v : Value} {x : DataW H} {ps : List MemPlace} (hv : Value.okWide Try.prog w r b0 29 v) (h : DataW.Trod enc Try.prog w base spare held 29 v x ps) :
    ∃ c : Int × Int × Int × Int × Int, v = .agg #[.int .i64 c.1, .int .i64 c.2.1, .int .i64 c.2.2.1, .int .i64 c.2.2.2.1, .int .i64 c.2.2.2.2] ∧ IsAct c := by
  obtain ⟨cs, rfl, _⟩ := okWide_struct Try.underlying29 hv
  obtain ⟨l⟩ := cs
  obtain ⟨fuel, hf⟩ := h
  obtain ⟨c, hc, hi⟩ := act_cells (cs := l) (by simpa [Value.cells] using hf)
  subst hc
  exact ⟨c, rfl, hi⟩
theorem add_at (a : Addr) (j : Nat) (h : 0 < j) : a.add j = ⟨a.block, a.off + j, none⟩ := by unfold Addr.add; rw [if_neg (by omega)]
theorem act_at {p : Addr} {cs : List Value} {fuel : Nat} {x : DataW H × List MemPlace} (hc : w.cells? base p 5 = some cs) (ht : DataW.trod enc Try.prog w base spare held fuel 29 cs = some x) :
    ∃ c, IsAct c ∧ ActAt w p c := by
  obtain ⟨_, hl, hcell⟩ := World.cells?_some hc
  obtain ⟨c, rfl, ok⟩ := act_cells ht
  refine ⟨c, ok, ?_, ?_, ?_, ?_, ?_⟩
  · have := hcell 0 (by omega); simpa [Addr.add, actCells] using this
  · have := hcell 1 (by omega); rw [add_at p 1 (by omega)] at this; exact this
  · have := hcell 2 (by omega); rw [add_at p 2 (by omega)] at this; exact this
  · have := hcell 3 (by omega); rw [add_at p 3 (by omega)] at this; exact this
  · have := hcell 4 (by omega); rw [add_at p 4 (by omega)] at this; exact this
theorem acts_of {fuel : Nat} {cs : List Value} {x : DataW H × List MemPlace} (h : DataW.trod enc Try.prog w base spare held fuel 22 cs = some x) :
    ∃ A n c, cs = [.slice A n c] ∧ n ≤ maxLen ∧ Acts w w.heap.size A n := by
  rcases DataW.trod_slice Try.underlying22 h with ⟨rfl, _⟩ | ⟨a, len, cap, elems, rest, m, _, rfl, _, _, hlc, hcap, hlen, hel, _⟩
  · exact ⟨none, 0, 0, rfl, Nat.zero_le _, fun h0 => absurd h0 (Nat.lt_irrefl 0)⟩
  · have hat : ∀ i, i < len → ∃ c, IsAct c ∧ ActAt w (a.add (i * 5)) c := fun i hi => by
      have he := hel i hi
      rw [List.getElem?_eq_getElem (by omega), cellsAct] at he
      obtain ⟨cs', hc, ht⟩ := Option.bind_eq_some_iff.1 he
      exact act_at hc ht
    refine ⟨some a, len, cap, rfl, Nat.le_trans hlc hcap, fun h0 => ⟨a, rfl, ?_, hat⟩⟩
    obtain ⟨_, _, g⟩ := hat 0 h0
    have := World.block_lt_of_cell? w _ g.c0
    rwa [block_add] at this
set_option maxRecDepth 100000 in
theorem open_acts {r : Reach} {b0 : Nat} {v : Value} {x : DataW H} {ps : List MemPlace} (hv : Value.okWide Try.prog w r b0 22 v) (h : DataW.Trod enc Try.prog w base spare held 22 v x ps) :
    ∃ A n c, v = .slice A n c ∧ n ≤ maxLen ∧ Acts w w.heap.size A n := by
  obtain ⟨A, n, c, rfl⟩ := okWide_slice Try.underlying22 hv
  obtain ⟨fuel, hf⟩ := h
  obtain ⟨A', n', c', e, hn, ha⟩ := acts_of hf
  simp only [Value.cells] at e
  injection e with e
  injection e with e1 e2 e3
  subst e1 e2 e3
  exact ⟨_, _, _, rfl, hn, ha⟩
set_option maxRecDepth 100000 in
theorem open_four {r : Reach} {b0 : Nat} {v : Value} {x : DataW H} {ps : List MemPlace} (hv : Value.okWide Try.prog w r b0 45 v) (h : DataW.Trod enc Try.prog w base spare held 45 v x ps) :
    ∃ A n c, ∃ f t k : Int, v = .agg #[.int .i64 f, .slice A n c, .int .u8 t, .int .u8 k] ∧ n ≤ maxLen ∧ Acts w w.heap.size A n ∧ I64 f ∧ (0 ≤ t ∧ t < 256) ∧ 0 ≤ k ∧ k < 256 := by
  obtain ⟨cs, rfl, hl⟩ := okWide_struct Try.underlying45 hv
  obtain ⟨l⟩ := cs
  obtain ⟨fuel, hf⟩ := h
  have hf' : DataW.trod enc Try.prog w base spare held fuel 45 l = some (x, ps) := by simpa [Value.cells] using hf
  obtain ⟨f, h0, w0⟩ := cell_int Try.underlying45 (by kernel_rfl) cellsFour hf' 0 _ rfl .i64 Try.underlying3
  obtain ⟨s, n0, y0, h1, t1⟩ := cell_reads Try.underlying45 (by kernel_rfl) cellsFour hf' 1 _ rfl
  obtain ⟨A, n, c, e, hn, ha⟩ := acts_of t1
  injection e with e
  subst e
  obtain ⟨t, h2, w2⟩ := cell_int Try.underlying45 (by kernel_rfl) cellsFour hf' 2 _ rfl .u8 Try.underlying5
  obtain ⟨k, h3, w3⟩ := cell_int Try.underlying45 (by kernel_rfl) cellsFour hf' 3 _ rfl .u8 Try.underlying5
  have hl4 : l = _ := list4 (by simpa [cellsFour] using hl) h0 h1 h2 h3
  subst hl4
  exact ⟨A, n, c, f, t, k, rfl, hn, ha, ⟨i64_lo w0, i64_hi w0⟩, ⟨u8_lo w2, u8_hi w2⟩, u8_lo w3, u8_hi w3⟩
end
end Go.Proofs.Ytfjphlickpgbnaa
