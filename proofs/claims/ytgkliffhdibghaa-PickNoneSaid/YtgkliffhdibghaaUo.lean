/- What comes in, opened: a call (three numbers), a list of calls, a list of numbers. -/
import Derived.Test.YtgkliffhdibghaaProg
import Derived.WalkKit
import Derived.WalkSpells
import Derived.Below
import Derived.ProofKit
import Derived.OpenShut
import Derived.Lib.SmallJoins
import Derived.Deep.Slices
import Derived.Deep.Fields
import Derived.ChangeSame
import Derived.Carry
namespace Go.Proofs.Ytgkliffhdibghaa
open Go.RowKit

theorem laidOut : laidOutB Try.prog = true := by kernel_rfl
theorem own : ownKnob Try.prog.godebug = none := by kernel_rfl
theorem cellsAct : Try.prog.cellsOf 31 = 3 := by kernel_rfl
theorem u8_lo {n : Int} (h : (Lit.int .u8 n).wf = true) : 0 ≤ n := by simp [Lit.wf, IntKind.min, IntKind.max, IntKind.signed, IntKind.bits] at h; omega
theorem u8_hi {n : Int} (h : (Lit.int .u8 n).wf = true) : n < 256 := by simp [Lit.wf, IntKind.min, IntKind.max, IntKind.signed, IntKind.bits] at h; omega
theorem i64_lo {n : Int} (h : (Lit.int .i64 n).wf = true) : -9223372036854775808 ≤ n := by simp [Lit.wf, IntKind.min, IntKind.max, IntKind.signed, IntKind.bits] at h; omega
theorem i64_hi {n : Int} (h : (Lit.int .i64 n).wf = true) : n ≤ 9223372036854775807 := by simp [Lit.wf, IntKind.min, IntKind.max, IntKind.signed, IntKind.bits] at h; omega
/-- A number of int's range. -/
def I64 (x : Int) : Prop := -9223372036854775808 ≤ x ∧ x ≤ 9223372036854775807
/-- Three cells that are a call. -/
def IsAct (c : Int × Int × Int) : Prop := I64 c.1 ∧ I64 c.2.1 ∧ I64 c.2.2
def actCells (c : Int × Int × Int) : List Value := [.int .i64 c.1, .int .i64 c.2.1, .int .i64 c.2.2]
/-- A call as it lies from an address on. -/
structure ActAt (w : World) (p : Addr) (c : Int × Int × Int) : Prop where
  c0 : w.cell? p = some (.int .i64 c.1)
  c1 : w.cell? ⟨p.block, p.off + 1, none⟩ = some (.int .i64 c.2.1)
  c2 : w.cell? ⟨p.block, p.off + 2, none⟩ = some (.int .i64 c.2.2)
/-- A list of calls as it lies below block b. -/
def Acts (w : World) (b : Nat) (A : Option Addr) (n : Nat) : Prop :=
  0 < n → ∃ a, A = some a ∧ a.block < b ∧ ∀ i, i < n → ∃ c, IsAct c ∧ ActAt w (a.add (i * 3)) c
theorem block_add (a : Addr) (n : Nat) : (a.add n).block = a.block := by unfold Addr.add; split <;> rfl
theorem Acts.below {w w' : World} {b n : Nat} {A : Option Addr} (h : Acts w b A n) (hb : Below b w w') : Acts w' b A n := fun hn => by
  obtain ⟨a, e, hlt, hc⟩ := h hn
  refine ⟨a, e, hlt, fun i hi => ?_⟩
  obtain ⟨c, ok, g⟩ := hc i hi
  have hp : (a.add (i * 3)).block < b := by rw [block_add]; exact hlt
  exact ⟨c, ok, (hb.cell hp).trans g.c0, (hb.cell (p := ⟨_, _, none⟩) hp).trans g.c1, (hb.cell (p := ⟨_, _, none⟩) hp).trans g.c2⟩
def Nums (w : World) (b : Nat) (A : Option Addr) (n : Nat) : Prop :=
  0 < n → ∃ a, A = some a ∧ a.block < b ∧ ∀ i, i < n → ∃ z : Int, I64 z ∧ w.cell? (a.add i) = some (.int .i64 z)
theorem Nums.below {w w' : World} {b n : Nat} {A : Option Addr} (h : Nums w b A n) (hb : Below b w w') : Nums w' b A n := fun hn => by
  obtain ⟨a, e, hlt, hc⟩ := h hn
  refine ⟨a, e, hlt, fun i hi => ?_⟩
  obtain ⟨c, ok, g⟩ := hc i hi
  exact ⟨c, ok, (hb.cell (by rw [block_add]; exact hlt)).trans g⟩
section
open Go.Joins Go.ChangeShapes Go.WideShapes Go.ChangeAt Go.RowKit Go.Deep
variable {H : Type} {enc : TypeId × Value → H} {P : Program} {w : World} {base : Nat} {spare : Nat → Bool} {held : Bool}
/-- A struct of one-cell fields that reads: each of its cells reads as its field. -/
theorem cell_reads {e : TypeId} {fs : Array Field} {fuel : Nat} {cs : List Value} {x : DataW H × List MemPlace} (he : P.underlying e = some (.struct fs)) (hone : oneCellFields P fs = true) (hC : P.cellsOf e = fs.size)
    (h : DataW.trod enc P w base spare held fuel e cs = some x) (j : Nat) (f : Field) (hj : fs[j]? = some f) : ∃ c n y, cs[j]? = some c ∧ DataW.trod enc P w base spare held n f.type [c] = some y := by
  obtain ⟨xs, n, _, _, hl, hxl, hf⟩ := DataW.trod_struct he h
  have hjl : j < fs.size := (Array.getElem?_eq_some_iff.1 hj).1
  have hc : j < cs.length := by rw [hl, hC]; exact hjl
  have hr := hf j f hj
  obtain ⟨ho, hk⟩ := hone_of hone j f hj
  rw [ho, hk, List.drop_eq_getElem_cons hc, List.take_succ_cons, List.take_zero, List.getElem?_eq_getElem (by omega)] at hr
  exact ⟨cs[j], n, _, List.getElem?_eq_getElem hc, hr⟩
theorem cell_int {e : TypeId} {fs : Array Field} {fuel : Nat} {cs : List Value} {x : DataW H × List MemPlace} (he : P.underlying e = some (.struct fs)) (hone : oneCellFields P fs = true) (hC : P.cellsOf e = fs.size)
    (h : DataW.trod enc P w base spare held fuel e cs = some x) (j : Nat) (f : Field) (hj : fs[j]? = some f) (k : IntKind) (ht : P.underlying f.type = some (.int k)) : ∃ v, cs[j]? = some (.int k v) ∧ (Lit.int k v).wf = true := by
  obtain ⟨c, n, y, hc, hy⟩ := cell_reads he hone hC h j f hj
  obtain ⟨v, e1, _, wf⟩ := DataW.trod_int ht hy
  simp only [List.cons.injEq, and_true] at e1
  subst e1
  exact ⟨v, hc, wf⟩
theorem list3 {cs : List Value} {a b c : Value} (hl : cs.length = 3) (h0 : cs[0]? = some a) (h1 : cs[1]? = some b) (h2 : cs[2]? = some c) : cs = [a, b, c] := by
  match cs, hl with
  | [_, _, _], _ => simp at h0 h1 h2; subst h0 h1 h2; rfl
theorem act_cells {fuel : Nat} {cs : List Value} {x : DataW H × List MemPlace} (h : DataW.trod enc Try.prog w base spare held fuel 31 cs = some x) : ∃ c, cs = actCells c ∧ IsAct c := by
  have hl : cs.length = 3 := by
    obtain ⟨_, _, _, _, hl, _⟩ := DataW.trod_struct Try.underlying31 h
    rw [hl]; exact cellsAct
  obtain ⟨K, h0, w0⟩ := cell_int Try.underlying31 (by kernel_rfl) cellsAct h 0 _ rfl .i64 Try.underlying3
  obtain ⟨A, h1, w1⟩ := cell_int Try.underlying31 (by kernel_rfl) cellsAct h 1 _ rfl .i64 Try.underlying3
  obtain ⟨B, h2, w2⟩ := cell_int Try.underlying31 (by kernel_rfl) cellsAct h 2 _ rfl .i64 Try.underlying3
  exact ⟨(K, A, B), list3 hl h0 h1 h2, ⟨i64_lo w0, i64_hi w0⟩, ⟨i64_lo w1, i64_hi w1⟩, i64_lo w2, i64_hi w2⟩
set_option maxRecDepth 100000 in
theorem open_act {r : Reach} {b0 : Nat} {v : Value} {x : DataW H} {ps : List MemPlace} (hv : Value.okWide Try.prog w r b0 31 v) (h : DataW.Trod enc Try.prog w base spare held 31 v x ps) :
    ∃ c : Int × Int × Int, v = .agg #[.int .i64 c.1, .int .i64 c.2.1, .int .i64 c.2.2] ∧ IsAct c := by
  obtain ⟨cs, rfl, _⟩ := okWide_struct Try.underlying31 hv
  obtain ⟨l⟩ := cs
  obtain ⟨fuel, hf⟩ := h
  obtain ⟨c, hc, hi⟩ := act_cells (cs := l) (by simpa [Value.cells] using hf)
  subst hc
  exact ⟨c, rfl, hi⟩
theorem add_at (a : Addr) (j : Nat) (h : 0 < j) : a.add j = ⟨a.block, a.off + j, none⟩ := by unfold Addr.add; rw [if_neg (by omega)]
theorem act_at {p : Addr} {cs : List Value} {fuel : Nat} {x : DataW H × List MemPlace} (hc : w.cells? base p 3 = some cs) (ht : DataW.trod enc Try.prog w base spare held fuel 31 cs = some x) :
    ∃ c, IsAct c ∧ ActAt w p c := by
  obtain ⟨_, hl, hcell⟩ := World.cells?_some hc
  obtain ⟨c, rfl, ok⟩ := act_cells ht
  refine ⟨c, ok, ?_, ?_, ?_⟩
  · have := hcell 0 (by omega); simpa [Addr.add, actCells] using this
  · have := hcell 1 (by omega); rw [add_at p 1 (by omega)] at this; exact this
  · have := hcell 2 (by omega); rw [add_at p 2 (by omega)] at this; exact this
theorem acts_of {fuel : Nat} {cs : List Value} {x : DataW H × List MemPlace} (h : DataW.trod enc Try.prog w base spare held fuel 22 cs = some x) :
    ∃ A n c, cs = [.slice A n c] ∧ n ≤ maxLen ∧ Acts w w.heap.size A n := by
  rcases DataW.trod_slice Try.underlying22 h with ⟨rfl, _⟩ | ⟨a, len, cap, elems, rest, m, _, rfl, _, _, hlc, hcap, hlen, hel, _⟩
  · exact ⟨none, 0, 0, rfl, Nat.zero_le _, fun h0 => absurd h0 (Nat.lt_irrefl 0)⟩
  · have hat : ∀ i, i < len → ∃ c, IsAct c ∧ ActAt w (a.add (i * 3)) c := fun i hi => by
      have he := hel i hi
      rw [List.getElem?_eq_getElem (by omega), cellsAct] at he
      obtain ⟨cs', hc, ht⟩ := Option.bind_eq_some_iff.1 he
      exact act_at hc ht
    refine ⟨some a, len, cap, rfl, Nat.le_trans hlc hcap, fun h0 => ⟨a, rfl, ?_, hat⟩⟩
    obtain ⟨_, _, g⟩ := hat 0 h0
    have := World.block_lt_of_cell? w _ g.c0
    rwa [block_add] at this
set_option maxRecDepth 100000 in
theorem open_acts {r : Reach} {b0 : Nat} {v : Value} {x : DataW H} {ps : List MemPlace} (hv : Value.okWide Try.prog w r b0 22 v) (h : DataW.Trod enc Try.prog w base spare held 22 v x ps) :
    ∃ A n c, v = .slice A n c ∧ n ≤ maxLen ∧ Acts w w.heap.size A n := by
  obtain ⟨A, n, c, rfl⟩ := okWide_slice Try.underlying22 hv
  obtain ⟨fuel, hf⟩ := h
  obtain ⟨A', n', c', e, hn, ha⟩ := acts_of hf
  simp only [Value.cells] at e
  injection e with e
  injection e with e1 e2 e3
  subst e1 e2 e3
  exact ⟨_, _, _, rfl, hn, ha⟩
/-- A list of numbers as it lies below block b. -/
theorem cellsInt : Try.prog.cellsOf 3 = 1 := by kernel_rfl
theorem open_nums {r : Reach} {b0 : Nat} {v : Value} {x : DataW H} {ps : List MemPlace} (hv : Value.okWide Try.prog w r b0 47 v) (h : DataW.Trod enc Try.prog w base spare held 47 v x ps) :
    ∃ A n c, v = .slice A n c ∧ n ≤ maxLen ∧ Nums w w.heap.size A n := by
  obtain ⟨A, n, c, rfl⟩ := okWide_slice Try.underlying47 hv
  obtain ⟨fuel, hf⟩ := h
  rcases open_ints Try.underlying47 Try.underlying3 cellsInt hf with ⟨e, _⟩ | ⟨a, len, cap, zs, e, _, hlc, hcap, hlen, _, hc, hwf⟩
  · simp only [Value.cells] at e
    injection e with e
    injection e with e1 e2 e3
    subst e1 e2 e3
    exact ⟨_, _, _, rfl, Nat.zero_le _, fun h0 => absurd h0 (Nat.lt_irrefl 0)⟩
  · simp only [Value.cells] at e
    injection e with e
    injection e with e1 e2 e3
    subst e1 e2 e3
    have hl : n ≤ zs.length := by rw [hlen]; split <;> omega
    refine ⟨_, _, _, rfl, Nat.le_trans hlc hcap, fun h0 => ⟨a, rfl, ?_, fun j hj => ⟨zs.getD j 0, ?_, hc j (by omega)⟩⟩⟩
    · have := World.block_lt_of_cell? w _ (hc 0 (by omega))
      rwa [block_add] at this
    · have hm : zs.getD j 0 ∈ zs := by rw [List.getD_eq_getElem?_getD, List.getElem?_eq_getElem (by omega)]; exact List.getElem_mem _
      exact ⟨i64_lo (hwf _ hm), i64_hi (hwf _ hm)⟩
end
end Go.Proofs.Ytgkliffhdibghaa
