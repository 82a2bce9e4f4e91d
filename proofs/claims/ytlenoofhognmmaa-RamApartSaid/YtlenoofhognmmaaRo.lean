/- What comes in, opened: a call (five numbers), two places and two words, a list of calls. -/
import Derived.Test.YtlenoofhognmmaaRn
import Derived.ProofKit
import Derived.OpenShut
import Derived.Lib.SmallJoins
import Derived.Deep.Slices
import Derived.Deep.Fields
import Derived.ChangeSame
import Derived.Carry
namespace Go.Proofs.Ytlenoofhognmmaa
open Go.RowKit

theorem laidOut : laidOutB Try.prog = true := by kernel_rfl
theorem own : ownKnob Try.prog.godebug = none := by kernel_rfl
theorem cellsAct : Try.prog.cellsOf 34 = 5 := by kernel_rfl
theorem cellsTwo : Try.prog.cellsOf 55 = 4 := by kernel_rfl
theorem cellsFour : Try.prog.cellsOf 50 = 4 := by kernel_rfl

theorem u64_lo {n : Int} (h : (Lit.int .u64 n).wf = true) : 0 ≤ n := by simp [Lit.wf, IntKind.min, IntKind.max, IntKind.signed, IntKind.bits] at h; omega
theorem u64_hi {n : Int} (h : (Lit.int .u64 n).wf = true) : n < 18446744073709551616 := by simp [Lit.wf, IntKind.min, IntKind.max, IntKind.signed, IntKind.bits] at h; omega
theorem u16_lo {n : Int} (h : (Lit.int .u16 n).wf = true) : 0 ≤ n := by simp [Lit.wf, IntKind.min, IntKind.max, IntKind.signed, IntKind.bits] at h; omega
theorem u16_hi {n : Int} (h : (Lit.int .u16 n).wf = true) : n < 65536 := by simp [Lit.wf, IntKind.min, IntKind.max, IntKind.signed, IntKind.bits] at h; omega
theorem u8_lo {n : Int} (h : (Lit.int .u8 n).wf = true) : 0 ≤ n := by simp [Lit.wf, IntKind.min, IntKind.max, IntKind.signed, IntKind.bits] at h; omega
theorem u8_hi {n : Int} (h : (Lit.int .u8 n).wf = true) : n < 256 := by simp [Lit.wf, IntKind.min, IntKind.max, IntKind.signed, IntKind.bits] at h; omega
theorem i64_lo {n : Int} (h : (Lit.int .i64 n).wf = true) : -9223372036854775808 ≤ n := by simp [Lit.wf, IntKind.min, IntKind.max, IntKind.signed, IntKind.bits] at h; omega
theorem i64_hi {n : Int} (h : (Lit.int .i64 n).wf = true) : n ≤ 9223372036854775807 := by simp [Lit.wf, IntKind.min, IntKind.max, IntKind.signed, IntKind.bits] at h; omega

section
open Go.Joins Go.ChangeShapes Go.WideShapes Go.ChangeAt Go.RowKit Go.Deep
variable {H : Type} {enc : TypeId × Value → H} {P : Program} {w : World} {base : Nat} {spare : Nat → Bool} {held : Bool}
/-- A struct of one-cell fields that reads: each of its cells reads as its field. -/
theorem cell_reads {e : TypeId} {fs : Array Field} {fuel : Nat} {cs : List Value} {x : DataW H × List MemPlace} (he : P.underlying e = some (.struct fs)) (hone : oneCellFields P fs = true) (hC : P.cellsOf e = fs.size)
    (h : DataW.trod enc P w base spare held fuel e cs = some x) (j : Nat) (f : Field) (hj : fs[j]? = some f) : ∃ c n y, cs[j]? = some c ∧ DataW.trod enc P w base spare held n f.type [c] = some y := by
  obtain ⟨xs, n, _, _, hl, hxl, hf⟩ := DataW.trod_struct he h
  have hjl : j < fs.size := (Array.getElem?_eq_some_iff.1 hj).1
  have hc : j < cs.length := by rw [hl, hC]; exact hjl
  have hr := hf j f hj
  obtain ⟨ho, hk⟩ := hone_of hone j f hj
  rw [ho, hk, List.drop_eq_getElem_cons hc, List.take_succ_cons, List.take_zero, List.getElem?_eq_getElem (by omega)] at hr
  exact ⟨cs[j], n, _, List.getElem?_eq_getElem hc, hr⟩
theorem cell_int {e : TypeId} {fs : Array Field} {fuel : Nat} {cs : List Value} {x : DataW H × List MemPlace} (he : P.underlying e = some (.struct fs)) (hone : oneCellFields P fs = true) (hC : P.cellsOf e = fs.size)
    (h : DataW.trod enc P w base spare held fuel e cs = some x) (j : Nat) (f : Field) (hj : fs[j]? = some f) (k : IntKind) (ht : P.underlying f.type = some (.int k)) : ∃ v, cs[j]? = some (.int k v) ∧ (Lit.int k v).wf = true := by
  obtain ⟨c, n, y, hc, hy⟩ := cell_reads he hone hC h j f hj
  obtain ⟨v, e1, _, wf⟩ := DataW.trod_int ht hy
  simp only [List.cons.injEq, and_true] at e1
  subst e1
  exact ⟨v, hc, wf⟩
def actCells (c : Int × Int × Int × Int × Int) : List Value := [.int .i64 c.1, .int .i64 c.2.1, .int .i64 c.2.2.1, .int .i64 c.2.2.2.1, .int .u64 c.2.2.2.2]
theorem list5 {cs : List Value} {a b c d e : Value} (hl : cs.length = 5) (h0 : cs[0]? = some a) (h1 : cs[1]? = some b) (h2 : cs[2]? = some c) (h3 : cs[3]? = some d) (h4 : cs[4]? = some e) : cs = [a, b, c, d, e] := by
  match cs, hl with
  | [_, _, _, _, _], _ => simp at h0 h1 h2 h3 h4; subst h0 h1 h2 h3 h4; rfl
theorem list4 {cs : List Value} {a b c d : Value} (hl : cs.length = 4) (h0 : cs[0]? = some a) (h1 : cs[1]? = some b) (h2 : cs[2]? = some c) (h3 : cs[3]? = some d) : cs = [a, b, c, d] := by
  match cs, hl with
  | [_, _, _, _], _ => simp at h0 h1 h2 h3; subst h0 h1 h2 h3; rfl
theorem act_cells {fuel : Nat} {cs : List Value} {x : DataW H × List MemPlace} (h : DataW.trod enc Try.prog w base spare held fuel 34 cs = some x) : ∃ c, cs = actCells c ∧ IsAct c := by
  have hl : cs.length = 5 := by
    obtain ⟨_, _, _, _, hl, _⟩ := DataW.trod_struct Try.underlying34 h
    rw [hl]; exact cellsAct
  obtain ⟨K, h0, w0⟩ := cell_int Try.underlying34 (by kernel_rfl) cellsAct h 0 _ rfl .i64 Try.underlying3
  obtain ⟨A, h1, w1⟩ := cell_int Try.underlying34 (by kernel_rfl) cellsAct h 1 _ rfl .i64 Try.underlying3
  obtain ⟨B, h2, w2⟩ := cell_int Try.underlying34 (by kernel_rfl) cellsAct h 2 _ rfl .i64 Try.underlying3
  obtain ⟨N, h3, w3⟩ := cell_int Try.underlying34 (by kernel_rfl) cellsAct h 3 _ rfl .i64 Try.underlying3
  obtain ⟨V, h4, w4⟩ := cell_int Try.underlying34 (by kernel_rfl) cellsAct h 4 _ rfl .u64 Try.underlying32
  exact ⟨(K, A, B, N, V), list5 hl h0 h1 h2 h3 h4, i64_hi w0, i64_hi w1, i64_lo w1, i64_hi w2, i64_hi w3, u64_lo w4, u64_hi w4⟩
theorem open_act {r : Reach} {b0 : Nat} {v : Value} {x : DataW H} {ps : List MemPlace} (hv : Value.okWide Try.prog w r b0 34 v) (h : DataW.Trod enc Try.prog w base spare held 34 v x ps) :
    ∃ K A B N V : Int, v = .agg #[.int .i64 K, .int .i64 A, .int .i64 B, .int .i64 N, .int .u64 V] ∧ IsAct (K, A, B, N, V) := by
  obtain ⟨cs, rfl, _⟩ := okWide_struct Try.underlying34 hv
  obtain ⟨l⟩ := cs
  obtain ⟨fuel, hf⟩ := h
  obtain ⟨⟨K, A, B, N, V⟩, hc, hi⟩ := act_cells (cs := l) (by simpa [Value.cells] using hf)
  subst hc
  exact ⟨K, A, B, N, V, rfl, hi⟩
theorem open_two {r : Reach} {b0 : Nat} {v : Value} {x : DataW H} {ps : List MemPlace} (hv : Value.okWide Try.prog w r b0 55 v) (h : DataW.Trod enc Try.prog w base spare held 55 v x ps) :
    ∃ A B V X : Int, v = .agg #[.int .u16 A, .int .u16 B, .int .u64 V, .int .u64 X] ∧ (0 ≤ A ∧ A < 65536) ∧ (0 ≤ B ∧ B < 65536) ∧ (0 ≤ V ∧ V < 18446744073709551616) ∧ 0 ≤ X ∧ X < 18446744073709551616 := by
  obtain ⟨cs, rfl, hl⟩ := okWide_struct Try.underlying55 hv
  obtain ⟨l⟩ := cs
  obtain ⟨fuel, hf⟩ := h
  have hf' : DataW.trod enc Try.prog w base spare held fuel 55 l = some (x, ps) := by simpa [Value.cells] using hf
  obtain ⟨A, h0, w0⟩ := cell_int Try.underlying55 (by kernel_rfl) cellsTwo hf' 0 _ rfl .u16 Try.underlying53
  obtain ⟨B, h1, w1⟩ := cell_int Try.underlying55 (by kernel_rfl) cellsTwo hf' 1 _ rfl .u16 Try.underlying53
  obtain ⟨V, h2, w2⟩ := cell_int Try.underlying55 (by kernel_rfl) cellsTwo hf' 2 _ rfl .u64 Try.underlying32
  obtain ⟨X, h3, w3⟩ := cell_int Try.underlying55 (by kernel_rfl) cellsTwo hf' 3 _ rfl .u64 Try.underlying32
  have hl4 : l = _ := list4 (by simpa [cellsTwo] using hl) h0 h1 h2 h3
  subst hl4
  exact ⟨A, B, V, X, rfl, ⟨u16_lo w0, u16_hi w0⟩, ⟨u16_lo w1, u16_hi w1⟩, ⟨u64_lo w2, u64_hi w2⟩, u64_lo w3, u64_hi w3⟩

end
end Go.Proofs.Ytlenoofhognmmaa
