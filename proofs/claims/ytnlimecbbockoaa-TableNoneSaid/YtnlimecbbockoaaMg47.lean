/- What comes in, opened: a call (five numbers and an entry). -/
import Derived.Test.YtnlimecbbockoaaProg
import Derived.WalkKit
import Derived.WalkSpells
import Derived.Below
import Derived.ProofKit
import Derived.OpenShut
import Derived.Lib.SmallJoins
import Derived.Deep.Slices
import Derived.Deep.Fields
import Derived.ChangeSame
import Derived.Carry
namespace Go.Proofs.Ytnlimecbbockoaa
open Go.RowKit
theorem laidOut : laidOutB Try.prog = true := by kernel_rfl
theorem own : ownKnob Try.prog.godebug = none := by kernel_rfl
theorem cellsAct8 : Try.prog.cellsOf 52 = 12 := by kernel_rfl
theorem i64_in8 {n : Int} (h : (Lit.int .i64 n).wf = true) : -9223372036854775808 ≤ n ∧ n ≤ 9223372036854775807 := by
  simp [Lit.wf, IntKind.min, IntKind.max, IntKind.signed, IntKind.bits] at h
  omega
/-- A call. -/
structure Ac where
  kd : Int
  r : Int
  pg : Int
  o : Int
  n : Int
  f : Int
  p : Bool
  w : Bool
  h : Bool
  k : Bool
  u : Bool
  d : Bool
def acCells (l : Ac) : List Value := [.int .i64 l.kd, .int .i64 l.r, .int .i64 l.pg, .int .i64 l.o, .int .i64 l.n, .int .i64 l.f, .bool l.p, .bool l.w, .bool l.h, .bool l.k, .bool l.u, .bool l.d]
def In64 (x : Int) : Prop := -9223372036854775808 ≤ x ∧ x ≤ 9223372036854775807
def IsAc (l : Ac) : Prop := In64 l.kd ∧ In64 l.r ∧ In64 l.pg ∧ In64 l.o ∧ In64 l.n ∧ In64 l.f
section
open Go.Joins Go.ChangeShapes Go.WideShapes Go.ChangeAt Go.RowKit Go.Deep
variable {H : Type} {enc : TypeId × Value → H} {P : Program} {w : World} {base : Nat} {spare : Nat → Bool} {held : Bool}
theorem field_reads {e : TypeId} {fs : Array Field} {fuel : Nat} {cs : List Value} {x : DataW H × List MemPlace} (he : P.underlying e = some (.struct fs))
    (h : DataW.trod enc P w base spare held fuel e cs = some x) (j : Nat) (f : Field) (hj : fs[j]? = some f) (o c : Nat) (ho : f.offset = o) (hc : P.cellsOf f.type = c) : ∃ n y, DataW.trod enc P w base spare held n f.type ((cs.drop o).take c) = some y := by
  subst ho hc
  obtain ⟨xs, n, _, _, hl, hxl, hf⟩ := DataW.trod_struct he h
  have hjl : j < fs.size := (Array.getElem?_eq_some_iff.1 hj).1
  have hr := hf j f hj
  rw [List.getElem?_eq_getElem (by omega)] at hr
  exact ⟨n, _, hr⟩
end
section
open Go.Joins Go.ChangeShapes Go.WideShapes Go.ChangeAt Go.RowKit Go.Deep
variable {H : Type} {enc : TypeId × Value → H} {w : World} {base : Nat} {spare : Nat → Bool} {held : Bool}
theorem entry_cells8 {fuel : Nat} {c0 c1 c2 c3 c4 c5 c6 : Value} {x : DataW H × List MemPlace} (h : DataW.trod enc Try.prog w base spare held fuel 28 [c0, c1, c2, c3, c4, c5, c6] = some x) :
    ∃ (f : Int) (p w' h' k u d : Bool), In64 f ∧ c0 = .int .i64 f ∧ c1 = .bool p ∧ c2 = .bool w' ∧ c3 = .bool h' ∧ c4 = .bool k ∧ c5 = .bool u ∧ c6 = .bool d := by
  obtain ⟨n0, y0, h0⟩ := field_reads Try.underlying28 h 0 _ rfl 0 1 rfl (by kernel_rfl)
  obtain ⟨n1, y1, h1⟩ := field_reads Try.underlying28 h 1 _ rfl 1 1 rfl (by kernel_rfl)
  obtain ⟨n2, y2, h2⟩ := field_reads Try.underlying28 h 2 _ rfl 2 1 rfl (by kernel_rfl)
  obtain ⟨n3, y3, h3⟩ := field_reads Try.underlying28 h 3 _ rfl 3 1 rfl (by kernel_rfl)
  obtain ⟨n4, y4, h4⟩ := field_reads Try.underlying28 h 4 _ rfl 4 1 rfl (by kernel_rfl)
  obtain ⟨n5, y5, h5⟩ := field_reads Try.underlying28 h 5 _ rfl 5 1 rfl (by kernel_rfl)
  obtain ⟨n6, y6, h6⟩ := field_reads Try.underlying28 h 6 _ rfl 6 1 rfl (by kernel_rfl)
  obtain ⟨f, e0, _, wf⟩ := DataW.trod_int Try.underlying3 h0
  obtain ⟨b1, e1, _⟩ := DataW.trod_bool Try.underlying4 h1
  obtain ⟨b2, e2, _⟩ := DataW.trod_bool Try.underlying4 h2
  obtain ⟨b3, e3, _⟩ := DataW.trod_bool Try.underlying4 h3
  obtain ⟨b4, e4, _⟩ := DataW.trod_bool Try.underlying4 h4
  obtain ⟨b5, e5, _⟩ := DataW.trod_bool Try.underlying4 h5
  obtain ⟨b6, e6, _⟩ := DataW.trod_bool Try.underlying4 h6
  simp at e0 e1 e2 e3 e4 e5 e6
  exact ⟨f, b1, b2, b3, b4, b5, b6, i64_in8 wf, e0, e1, e2, e3, e4, e5, e6⟩
set_option maxRecDepth 100000 in
theorem open_act8 {r : Reach} {b0 : Nat} {v : Value} {x : DataW H} {ps : List MemPlace} (hv : Value.okWide Try.prog w r b0 52 v) (h : DataW.Trod enc Try.prog w base spare held 52 v x ps) :
    ∃ l, v = .agg (acCells l).toArray ∧ IsAc l := by
  obtain ⟨cs, rfl, hl⟩ := okWide_struct Try.underlying52 hv
  obtain ⟨l⟩ := cs
  obtain ⟨fuel, hf⟩ := h
  have hf' : DataW.trod enc Try.prog w base spare held fuel 52 l = some (x, ps) := by simpa [Value.cells] using hf
  have hl' : l.length = 12 := by simpa [cellsAct8] using hl
  match l, hl' with
  | [c0, c1, c2, c3, c4, c5, c6, c7, c8, c9, c10, c11], _ =>
    obtain ⟨n0, y0, h0⟩ := field_reads Try.underlying52 hf' 0 _ rfl 0 1 rfl (by kernel_rfl)
    obtain ⟨n1, y1, h1⟩ := field_reads Try.underlying52 hf' 1 _ rfl 1 1 rfl (by kernel_rfl)
    obtain ⟨n2, y2, h2⟩ := field_reads Try.underlying52 hf' 2 _ rfl 2 1 rfl (by kernel_rfl)
    obtain ⟨n3, y3, h3⟩ := field_reads Try.underlying52 hf' 3 _ rfl 3 1 rfl (by kernel_rfl)
    obtain ⟨n4, y4, h4⟩ := field_reads Try.underlying52 hf' 4 _ rfl 4 1 rfl (by kernel_rfl)
    obtain ⟨n5, y5, h5⟩ := field_reads Try.underlying52 hf' 5 _ rfl 5 7 rfl (by kernel_rfl)
    obtain ⟨f, b1, b2, b3, b4, b5, b6, w5, g0, g1, g2, g3, g4, g5, g6⟩ := entry_cells8 (by simpa using h5)
    obtain ⟨x0, e0, _, w0⟩ := DataW.trod_int Try.underlying3 h0
    obtain ⟨x1, e1, _, w1⟩ := DataW.trod_int Try.underlying3 h1
    obtain ⟨x2, e2, _, w2⟩ := DataW.trod_int Try.underlying3 h2
    obtain ⟨x3, e3, _, w3⟩ := DataW.trod_int Try.underlying3 h3
    obtain ⟨x4, e4, _, w4⟩ := DataW.trod_int Try.underlying3 h4
    simp at e0 e1 e2 e3 e4
    subst e0 e1 e2 e3 e4 g0 g1 g2 g3 g4 g5 g6
    exact ⟨⟨x0, x1, x2, x3, x4, f, b1, b2, b3, b4, b5, b6⟩, rfl, i64_in8 w0, i64_in8 w1, i64_in8 w2, i64_in8 w3, i64_in8 w4, w5⟩
end
end Go.Proofs.Ytnlimecbbockoaa
