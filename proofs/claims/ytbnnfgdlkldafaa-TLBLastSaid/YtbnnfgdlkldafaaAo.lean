/- What comes in, opened: a call (four numbers and a line), a list of calls, a case. -/
import Derived.Test.YtbnnfgdlkldafaaProg
import Derived.Test.YtbnnfgdlkldafaaAp
import Derived.WalkKit
import Derived.WalkSpells
import Derived.Below
import Derived.ProofKit
import Derived.OpenShut
import Derived.Lib.SmallJoins
import Derived.Deep.Slices
import Derived.Deep.Fields
import Derived.ChangeSame
import Derived.Carry
namespace Go.Proofs.Ytbnnfgdlkldafaa
open Go.RowKit

theorem laidOut : laidOutB Try.prog = true := by kernel_rfl
theorem own : ownKnob Try.prog.godebug = none := by kernel_rfl
theorem cellsAct : Try.prog.cellsOf 44 = 9 := by kernel_rfl
theorem cellsFour : Try.prog.cellsOf 24 = 4 := by kernel_rfl
theorem cellsFive : Try.prog.cellsOf 54 = 4 := by kernel_rfl
theorem cellsCd : Try.prog.cellsOf 31 = 5 := by kernel_rfl
theorem u8_lo {n : Int} (h : (Lit.int .u8 n).wf = true) : 0 ≤ n := by simp [Lit.wf, IntKind.min, IntKind.max, IntKind.signed, IntKind.bits] at h; omega
theorem u8_hi {n : Int} (h : (Lit.int .u8 n).wf = true) : n < 256 := by simp [Lit.wf, IntKind.min, IntKind.max, IntKind.signed, IntKind.bits] at h; omega
theorem fits_wf {n : Int} (h : (Lit.int .i64 n).wf = true) : Fits n := by constructor <;> (simp [Lit.wf, IntKind.min, IntKind.max, IntKind.signed, IntKind.bits] at h; omega)
/-- A call. -/
structure Kl where
  k : Int
  s : Int
  p : Int
  n : Int
  c : Cd
def klCells (l : Kl) : List Value := [.int .i64 l.k, .int .i64 l.s, .int .i64 l.p, .int .i64 l.n, .int .i64 l.c.s, .int .i64 l.c.p, .int .i64 l.c.o, .int .i64 l.c.f, .bool l.c.w]
structure IsKl (l : Kl) : Prop where
  k : Fits l.k
  s : Fits l.s
  p : Fits l.p
  n : Fits l.n
  c : CFits l.c
/-- As it lies from an address on. -/
structure KlAt (w : World) (p : Addr) (l : Kl) : Prop where
  c0 : w.cell? p = some (.int .i64 l.k)
  c1 : w.cell? ⟨p.block, p.off + 1, none⟩ = some (.int .i64 l.s)
  c2 : w.cell? ⟨p.block, p.off + 2, none⟩ = some (.int .i64 l.p)
  c3 : w.cell? ⟨p.block, p.off + 3, none⟩ = some (.int .i64 l.n)
  c4 : w.cell? ⟨p.block, p.off + 4, none⟩ = some (.int .i64 l.c.s)
  c5 : w.cell? ⟨p.block, p.off + 5, none⟩ = some (.int .i64 l.c.p)
  c6 : w.cell? ⟨p.block, p.off + 6, none⟩ = some (.int .i64 l.c.o)
  c7 : w.cell? ⟨p.block, p.off + 7, none⟩ = some (.int .i64 l.c.f)
  c8 : w.cell? ⟨p.block, p.off + 8, none⟩ = some (.bool l.c.w)
theorem KlAt.below {w w' : World} {B : Nat} {p : Addr} {l : Kl} (h : KlAt w p l) (hb : Below B w w') (hp : p.block < B) : KlAt w' p l :=
  ⟨(hb.cell hp).trans h.c0, (hb.cell (p := ⟨_, _, none⟩) hp).trans h.c1, (hb.cell (p := ⟨_, _, none⟩) hp).trans h.c2, (hb.cell (p := ⟨_, _, none⟩) hp).trans h.c3, (hb.cell (p := ⟨_, _, none⟩) hp).trans h.c4, (hb.cell (p := ⟨_, _, none⟩) hp).trans h.c5, (hb.cell (p := ⟨_, _, none⟩) hp).trans h.c6,
    (hb.cell (p := ⟨_, _, none⟩) hp).trans h.c7, (hb.cell (p := ⟨_, _, none⟩) hp).trans h.c8⟩
theorem add_blk (a : Addr) (n : Nat) : (a.add n).block = a.block := by unfold Addr.add; split <;> rfl
theorem add_at (a : Addr) (j : Nat) (h : 0 < j) : a.add j = ⟨a.block, a.off + j, none⟩ := by unfold Addr.add; rw [if_neg (by omega)]
/-- A list of them as it lies below block b. -/
def Kls (w : World) (b : Nat) (A : Option Addr) (n : Nat) : Prop :=
  0 < n → ∃ a, A = some a ∧ a.block < b ∧ ∀ i, i < n → ∃ l, IsKl l ∧ KlAt w (a.add (i * 9)) l
theorem Kls.below {w w' : World} {b n : Nat} {A : Option Addr} (h : Kls w b A n) (hb : Below b w w') : Kls w' b A n := fun hn => by
  obtain ⟨a, e, hlt, hc⟩ := h hn
  refine ⟨a, e, hlt, fun i hi => ?_⟩
  obtain ⟨l, ok, g⟩ := hc i hi
  exact ⟨l, ok, g.below hb (by rw [add_blk]; exact hlt)⟩
section
open Go.Joins Go.ChangeShapes Go.WideShapes Go.ChangeAt Go.RowKit Go.Deep
variable {H : Type} {enc : TypeId × Value → H} {P : Program} {w : World} {base : Nat} {spare : Nat → Bool} {held : Bool}
/-- A field of a struct that reads, reads. -/
theorem field_reads {e : TypeId} {fs : Array Field} {fuel : Nat} {cs : List Value} {x : DataW H × List MemPlace} (he : P.underlying e = some (.struct fs))
    (h : DataW.trod enc P w base spare held fuel e cs = some x) (j : Nat) (f : Field) (hj : fs[j]? = some f) (o c : Nat) (ho : f.offset = o) (hc : P.cellsOf f.type = c) : ∃ n y, DataW.trod enc P w base spare held n f.type ((cs.drop o).take c) = some y := by
  subst ho hc
  obtain ⟨xs, n, _, _, hl, hxl, hf⟩ := DataW.trod_struct he h
  have hjl : j < fs.size := (Array.getElem?_eq_some_iff.1 hj).1
  have hr := hf j f hj
  rw [List.getElem?_eq_getElem (by omega)] at hr
  exact ⟨n, _, hr⟩
end
section
open Go.Joins Go.ChangeShapes Go.WideShapes Go.ChangeAt Go.RowKit Go.Deep
variable {H : Type} {enc : TypeId × Value → H} {w : World} {base : Nat} {spare : Nat → Bool} {held : Bool}
theorem cd_cells {fuel : Nat} {cs : List Value} {x : DataW H × List MemPlace} (h : DataW.trod enc Try.prog w base spare held fuel 31 cs = some x) : ∃ c : Cd, cs = [.int .i64 c.s, .int .i64 c.p, .int .i64 c.o, .int .i64 c.f, .bool c.w] ∧ CFits c := by
  have hl : cs.length = 5 := by
    obtain ⟨_, _, _, _, hl, _⟩ := DataW.trod_struct Try.underlying31 h
    rw [hl]; exact cellsCd
  match cs, hl with
  | [c0, c1, c2, c3, c4], _ =>
    obtain ⟨n0, y0, h0⟩ := field_reads Try.underlying31 h 0 _ rfl 0 1 rfl (by kernel_rfl)
    obtain ⟨n1, y1, h1⟩ := field_reads Try.underlying31 h 1 _ rfl 1 1 rfl (by kernel_rfl)
    obtain ⟨n2, y2, h2⟩ := field_reads Try.underlying31 h 2 _ rfl 2 1 rfl (by kernel_rfl)
    obtain ⟨n3, y3, h3⟩ := field_reads Try.underlying31 h 3 _ rfl 3 1 rfl (by kernel_rfl)
    obtain ⟨n4, y4, h4⟩ := field_reads Try.underlying31 h 4 _ rfl 4 1 rfl (by kernel_rfl)
    obtain ⟨s, e0, _, f0⟩ := DataW.trod_int Try.underlying3 h0
    obtain ⟨p, e1, _, f1⟩ := DataW.trod_int Try.underlying3 h1
    obtain ⟨o, e2, _, f2⟩ := DataW.trod_int Try.underlying3 h2
    obtain ⟨f, e3, _, f3⟩ := DataW.trod_int Try.underlying3 h3
    obtain ⟨b, e4, _⟩ := DataW.trod_bool Try.underlying4 h4
    simp at e0 e1 e2 e3 e4
    subst e0 e1 e2 e3 e4
    exact ⟨⟨s, p, o, f, b⟩, rfl, fits_wf f0, fits_wf f1, fits_wf f2, fits_wf f3⟩
theorem act_cells {fuel : Nat} {cs : List Value} {x : DataW H × List MemPlace} (h : DataW.trod enc Try.prog w base spare held fuel 44 cs = some x) : ∃ l, cs = klCells l ∧ IsKl l := by
  have hl : cs.length = 9 := by
    obtain ⟨_, _, _, _, hl, _⟩ := DataW.trod_struct Try.underlying44 h
    rw [hl]; exact cellsAct
  match cs, hl with
  | [c0, c1, c2, c3, c4, c5, c6, c7, c8], _ =>
    obtain ⟨n0, y0, h0⟩ := field_reads Try.underlying44 h 0 _ rfl 0 1 rfl (by kernel_rfl)
    obtain ⟨n1, y1, h1⟩ := field_reads Try.underlying44 h 1 _ rfl 1 1 rfl (by kernel_rfl)
    obtain ⟨n2, y2, h2⟩ := field_reads Try.underlying44 h 2 _ rfl 2 1 rfl (by kernel_rfl)
    obtain ⟨n3, y3, h3⟩ := field_reads Try.underlying44 h 3 _ rfl 3 1 rfl (by kernel_rfl)
    obtain ⟨n4, y4, h4⟩ := field_reads Try.underlying44 h 4 _ rfl 4 5 rfl (by kernel_rfl)
    obtain ⟨k, e0, _, f0⟩ := DataW.trod_int Try.underlying3 h0
    obtain ⟨s, e1, _, f1⟩ := DataW.trod_int Try.underlying3 h1
    obtain ⟨p, e2, _, f2⟩ := DataW.trod_int Try.underlying3 h2
    obtain ⟨n, e3, _, f3⟩ := DataW.trod_int Try.underlying3 h3
    obtain ⟨c, e4, f4⟩ := cd_cells (by simpa using h4)
    simp at e0 e1 e2 e3 e4
    obtain ⟨g0, g1, g2, g3, g4⟩ := e4
    subst e0 e1 e2 e3 g0 g1 g2 g3 g4
    exact ⟨⟨k, s, p, n, c⟩, rfl, fits_wf f0, fits_wf f1, fits_wf f2, fits_wf f3, f4⟩
theorem open_act9 {r : Reach} {b0 : Nat} {v : Value} {x : DataW H} {ps : List MemPlace} (hv : Value.okWide Try.prog w r b0 44 v) (h : DataW.Trod enc Try.prog w base spare held 44 v x ps) : ∃ l, v = .agg (klCells l).toArray ∧ IsKl l := by
  obtain ⟨cs, rfl, _⟩ := okWide_struct Try.underlying44 hv
  obtain ⟨l⟩ := cs
  obtain ⟨fuel, hf⟩ := h
  obtain ⟨c, hc, hi⟩ := act_cells (cs := l) (by simpa [Value.cells] using hf)
  subst hc
  exact ⟨c, rfl, hi⟩
theorem open_cd9 {r : Reach} {b0 : Nat} {v : Value} {x : DataW H} {ps : List MemPlace} (hv : Value.okWide Try.prog w r b0 31 v) (h : DataW.Trod enc Try.prog w base spare held 31 v x ps) : ∃ c : Cd, v = .agg #[.int .i64 c.s, .int .i64 c.p, .int .i64 c.o, .int .i64 c.f, .bool c.w] ∧ CFits c := by
  obtain ⟨cs, rfl, _⟩ := okWide_struct Try.underlying31 hv
  obtain ⟨l⟩ := cs
  obtain ⟨fuel, hf⟩ := h
  obtain ⟨c, hc, hi⟩ := cd_cells (cs := l) (by simpa [Value.cells] using hf)
  subst hc
  exact ⟨c, rfl, hi⟩
theorem act_at {p : Addr} {cs : List Value} {fuel : Nat} {x : DataW H × List MemPlace} (hc : w.cells? base p 9 = some cs) (ht : DataW.trod enc Try.prog w base spare held fuel 44 cs = some x) : ∃ l, IsKl l ∧ KlAt w p l := by
  obtain ⟨_, hl, hcell⟩ := World.cells?_some hc
  obtain ⟨l, rfl, ok⟩ := act_cells ht
  have k : ∀ j, 0 < j → j < 9 → w.cell? ⟨p.block, p.off + j, none⟩ = (klCells l)[j]? := fun j h0 h1 => by
    rw [← add_at p j h0]
    exact hcell j (by omega)
  refine ⟨l, ok, ?_, k 1 (by omega) (by omega), k 2 (by omega) (by omega), k 3 (by omega) (by omega), k 4 (by omega) (by omega), k 5 (by omega) (by omega), k 6 (by omega) (by omega), k 7 (by omega) (by omega), k 8 (by omega) (by omega)⟩
  have := hcell 0 (by omega); simpa [Addr.add, klCells] using this
theorem acts_of {fuel : Nat} {cs : List Value} {x : DataW H × List MemPlace} (h : DataW.trod enc Try.prog w base spare held fuel 22 cs = some x) :
    ∃ A n c, cs = [.slice A n c] ∧ n ≤ maxLen ∧ Kls w w.heap.size A n := by
  rcases DataW.trod_slice Try.underlying22 h with ⟨rfl, _⟩ | ⟨a, len, cap, elems, rest, m, _, rfl, _, _, hlc, hcap, hlen, hel, _⟩
  · exact ⟨none, 0, 0, rfl, Nat.zero_le _, fun h0 => absurd h0 (Nat.lt_irrefl 0)⟩
  · have hat : ∀ i, i < len → ∃ l, IsKl l ∧ KlAt w (a.add (i * 9)) l := fun i hi => by
      have he := hel i hi
      rw [List.getElem?_eq_getElem (by omega), cellsAct] at he
      obtain ⟨cs', hc, ht⟩ := Option.bind_eq_some_iff.1 he
      exact act_at hc ht
    refine ⟨some a, len, cap, rfl, Nat.le_trans hlc hcap, fun h0 => ⟨a, rfl, ?_, hat⟩⟩
    obtain ⟨_, _, g⟩ := hat 0 h0
    have := World.block_lt_of_cell? w _ g.c0
    rwa [add_blk] at this
theorem open_acts9 {r : Reach} {b0 : Nat} {v : Value} {x : DataW H} {ps : List MemPlace} (hv : Value.okWide Try.prog w r b0 22 v) (h : DataW.Trod enc Try.prog w base spare held 22 v x ps) :
    ∃ A n c, v = .slice A n c ∧ n ≤ maxLen ∧ Kls w w.heap.size A n := by
  obtain ⟨A, n, c, rfl⟩ := okWide_slice Try.underlying22 hv
  obtain ⟨fuel, hf⟩ := h
  obtain ⟨A', n', c', e, hn, ha⟩ := acts_of hf
  simp only [Value.cells] at e
  injection e with e
  injection e with e1 e2 e3
  subst e1 e2 e3
  exact ⟨_, _, _, rfl, hn, ha⟩
theorem open_four9 {r : Reach} {b0 : Nat} {v : Value} {x : DataW H} {ps : List MemPlace} (hv : Value.okWide Try.prog w r b0 24 v) (h : DataW.Trod enc Try.prog w base spare held 24 v x ps) :
    ∃ A n c, ∃ z sp pg : Int, v = .agg #[.int .i64 z, .slice A n c, .int .i64 sp, .int .i64 pg] ∧ n ≤ maxLen ∧ Kls w w.heap.size A n ∧ Fits z ∧ Fits sp ∧ Fits pg := by
  obtain ⟨cs, rfl, hl⟩ := okWide_struct Try.underlying24 hv
  obtain ⟨l⟩ := cs
  obtain ⟨fuel, hf⟩ := h
  have hf' : DataW.trod enc Try.prog w base spare held fuel 24 l = some (x, ps) := by simpa [Value.cells] using hf
  have hl' : l.length = 4 := by simpa [cellsFour] using hl
  match l, hl' with
  | [c0, c1, c2, c3], _ =>
    obtain ⟨n0, y0, h0⟩ := field_reads Try.underlying24 hf' 0 _ rfl 0 1 rfl (by kernel_rfl)
    obtain ⟨n1, y1, h1⟩ := field_reads Try.underlying24 hf' 1 _ rfl 1 1 rfl (by kernel_rfl)
    obtain ⟨n2, y2, h2⟩ := field_reads Try.underlying24 hf' 2 _ rfl 2 1 rfl (by kernel_rfl)
    obtain ⟨n3, y3, h3⟩ := field_reads Try.underlying24 hf' 3 _ rfl 3 1 rfl (by kernel_rfl)
    obtain ⟨z, e0, _, f0⟩ := DataW.trod_int Try.underlying3 h0
    obtain ⟨A, n, c, e1, hn, ha⟩ := acts_of h1
    obtain ⟨sp, e2, _, f2⟩ := DataW.trod_int Try.underlying3 h2
    obtain ⟨pg, e3, _, f3⟩ := DataW.trod_int Try.underlying3 h3
    simp at e0 e1 e2 e3
    subst e0 e1 e2 e3
    exact ⟨A, n, c, z, sp, pg, rfl, hn, ha, fits_wf f0, fits_wf f2, fits_wf f3⟩
theorem open_five9 {r : Reach} {b0 : Nat} {v : Value} {x : DataW H} {ps : List MemPlace} (hv : Value.okWide Try.prog w r b0 54 v) (h : DataW.Trod enc Try.prog w base spare held 54 v x ps) :
    ∃ A n c, ∃ z sp pg : Int, v = .agg #[.int .u8 z, .slice A n c, .int .i64 sp, .int .i64 pg] ∧ n ≤ maxLen ∧ Kls w w.heap.size A n ∧ (0 ≤ z ∧ z < 256) ∧ Fits sp ∧ Fits pg := by
  obtain ⟨cs, rfl, hl⟩ := okWide_struct Try.underlying54 hv
  obtain ⟨l⟩ := cs
  obtain ⟨fuel, hf⟩ := h
  have hf' : DataW.trod enc Try.prog w base spare held fuel 54 l = some (x, ps) := by simpa [Value.cells] using hf
  have hl' : l.length = 4 := by simpa [cellsFive] using hl
  match l, hl' with
  | [c0, c1, c2, c3], _ =>
    obtain ⟨n0, y0, h0⟩ := field_reads Try.underlying54 hf' 0 _ rfl 0 1 rfl (by kernel_rfl)
    obtain ⟨n1, y1, h1⟩ := field_reads Try.underlying54 hf' 1 _ rfl 1 1 rfl (by kernel_rfl)
    obtain ⟨n2, y2, h2⟩ := field_reads Try.underlying54 hf' 2 _ rfl 2 1 rfl (by kernel_rfl)
    obtain ⟨n3, y3, h3⟩ := field_reads Try.underlying54 hf' 3 _ rfl 3 1 rfl (by kernel_rfl)
    obtain ⟨z, e0, _, f0⟩ := DataW.trod_int Try.underlying5 h0
    obtain ⟨A, n, c, e1, hn, ha⟩ := acts_of h1
    obtain ⟨sp, e2, _, f2⟩ := DataW.trod_int Try.underlying3 h2
    obtain ⟨pg, e3, _, f3⟩ := DataW.trod_int Try.underlying3 h3
    simp at e0 e1 e2 e3
    subst e0 e1 e2 e3
    exact ⟨A, n, c, z, sp, pg, rfl, hn, ha, ⟨u8_lo f0, u8_hi f0⟩, fits_wf f2, fits_wf f3⟩
end
end Go.Proofs.Ytbnnfgdlkldafaa
