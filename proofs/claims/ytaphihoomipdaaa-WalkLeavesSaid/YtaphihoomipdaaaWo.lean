/- What comes in, opened: an entry in its place (a struct in a struct), a list of such, a memory with tables. -/
import Derived.Test.YtaphihoomipdaaaProg
import Derived.WalkKit
import Derived.WalkSpells
import Derived.Below
import Derived.ProofKit
import Derived.OpenShut
import Derived.Lib.SmallJoins
import Derived.Deep.Slices
import Derived.Deep.Fields
import Derived.ChangeSame
import Derived.Carry
namespace Go.Proofs.Ytaphihoomipdaaa
open Go.RowKit

theorem laidOut : laidOutB Try.prog = true := by kernel_rfl
theorem own : ownKnob Try.prog.godebug = none := by kernel_rfl
theorem cellsLaid : Try.prog.cellsOf 27 = 11 := by kernel_rfl
theorem cellsCase : Try.prog.cellsOf 39 = 4 := by kernel_rfl
theorem u64_lo {n : Int} (h : (Lit.int .u64 n).wf = true) : 0 ≤ n := by simp [Lit.wf, IntKind.min, IntKind.max, IntKind.signed, IntKind.bits] at h; omega
theorem u64_hi {n : Int} (h : (Lit.int .u64 n).wf = true) : n < 18446744073709551616 := by simp [Lit.wf, IntKind.min, IntKind.max, IntKind.signed, IntKind.bits] at h; omega

/-- An entry in its place. -/
structure Ld where
  t : Int
  i : Int
  f : Int
  p : Bool
  w : Bool
  h : Bool
  k : Bool
  u : Bool
  d : Bool
  raw : Bool
  v : Int
def ldCells (l : Ld) : List Value := [.int .i64 l.t, .int .i64 l.i, .int .i64 l.f, .bool l.p, .bool l.w, .bool l.h, .bool l.k, .bool l.u, .bool l.d, .bool l.raw, .int .u64 l.v]
def IsLd (l : Ld) : Prop := 0 ≤ l.v ∧ l.v < 18446744073709551616
/-- As it lies from an address on. -/
structure LdAt (w : World) (p : Addr) (l : Ld) : Prop where
  c0 : w.cell? p = some (.int .i64 l.t)
  c1 : w.cell? ⟨p.block, p.off + 1, none⟩ = some (.int .i64 l.i)
  c2 : w.cell? ⟨p.block, p.off + 2, none⟩ = some (.int .i64 l.f)
  c3 : w.cell? ⟨p.block, p.off + 3, none⟩ = some (.bool l.p)
  c4 : w.cell? ⟨p.block, p.off + 4, none⟩ = some (.bool l.w)
  c5 : w.cell? ⟨p.block, p.off + 5, none⟩ = some (.bool l.h)
  c6 : w.cell? ⟨p.block, p.off + 6, none⟩ = some (.bool l.k)
  c7 : w.cell? ⟨p.block, p.off + 7, none⟩ = some (.bool l.u)
  c8 : w.cell? ⟨p.block, p.off + 8, none⟩ = some (.bool l.d)
  c9 : w.cell? ⟨p.block, p.off + 9, none⟩ = some (.bool l.raw)
  c10 : w.cell? ⟨p.block, p.off + 10, none⟩ = some (.int .u64 l.v)
theorem LdAt.below {w w' : World} {B : Nat} {p : Addr} {l : Ld} (h : LdAt w p l) (hb : Below B w w') (hp : p.block < B) : LdAt w' p l :=
  ⟨(hb.cell hp).trans h.c0, (hb.cell (p := ⟨_, _, none⟩) hp).trans h.c1, (hb.cell (p := ⟨_, _, none⟩) hp).trans h.c2, (hb.cell (p := ⟨_, _, none⟩) hp).trans h.c3, (hb.cell (p := ⟨_, _, none⟩) hp).trans h.c4, (hb.cell (p := ⟨_, _, none⟩) hp).trans h.c5, (hb.cell (p := ⟨_, _, none⟩) hp).trans h.c6,
    (hb.cell (p := ⟨_, _, none⟩) hp).trans h.c7, (hb.cell (p := ⟨_, _, none⟩) hp).trans h.c8, (hb.cell (p := ⟨_, _, none⟩) hp).trans h.c9, (hb.cell (p := ⟨_, _, none⟩) hp).trans h.c10⟩
theorem add_blk (a : Addr) (n : Nat) : (a.add n).block = a.block := by unfold Addr.add; split <;> rfl
theorem add_at (a : Addr) (j : Nat) (h : 0 < j) : a.add j = ⟨a.block, a.off + j, none⟩ := by unfold Addr.add; rw [if_neg (by omega)]
/-- A list of them as it lies below block b. -/
def Lds (w : World) (b : Nat) (A : Option Addr) (n : Nat) : Prop :=
  0 < n → ∃ a, A = some a ∧ a.block < b ∧ ∀ i, i < n → ∃ l, IsLd l ∧ LdAt w (a.add (i * 11)) l
theorem Lds.below {w w' : World} {b n : Nat} {A : Option Addr} (h : Lds w b A n) (hb : Below b w w') : Lds w' b A n := fun hn => by
  obtain ⟨a, e, hlt, hc⟩ := h hn
  refine ⟨a, e, hlt, fun i hi => ?_⟩
  obtain ⟨l, ok, g⟩ := hc i hi
  exact ⟨l, ok, g.below hb (by rw [add_blk]; exact hlt)⟩
section
open Go.Joins Go.ChangeShapes Go.WideShapes Go.ChangeAt Go.RowKit Go.Deep
variable {H : Type} {enc : TypeId × Value → H} {P : Program} {w : World} {base : Nat} {spare : Nat → Bool} {held : Bool}
/-- A field of a struct that reads, reads. -/
theorem field_reads {e : TypeId} {fs : Array Field} {fuel : Nat} {cs : List Value} {x : DataW H × List MemPlace} (he : P.underlying e = some (.struct fs))
    (h : DataW.trod enc P w base spare held fuel e cs = some x) (j : Nat) (f : Field) (hj : fs[j]? = some f) (o c : Nat) (ho : f.offset = o) (hc : P.cellsOf f.type = c) : ∃ n y, DataW.trod enc P w base spare held n f.type ((cs.drop o).take c) = some y := by
  subst ho hc
  obtain ⟨xs, n, _, _, hl, hxl, hf⟩ := DataW.trod_struct he h
  have hjl : j < fs.size := (Array.getElem?_eq_some_iff.1 hj).1
  have hr := hf j f hj
  rw [List.getElem?_eq_getElem (by omega)] at hr
  exact ⟨n, _, hr⟩
end
section
open Go.Joins Go.ChangeShapes Go.WideShapes Go.ChangeAt Go.RowKit Go.Deep
variable {H : Type} {enc : TypeId × Value → H} {w : World} {base : Nat} {spare : Nat → Bool} {held : Bool}
theorem entry_cells {fuel : Nat} {c0 c1 c2 c3 c4 c5 c6 : Value} {x : DataW H × List MemPlace} (h : DataW.trod enc Try.prog w base spare held fuel 24 [c0, c1, c2, c3, c4, c5, c6] = some x) :
    ∃ (f : Int) (p w' h' k u d : Bool), c0 = .int .i64 f ∧ c1 = .bool p ∧ c2 = .bool w' ∧ c3 = .bool h' ∧ c4 = .bool k ∧ c5 = .bool u ∧ c6 = .bool d := by
  obtain ⟨n0, y0, h0⟩ := field_reads Try.underlying24 h 0 _ rfl 0 1 rfl (by kernel_rfl)
  obtain ⟨n1, y1, h1⟩ := field_reads Try.underlying24 h 1 _ rfl 1 1 rfl (by kernel_rfl)
  obtain ⟨n2, y2, h2⟩ := field_reads Try.underlying24 h 2 _ rfl 2 1 rfl (by kernel_rfl)
  obtain ⟨n3, y3, h3⟩ := field_reads Try.underlying24 h 3 _ rfl 3 1 rfl (by kernel_rfl)
  obtain ⟨n4, y4, h4⟩ := field_reads Try.underlying24 h 4 _ rfl 4 1 rfl (by kernel_rfl)
  obtain ⟨n5, y5, h5⟩ := field_reads Try.underlying24 h 5 _ rfl 5 1 rfl (by kernel_rfl)
  obtain ⟨n6, y6, h6⟩ := field_reads Try.underlying24 h 6 _ rfl 6 1 rfl (by kernel_rfl)
  obtain ⟨f, e0, _, _⟩ := DataW.trod_int Try.underlying3 h0
  obtain ⟨b1, e1, _⟩ := DataW.trod_bool Try.underlying4 h1
  obtain ⟨b2, e2, _⟩ := DataW.trod_bool Try.underlying4 h2
  obtain ⟨b3, e3, _⟩ := DataW.trod_bool Try.underlying4 h3
  obtain ⟨b4, e4, _⟩ := DataW.trod_bool Try.underlying4 h4
  obtain ⟨b5, e5, _⟩ := DataW.trod_bool Try.underlying4 h5
  obtain ⟨b6, e6, _⟩ := DataW.trod_bool Try.underlying4 h6
  simp at e0 e1 e2 e3 e4 e5 e6
  exact ⟨f, b1, b2, b3, b4, b5, b6, e0, e1, e2, e3, e4, e5, e6⟩
theorem laid_cells {fuel : Nat} {cs : List Value} {x : DataW H × List MemPlace} (h : DataW.trod enc Try.prog w base spare held fuel 27 cs = some x) : ∃ l, cs = ldCells l ∧ IsLd l := by
  have hl : cs.length = 11 := by
    obtain ⟨_, _, _, _, hl, _⟩ := DataW.trod_struct Try.underlying27 h
    rw [hl]; exact cellsLaid
  match cs, hl with
  | [c0, c1, c2, c3, c4, c5, c6, c7, c8, c9, c10], _ =>
    obtain ⟨n0, y0, h0⟩ := field_reads Try.underlying27 h 0 _ rfl 0 1 rfl (by kernel_rfl)
    obtain ⟨n1, y1, h1⟩ := field_reads Try.underlying27 h 1 _ rfl 1 1 rfl (by kernel_rfl)
    obtain ⟨n2, y2, h2⟩ := field_reads Try.underlying27 h 2 _ rfl 2 7 rfl (by kernel_rfl)
    obtain ⟨n3, y3, h3⟩ := field_reads Try.underlying27 h 3 _ rfl 9 1 rfl (by kernel_rfl)
    obtain ⟨n4, y4, h4⟩ := field_reads Try.underlying27 h 4 _ rfl 10 1 rfl (by kernel_rfl)
    obtain ⟨t, e0, _, _⟩ := DataW.trod_int Try.underlying3 h0
    obtain ⟨i, e1, _, _⟩ := DataW.trod_int Try.underlying3 h1
    obtain ⟨f, p, w', h', k, u, d, g0, g1, g2, g3, g4, g5, g6⟩ := entry_cells (by simpa using h2)
    obtain ⟨raw, e3, _⟩ := DataW.trod_bool Try.underlying4 h3
    obtain ⟨v, e4, _, wf⟩ := DataW.trod_int Try.underlying25 h4
    simp at e0 e1 e3 e4
    subst e0 e1 e3 e4 g0 g1 g2 g3 g4 g5 g6
    exact ⟨⟨t, i, f, p, w', h', k, u, d, raw, v⟩, rfl, u64_lo wf, u64_hi wf⟩
theorem open_laid {r : Reach} {b0 : Nat} {v : Value} {x : DataW H} {ps : List MemPlace} (hv : Value.okWide Try.prog w r b0 27 v) (h : DataW.Trod enc Try.prog w base spare held 27 v x ps) :
    ∃ l, v = .agg (ldCells l).toArray ∧ IsLd l := by
  obtain ⟨cs, rfl, _⟩ := okWide_struct Try.underlying27 hv
  obtain ⟨l⟩ := cs
  obtain ⟨fuel, hf⟩ := h
  obtain ⟨c, hc, hi⟩ := laid_cells (cs := l) (by simpa [Value.cells] using hf)
  subst hc
  exact ⟨c, rfl, hi⟩
theorem laid_at {p : Addr} {cs : List Value} {fuel : Nat} {x : DataW H × List MemPlace} (hc : w.cells? base p 11 = some cs) (ht : DataW.trod enc Try.prog w base spare held fuel 27 cs = some x) : ∃ l, IsLd l ∧ LdAt w p l := by
  obtain ⟨_, hl, hcell⟩ := World.cells?_some hc
  obtain ⟨l, rfl, ok⟩ := laid_cells ht
  have k : ∀ j, 0 < j → j < 11 → w.cell? ⟨p.block, p.off + j, none⟩ = (ldCells l)[j]? := fun j h0 h1 => by
    rw [← add_at p j h0]
    exact hcell j (by omega)
  refine ⟨l, ok, ?_, k 1 (by omega) (by omega), k 2 (by omega) (by omega), k 3 (by omega) (by omega), k 4 (by omega) (by omega), k 5 (by omega) (by omega), k 6 (by omega) (by omega), k 7 (by omega) (by omega), k 8 (by omega) (by omega), k 9 (by omega) (by omega), k 10 (by omega) (by omega)⟩
  have := hcell 0 (by omega); simpa [Addr.add, ldCells] using this
theorem lds_of {fuel : Nat} {cs : List Value} {x : DataW H × List MemPlace} (h : DataW.trod enc Try.prog w base spare held fuel 22 cs = some x) :
    ∃ A n c, cs = [.slice A n c] ∧ n ≤ maxLen ∧ Lds w w.heap.size A n := by
  rcases DataW.trod_slice Try.underlying22 h with ⟨rfl, _⟩ | ⟨a, len, cap, elems, rest, m, _, rfl, _, _, hlc, hcap, hlen, hel, _⟩
  · exact ⟨none, 0, 0, rfl, Nat.zero_le _, fun h0 => absurd h0 (Nat.lt_irrefl 0)⟩
  · have hat : ∀ i, i < len → ∃ l, IsLd l ∧ LdAt w (a.add (i * 11)) l := fun i hi => by
      have he := hel i hi
      rw [List.getElem?_eq_getElem (by omega), cellsLaid] at he
      obtain ⟨cs', hc, ht⟩ := Option.bind_eq_some_iff.1 he
      exact laid_at hc ht
    refine ⟨some a, len, cap, rfl, Nat.le_trans hlc hcap, fun h0 => ⟨a, rfl, ?_, hat⟩⟩
    obtain ⟨_, _, g⟩ := hat 0 h0
    have := World.block_lt_of_cell? w _ g.c0
    rwa [add_blk] at this
theorem open_lds {r : Reach} {b0 : Nat} {v : Value} {x : DataW H} {ps : List MemPlace} (hv : Value.okWide Try.prog w r b0 22 v) (h : DataW.Trod enc Try.prog w base spare held 22 v x ps) :
    ∃ A n c, v = .slice A n c ∧ n ≤ maxLen ∧ Lds w w.heap.size A n := by
  obtain ⟨A, n, c, rfl⟩ := okWide_slice Try.underlying22 hv
  obtain ⟨fuel, hf⟩ := h
  obtain ⟨A', n', c', e, hn, ha⟩ := lds_of hf
  simp only [Value.cells] at e
  injection e with e
  injection e with e1 e2 e3
  subst e1 e2 e3
  exact ⟨_, _, _, rfl, hn, ha⟩
theorem open_case {r : Reach} {b0 : Nat} {v : Value} {x : DataW H} {ps : List MemPlace} (hv : Value.okWide Try.prog w r b0 39 v) (h : DataW.Trod enc Try.prog w base spare held 39 v x ps) :
    ∃ A n c, ∃ fr root page : Int, v = .agg #[.int .i64 fr, .slice A n c, .int .i64 root, .int .i64 page] ∧ n ≤ maxLen ∧ Lds w w.heap.size A n := by
  obtain ⟨cs, rfl, hl⟩ := okWide_struct Try.underlying39 hv
  obtain ⟨l⟩ := cs
  obtain ⟨fuel, hf⟩ := h
  have hf' : DataW.trod enc Try.prog w base spare held fuel 39 l = some (x, ps) := by simpa [Value.cells] using hf
  have hl' : l.length = 4 := by simpa [cellsCase] using hl
  match l, hl' with
  | [c0, c1, c2, c3], _ =>
    obtain ⟨n0, y0, h0⟩ := field_reads Try.underlying39 hf' 0 _ rfl 0 1 rfl (by kernel_rfl)
    obtain ⟨n1, y1, h1⟩ := field_reads Try.underlying39 hf' 1 _ rfl 1 1 rfl (by kernel_rfl)
    obtain ⟨n2, y2, h2⟩ := field_reads Try.underlying39 hf' 2 _ rfl 2 1 rfl (by kernel_rfl)
    obtain ⟨n3, y3, h3⟩ := field_reads Try.underlying39 hf' 3 _ rfl 3 1 rfl (by kernel_rfl)
    obtain ⟨fr, e0, _, _⟩ := DataW.trod_int Try.underlying3 h0
    obtain ⟨A, n, c, e1, hn, ha⟩ := lds_of h1
    obtain ⟨root, e2, _, _⟩ := DataW.trod_int Try.underlying3 h2
    obtain ⟨page, e3, _, _⟩ := DataW.trod_int Try.underlying3 h3
    simp at e0 e1 e2 e3
    subst e0 e1 e2 e3
    exact ⟨A, n, c, fr, root, page, rfl, hn, ha⟩
end
end Go.Proofs.Ytaphihoomipdaaa
