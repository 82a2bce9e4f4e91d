/- What comes in, opened: a call of gap, a list of calls, an asking for room. -/
import Derived.Test.YtekfkglielmfaaaProg
import Derived.Test.YtekfkglielmfaaaTgQ
import Derived.Test.YtekfkglielmfaaaTrO
import Derived.Test.YtekfkglielmfaaaTrH
import Derived.WalkKit
import Derived.WalkSpells
import Derived.Below
import Derived.ProofKit
import Derived.OpenShut
import Derived.Lib.SmallJoins
import Derived.Deep.Slices
import Derived.Deep.Fields
import Derived.ChangeSame
import Derived.Carry
namespace Go.Proofs.Ytekfkglielmfaaa
open Go.RowKit

theorem laidOut : laidOutB Try.prog = true := by kernel_rfl
theorem own : ownKnob Try.prog.godebug = none := by kernel_rfl
theorem u8_lo {n : Int} (h : (Lit.int .u8 n).wf = true) : 0 ≤ n := by simp [Lit.wf, IntKind.min, IntKind.max, IntKind.signed, IntKind.bits] at h; omega
theorem u8_hi {n : Int} (h : (Lit.int .u8 n).wf = true) : n < 256 := by simp [Lit.wf, IntKind.min, IntKind.max, IntKind.signed, IntKind.bits] at h; omega
theorem u16_lo {n : Int} (h : (Lit.int .u16 n).wf = true) : 0 ≤ n := by simp [Lit.wf, IntKind.min, IntKind.max, IntKind.signed, IntKind.bits] at h; omega
theorem u16_hi {n : Int} (h : (Lit.int .u16 n).wf = true) : n < 65536 := by simp [Lit.wf, IntKind.min, IntKind.max, IntKind.signed, IntKind.bits] at h; omega
theorem u64_lo {n : Int} (h : (Lit.int .u64 n).wf = true) : 0 ≤ n := by simp [Lit.wf, IntKind.min, IntKind.max, IntKind.signed, IntKind.bits] at h; omega
theorem u64_hi {n : Int} (h : (Lit.int .u64 n).wf = true) : n < 18446744073709551616 := by simp [Lit.wf, IntKind.min, IntKind.max, IntKind.signed, IntKind.bits] at h; omega
theorem fits_wf {n : Int} (h : (Lit.int .i64 n).wf = true) : Fits n := by constructor <;> (simp [Lit.wf, IntKind.min, IntKind.max, IntKind.signed, IntKind.bits] at h; omega)
theorem add_blk (a : Addr) (n : Nat) : (a.add n).block = a.block := by unfold Addr.add; split <;> rfl
theorem add_at (a : Addr) (j : Nat) (h : 0 < j) : a.add j = ⟨a.block, a.off + j, none⟩ := by unfold Addr.add; rw [if_neg (by omega)]
section
open Go.Joins Go.ChangeShapes Go.WideShapes Go.ChangeAt Go.RowKit Go.Deep
variable {H : Type} {enc : TypeId × Value → H} {P : Program} {w : World} {base : Nat} {spare : Nat → Bool} {held : Bool}
/-- A field of a struct that reads, reads. -/
theorem field_reads {e : TypeId} {fs : Array Field} {fuel : Nat} {cs : List Value} {x : DataW H × List MemPlace} (he : P.underlying e = some (.struct fs))
    (h : DataW.trod enc P w base spare held fuel e cs = some x) (j : Nat) (f : Field) (hj : fs[j]? = some f) (o c : Nat) (ho : f.offset = o) (hc : P.cellsOf f.type = c) : ∃ n y, DataW.trod enc P w base spare held n f.type ((cs.drop o).take c) = some y := by
  subst ho hc
  obtain ⟨xs, n, _, _, hl, hxl, hf⟩ := DataW.trod_struct he h
  have hjl : j < fs.size := (Array.getElem?_eq_some_iff.1 hj).1
  have hr := hf j f hj
  rw [List.getElem?_eq_getElem (by omega)] at hr
  exact ⟨n, _, hr⟩
end
theorem cellsAc : Try.prog.cellsOf 54 = 4 := by kernel_rfl
structure Ac where
  k : Int
  f : Int
  t : Int
  n : Int
def acCells (l : Ac) : List Value := [.int .i64 l.k, .int .i64 l.f, .int .i64 l.t, .int .i64 l.n]
structure IsAc (l : Ac) : Prop where
  k : Fits l.k
  f : Fits l.f
  t : Fits l.t
  n : Fits l.n
/-- As it lies from an address on. -/
structure AcAt (w : World) (p : Addr) (l : Ac) : Prop where
  c0 : w.cell? p = some (.int .i64 l.k)
  c1 : w.cell? ⟨p.block, p.off + 1, none⟩ = some (.int .i64 l.f)
  c2 : w.cell? ⟨p.block, p.off + 2, none⟩ = some (.int .i64 l.t)
  c3 : w.cell? ⟨p.block, p.off + 3, none⟩ = some (.int .i64 l.n)
theorem AcAt.below {w w' : World} {B : Nat} {p : Addr} {l : Ac} (h : AcAt w p l) (hb : Below B w w') (hp : p.block < B) : AcAt w' p l :=
  ⟨(hb.cell hp).trans h.c0, (hb.cell (p := ⟨_, _, none⟩) hp).trans h.c1, (hb.cell (p := ⟨_, _, none⟩) hp).trans h.c2, (hb.cell (p := ⟨_, _, none⟩) hp).trans h.c3⟩
/-- A list of them as it lies below block b. -/
def Acs (w : World) (b : Nat) (A : Option Addr) (n : Nat) : Prop :=
  0 < n → ∃ a, A = some a ∧ a.block < b ∧ ∀ i, i < n → ∃ l, IsAc l ∧ AcAt w (a.add (i * 4)) l
theorem Acs.below {w w' : World} {b n : Nat} {A : Option Addr} (h : Acs w b A n) (hb : Below b w w') : Acs w' b A n := fun hn => by
  obtain ⟨a, e, hlt, hc⟩ := h hn
  refine ⟨a, e, hlt, fun i hi => ?_⟩
  obtain ⟨l, ok, g⟩ := hc i hi
  exact ⟨l, ok, g.below hb (by rw [add_blk]; exact hlt)⟩
theorem ac_now {W w : World} {b n i : Nat} {A : Option Addr} (h : Acs W b A n) (hb : Below b W w) (hi : i < n) :
    ∃ ad, A = some ad ∧ (ad.add (i * 4)).block < b ∧ ∃ l, IsAc l ∧ AcAt w (ad.add (i * 4)) l := by
  obtain ⟨p, e, hlt, hc⟩ := (h.below hb) (by omega)
  obtain ⟨l, ok, hat⟩ := hc i hi
  exact ⟨p, e, by rw [add_blk]; exact hlt, l, ok, hat⟩
section
open Go.Joins Go.ChangeShapes Go.WideShapes Go.ChangeAt Go.RowKit Go.Deep
variable {H : Type} {enc : TypeId × Value → H} {w : World} {base : Nat} {spare : Nat → Bool} {held : Bool}
theorem ac_cells {fuel : Nat} {cs : List Value} {x : DataW H × List MemPlace} (h : DataW.trod enc Try.prog w base spare held fuel 54 cs = some x) : ∃ l, cs = acCells l ∧ IsAc l := by
  have hl : cs.length = 4 := by
    obtain ⟨_, _, _, _, hl, _⟩ := DataW.trod_struct Try.underlying54 h
    rw [hl]; exact cellsAc
  match cs, hl with
  | [c0, c1, c2, c3], _ =>
    obtain ⟨n0, y0, h0⟩ := field_reads Try.underlying54 h 0 _ rfl 0 1 rfl (by kernel_rfl)
    obtain ⟨n1, y1, h1⟩ := field_reads Try.underlying54 h 1 _ rfl 1 1 rfl (by kernel_rfl)
    obtain ⟨n2, y2, h2⟩ := field_reads Try.underlying54 h 2 _ rfl 2 1 rfl (by kernel_rfl)
    obtain ⟨n3, y3, h3⟩ := field_reads Try.underlying54 h 3 _ rfl 3 1 rfl (by kernel_rfl)
    obtain ⟨k, e0, _, f0⟩ := DataW.trod_int Try.underlying3 h0
    obtain ⟨f, e1, _, f1⟩ := DataW.trod_int Try.underlying3 h1
    obtain ⟨t, e2, _, f2⟩ := DataW.trod_int Try.underlying3 h2
    obtain ⟨n, e3, _, f3⟩ := DataW.trod_int Try.underlying3 h3
    simp at e0 e1 e2 e3
    subst e0 e1 e2 e3
    exact ⟨⟨k, f, t, n⟩, rfl, ⟨fits_wf f0, fits_wf f1, fits_wf f2, fits_wf f3⟩⟩
theorem open_act18 {r : Reach} {b0 : Nat} {v : Value} {x : DataW H} {ps : List MemPlace} (hv : Value.okWide Try.prog w r b0 54 v) (h : DataW.Trod enc Try.prog w base spare held 54 v x ps) : ∃ l, v = .agg (acCells l).toArray ∧ IsAc l := by
  obtain ⟨cs, rfl, _⟩ := okWide_struct Try.underlying54 hv
  obtain ⟨l⟩ := cs
  obtain ⟨fuel, hf⟩ := h
  obtain ⟨c, hc, hi⟩ := ac_cells (cs := l) (by simpa [Value.cells] using hf)
  subst hc
  exact ⟨c, rfl, hi⟩
theorem ac_at {p : Addr} {cs : List Value} {fuel : Nat} {x : DataW H × List MemPlace} (hc : w.cells? base p 4 = some cs) (ht : DataW.trod enc Try.prog w base spare held fuel 54 cs = some x) : ∃ l, IsAc l ∧ AcAt w p l := by
  obtain ⟨_, hl, hcell⟩ := World.cells?_some hc
  obtain ⟨l, rfl, ok⟩ := ac_cells ht
  have k : ∀ j, 0 < j → j < 4 → w.cell? ⟨p.block, p.off + j, none⟩ = (acCells l)[j]? := fun j h0 h1 => by
    rw [← add_at p j h0]
    exact hcell j (by omega)
  refine ⟨l, ok, ?_, k 1 (by omega) (by omega), k 2 (by omega) (by omega), k 3 (by omega) (by omega)⟩
  have := hcell 0 (by omega); simpa [Addr.add, acCells] using this
theorem acs_of {fuel : Nat} {cs : List Value} {x : DataW H × List MemPlace} (h : DataW.trod enc Try.prog w base spare held fuel 22 cs = some x) :
    ∃ A n c, cs = [.slice A n c] ∧ n ≤ maxLen ∧ Acs w w.heap.size A n := by
  rcases DataW.trod_slice Try.underlying22 h with ⟨rfl, _⟩ | ⟨a, len, cap, elems, rest, m, _, rfl, _, _, hlc, hcap, hlen, hel, _⟩
  · exact ⟨none, 0, 0, rfl, Nat.zero_le _, fun h0 => absurd h0 (Nat.lt_irrefl 0)⟩
  · have hat : ∀ i, i < len → ∃ l, IsAc l ∧ AcAt w (a.add (i * 4)) l := fun i hi => by
      have he := hel i hi
      rw [List.getElem?_eq_getElem (by omega), cellsAc] at he
      obtain ⟨cs', hc, ht⟩ := Option.bind_eq_some_iff.1 he
      exact ac_at hc ht
    refine ⟨some a, len, cap, rfl, Nat.le_trans hlc hcap, fun h0 => ⟨a, rfl, ?_, hat⟩⟩
    obtain ⟨_, _, g⟩ := hat 0 h0
    have := World.block_lt_of_cell? w _ g.c0
    rwa [add_blk] at this
theorem open_list_act18 {r : Reach} {b0 : Nat} {v : Value} {x : DataW H} {ps : List MemPlace} (hv : Value.okWide Try.prog w r b0 22 v) (h : DataW.Trod enc Try.prog w base spare held 22 v x ps) :
    ∃ A n c, v = .slice A n c ∧ n ≤ maxLen ∧ Acs w w.heap.size A n := by
  obtain ⟨A, n, c, rfl⟩ := okWide_slice Try.underlying22 hv
  obtain ⟨fuel, hf⟩ := h
  obtain ⟨A', n', c', e, hn, ha⟩ := acs_of hf
  simp only [Value.cells] at e
  injection e with e
  injection e with e1 e2 e3
  subst e1 e2 e3
  exact ⟨_, _, _, rfl, hn, ha⟩
end
theorem cellsAk : Try.prog.cellsOf 40 = 3 := by kernel_rfl
structure Ak where
  u : Int
  n : Int
  o : Int
def akCells (l : Ak) : List Value := [.int .i64 l.u, .int .i64 l.n, .int .i64 l.o]
structure IsAk (l : Ak) : Prop where
  u : Fits l.u
  n : Fits l.n
  o : Fits l.o
/-- As it lies from an address on. -/
structure AkAt (w : World) (p : Addr) (l : Ak) : Prop where
  c0 : w.cell? p = some (.int .i64 l.u)
  c1 : w.cell? ⟨p.block, p.off + 1, none⟩ = some (.int .i64 l.n)
  c2 : w.cell? ⟨p.block, p.off + 2, none⟩ = some (.int .i64 l.o)
theorem AkAt.below {w w' : World} {B : Nat} {p : Addr} {l : Ak} (h : AkAt w p l) (hb : Below B w w') (hp : p.block < B) : AkAt w' p l :=
  ⟨(hb.cell hp).trans h.c0, (hb.cell (p := ⟨_, _, none⟩) hp).trans h.c1, (hb.cell (p := ⟨_, _, none⟩) hp).trans h.c2⟩
/-- A list of them as it lies below block b. -/
def Aks (w : World) (b : Nat) (A : Option Addr) (n : Nat) : Prop :=
  0 < n → ∃ a, A = some a ∧ a.block < b ∧ ∀ i, i < n → ∃ l, IsAk l ∧ AkAt w (a.add (i * 3)) l
theorem Aks.below {w w' : World} {b n : Nat} {A : Option Addr} (h : Aks w b A n) (hb : Below b w w') : Aks w' b A n := fun hn => by
  obtain ⟨a, e, hlt, hc⟩ := h hn
  refine ⟨a, e, hlt, fun i hi => ?_⟩
  obtain ⟨l, ok, g⟩ := hc i hi
  exact ⟨l, ok, g.below hb (by rw [add_blk]; exact hlt)⟩
theorem ak_now {W w : World} {b n i : Nat} {A : Option Addr} (h : Aks W b A n) (hb : Below b W w) (hi : i < n) :
    ∃ ad, A = some ad ∧ (ad.add (i * 3)).block < b ∧ ∃ l, IsAk l ∧ AkAt w (ad.add (i * 3)) l := by
  obtain ⟨p, e, hlt, hc⟩ := (h.below hb) (by omega)
  obtain ⟨l, ok, hat⟩ := hc i hi
  exact ⟨p, e, by rw [add_blk]; exact hlt, l, ok, hat⟩
section
open Go.Joins Go.ChangeShapes Go.WideShapes Go.ChangeAt Go.RowKit Go.Deep
variable {H : Type} {enc : TypeId × Value → H} {w : World} {base : Nat} {spare : Nat → Bool} {held : Bool}
theorem ak_cells {fuel : Nat} {cs : List Value} {x : DataW H × List MemPlace} (h : DataW.trod enc Try.prog w base spare held fuel 40 cs = some x) : ∃ l, cs = akCells l ∧ IsAk l := by
  have hl : cs.length = 3 := by
    obtain ⟨_, _, _, _, hl, _⟩ := DataW.trod_struct Try.underlying40 h
    rw [hl]; exact cellsAk
  match cs, hl with
  | [c0, c1, c2], _ =>
    obtain ⟨n0, y0, h0⟩ := field_reads Try.underlying40 h 0 _ rfl 0 1 rfl (by kernel_rfl)
    obtain ⟨n1, y1, h1⟩ := field_reads Try.underlying40 h 1 _ rfl 1 1 rfl (by kernel_rfl)
    obtain ⟨n2, y2, h2⟩ := field_reads Try.underlying40 h 2 _ rfl 2 1 rfl (by kernel_rfl)
    obtain ⟨u, e0, _, f0⟩ := DataW.trod_int Try.underlying3 h0
    obtain ⟨n, e1, _, f1⟩ := DataW.trod_int Try.underlying3 h1
    obtain ⟨o, e2, _, f2⟩ := DataW.trod_int Try.underlying3 h2
    simp at e0 e1 e2
    subst e0 e1 e2
    exact ⟨⟨u, n, o⟩, rfl, ⟨fits_wf f0, fits_wf f1, fits_wf f2⟩⟩
theorem open_ask18 {r : Reach} {b0 : Nat} {v : Value} {x : DataW H} {ps : List MemPlace} (hv : Value.okWide Try.prog w r b0 40 v) (h : DataW.Trod enc Try.prog w base spare held 40 v x ps) : ∃ l, v = .agg (akCells l).toArray ∧ IsAk l := by
  obtain ⟨cs, rfl, _⟩ := okWide_struct Try.underlying40 hv
  obtain ⟨l⟩ := cs
  obtain ⟨fuel, hf⟩ := h
  obtain ⟨c, hc, hi⟩ := ak_cells (cs := l) (by simpa [Value.cells] using hf)
  subst hc
  exact ⟨c, rfl, hi⟩
end
def Lsa (w : World) (b : Nat) (A : Option Addr) (M : List Ac) : Prop := 0 < M.length → ∃ a, A = some a ∧ ∀ i (h : i < M.length), IsAc M[i] ∧ (a.add (i * 4)).block < b ∧ AcAt w (a.add (i * 4)) M[i]
theorem Lsa.below {w w' : World} {b : Nat} {A : Option Addr} {M : List Ac} (h : Lsa w b A M) (hb : Below b w w') : Lsa w' b A M := fun h0 => by
  obtain ⟨a, e, hc⟩ := h h0
  exact ⟨a, e, fun i hi => ⟨(hc i hi).1, (hc i hi).2.1, (hc i hi).2.2.below hb (hc i hi).2.1⟩⟩
theorem Acs.list {w : World} {b n : Nat} {A : Option Addr} (h : Acs w b A n) : ∃ M : List Ac, M.length = n ∧ Lsa w b A M := by
  by_cases hn : 0 < n
  · obtain ⟨a, e, hlt, hc⟩ := h hn
    refine ⟨List.ofFn (n := n) fun i => (hc i.1 i.2).choose, by simp, fun _ => ⟨a, e, fun i hi => ?_⟩⟩
    have hi' : i < n := by simpa using hi
    rw [List.getElem_ofFn]
    exact ⟨(hc i hi').choose_spec.1, by rw [add_blk]; exact hlt, (hc i hi').choose_spec.2⟩
  · exact ⟨[], by simp; omega, fun h0 => absurd h0 (by simp)⟩
end Go.Proofs.Ytekfkglielmfaaa
