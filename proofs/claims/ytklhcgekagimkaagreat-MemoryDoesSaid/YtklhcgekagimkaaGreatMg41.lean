/- What comes in, opened: a call of memory, a list of calls, calls with three numbers. -/
import Derived.Test.YtklhcgekagimkaaGreatProg
import Derived.Test.YtklhcgekagimkaaGreatMg40
import Derived.WalkKit
import Derived.WalkSpells
import Derived.Below
import Derived.ProofKit
import Derived.OpenShut
import Derived.Lib.SmallJoins
import Derived.Deep.Slices
import Derived.Deep.Fields
import Derived.ChangeSame
import Derived.Carry
namespace Go.Proofs.YtklhcgekagimkaaGreat
open Go.RowKit

theorem laidOut : laidOutB Tryz.prog = true := by kernel_rfl
theorem own : ownKnob Tryz.prog.godebug = none := by kernel_rfl
theorem u8_lo {n : Int} (h : (Lit.int .u8 n).wf = true) : 0 ≤ n := by simp [Lit.wf, IntKind.min, IntKind.max, IntKind.signed, IntKind.bits] at h; omega
theorem u8_hi {n : Int} (h : (Lit.int .u8 n).wf = true) : n < 256 := by simp [Lit.wf, IntKind.min, IntKind.max, IntKind.signed, IntKind.bits] at h; omega
theorem u16_lo {n : Int} (h : (Lit.int .u16 n).wf = true) : 0 ≤ n := by simp [Lit.wf, IntKind.min, IntKind.max, IntKind.signed, IntKind.bits] at h; omega
theorem u16_hi {n : Int} (h : (Lit.int .u16 n).wf = true) : n < 65536 := by simp [Lit.wf, IntKind.min, IntKind.max, IntKind.signed, IntKind.bits] at h; omega
theorem u64_lo {n : Int} (h : (Lit.int .u64 n).wf = true) : 0 ≤ n := by simp [Lit.wf, IntKind.min, IntKind.max, IntKind.signed, IntKind.bits] at h; omega
theorem u64_hi {n : Int} (h : (Lit.int .u64 n).wf = true) : n < 18446744073709551616 := by simp [Lit.wf, IntKind.min, IntKind.max, IntKind.signed, IntKind.bits] at h; omega
theorem fits_wf {n : Int} (h : (Lit.int .i64 n).wf = true) : Fits n := by constructor <;> (simp [Lit.wf, IntKind.min, IntKind.max, IntKind.signed, IntKind.bits] at h; omega)
theorem add_blk (a : Addr) (n : Nat) : (a.add n).block = a.block := by unfold Addr.add; split <;> rfl
theorem add_at (a : Addr) (j : Nat) (h : 0 < j) : a.add j = ⟨a.block, a.off + j, none⟩ := by unfold Addr.add; rw [if_neg (by omega)]
section
open Go.Joins Go.ChangeShapes Go.WideShapes Go.ChangeAt Go.RowKit Go.Deep
variable {H : Type} {enc : TypeId × Value → H} {P : Program} {w : World} {base : Nat} {spare : Nat → Bool} {held : Bool}
/-- A field of a struct that reads, reads. -/
theorem field_reads {e : TypeId} {fs : Array Field} {fuel : Nat} {cs : List Value} {x : DataW H × List MemPlace} (he : P.underlying e = some (.struct fs))
    (h : DataW.trod enc P w base spare held fuel e cs = some x) (j : Nat) (f : Field) (hj : fs[j]? = some f) (o c : Nat) (ho : f.offset = o) (hc : P.cellsOf f.type = c) : ∃ n y, DataW.trod enc P w base spare held n f.type ((cs.drop o).take c) = some y := by
  subst ho hc
  obtain ⟨xs, n, _, _, hl, hxl, hf⟩ := DataW.trod_struct he h
  have hjl : j < fs.size := (Array.getElem?_eq_some_iff.1 hj).1
  have hr := hf j f hj
  rw [List.getElem?_eq_getElem (by omega)] at hr
  exact ⟨n, _, hr⟩
end
theorem cellsAc : Tryz.prog.cellsOf 59 = 6 := by kernel_rfl
structure Ac where
  k : Int
  f : Int
  o : Int
  a : Int
  t : Int
  n : Int
def acCells (l : Ac) : List Value := [.int .i64 l.k, .int .i64 l.f, .int .i64 l.o, .int .i64 l.a, .int .i64 l.t, .int .i64 l.n]
structure IsAc (l : Ac) : Prop where
  k : Fits l.k
  f : Fits l.f
  o : Fits l.o
  a : Fits l.a
  t : Fits l.t
  n : Fits l.n
/-- As it lies from an address on. -/
structure AcAt (w : World) (p : Addr) (l : Ac) : Prop where
  c0 : w.cell? p = some (.int .i64 l.k)
  c1 : w.cell? ⟨p.block, p.off + 1, none⟩ = some (.int .i64 l.f)
  c2 : w.cell? ⟨p.block, p.off + 2, none⟩ = some (.int .i64 l.o)
  c3 : w.cell? ⟨p.block, p.off + 3, none⟩ = some (.int .i64 l.a)
  c4 : w.cell? ⟨p.block, p.off + 4, none⟩ = some (.int .i64 l.t)
  c5 : w.cell? ⟨p.block, p.off + 5, none⟩ = some (.int .i64 l.n)
theorem AcAt.below {w w' : World} {B : Nat} {p : Addr} {l : Ac} (h : AcAt w p l) (hb : Below B w w') (hp : p.block < B) : AcAt w' p l :=
  ⟨(hb.cell hp).trans h.c0, (hb.cell (p := ⟨_, _, none⟩) hp).trans h.c1, (hb.cell (p := ⟨_, _, none⟩) hp).trans h.c2, (hb.cell (p := ⟨_, _, none⟩) hp).trans h.c3, (hb.cell (p := ⟨_, _, none⟩) hp).trans h.c4, (hb.cell (p := ⟨_, _, none⟩) hp).trans h.c5⟩
/-- A list of them as it lies below block b. -/
def Acs (w : World) (b : Nat) (A : Option Addr) (n : Nat) : Prop :=
  0 < n → ∃ a, A = some a ∧ a.block < b ∧ ∀ i, i < n → ∃ l, IsAc l ∧ AcAt w (a.add (i * 6)) l
theorem Acs.below {w w' : World} {b n : Nat} {A : Option Addr} (h : Acs w b A n) (hb : Below b w w') : Acs w' b A n := fun hn => by
  obtain ⟨a, e, hlt, hc⟩ := h hn
  refine ⟨a, e, hlt, fun i hi => ?_⟩
  obtain ⟨l, ok, g⟩ := hc i hi
  exact ⟨l, ok, g.below hb (by rw [add_blk]; exact hlt)⟩
theorem ac_now {W w : World} {b n i : Nat} {A : Option Addr} (h : Acs W b A n) (hb : Below b W w) (hi : i < n) :
    ∃ ad, A = some ad ∧ (ad.add (i * 6)).block < b ∧ ∃ l, IsAc l ∧ AcAt w (ad.add (i * 6)) l := by
  obtain ⟨p, e, hlt, hc⟩ := (h.below hb) (by omega)
  obtain ⟨l, ok, hat⟩ := hc i hi
  exact ⟨p, e, by rw [add_blk]; exact hlt, l, ok, hat⟩
section
open Go.Joins Go.ChangeShapes Go.WideShapes Go.ChangeAt Go.RowKit Go.Deep
variable {H : Type} {enc : TypeId × Value → H} {w : World} {base : Nat} {spare : Nat → Bool} {held : Bool}
theorem ac_cells {fuel : Nat} {cs : List Value} {x : DataW H × List MemPlace} (h : DataW.trod enc Tryz.prog w base spare held fuel 59 cs = some x) : ∃ l, cs = acCells l ∧ IsAc l := by
  have hl : cs.length = 6 := by
    obtain ⟨_, _, _, _, hl, _⟩ := DataW.trod_struct Tryz.underlying59 h
    rw [hl]; exact cellsAc
  match cs, hl with
  | [c0, c1, c2, c3, c4, c5], _ =>
    obtain ⟨n0, y0, h0⟩ := field_reads Tryz.underlying59 h 0 _ rfl 0 1 rfl (by kernel_rfl)
    obtain ⟨n1, y1, h1⟩ := field_reads Tryz.underlying59 h 1 _ rfl 1 1 rfl (by kernel_rfl)
    obtain ⟨n2, y2, h2⟩ := field_reads Tryz.underlying59 h 2 _ rfl 2 1 rfl (by kernel_rfl)
    obtain ⟨n3, y3, h3⟩ := field_reads Tryz.underlying59 h 3 _ rfl 3 1 rfl (by kernel_rfl)
    obtain ⟨n4, y4, h4⟩ := field_reads Tryz.underlying59 h 4 _ rfl 4 1 rfl (by kernel_rfl)
    obtain ⟨n5, y5, h5⟩ := field_reads Tryz.underlying59 h 5 _ rfl 5 1 rfl (by kernel_rfl)
    obtain ⟨k, e0, _, f0⟩ := DataW.trod_int Tryz.underlying3 h0
    obtain ⟨f, e1, _, f1⟩ := DataW.trod_int Tryz.underlying3 h1
    obtain ⟨o, e2, _, f2⟩ := DataW.trod_int Tryz.underlying3 h2
    obtain ⟨a, e3, _, f3⟩ := DataW.trod_int Tryz.underlying3 h3
    obtain ⟨t, e4, _, f4⟩ := DataW.trod_int Tryz.underlying3 h4
    obtain ⟨n, e5, _, f5⟩ := DataW.trod_int Tryz.underlying3 h5
    simp at e0 e1 e2 e3 e4 e5
    subst e0 e1 e2 e3 e4 e5
    exact ⟨⟨k, f, o, a, t, n⟩, rfl, ⟨fits_wf f0, fits_wf f1, fits_wf f2, fits_wf f3, fits_wf f4, fits_wf f5⟩⟩
set_option maxRecDepth 100000 in
theorem open_act17 {r : Reach} {b0 : Nat} {v : Value} {x : DataW H} {ps : List MemPlace} (hv : Value.okWide Tryz.prog w r b0 59 v) (h : DataW.Trod enc Tryz.prog w base spare held 59 v x ps) : ∃ l, v = .agg (acCells l).toArray ∧ IsAc l := by
  obtain ⟨cs, rfl, _⟩ := okWide_struct Tryz.underlying59 hv
  obtain ⟨l⟩ := cs
  obtain ⟨fuel, hf⟩ := h
  obtain ⟨c, hc, hi⟩ := ac_cells (cs := l) (by simpa [Value.cells] using hf)
  subst hc
  exact ⟨c, rfl, hi⟩
theorem ac_at {p : Addr} {cs : List Value} {fuel : Nat} {x : DataW H × List MemPlace} (hc : w.cells? base p 6 = some cs) (ht : DataW.trod enc Tryz.prog w base spare held fuel 59 cs = some x) : ∃ l, IsAc l ∧ AcAt w p l := by
  obtain ⟨_, hl, hcell⟩ := World.cells?_some hc
  obtain ⟨l, rfl, ok⟩ := ac_cells ht
  have k : ∀ j, 0 < j → j < 6 → w.cell? ⟨p.block, p.off + j, none⟩ = (acCells l)[j]? := fun j h0 h1 => by
    rw [← add_at p j h0]
    exact hcell j (by omega)
  refine ⟨l, ok, ?_, k 1 (by omega) (by omega), k 2 (by omega) (by omega), k 3 (by omega) (by omega), k 4 (by omega) (by omega), k 5 (by omega) (by omega)⟩
  have := hcell 0 (by omega); simpa [Addr.add, acCells] using this
theorem acs_of {fuel : Nat} {cs : List Value} {x : DataW H × List MemPlace} (h : DataW.trod enc Tryz.prog w base spare held fuel 22 cs = some x) :
    ∃ A n c, cs = [.slice A n c] ∧ n ≤ maxLen ∧ Acs w w.heap.size A n := by
  rcases DataW.trod_slice Tryz.underlying22 h with ⟨rfl, _⟩ | ⟨a, len, cap, elems, rest, m, _, rfl, _, _, hlc, hcap, hlen, hel, _⟩
  · exact ⟨none, 0, 0, rfl, Nat.zero_le _, fun h0 => absurd h0 (Nat.lt_irrefl 0)⟩
  · have hat : ∀ i, i < len → ∃ l, IsAc l ∧ AcAt w (a.add (i * 6)) l := fun i hi => by
      have he := hel i hi
      rw [List.getElem?_eq_getElem (by omega), cellsAc] at he
      obtain ⟨cs', hc, ht⟩ := Option.bind_eq_some_iff.1 he
      exact ac_at hc ht
    refine ⟨some a, len, cap, rfl, Nat.le_trans hlc hcap, fun h0 => ⟨a, rfl, ?_, hat⟩⟩
    obtain ⟨_, _, g⟩ := hat 0 h0
    have := World.block_lt_of_cell? w _ g.c0
    rwa [add_blk] at this
set_option maxRecDepth 100000 in
theorem open_list_act17 {r : Reach} {b0 : Nat} {v : Value} {x : DataW H} {ps : List MemPlace} (hv : Value.okWide Tryz.prog w r b0 22 v) (h : DataW.Trod enc Tryz.prog w base spare held 22 v x ps) :
    ∃ A n c, v = .slice A n c ∧ n ≤ maxLen ∧ Acs w w.heap.size A n := by
  obtain ⟨A, n, c, rfl⟩ := okWide_slice Tryz.underlying22 hv
  obtain ⟨fuel, hf⟩ := h
  obtain ⟨A', n', c', e, hn, ha⟩ := acs_of hf
  simp only [Value.cells] at e
  injection e with e
  injection e with e1 e2 e3
  subst e1 e2 e3
  exact ⟨_, _, _, rfl, hn, ha⟩
end
theorem cellsFour : Tryz.prog.cellsOf 61 = 4 := by kernel_rfl
section
open Go.Joins Go.ChangeShapes Go.WideShapes Go.ChangeAt Go.RowKit Go.Deep
variable {H : Type} {enc : TypeId × Value → H} {w : World} {base : Nat} {spare : Nat → Bool} {held : Bool}
set_option maxRecDepth 100000 in
theorem open_four17 {r : Reach} {b0 : Nat} {v : Value} {x : DataW H} {ps : List MemPlace} (hv : Value.okWide Tryz.prog w r b0 61 v) (h : DataW.Trod enc Tryz.prog w base spare held 61 v x ps) :
    ∃ A n c, ∃ z sp pg : Int, v = .agg #[.int .i64 z, .int .i64 sp, .slice A n c, .int .u8 pg] ∧ n ≤ maxLen ∧ Acs w w.heap.size A n ∧ Fits z ∧ Fits sp ∧ (0 ≤ pg ∧ pg < 256) := by
  obtain ⟨cs, rfl, hl⟩ := okWide_struct Tryz.underlying61 hv
  obtain ⟨l⟩ := cs
  obtain ⟨fuel, hf⟩ := h
  have hf' : DataW.trod enc Tryz.prog w base spare held fuel 61 l = some (x, ps) := by simpa [Value.cells] using hf
  have hl' : l.length = 4 := by simpa [cellsFour] using hl
  match l, hl' with
  | [c0, c1, c2, c3], _ =>
    obtain ⟨n0, y0, h0⟩ := field_reads Tryz.underlying61 hf' 0 _ rfl 0 1 rfl (by kernel_rfl)
    obtain ⟨n1, y1, h1⟩ := field_reads Tryz.underlying61 hf' 1 _ rfl 1 1 rfl (by kernel_rfl)
    obtain ⟨n2, y2, h2⟩ := field_reads Tryz.underlying61 hf' 2 _ rfl 2 1 rfl (by kernel_rfl)
    obtain ⟨n3, y3, h3⟩ := field_reads Tryz.underlying61 hf' 3 _ rfl 3 1 rfl (by kernel_rfl)
    obtain ⟨A, n, c, e2, hn, ha⟩ := acs_of h2
    obtain ⟨z, e0, _, f0⟩ := DataW.trod_int Tryz.underlying3 h0
    obtain ⟨sp, e1, _, f1⟩ := DataW.trod_int Tryz.underlying3 h1
    obtain ⟨pg, e3, _, f3⟩ := DataW.trod_int Tryz.underlying5 h3
    simp at e0 e1 e2 e3
    subst e0 e1 e2 e3
    exact ⟨A, n, c, z, sp, pg, rfl, hn, ha, fits_wf f0, fits_wf f1, u8_lo f3, u8_hi f3⟩
end
def Lsa (w : World) (b : Nat) (A : Option Addr) (M : List Ac) : Prop := 0 < M.length → ∃ a, A = some a ∧ ∀ i (h : i < M.length), IsAc M[i] ∧ (a.add (i * 6)).block < b ∧ AcAt w (a.add (i * 6)) M[i]
theorem Lsa.below {w w' : World} {b : Nat} {A : Option Addr} {M : List Ac} (h : Lsa w b A M) (hb : Below b w w') : Lsa w' b A M := fun h0 => by
  obtain ⟨a, e, hc⟩ := h h0
  exact ⟨a, e, fun i hi => ⟨(hc i hi).1, (hc i hi).2.1, (hc i hi).2.2.below hb (hc i hi).2.1⟩⟩
theorem Acs.list {w : World} {b n : Nat} {A : Option Addr} (h : Acs w b A n) : ∃ M : List Ac, M.length = n ∧ Lsa w b A M := by
  by_cases hn : 0 < n
  · obtain ⟨a, e, hlt, hc⟩ := h hn
    refine ⟨List.ofFn (n := n) fun i => (hc i.1 i.2).choose, by simp, fun _ => ⟨a, e, fun i hi => ?_⟩⟩
    have hi' : i < n := by simpa using hi
    rw [List.getElem_ofFn]
    exact ⟨(hc i hi').choose_spec.1, by rw [add_blk]; exact hlt, (hc i hi').choose_spec.2⟩
  · exact ⟨[], by simp; omega, fun h0 => absurd h0 (by simp)⟩
end Go.Proofs.YtklhcgekagimkaaGreat
/- Memory: both, in one state; what a call makes of it. -/
namespace Go.Proofs.YtklhcgekagimkaaGreat
open Go.RowKit
/-- The frame that a dropping names. -/
def dnF (f o : Int) : Int := if 0 ≤ o ∧ o ≤ 8 ∧ 0 ≤ f then f - f % ((2 ^ o.toNat : Nat) : Int) else f
theorem dnF_fits {f : Int} (hf : Fits f) (o : Int) : Fits (dnF f o) := by
  unfold dnF
  split
  · rename_i h
    have h1 := Int.emod_nonneg f (show ((2 ^ o.toNat : Nat) : Int) ≠ 0 by have := two_pos o.toNat; omega)
    have h2 : f % ((2 ^ o.toNat : Nat) : Int) ≤ f := by
      have := Int.mul_ediv_add_emod f ((2 ^ o.toNat : Nat) : Int)
      have h3 : 0 ≤ ((2 ^ o.toNat : Nat) : Int) * (f / ((2 ^ o.toNat : Nat) : Int)) := Int.mul_nonneg (by omega) (Int.ediv_nonneg (by omega) (by omega))
      omega
    exact ⟨by have := hf.1; omega, by have := hf.2; omega⟩
  · exact hf
/-- Where a word is laid, and what. -/
def wrA (f n : Int) : Int := IntKind.i64.wrap (IntKind.i64.wrap (64 * f) + IntKind.i64.wrap (8 * bits .and .i64 n 7))
def wrM (M : Me) (f n : Int) : Me := ⟨M.F, M.S, M.I, stL M.W (wrA f n) (IntKind.u64.wrap n)⟩
/-- What a call makes. -/
def doM (M : Me) (mk : Nat) (l : Ac) : Me :=
  if l.k = 0 ∨ l.k = 1 ∨ l.k = 2 then blM M mk l.o l.a l.t else if l.k = 3 then atM M l.f l.o l.t else if l.k = 4 then drM M (dnF l.f l.o) l.o
  else if l.k = 5 then tnM M l.f l.n l.a l.t else if l.k = 6 then seM M l.f l.a else if l.k = 7 then (if 0 ≤ l.f ∧ l.f < M.I.length then wrM M l.f l.n else M) else blM M mk 0 l.a l.t
theorem doM_ok {n : Nat} {M : Me} (h : MeOk n M) (mk : Nat) (l : Ac) : MeOk n (doM M mk l) := by
  unfold doM
  split
  · exact h.block _ _ _ _
  · split
    · exact h.at_ _ _ _
    · split
      · exact h.drop _ _
      · split
        · exact h.turn _ _ _ _
        · split
          · exact h.sets _ _
          · split
            · split
              · exact h.words _
              · exact h
            · exact h.block _ _ _ _
def mdM (M : Me) (mk : Nat) (L : List Ac) : Me := L.foldl (fun M l => doM M mk l) M
theorem mdM_ok {n : Nat} {M : Me} (h : MeOk n M) (mk : Nat) (L : List Ac) : MeOk n (mdM M mk L) := by
  unfold mdM
  induction L generalizing M with
  | nil => exact h
  | cons l L ih => exact ih (doM_ok h mk l)
theorem mdM_next (M : Me) (mk : Nat) (L : List Ac) {j : Nat} (hj : j < L.length) : mdM M mk (L.take (j + 1)) = doM (mdM M mk (L.take j)) mk L[j] := by
  unfold mdM
  rw [List.take_add_one, List.getElem?_eq_getElem hj, Option.toList_some, List.foldl_append]
  rfl
/-- Both memories over one state. -/
def StE (B : Nat) (w : World) (p : Pn) (r : Rn) (n mk : Nat) (M : Me) : Prop := ∃ X v, PmX B w p X n mk M ∧ RmX B w r v n mk M ∧ ∀ q, MineP p X q → ¬ MineR r v q
section
variable {w w' w1 w2 : World} {B n mk : Nat} {p : Pn} {r : Rn} {X : Nat → Prop} {v : Value} {M M' : Me}
theorem StE.call (h : StE B w p r n mk M) (hb : Below w.heap.size w w') : StE B w' p r n mk M := by
  obtain ⟨X, v, h1, h2, h3⟩ := h
  exact ⟨X, v, h1.call hb, h2.call hb, h3⟩
theorem StE.size (h : StE B w p r n mk M) : B ≤ w.heap.size := by
  obtain ⟨X, v, h1, h2, h3⟩ := h
  exact h1.size
theorem PDid.below (hp : PmX B w p X n mk M) (h : PDid B p X n mk M' w w1) : Below B w w1 := by
  obtain ⟨X1, _, hf, _⟩ := h
  exact hf.below hp.size fun q hq => (hp.mine hq).1
theorem RDid.below (hr : RmX B w r v n mk M) (h : RDid B r v n mk M' w w1) : Below B w w1 := by
  obtain ⟨v1, _, hf, _⟩ := h
  exact hf.below hr.size fun q hq => (hr.mine hq).1
theorem MineP.more {X' : Nat → Prop} {q s : Nat} (hx : ∀ q, X' q → X q ∨ s ≤ q) (h : MineP p X' q) : MineP p X q ∨ s ≤ q := by
  rcases h with e | e | e | e | e | e
  · exact Or.inl (Or.inl e)
  · exact Or.inl (Or.inr (Or.inl e))
  · exact Or.inl (Or.inr (Or.inr (Or.inl e)))
  · exact Or.inl (Or.inr (Or.inr (Or.inr (Or.inl e))))
  · exact Or.inl (Or.inr (Or.inr (Or.inr (Or.inr (Or.inl e)))))
  · rcases hx q e with e | e
    · exact Or.inl (Or.inr (Or.inr (Or.inr (Or.inr (Or.inr e)))))
    · exact Or.inr e
theorem MineR.more {v' : Value} {q s : Nat} (hx : v' = v ∨ ∃ q, v'.ownBlock = some q ∧ s ≤ q) (h : MineR r v' q) : MineR r v q ∨ s ≤ q := by
  rcases hx with rfl | ⟨b, hb, hs⟩
  · exact Or.inl h
  · rcases h with e | e | e | e | e | e | e | e
    · exact Or.inl (Or.inl e)
    · exact Or.inl (Or.inr (Or.inl e))
    · exact Or.inl (Or.inr (Or.inr (Or.inl e)))
    · exact Or.inl (Or.inr (Or.inr (Or.inr (Or.inl e))))
    · exact Or.inl (Or.inr (Or.inr (Or.inr (Or.inr (Or.inl e)))))
    · exact Or.inl (Or.inr (Or.inr (Or.inr (Or.inr (Or.inr (Or.inl e))))))
    · exact Or.inl (Or.inr (Or.inr (Or.inr (Or.inr (Or.inr (Or.inr (Or.inl e)))))))
    · rw [hb] at e; injection e with e; exact Or.inr (by omega)
/-- A call of the program, then the reference's. -/
theorem two_step (hp : PmX B w p X n mk M) (hr : RmX B w r v n mk M) (hd : ∀ q, MineP p X q → ¬ MineR r v q) (h : PDid B p X n mk M' w w1) :
    RmX B w1 r v n mk M ∧ (∀ w2, RDid B r v n mk M' w1 w2 → StE B w2 p r n mk M' ∧ Below B w w2) ∧ (∀ {q t vs}, Lrow w q t vs → ¬ MineP p X q → Lrow w1 q t vs) ∧ (∀ {w2 q t vs}, RDid B r v n mk M' w1 w2 → Lrow w1 q t vs → ¬ MineR r v q → Lrow w2 q t vs) := by
  obtain ⟨X1, h1, hf, hx⟩ := h
  have hr1 : RmX B w1 r v n mk M := hr.foot hf fun q hq e => hd q e hq
  have hd1 : ∀ q, MineP p X1 q → ¬ MineR r v q := fun q hq e => by
    rcases MineP.more hx hq with e1 | e1
    · exact hd q e1 e
    · have := (hr.mine e).2; omega
  refine ⟨hr1, fun w2 h2 => ?_, fun hq hn => hf.row hq hn, fun {w2 q t vs} h2 hq hn => ?_⟩
  · have hb2 := RDid.below hr1 h2
    obtain ⟨v2, h3, hf2, hv2⟩ := h2
    refine ⟨⟨X1, v2, h1.foot hf2 hd1, h3, fun q hq e => ?_⟩, (hf.below hp.size fun q hq => (hp.mine hq).1).trans hb2⟩
    rcases MineR.more hv2 e with e1 | e1
    · exact hd1 q hq e1
    · have := (h1.mine hq).2; omega
  · obtain ⟨v2, h3, hf2, hv2⟩ := h2
    exact hf2.row hq hn
end
end Go.Proofs.YtklhcgekagimkaaGreat
