/- What comes in, opened: an operation, a list of operations. -/
import Derived.Test.YtnppnoabhpkmkaaGreatProg
import Derived.Test.YtnppnoabhpkmkaaGreatMg37
import Derived.WalkKit
import Derived.WalkSpells
import Derived.Below
import Derived.ProofKit
import Derived.OpenShut
import Derived.Lib.SmallJoins
import Derived.Deep.Slices
import Derived.Deep.Fields
import Derived.ChangeSame
import Derived.Carry
namespace Go.Proofs.YtnppnoabhpkmkaaGreat
open Go.RowKit

theorem laidOut : laidOutB Tryz.prog = true := by kernel_rfl
theorem own : ownKnob Tryz.prog.godebug = none := by kernel_rfl
theorem u8_lo {n : Int} (h : (Lit.int .u8 n).wf = true) : 0 ≤ n := by simp [Lit.wf, IntKind.min, IntKind.max, IntKind.signed, IntKind.bits] at h; omega
theorem u8_hi {n : Int} (h : (Lit.int .u8 n).wf = true) : n < 256 := by simp [Lit.wf, IntKind.min, IntKind.max, IntKind.signed, IntKind.bits] at h; omega
theorem u16_lo {n : Int} (h : (Lit.int .u16 n).wf = true) : 0 ≤ n := by simp [Lit.wf, IntKind.min, IntKind.max, IntKind.signed, IntKind.bits] at h; omega
theorem u16_hi {n : Int} (h : (Lit.int .u16 n).wf = true) : n < 65536 := by simp [Lit.wf, IntKind.min, IntKind.max, IntKind.signed, IntKind.bits] at h; omega
theorem u64_lo {n : Int} (h : (Lit.int .u64 n).wf = true) : 0 ≤ n := by simp [Lit.wf, IntKind.min, IntKind.max, IntKind.signed, IntKind.bits] at h; omega
theorem u64_hi {n : Int} (h : (Lit.int .u64 n).wf = true) : n < 18446744073709551616 := by simp [Lit.wf, IntKind.min, IntKind.max, IntKind.signed, IntKind.bits] at h; omega
theorem fits_wf {n : Int} (h : (Lit.int .i64 n).wf = true) : Fits n := by constructor <;> (simp [Lit.wf, IntKind.min, IntKind.max, IntKind.signed, IntKind.bits] at h; omega)
theorem add_blk (a : Addr) (n : Nat) : (a.add n).block = a.block := by unfold Addr.add; split <;> rfl
theorem add_at (a : Addr) (j : Nat) (h : 0 < j) : a.add j = ⟨a.block, a.off + j, none⟩ := by unfold Addr.add; rw [if_neg (by omega)]
section
open Go.Joins Go.ChangeShapes Go.WideShapes Go.ChangeAt Go.RowKit Go.Deep
variable {H : Type} {enc : TypeId × Value → H} {P : Program} {w : World} {base : Nat} {spare : Nat → Bool} {held : Bool}
/-- A field of a struct that reads, reads. -/
theorem field_reads {e : TypeId} {fs : Array Field} {fuel : Nat} {cs : List Value} {x : DataW H × List MemPlace} (he : P.underlying e = some (.struct fs))
    (h : DataW.trod enc P w base spare held fuel e cs = some x) (j : Nat) (f : Field) (hj : fs[j]? = some f) (o c : Nat) (ho : f.offset = o) (hc : P.cellsOf f.type = c) : ∃ n y, DataW.trod enc P w base spare held n f.type ((cs.drop o).take c) = some y := by
  subst ho hc
  obtain ⟨xs, n, _, _, hl, hxl, hf⟩ := DataW.trod_struct he h
  have hjl : j < fs.size := (Array.getElem?_eq_some_iff.1 hj).1
  have hr := hf j f hj
  rw [List.getElem?_eq_getElem (by omega)] at hr
  exact ⟨n, _, hr⟩
end
theorem cellsRq : Tryz.prog.cellsOf 25 = 9 := by kernel_rfl
def rqCells (l : Rq) : List Value := [.int .i64 l.k, .int .i64 l.s, .int .i64 l.a, .int .i64 l.n, .int .i64 l.h, .int .i64 l.p, .int .i64 l.t, .int .i64 l.c, .int .u64 l.v]
structure IsRq (l : Rq) : Prop where
  k : Fits l.k
  s : Fits l.s
  a : Fits l.a
  n : Fits l.n
  h : Fits l.h
  p : Fits l.p
  t : Fits l.t
  c : Fits l.c
  v : (0 ≤ l.v ∧ l.v < 18446744073709551616)
/-- As it lies from an address on. -/
structure RqAt (w : World) (p : Addr) (l : Rq) : Prop where
  c0 : w.cell? p = some (.int .i64 l.k)
  c1 : w.cell? ⟨p.block, p.off + 1, none⟩ = some (.int .i64 l.s)
  c2 : w.cell? ⟨p.block, p.off + 2, none⟩ = some (.int .i64 l.a)
  c3 : w.cell? ⟨p.block, p.off + 3, none⟩ = some (.int .i64 l.n)
  c4 : w.cell? ⟨p.block, p.off + 4, none⟩ = some (.int .i64 l.h)
  c5 : w.cell? ⟨p.block, p.off + 5, none⟩ = some (.int .i64 l.p)
  c6 : w.cell? ⟨p.block, p.off + 6, none⟩ = some (.int .i64 l.t)
  c7 : w.cell? ⟨p.block, p.off + 7, none⟩ = some (.int .i64 l.c)
  c8 : w.cell? ⟨p.block, p.off + 8, none⟩ = some (.int .u64 l.v)
theorem RqAt.below {w w' : World} {B : Nat} {p : Addr} {l : Rq} (h : RqAt w p l) (hb : Below B w w') (hp : p.block < B) : RqAt w' p l :=
  ⟨(hb.cell hp).trans h.c0, (hb.cell (p := ⟨_, _, none⟩) hp).trans h.c1, (hb.cell (p := ⟨_, _, none⟩) hp).trans h.c2, (hb.cell (p := ⟨_, _, none⟩) hp).trans h.c3, (hb.cell (p := ⟨_, _, none⟩) hp).trans h.c4, (hb.cell (p := ⟨_, _, none⟩) hp).trans h.c5, (hb.cell (p := ⟨_, _, none⟩) hp).trans h.c6, (hb.cell (p := ⟨_, _, none⟩) hp).trans h.c7, (hb.cell (p := ⟨_, _, none⟩) hp).trans h.c8⟩
/-- A list of them as it lies below block b. -/
def Rqs (w : World) (b : Nat) (A : Option Addr) (n : Nat) : Prop :=
  0 < n → ∃ a, A = some a ∧ a.block < b ∧ ∀ i, i < n → ∃ l, IsRq l ∧ RqAt w (a.add (i * 9)) l
theorem Rqs.below {w w' : World} {b n : Nat} {A : Option Addr} (h : Rqs w b A n) (hb : Below b w w') : Rqs w' b A n := fun hn => by
  obtain ⟨a, e, hlt, hc⟩ := h hn
  refine ⟨a, e, hlt, fun i hi => ?_⟩
  obtain ⟨l, ok, g⟩ := hc i hi
  exact ⟨l, ok, g.below hb (by rw [add_blk]; exact hlt)⟩
theorem rq_now {W w : World} {b n i : Nat} {A : Option Addr} (h : Rqs W b A n) (hb : Below b W w) (hi : i < n) :
    ∃ ad, A = some ad ∧ (ad.add (i * 9)).block < b ∧ ∃ l, IsRq l ∧ RqAt w (ad.add (i * 9)) l := by
  obtain ⟨p, e, hlt, hc⟩ := (h.below hb) (by omega)
  obtain ⟨l, ok, hat⟩ := hc i hi
  exact ⟨p, e, by rw [add_blk]; exact hlt, l, ok, hat⟩
section
open Go.Joins Go.ChangeShapes Go.WideShapes Go.ChangeAt Go.RowKit Go.Deep
variable {H : Type} {enc : TypeId × Value → H} {w : World} {base : Nat} {spare : Nat → Bool} {held : Bool}
theorem rq_cells {fuel : Nat} {cs : List Value} {x : DataW H × List MemPlace} (h : DataW.trod enc Tryz.prog w base spare held fuel 25 cs = some x) : ∃ l, cs = rqCells l ∧ IsRq l := by
  have hl : cs.length = 9 := by
    obtain ⟨_, _, _, _, hl, _⟩ := DataW.trod_struct Tryz.underlying25 h
    rw [hl]; exact cellsRq
  match cs, hl with
  | [c0, c1, c2, c3, c4, c5, c6, c7, c8], _ =>
    obtain ⟨n0, y0, h0⟩ := field_reads Tryz.underlying25 h 0 _ rfl 0 1 rfl (by kernel_rfl)
    obtain ⟨n1, y1, h1⟩ := field_reads Tryz.underlying25 h 1 _ rfl 1 1 rfl (by kernel_rfl)
    obtain ⟨n2, y2, h2⟩ := field_reads Tryz.underlying25 h 2 _ rfl 2 1 rfl (by kernel_rfl)
    obtain ⟨n3, y3, h3⟩ := field_reads Tryz.underlying25 h 3 _ rfl 3 1 rfl (by kernel_rfl)
    obtain ⟨n4, y4, h4⟩ := field_reads Tryz.underlying25 h 4 _ rfl 4 1 rfl (by kernel_rfl)
    obtain ⟨n5, y5, h5⟩ := field_reads Tryz.underlying25 h 5 _ rfl 5 1 rfl (by kernel_rfl)
    obtain ⟨n6, y6, h6⟩ := field_reads Tryz.underlying25 h 6 _ rfl 6 1 rfl (by kernel_rfl)
    obtain ⟨n7, y7, h7⟩ := field_reads Tryz.underlying25 h 7 _ rfl 7 1 rfl (by kernel_rfl)
    obtain ⟨n8, y8, h8⟩ := field_reads Tryz.underlying25 h 8 _ rfl 8 1 rfl (by kernel_rfl)
    obtain ⟨k, e0, _, f0⟩ := DataW.trod_int Tryz.underlying3 h0
    obtain ⟨s, e1, _, f1⟩ := DataW.trod_int Tryz.underlying3 h1
    obtain ⟨a, e2, _, f2⟩ := DataW.trod_int Tryz.underlying3 h2
    obtain ⟨n, e3, _, f3⟩ := DataW.trod_int Tryz.underlying3 h3
    obtain ⟨z, e4, _, f4⟩ := DataW.trod_int Tryz.underlying3 h4
    obtain ⟨p, e5, _, f5⟩ := DataW.trod_int Tryz.underlying3 h5
    obtain ⟨t, e6, _, f6⟩ := DataW.trod_int Tryz.underlying3 h6
    obtain ⟨c, e7, _, f7⟩ := DataW.trod_int Tryz.underlying3 h7
    obtain ⟨v, e8, _, f8⟩ := DataW.trod_int Tryz.underlying23 h8
    simp at e0 e1 e2 e3 e4 e5 e6 e7 e8
    subst e0 e1 e2 e3 e4 e5 e6 e7 e8
    exact ⟨⟨k, s, a, n, z, p, t, c, v⟩, rfl, ⟨fits_wf f0, fits_wf f1, fits_wf f2, fits_wf f3, fits_wf f4, fits_wf f5, fits_wf f6, fits_wf f7, ⟨u64_lo f8, u64_hi f8⟩⟩⟩
set_option maxRecDepth 100000 in
theorem open_op13 {r : Reach} {b0 : Nat} {v : Value} {x : DataW H} {ps : List MemPlace} (hv : Value.okWide Tryz.prog w r b0 25 v) (h : DataW.Trod enc Tryz.prog w base spare held 25 v x ps) : ∃ l, v = .agg (rqCells l).toArray ∧ IsRq l := by
  obtain ⟨cs, rfl, _⟩ := okWide_struct Tryz.underlying25 hv
  obtain ⟨l⟩ := cs
  obtain ⟨fuel, hf⟩ := h
  obtain ⟨c, hc, hi⟩ := rq_cells (cs := l) (by simpa [Value.cells] using hf)
  subst hc
  exact ⟨c, rfl, hi⟩
theorem rq_at {p : Addr} {cs : List Value} {fuel : Nat} {x : DataW H × List MemPlace} (hc : w.cells? base p 9 = some cs) (ht : DataW.trod enc Tryz.prog w base spare held fuel 25 cs = some x) : ∃ l, IsRq l ∧ RqAt w p l := by
  obtain ⟨_, hl, hcell⟩ := World.cells?_some hc
  obtain ⟨l, rfl, ok⟩ := rq_cells ht
  have k : ∀ j, 0 < j → j < 9 → w.cell? ⟨p.block, p.off + j, none⟩ = (rqCells l)[j]? := fun j h0 h1 => by
    rw [← add_at p j h0]
    exact hcell j (by omega)
  refine ⟨l, ok, ?_, k 1 (by omega) (by omega), k 2 (by omega) (by omega), k 3 (by omega) (by omega), k 4 (by omega) (by omega), k 5 (by omega) (by omega), k 6 (by omega) (by omega), k 7 (by omega) (by omega), k 8 (by omega) (by omega)⟩
  have := hcell 0 (by omega); simpa [Addr.add, rqCells] using this
theorem rqs_of {fuel : Nat} {cs : List Value} {x : DataW H × List MemPlace} (h : DataW.trod enc Tryz.prog w base spare held fuel 22 cs = some x) :
    ∃ A n c, cs = [.slice A n c] ∧ n ≤ maxLen ∧ Rqs w w.heap.size A n := by
  rcases DataW.trod_slice Tryz.underlying22 h with ⟨rfl, _⟩ | ⟨a, len, cap, elems, rest, m, _, rfl, _, _, hlc, hcap, hlen, hel, _⟩
  · exact ⟨none, 0, 0, rfl, Nat.zero_le _, fun h0 => absurd h0 (Nat.lt_irrefl 0)⟩
  · have hat : ∀ i, i < len → ∃ l, IsRq l ∧ RqAt w (a.add (i * 9)) l := fun i hi => by
      have he := hel i hi
      rw [List.getElem?_eq_getElem (by omega), cellsRq] at he
      obtain ⟨cs', hc, ht⟩ := Option.bind_eq_some_iff.1 he
      exact rq_at hc ht
    refine ⟨some a, len, cap, rfl, Nat.le_trans hlc hcap, fun h0 => ⟨a, rfl, ?_, hat⟩⟩
    obtain ⟨_, _, g⟩ := hat 0 h0
    have := World.block_lt_of_cell? w _ g.c0
    rwa [add_blk] at this
set_option maxRecDepth 100000 in
theorem open_list_op13 {r : Reach} {b0 : Nat} {v : Value} {x : DataW H} {ps : List MemPlace} (hv : Value.okWide Tryz.prog w r b0 22 v) (h : DataW.Trod enc Tryz.prog w base spare held 22 v x ps) :
    ∃ A n c, v = .slice A n c ∧ n ≤ maxLen ∧ Rqs w w.heap.size A n := by
  obtain ⟨A, n, c, rfl⟩ := okWide_slice Tryz.underlying22 hv
  obtain ⟨fuel, hf⟩ := h
  obtain ⟨A', n', c', e, hn, ha⟩ := rqs_of hf
  simp only [Value.cells] at e
  injection e with e
  injection e with e1 e2 e3
  subst e1 e2 e3
  exact ⟨_, _, _, rfl, hn, ha⟩
end
theorem IsRq.ok {l : Rq} (h : IsRq l) : RqOk l := ⟨h.k, h.s, h.a, h.n, h.h, h.p, h.t⟩
/-- A list of them. -/
def Lsa (w : World) (b : Nat) (A : Option Addr) (M : List Rq) : Prop := 0 < M.length → ∃ a, A = some a ∧ ∀ i (h : i < M.length), IsRq M[i] ∧ (a.add (i * 9)).block < b ∧ RqAt w (a.add (i * 9)) M[i]
theorem Lsa.below {w w' : World} {b : Nat} {A : Option Addr} {M : List Rq} (h : Lsa w b A M) (hb : Below b w w') : Lsa w' b A M := fun h0 => by
  obtain ⟨a, e, hc⟩ := h h0
  exact ⟨a, e, fun i hi => ⟨(hc i hi).1, (hc i hi).2.1, (hc i hi).2.2.below hb (hc i hi).2.1⟩⟩
theorem Rqs.list {w : World} {b n : Nat} {A : Option Addr} (h : Rqs w b A n) : ∃ M : List Rq, M.length = n ∧ Lsa w b A M := by
  by_cases hn : 0 < n
  · obtain ⟨a, e, hlt, hc⟩ := h hn
    refine ⟨List.ofFn (n := n) fun i => (hc i.1 i.2).choose, by simp, fun _ => ⟨a, e, fun i hi => ?_⟩⟩
    have hi' : i < n := by simpa using hi
    rw [List.getElem_ofFn]
    exact ⟨(hc i hi').choose_spec.1, by rw [add_blk]; exact hlt, (hc i hi').choose_spec.2⟩
  · exact ⟨[], by simp; omega, fun h0 => absurd h0 (by simp)⟩
theorem lsa_ok {w : World} {b : Nat} {A : Option Addr} {M : List Rq} (h : Lsa w b A M) : ∀ l ∈ M, IsRq l := fun l hl => by
  obtain ⟨i, hi, rfl⟩ := List.getElem_of_mem hl
  obtain ⟨a, _, hc⟩ := h (by omega)
  exact (hc i hi).1
end Go.Proofs.YtnppnoabhpkmkaaGreat
/- Spaces: what the program's calls come to, as one structure (to be filled over the program); both sides. -/
namespace Go.Proofs.YtnppnoabhpkmkaaGreat
open Go.RowKit
/-- A call that changes the spaces: its blocks X become X'. -/
def DidX (Fo : Nat → World → Nat → (Nat → Prop) → Fl → Prop) (B : Nat) (w : World) (s : Nat) (X : Nat → Prop) (F : Fl) (w' : World) : Prop :=
  ∃ X', Fo B w' s X' F ∧ Foot X w w' ∧ ∀ k, X' k → X k ∨ w.heap.size ≤ k
/-- A word's error, its value. -/
def wdE (F : Fl) (i a : Int) : Int := if isS F i = true then celE 10 4 (sp F i) a else 11
def wdV (F : Fl) (i a : Int) : Int := if isS F i = true ∧ celE 10 4 (sp F i) a = 0 then celV F (sp F i) a else 0
def arsF (F : Fl) (i : Int) : List Ar := if isS F i = true then allA (sp F i).P else []
/-- The types of the rows of a program's spaces. -/
def FlatX : List TypeId := [72, 64, 90, 106]
/-- The program's spaces and their calls. -/
structure FlI where
  Fo : Nat → World → Nat → (Nat → Prop) → Fl → Prop
  keep : ∀ {B : Nat} {w w' : World} {s : Nat} {X : Nat → Prop} {F : Fl}, Fo B w s X F → w.heap.size ≤ w'.heap.size → (∀ k, X k → k < w.heap.size → w'.heap[k]? = w.heap[k]?) → (∀ k vs, Lrow w k 93 vs → w'.heap[k]? = w.heap[k]?) → Fo B w' s X F
  lo : ∀ {B : Nat} {w : World} {s : Nat} {X : Nat → Prop} {F : Fl}, Fo B w s X F → ∀ k, X k → B ≤ k ∧ k < w.heap.size
  lw : ∀ {B : Nat} {w : World} {s : Nat} {X : Nat → Prop} {F : Fl}, Fo B w s X F → B ≤ w.heap.size
  ty : ∀ {B : Nat} {w : World} {s : Nat} {X : Nat → Prop} {F : Fl}, Fo B w s X F → ∀ k, X k → ∀ t vs, Lrow w k t vs → t ∈ FlatX
  new : ∀ w, Calls Tryz.prog 22 #[] w fun e w' => ∃ s X, e = .returned (.pointer (some ⟨s, 0, none⟩)) ∧ Fo w.heap.size w' s X ⟨[], []⟩ ∧ Below w.heap.size w w'
  do_ : ∀ {B : Nat} {w : World} {s : Nat} {X : Nat → Prop} {F : Fl}, Fo B w s X F → FlOk F → F.O.length ≤ 200 → ∀ r, IsRq r → Calls Tryz.prog 11 #[.pointer (some ⟨s, 0, none⟩), .agg (opL r).toArray] w fun e w' => e = .returned (.agg #[.int .i64 (stF F r).1, .int .u64 (stF F r).2.1]) ∧ DidX Fo B w s X (stF F r).2.2 w'
  word : ∀ {B : Nat} {w : World} {s : Nat} {X : Nat → Prop} {F : Fl}, Fo B w s X F → FlOk F → F.O.length ≤ 200 → ∀ i a, Fits i → Fits a → Calls Tryz.prog 14 #[.pointer (some ⟨s, 0, none⟩), .int .i64 i, .int .i64 a] w fun e w' => e = .returned (.tuple #[.int .u64 (wdV F i a), .int .i64 (wdE F i a)]) ∧ Below w.heap.size w w'
  areas : ∀ {B : Nat} {w : World} {s : Nat} {X : Nat → Prop} {F : Fl}, Fo B w s X F → FlOk F → ∀ i, Fits i → Calls Tryz.prog 21 #[.pointer (some ⟨s, 0, none⟩), .int .i64 i] w (ToldA (arsF F i) w)
  spaces : ∀ {B : Nat} {w : World} {s : Nat} {X : Nat → Prop} {F : Fl}, Fo B w s X F → FlOk F → Calls Tryz.prog 13 #[.pointer (some ⟨s, 0, none⟩)] w fun e w' => e = .returned (.int .i64 F.L.length) ∧ Below w.heap.size w w'
section
variable (I : FlI) {w w' : World} {B s xa : Nat} {X : Nat → Prop} {T : RfT} {F F' G G' : Fl}
theorem FlI.call (h : I.Fo B w s X F) (hb : Below w.heap.size w w') : I.Fo B w' s X F := I.keep h hb.size (fun k _ hl => hb.block k hl) fun k _ r => hb.block k r.lt
theorem FlI.down (h : I.Fo B w s X F) (d : DidX I.Fo B w s X F' w') : Below B w w' := by
  obtain ⟨X', _, f, _⟩ := d
  exact f.below (I.lw h) fun b hb => (I.lo h b hb).1
/-- Both sides, apart: the program's spaces are G, the reference's F. -/
def St (I : FlI) (B : Nat) (w : World) (s xa : Nat) (G F : Fl) : Prop := ∃ X T, T.xa = xa ∧ I.Fo B w s X G ∧ RfAt B w T F ∧ ∀ k, X k → ¬ MineF T k
variable {I}
theorem St.call (h : St I B w s xa G F) (hb : Below w.heap.size w w') : St I B w' s xa G F := by
  obtain ⟨X, T, e, h1, h2, h3⟩ := h
  exact ⟨X, T, e, I.call h1 hb, h2.call hb, h3⟩
theorem St.lw (h : St I B w s xa G F) : B ≤ w.heap.size := by obtain ⟨X, T, e, h1, _⟩ := h; exact I.lw h1
/-- The program has made its call. -/
theorem half (h1 : I.Fo B w s X G) (h2 : RfAt B w T F) (h3 : ∀ k, X k → ¬ MineF T k) (d : DidX I.Fo B w s X G' w') :
    ∃ X', I.Fo B w' s X' G' ∧ RfAt B w' T F ∧ (∀ k, X' k → ¬ MineF T k) ∧ Below B w w' := by
  have hb := I.down h1 d
  obtain ⟨X', d1, d2, d3⟩ := d
  refine ⟨X', d1, h2.keep d2.size (fun k hk => d2.keep k (h2.lt k hk) fun e => h3 k e hk) (fun k vs r => d2.keep k r.lt fun e => absurd (I.ty h1 k e _ vs r) (by decide)), fun k e hk => ?_, hb⟩
  rcases d3 k e with e | e
  · exact h3 k e hk
  · have := h2.lt k hk; omega
theorem St.half (h : St I B w s xa G F) (hG : ∀ X, I.Fo B w s X G → DidX I.Fo B w s X G' w') : St I B w' s xa G' F ∧ Below B w w' := by
  obtain ⟨X, T, e, h1, h2, h3⟩ := h
  obtain ⟨X', k1, k2, k3, kb⟩ := Go.Proofs.YtnppnoabhpkmkaaGreat.half h1 h2 h3 (hG X h1)
  exact ⟨⟨X', T, e, k1, k2, k3⟩, kb⟩
/-- The reference has made its call. -/
theorem whole (h1 : I.Fo B w s X G) (h2 : RfAt B w T F) (h3 : ∀ k, X k → ¬ MineF T k) (d : DidF B w T F' w') : St I B w' s T.xa G F' ∧ Below B w w' := by
  obtain ⟨T', d0, d1, d2, d3⟩ := d
  refine ⟨⟨X, T', d0, I.keep h1 d2.size (fun k hk hl => d2.keep k hl (h3 k hk)) (fun k vs r => d2.keep k r.lt (h2.other r (by decide))), d1, fun k e hk => ?_⟩, d2.below h2.lw fun k hk => h2.low k hk⟩
  rcases d3 k hk with c | c
  · exact h3 k e c
  · have := (I.lo h1 k e).2; omega
end
/-- What the laws' operations keep. -/
structure FlB (n : Nat) (F : Fl) : Prop where
  ok : FlOk F
  ob : F.O.length ≤ n
theorem FlB.mono {n m : Nat} {F : Fl} (h : FlB n F) (e : n ≤ m) : FlB m F := ⟨h.ok, Nat.le_trans h.ob e⟩
theorem FlB.nil : FlB 0 ⟨[], []⟩ := ⟨FlOk.none, Nat.le_refl _⟩
theorem objF_O (F : Fl) (how : Int) : (objF F how).O.length ≤ F.O.length + 1 := by
  unfold objF
  split
  · show (F.O ++ [_]).length ≤ _; rw [List.length_append]; exact Nat.le_refl _
  · omega
theorem mapAt_O (F : Fl) (r : Rq) (a v : Int) : (mapAt F r a v).2.2.O.length ≤ F.O.length + 1 := by
  unfold mapAt
  split
  · exact Nat.le_succ _
  · exact objF_O F r.h
theorem stF_O (F : Fl) (r : Rq) : (stF F r).2.2.O.length ≤ F.O.length + 1 := by
  have hadd : ∀ S, (addF F S).2.2.O.length ≤ F.O.length + 1 := fun S => by unfold addF; split <;> exact Nat.le_succ _
  unfold stF
  split
  · exact Nat.le_succ _
  split
  · exact hadd _
  split
  · exact Nat.le_succ _
  split
  · exact hadd _
  split
  · unfold accR
    split
    · exact Nat.le_succ _
    split
    · exact Nat.le_succ _
    split
    · show (celS F r.s r.a r.v).O.length ≤ _
      unfold celS
      dsimp only
      split
      · show (F.O.modify _ _).length ≤ _; rw [List.length_modify]; exact Nat.le_succ _
      · exact Nat.le_succ _
    · exact Nat.le_succ _
  split
  · unfold mapR
    split
    · split
      · exact Nat.le_succ _
      split
      · exact Nat.le_succ _
      · exact mapAt_O _ _ _ _
    · exact mapAt_O _ _ _ _
  split
  · exact Nat.le_succ _
  · exact Nat.le_succ _
theorem FlB.step {n : Nat} {F : Fl} (h : FlB n F) (r : Rq) : FlB (n + 1) (stF F r).2.2 := ⟨h.ok.step r, by have := stF_O F r; have := h.ob; omega⟩
end Go.Proofs.YtnppnoabhpkmkaaGreat
