/- Free lists as they lie in memory, and what a call leaves as it was that turns them alone. -/
import Derived.WalkKit
import Derived.WalkSpells
import Derived.Below
import Derived.Laws.OwnMore
import Derived.Laws.Rows
import Derived.Laws.CopyOwn
import Derived.Laws.IdiomCopy
import Derived.Deep.Draws
import Derived.Lib.Hide
import Derived.Test.YtfjphlickpgbnaaBs
namespace Go.Proofs.Ytfjphlickpgbnaa
variable {Xc : Nat → Prop}
open Go.RowKit

theorem ret_bool {a b : Bool} (h : a = b) : Ending.returned (.bool a) = .returned (.bool b) := by rw [h]
theorem ret_int {k : IntKind} {a b : Int} (h : a = b) : Ending.returned (.int k a) = .returned (.int k b) := by rw [h]
theorem ret2_int {k l : IntKind} {a b c d : Int} (h : a = b) (g : c = d) : Ending.returned (.tuple #[.int k a, .int l c]) = .returned (.tuple #[.int k b, .int l d]) := by rw [h, g]
theorem bcell {W w1 : World} {B : Nat} (hb : Below B W w1) : (∀ b o, b < B → w1.cell? ⟨b, o, none⟩ = W.cell? ⟨b, o, none⟩) ∧ (∀ b o, b < B → w1.frozen? ⟨b, o, none⟩ = W.frozen? ⟨b, o, none⟩) :=
  ⟨fun b o h => hb.cell (p := ⟨b, o, none⟩) h, fun b o h => hb.frozen (p := ⟨b, o, none⟩) h⟩

/-! A list with a stretch of it laid anew. -/
theorem splice_get {α : Type} (L : List α) (o : Nat) (cs : List α) (h : o + cs.length ≤ L.length) (i : Nat) :
    (splice L o cs)[i]? = if i < o then L[i]? else if i < o + cs.length then cs[i - o]? else L[i]? := by
  have hm : min o L.length = o := by omega
  unfold splice
  by_cases h1 : i < o
  · rw [List.getElem?_append_left (by rw [List.length_take, hm]; exact h1), List.getElem?_take_of_lt h1, if_pos h1]
  · rw [List.getElem?_append_right (by rw [List.length_take, hm]; omega), List.length_take, hm, if_neg h1]
    by_cases h2 : i < o + cs.length
    · rw [List.getElem?_append_left (by omega), if_pos h2]
    · rw [List.getElem?_append_right (by omega), if_neg h2, List.getElem?_drop]
      congr 1; omega
theorem splice_cons {α : Type} (L : List α) (o : Nat) (v : α) (r : List α) (h : o + (v :: r).length ≤ L.length) : splice (L.set o v) (o + 1) r = splice L o (v :: r) := by
  simp only [List.length_cons] at h
  apply List.ext_getElem?
  intro i
  rw [splice_get _ _ _ (by rw [List.length_set]; omega), splice_get _ _ _ (by simp only [List.length_cons]; omega)]
  simp only [List.length_cons, List.getElem?_set]
  rcases Nat.lt_trichotomy i o with h1 | h1 | h1
  · simp [h1, show i < o + 1 by omega, show ¬ o = i by omega]
  · subst h1
    simp [show i < L.length by omega]
  · obtain ⟨j, rfl⟩ : ∃ j, i = o + 1 + j := ⟨i - (o + 1), by omega⟩
    rw [if_neg (by omega : ¬ o + 1 + j < o + 1), if_neg (by omega : ¬ o = o + 1 + j), if_neg (by omega : ¬ o + 1 + j < o), show o + 1 + j - (o + 1) = j by omega, show o + 1 + j - o = j + 1 by omega, List.getElem?_cons_succ]
    by_cases h3 : o + 1 + j < o + 1 + r.length
    · rw [if_pos h3, if_pos (by omega : o + 1 + j < o + (r.length + 1))]
    · rw [if_neg h3, if_neg (by omega : ¬ o + 1 + j < o + (r.length + 1))]

/-- A block that is known whole. -/
def Lrow (w : World) (g : Nat) (t : TypeId) (vs : List Value) : Prop := w.heap[g]? = some (.cells vs.toArray t (0, 0))
section
variable {w w' : World} {g : Nat} {t : TypeId} {vs : List Value}
theorem Lrow.lt (h : Lrow w g t vs) : g < w.heap.size := by
  rcases Nat.lt_or_ge g w.heap.size with hl | hl
  · exact hl
  · unfold Lrow at h; rw [Array.getElem?_eq_none hl] at h; cases h
theorem Lrow.cell (h : Lrow w g t vs) (i : Nat) : w.cell? ⟨g, i, none⟩ = vs[i]? := by
  have := cell_of_row w g i vs.toArray t (0, 0) h
  simpa using this
theorem Lrow.frozen (h : Lrow w g t vs) (i : Nat) : w.frozen? ⟨g, i, none⟩ = false := by
  unfold Lrow at h
  simp [World.frozen?, h]
theorem Lrow.shape (h : Lrow w g t vs) : w.shape? g = some (t, vs.length) := by
  unfold Lrow at h
  simp [World.shape?, h]
theorem Lrow.new (w : World) (t : TypeId) (vs : List Value) : Lrow (w.alloc (.cells vs.toArray t)) w.heap.size t vs := heap_alloc_new w _
theorem Lrow.alloc (h : Lrow w g t vs) (o : Obj) : Lrow (w.alloc o) g t vs := (Below.heap_alloc w o g h.lt).trans h
theorem Lrow.set_ (h : Lrow w g t vs) (i : Nat) (u : Value) : Lrow (w.setCell ⟨g, i, none⟩ u) g t (vs.set i u) := by
  unfold Lrow at h ⊢
  simp [World.setCell, Array.getElem?_modify, h]
theorem Lrow.far (h : Lrow w g t vs) {p : Addr} (hp : g ≠ p.block) (u : Value) : Lrow (w.setCell p u) g t vs := (Below.heap_setCell w p u g hp).trans h
theorem Lrow.below {B : Nat} (h : Lrow w g t vs) (hb : Below B w w') (hg : g < B) : Lrow w' g t vs := (hb.block g hg).trans h
theorem Lrow.call (h : Lrow w g t vs) (hb : Below w.heap.size w w') : Lrow w' g t vs := h.below hb h.lt
theorem Lrow.grown {row : Option Nat} (h : Lrow w g t vs) (hb : w.grownBy w' row) (hg : some g ≠ row) : Lrow w' g t vs := (hb.block g h.lt hg).trans h
theorem Lrow.apart {g' : Nat} {t' : TypeId} {vs' : List Value} (h : Lrow w g t vs) (h' : Lrow w g' t' vs') (hne : t ≠ t') : g ≠ g' := by
  rintro rfl
  unfold Lrow at h h'
  rw [h] at h'
  injection h' with h'
  injection h' with _ ht
  exact hne ht
theorem Lrow.drewN (h : Lrow w g t vs) (k : Nat) : Lrow (w.drewN k) g t vs := h
theorem Lrow.inj {t' : TypeId} {vs' : List Value} (h : Lrow w g t vs) (h' : Lrow w g t' vs') : vs = vs' := by
  unfold Lrow at h h'
  rw [h] at h'
  injection h' with h'
  injection h' with e _
  exact List.toArray_inj e
end
theorem Lrow.setCells {g : Nat} {t : TypeId} : ∀ (cs : List Value) {w : World} {vs : List Value} (o : Nat), Lrow w g t vs → o + cs.length ≤ vs.length → Lrow (w.setCells g o cs) g t (splice vs o cs) := by
  intro cs
  induction cs with
  | nil => intro w vs o h _; rw [show splice vs o [] = vs by simp [splice]]; exact h
  | cons v r ih =>
    intro w vs o h hl
    rw [← splice_cons vs o v r hl]
    exact ih (o + 1) (h.set_ o v) (by rw [List.length_set]; simp only [List.length_cons] at hl; omega)
theorem Lrow.setCells_far {g g' : Nat} {t : TypeId} : ∀ (cs : List Value) {w : World} {vs : List Value} (o : Nat), Lrow w g t vs → g ≠ g' → Lrow (w.setCells g' o cs) g t vs := by
  intro cs
  induction cs with
  | nil => intro w vs o h _; exact h
  | cons v r ih => intro w vs o h hne; exact ih (o + 1) (h.far hne v) hne

/-- What a call leaves as it was that turns free lists above B alone: all below B, each block that is known whole, but of the two types that free lists are made of, and each block of a set that the caller names. -/
structure Turn (Xc : Nat → Prop) (B : Nat) (w w' : World) : Prop where
  os : w'.os = w.os
  tape : w'.tape = w.tape
  output : w'.output = w.output
  size : w.heap.size ≤ w'.heap.size
  low : ∀ k, k < B → w'.heap[k]? = w.heap[k]?
  row : ∀ g t vs, Lrow w g t vs → t ≠ 3 → t ≠ 95 → Lrow w' g t vs
  exc : ∀ g, Xc g → g < w.heap.size → w'.heap[g]? = w.heap[g]?
section
variable {w w' w'' : World} {B g : Nat} {t : TypeId} {vs : List Value}
theorem Turn.refl (B : Nat) (w : World) : Turn Xc B w w := ⟨rfl, rfl, rfl, Nat.le_refl _, fun _ _ => rfl, fun _ _ _ h _ _ => h, fun _ _ _ => rfl⟩
theorem Turn.trans (h : Turn Xc B w w') (k : Turn Xc B w' w'') : Turn Xc B w w'' :=
  ⟨k.os.trans h.os, k.tape.trans h.tape, k.output.trans h.output, Nat.le_trans h.size k.size, fun i hi => (k.low i hi).trans (h.low i hi), fun g t vs r h1 h2 => k.row g t vs (h.row g t vs r h1 h2) h1 h2, fun g hg hl => (k.exc g hg (Nat.lt_of_lt_of_le hl h.size)).trans (h.exc g hg hl)⟩
theorem Turn.of_below (h : Below w.heap.size w w') (hB : B ≤ w.heap.size) : Turn Xc B w w' :=
  ⟨h.os, h.tape, h.output, h.size, fun k hk => h.block k (by omega), fun _ _ _ r _ _ => r.call h, fun g _ hl => h.block g hl⟩
theorem Turn.below (h : Turn Xc B w w') : Below B w w' := ⟨h.os, h.tape, h.output, h.size, h.low⟩
theorem Turn.drew (h : Turn Xc B w w') : Turn Xc B w w'.drew := ⟨h.os, h.tape, h.output, h.size, h.low, h.row, h.exc⟩
theorem Turn.drewN (h : Turn Xc B w w') (q : Nat) : Turn Xc B w (w'.drewN q) := ⟨h.os, h.tape, h.output, h.size, h.low, h.row, h.exc⟩
theorem Turn.alloc (h : Turn Xc B w w') (hB : B ≤ w'.heap.size) (o : Obj) : Turn Xc B w (w'.alloc o) := h.trans (Turn.of_below ((Below.refl _ _).alloc (Nat.le_refl _) o) hB)
theorem Turn.setNew (h : Turn Xc B w w') (hg : w.heap.size ≤ g) (hB : B ≤ g) (i : Nat) (u : Value) : Turn Xc B w (w'.setCell ⟨g, i, none⟩ u) :=
  ⟨h.os, h.tape, h.output, by have := h.size; simpa [World.setCell] using this, fun k hk => (Below.heap_setCell w' ⟨g, i, none⟩ u k (by show k ≠ g; omega)).trans (h.low k hk), fun g' t vs r h1 h2 => (h.row g' t vs r h1 h2).far (by show g' ≠ g; have := r.lt; omega) u, fun g' hx hl => (Below.heap_setCell w' ⟨g, i, none⟩ u g' (by show g' ≠ g; omega)).trans (h.exc g' hx hl)⟩
theorem Turn.grown {b : Nat} (h : Turn Xc B w w') (r : Lrow w' b t vs) (ht : t = 3 ∨ t = 95) (hb : B ≤ b) (hx : Xc b → False) (hg : w'.grownBy w'' (some b)) : Turn Xc B w w'' :=
  h.trans ⟨hg.os, hg.tape, hg.output, hg.size, fun k hk => hg.block k (by have := r.lt; omega) (by intro e; injection e with e; omega), fun g s us q h1 h2 => q.grown hg (by
    intro e; injection e with e; subst e
    refine q.apart r ?_ rfl
    rcases ht with rfl | rfl
    · exact h1
    · exact h2), fun g hX hl => hg.block g hl (by intro e; injection e with e; subst e; exact hx hX)⟩
end
theorem below_dN {B : Nat} {w w' : World} (h : Below B w w') (q : Nat) : Below B w (w'.drewN q) := ⟨h.os, h.tape, h.output, h.size, h.block⟩
theorem grown_set (w : World) (g i : Nat) (u : Value) : w.grownBy (w.setCell ⟨g, i, none⟩ u) (some g) :=
  ⟨rfl, rfl, rfl, by simp [World.setCell], fun k _ hne => Below.heap_setCell w _ u k (by rintro rfl; exact hne rfl)⟩
theorem grown_setCells (g : Nat) : ∀ (cs : List Value) (w : World) (o : Nat), w.grownBy (w.setCells g o cs) (some g) := by
  intro cs
  induction cs with
  | nil => intro w o; exact World.grownBy.refl _ _
  | cons v r ih => intro w o; exact (grown_set w g o v).trans (ih _ (o + 1))
theorem grown_alloc {a w : World} {row : Option Nat} (h : a.grownBy w row) (o : Obj) : a.grownBy (w.alloc o) row :=
  ⟨h.os, h.tape, h.output, Nat.le_trans h.size (by simp), fun i hi hne => (Below.heap_alloc w o i (Nat.lt_of_lt_of_le hi h.size)).trans (h.block i hi hne)⟩
theorem grown_drewN (w : World) (q : Nat) (row : Option Nat) : w.grownBy (w.drewN q) row := ⟨rfl, rfl, rfl, Nat.le_refl _, fun _ _ _ => rfl⟩

/-- Numbers as cells: those of a list, and what lies behind them. -/
def ints (l : List Nat) (r : List Int) : List Int := l.map (fun x : Nat => (x : Int)) ++ r
def icells (zs : List Int) : List Value := zs.map (Value.int .i64)
theorem icells_length (zs : List Int) : (icells zs).length = zs.length := by simp [icells]
theorem icells_get (zs : List Int) (i : Nat) : (icells zs)[i]? = zs[i]?.map (Value.int .i64) := by simp [icells]
theorem ints_length (l : List Nat) (r : List Int) : (ints l r).length = l.length + r.length := by simp [ints]
theorem ints_take (l : List Nat) (r : List Int) : (ints l r).take l.length = l.map (fun x : Nat => (x : Int)) := by
  unfold ints
  rw [List.take_append_of_le_length (by simp)]
  exact List.take_of_length_le (by simp)
/-- Where a slice of numbers lies: from the front of a block of its own. -/
def slA (p : Option Nat) : Option Addr := p.map fun b => ⟨b, 0, none⟩

/-- The free lists in memory: the struct in block a; of each order k the numbers L k in block p k, whose room is c k. All lie above B. -/
structure BudX (Xc : Nat → Prop) (B : Nat) (w : World) (a n : Nat) (L : Nat → List Nat) (p : Nat → Option Nat) (c : Nat → Nat) : Prop where
  top : Lrow w a 95 (.int .i64 n :: (List.range 9).map fun k => .slice (slA (p k)) (L k).length (c k))
  lo : B ≤ a
  nil : ∀ k, k ≤ 8 → p k = none → L k = [] ∧ c k = 0
  row : ∀ k, k ≤ 8 → ∀ b, p k = some b → B ≤ b ∧ ∃ r : List Int, Lrow w b 3 (icells (ints (L k) r)) ∧ c k = (L k).length + r.length ∧ 0 < c k ∧ c k ≤ 9223372036854775807
  apart : ∀ j k, j ≤ 8 → k ≤ 8 → j ≠ k → ∀ b, p j = some b → p k = some b → False
  exc : ∀ g, Xc g → g < w.heap.size ∧ g ≠ a ∧ ∀ k, k ≤ 8 → p k ≠ some g
def BudAt (Xc : Nat → Prop) (B : Nat) (w : World) (a n : Nat) (L : Nat → List Nat) : Prop := ∃ p c, BudX Xc B w a n L p c
section
variable {w w' : World} {B a n : Nat} {L : Nat → List Nat} {p : Nat → Option Nat} {c : Nat → Nat}
theorem BudX.size (h : BudX Xc B w a n L p c) : w.cell? ⟨a, 0, none⟩ = some (.int .i64 n) := by rw [h.top.cell]; rfl
theorem BudX.field (h : BudX Xc B w a n L p c) {k : Nat} (hk : k ≤ 8) : w.cell? ⟨a, 1 + k, none⟩ = some (.slice (slA (p k)) (L k).length (c k)) := by
  rw [h.top.cell, Nat.add_comm, List.getElem?_cons_succ, List.getElem?_map, List.getElem?_range (by omega)]; rfl
theorem BudX.room (h : BudX Xc B w a n L p c) {k : Nat} (hk : k ≤ 8) : (L k).length ≤ c k ∧ c k ≤ 9223372036854775807 := by
  cases hp : p k with
  | none => obtain ⟨h1, h2⟩ := h.nil k hk hp; rw [h1, h2]; simp
  | some b => obtain ⟨_, r, _, h2, _, h3⟩ := h.row k hk b hp; omega
theorem BudX.keep (h : BudX Xc B w a n L p c) (hs : w.heap.size ≤ w'.heap.size) (hk : ∀ g t vs, Lrow w g t vs → B ≤ g → Lrow w' g t vs) : BudX Xc B w' a n L p c :=
  ⟨hk _ _ _ h.top h.lo, h.lo, h.nil, fun k h8 b hp => by
    obtain ⟨h1, r, h2, h3⟩ := h.row k h8 b hp
    exact ⟨h1, r, hk _ _ _ h2 h1, h3⟩, h.apart, fun g hg => ⟨Nat.lt_of_lt_of_le (h.exc g hg).1 hs, (h.exc g hg).2⟩⟩
theorem BudX.call (h : BudX Xc B w a n L p c) (hb : Below w.heap.size w w') : BudX Xc B w' a n L p c := h.keep hb.size fun _ _ _ r _ => r.call hb
theorem BudX.alloc (h : BudX Xc B w a n L p c) (o : Obj) : BudX Xc B (w.alloc o) a n L p c := h.keep (by simp) fun _ _ _ r _ => r.alloc o
theorem BudX.drewN (h : BudX Xc B w a n L p c) (q : Nat) : BudX Xc B (w.drewN q) a n L p c := h.keep (Nat.le_refl _) fun _ _ _ r _ => r
theorem BudX.grown {row : Option Nat} (h : BudX Xc B w a n L p c) (hg : w.grownBy w' row) (hr : ∀ b, row = some b → ∃ t vs, Lrow w b t vs ∧ t ≠ 3 ∧ t ≠ 95) : BudX Xc B w' a n L p c := by
  refine ⟨h.top.grown hg ?_, h.lo, h.nil, fun k h8 b hp => ?_, h.apart, fun g hX => ⟨Nat.lt_of_lt_of_le (h.exc g hX).1 hg.size, (h.exc g hX).2⟩⟩
  · intro e
    obtain ⟨t, vs, q, _, h2⟩ := hr a e.symm
    exact q.apart h.top h2 rfl
  · obtain ⟨h1, r, h2, h3⟩ := h.row k h8 b hp
    refine ⟨h1, r, h2.grown hg ?_, h3⟩
    intro e
    obtain ⟨t, vs, q, h4, _⟩ := hr b e.symm
    exact q.apart h2 h4 rfl
theorem BudAt.call (h : BudAt Xc B w a n L) (hb : Below w.heap.size w w') : BudAt Xc B w' a n L := by obtain ⟨p, c, h⟩ := h; exact ⟨p, c, h.call hb⟩
theorem BudAt.alloc (h : BudAt Xc B w a n L) (o : Obj) : BudAt Xc B (w.alloc o) a n L := by obtain ⟨p, c, h⟩ := h; exact ⟨p, c, h.alloc o⟩
theorem BudAt.drewN (h : BudAt Xc B w a n L) (q : Nat) : BudAt Xc B (w.drewN q) a n L := by obtain ⟨p, c, h⟩ := h; exact ⟨p, c, h.drewN q⟩
theorem BudAt.drew (h : BudAt Xc B w a n L) : BudAt Xc B w.drew a n L := h.drewN 1
theorem BudAt.grown {row : Option Nat} (h : BudAt Xc B w a n L) (hg : w.grownBy w' row) (hr : ∀ b, row = some b → ∃ t vs, Lrow w b t vs ∧ t ≠ 3 ∧ t ≠ 95) : BudAt Xc B w' a n L := by obtain ⟨p, c, h⟩ := h; exact ⟨p, c, h.grown hg hr⟩
theorem BudAt.setFar {g : Nat} {t : TypeId} {vs : List Value} (h : BudAt Xc B w a n L) (r : Lrow w g t vs) (h1 : t ≠ 3) (h2 : t ≠ 95) (i : Nat) (u : Value) : BudAt Xc B (w.setCell ⟨g, i, none⟩ u) a n L :=
  h.grown (grown_set w g i u) fun b e => by injection e with e; subst e; exact ⟨t, vs, r, h1, h2⟩
theorem BudAt.lo (h : BudAt Xc B w a n L) : B ≤ w.heap.size := by obtain ⟨p, c, h⟩ := h; have := h.lo; have := h.top.lt; omega
theorem BudAt.lt (h : BudAt Xc B w a n L) : a < w.heap.size := by obtain ⟨p, c, h⟩ := h; exact h.top.lt
/-- The list of one order has been laid anew, in the same block or in another, and the struct tells so. -/
theorem BudX.turned {k : Nat} {l : List Nat} {b cc : Nat} {r : List Int} (h : BudX Xc B w a n L p c) (hk : k ≤ 8)
    (hB : B ≤ b) (hb : p k = some b ∨ w.heap.size ≤ b) (hr : Lrow w' b 3 (icells (ints l r))) (hc : cc = l.length + r.length) (h0 : 0 < cc) (hm : cc ≤ 9223372036854775807)
    (hg : w.grownBy w' (some b)) :
    Turn Xc B w (w'.setCell ⟨a, 1 + k, none⟩ (.slice (some ⟨b, 0, none⟩) l.length cc)) ∧ BudAt Xc B (w'.setCell ⟨a, 1 + k, none⟩ (.slice (some ⟨b, 0, none⟩) l.length cc)) a n (upd L k l) := by
  have hab : a ≠ b := by
    rcases hb with hb | hb
    · obtain ⟨_, q, h2, _⟩ := h.row k hk b hb
      exact h.top.apart h2 (by decide)
    · have := h.top.lt; omega
  have htop : Lrow w' a 95 _ := h.top.grown hg (by simpa using hab)
  have ht1 : Turn Xc B w w' := by
    rcases hb with hb | hb
    · obtain ⟨_, q, h2, _⟩ := h.row k hk b hb
      exact (Turn.refl B w).grown h2 (Or.inl rfl) hB (fun hX => (h.exc b hX).2.2 k hk hb) hg
    · refine Turn.of_below ⟨hg.os, hg.tape, hg.output, hg.size, fun i hi => hg.block i hi ?_⟩ (by have := h.lo; have := h.top.lt; omega)
      intro e; injection e with e; omega
  refine ⟨ht1.grown htop (Or.inr rfl) h.lo (fun hX => (h.exc a hX).2.1 rfl) (grown_set _ _ _ _), ⟨fun j => if j = k then some b else p j, fun j => if j = k then cc else c j, ?_⟩⟩
  refine ⟨?_, h.lo, fun j hj hp => ?_, fun j hj d hp => ?_, fun i j hi hj hne d h1 h2 => ?_, fun g hX => ⟨?_, (h.exc g hX).2.1, fun j hj => ?_⟩⟩
  · have := htop.set_ (1 + k) (.slice (some ⟨b, 0, none⟩) l.length cc)
    rw [Nat.add_comm 1 k, List.set_cons_succ] at this
    rw [Nat.add_comm 1 k]
    have e : ((List.range 9).map fun k => Value.slice (slA (p k)) (L k).length (c k)).set k (.slice (some ⟨b, 0, none⟩) l.length cc) =
        (List.range 9).map fun j => Value.slice (slA (if j = k then some b else p j)) (upd L k l j).length (if j = k then cc else c j) := by
      apply List.ext_getElem?
      intro i
      rw [List.getElem?_set]
      by_cases hi : i < 9
      · simp only [List.length_map, List.length_range, List.getElem?_map, List.getElem?_range hi, Option.map_some]
        by_cases hik : k = i
        · subst hik
          simp [hi, slA, upd_same]
        · rw [if_neg hik, if_neg (Ne.symm hik), if_neg (Ne.symm hik), upd_other L l (Ne.symm hik)]
      · rw [List.getElem?_eq_none (l := (List.range 9).map _) (by simp; omega), List.getElem?_eq_none (l := (List.range 9).map _) (by simp; omega)]
        simp only [List.length_map, List.length_range]
        split
        · rw [if_neg (by omega)]
        · rfl
    rw [e] at this
    exact this
  · by_cases e : j = k
    · simp [e] at hp
    · simp only [e, if_false] at hp ⊢
      rw [upd_other L l e]
      exact h.nil j hj hp
  · by_cases e : j = k
    · subst e
      simp only [if_true, Option.some.injEq] at hp
      subst hp
      refine ⟨hB, r, ?_, ?_⟩
      · rw [upd_same]; exact hr.far (Ne.symm hab) _
      · rw [upd_same]
        simp only [if_true]
        exact ⟨hc, h0, hm⟩
    · simp only [e, if_false] at hp ⊢
      rw [upd_other L l e]
      obtain ⟨g1, q, g2, g3⟩ := h.row j hj d hp
      refine ⟨g1, q, ?_, g3⟩
      have hda : d ≠ a := g2.apart h.top (by decide)
      refine (g2.grown hg ?_).far hda _
      intro e2; injection e2 with e2; subst e2
      rcases hb with hb | hb
      · exact h.apart j k hj hk e d hp hb
      · have := g2.lt; omega
  · by_cases e1 : i = k
    · have e2 : j ≠ k := fun e => hne (e1.trans e.symm)
      simp only [e1, if_true, Option.some.injEq] at h1
      simp only [e2, if_false] at h2
      subst h1
      obtain ⟨g1, q, g2, g3⟩ := h.row j hj b h2
      rcases hb with hb | hb
      · exact h.apart j k hj hk e2 b h2 hb
      · have := g2.lt; omega
    · simp only [e1, if_false] at h1
      by_cases e2 : j = k
      · simp only [e2, if_true, Option.some.injEq] at h2
        subst h2
        obtain ⟨g1, q, g2, g3⟩ := h.row i hi b h1
        rcases hb with hb | hb
        · exact h.apart i k hi hk e1 b h1 hb
        · have := g2.lt; omega
      · simp only [e2, if_false] at h2
        exact h.apart i j hi hj hne d h1 h2
  · have h1 := (h.exc g hX).1
    have h2 := hg.size
    simp only [World.setCell, Array.size_modify]
    omega
  · have h1 := h.exc g hX
    by_cases e : j = k
    · simp only [e, if_true, ne_eq, Option.some.injEq]
      intro e2
      subst e2
      rcases hb with hb | hb
      · exact h1.2.2 k hk hb
      · omega
    · simp only [e, if_false]
      exact h1.2.2 j hj
/-- More blocks are named: any that are newer than the lists. -/
theorem BudAt.more {Y : Nat → Prop} (h : BudAt Xc B w a n L) (hb : Below w.heap.size w w') (hY : ∀ g, Y g → g < w'.heap.size ∧ (Xc g ∨ w.heap.size ≤ g)) : BudAt Y B w' a n L := by
  obtain ⟨p, c, h⟩ := h
  have h1 := h.call hb
  refine ⟨p, c, h1.top, h1.lo, h1.nil, h1.row, h1.apart, fun g hg => ⟨(hY g hg).1, ?_⟩⟩
  rcases (hY g hg).2 with g1 | g1
  · exact (h.exc g g1).2
  · refine ⟨by have := h.top.lt; omega, fun k hk e => ?_⟩
    obtain ⟨_, r, h2, _⟩ := h.row k hk g e
    have := h2.lt
    omega
/-- A block that is named is turned: the lists stay. -/
theorem BudAt.named {g : Nat} (h : BudAt Xc B w a n L) (hg : w.grownBy w' (some g)) (hX : Xc g) : BudAt Xc B w' a n L := by
  obtain ⟨p, c, h⟩ := h
  have h1 := h.exc g hX
  refine ⟨p, c, h.top.grown hg (by simpa using h1.2.1.symm), h.lo, h.nil, fun k h8 b hp => ?_, h.apart, fun g' hX' => ⟨Nat.lt_of_lt_of_le (h.exc g' hX').1 hg.size, (h.exc g' hX').2⟩⟩
  obtain ⟨h2, r, h3, h4⟩ := h.row k h8 b hp
  refine ⟨h2, r, h3.grown hg ?_, h4⟩
  intro e
  injection e with e
  exact h1.2.2 k h8 (by rw [hp, e])
end
end Go.Proofs.Ytfjphlickpgbnaa
