/- Worlds, blocks that are known whole, slices of one's own; lists of items of whatever kind: no program is named. -/
import Derived.WalkKit
import Derived.WalkSpells
import Derived.Below
import Derived.Laws.OwnMore
import Derived.Laws.Rows
import Derived.Deep.Draws
import Derived.Lib.Hide
import Derived.Laws.AppendOwn
import Derived.Maps.AppendAt
import Derived.Laws.IdiomCopy
import Derived.Laws.CopyOwn
import Derived.Lib.SliceRun
import Derived.Lib.AppendZerosOnto
import Derived.Lib.Overlaps
import Derived.Laws.Externs
namespace Go.Proofs.Ytekfkglielmfaaa
open Go.RowKit

theorem ret_bool {a b : Bool} (h : a = b) : Ending.returned (.bool a) = .returned (.bool b) := by rw [h]
theorem ret_int {k : IntKind} {a b : Int} (h : a = b) : Ending.returned (.int k a) = .returned (.int k b) := by rw [h]
theorem bcell {W w1 : World} {B : Nat} (hb : Below B W w1) : (∀ b o, b < B → w1.cell? ⟨b, o, none⟩ = W.cell? ⟨b, o, none⟩) ∧ (∀ b o, b < B → w1.frozen? ⟨b, o, none⟩ = W.frozen? ⟨b, o, none⟩) :=
  ⟨fun b o h => hb.cell (p := ⟨b, o, none⟩) h, fun b o h => hb.frozen (p := ⟨b, o, none⟩) h⟩
/-- A block that is known whole. -/
def Lrow (w : World) (g : Nat) (t : TypeId) (vs : List Value) : Prop := w.heap[g]? = some (.cells vs.toArray t (0, 0))
section
variable {w w' : World} {g : Nat} {t : TypeId} {vs : List Value}
theorem Lrow.lt (h : Lrow w g t vs) : g < w.heap.size := by
  rcases Nat.lt_or_ge g w.heap.size with hl | hl
  · exact hl
  · unfold Lrow at h; rw [Array.getElem?_eq_none hl] at h; cases h
theorem Lrow.cell (h : Lrow w g t vs) (i : Nat) : w.cell? ⟨g, i, none⟩ = vs[i]? := by
  have := cell_of_row w g i vs.toArray t (0, 0) h
  simpa using this
theorem Lrow.frozen (h : Lrow w g t vs) (i : Nat) : w.frozen? ⟨g, i, none⟩ = false := by
  unfold Lrow at h
  simp [World.frozen?, h]
theorem Lrow.new (w : World) (t : TypeId) (vs : List Value) : Lrow (w.alloc (.cells vs.toArray t)) w.heap.size t vs := heap_alloc_new w _
theorem Lrow.alloc (h : Lrow w g t vs) (o : Obj) : Lrow (w.alloc o) g t vs := (Below.heap_alloc w o g h.lt).trans h
theorem Lrow.set_ (h : Lrow w g t vs) (i : Nat) (u : Value) : Lrow (w.setCell ⟨g, i, none⟩ u) g t (vs.set i u) := by
  unfold Lrow at h ⊢
  simp [World.setCell, Array.getElem?_modify, h]
theorem Lrow.far (h : Lrow w g t vs) {p : Addr} (hp : g ≠ p.block) (u : Value) : Lrow (w.setCell p u) g t vs := (Below.heap_setCell w p u g hp).trans h
theorem Lrow.below {B : Nat} (h : Lrow w g t vs) (hb : Below B w w') (hg : g < B) : Lrow w' g t vs := (hb.block g hg).trans h
theorem Lrow.call (h : Lrow w g t vs) (hb : Below w.heap.size w w') : Lrow w' g t vs := h.below hb h.lt
theorem Lrow.grown {row : Option Nat} (h : Lrow w g t vs) (hb : w.grownBy w' row) (hg : some g ≠ row) : Lrow w' g t vs := (hb.block g h.lt hg).trans h
theorem Lrow.apart {g' : Nat} {t' : TypeId} {vs' : List Value} (h : Lrow w g t vs) (h' : Lrow w g' t' vs') (hne : t ≠ t') : g ≠ g' := by
  rintro rfl
  unfold Lrow at h h'
  rw [h] at h'
  injection h' with h'
  injection h' with _ ht
  exact hne ht
theorem Lrow.drewN (h : Lrow w g t vs) (k : Nat) : Lrow (w.drewN k) g t vs := h
theorem Lrow.inj {t' : TypeId} {vs' : List Value} (h : Lrow w g t vs) (h' : Lrow w g t' vs') : vs = vs' := by
  unfold Lrow at h h'
  rw [h] at h'
  injection h' with h'
  injection h' with e _
  exact List.toArray_inj e
end
theorem below_dN {B : Nat} {w w' : World} (h : Below B w w') (q : Nat) : Below B w (w'.drewN q) := ⟨h.os, h.tape, h.output, h.size, h.block⟩
theorem grown_set (w : World) (g i : Nat) (u : Value) : w.grownBy (w.setCell ⟨g, i, none⟩ u) (some g) :=
  ⟨rfl, rfl, rfl, by simp [World.setCell], fun k _ hne => Below.heap_setCell w _ u k (by rintro rfl; exact hne rfl)⟩

/-- What a call leaves as it was: each block that is there, but for those of X. -/
structure Foot (X : Nat → Prop) (w w' : World) : Prop where
  os : w'.os = w.os
  tape : w'.tape = w.tape
  output : w'.output = w.output
  size : w.heap.size ≤ w'.heap.size
  keep : ∀ k, k < w.heap.size → ¬ X k → w'.heap[k]? = w.heap[k]?
section
variable {w w' w'' : World} {X Y : Nat → Prop} {g : Nat} {t : TypeId} {vs : List Value}
theorem Foot.refl (X : Nat → Prop) (w : World) : Foot X w w := ⟨rfl, rfl, rfl, Nat.le_refl _, fun _ _ _ => rfl⟩
theorem Foot.trans (h : Foot X w w') (k : Foot Y w' w'') (hy : ∀ b, Y b → b < w.heap.size → X b) : Foot X w w'' :=
  ⟨k.os.trans h.os, k.tape.trans h.tape, k.output.trans h.output, Nat.le_trans h.size k.size, fun i hi hx => (k.keep i (Nat.lt_of_lt_of_le hi h.size) (fun e => hx (hy i e hi))).trans (h.keep i hi hx)⟩
theorem Foot.of_below (h : Below w.heap.size w w') : Foot X w w' := ⟨h.os, h.tape, h.output, h.size, fun k hk _ => h.block k hk⟩
theorem Foot.grown {b : Nat} (h : w.grownBy w' (some b)) (hx : X b) : Foot X w w' := ⟨h.os, h.tape, h.output, h.size, fun k hk hn => h.block k hk (by intro e; injection e with e; subst e; exact hn hx)⟩
theorem Foot.grownO {row : Option Nat} (h : w.grownBy w' row) (hx : ∀ b, row = some b → b < w.heap.size → X b) : Foot X w w' := ⟨h.os, h.tape, h.output, h.size, fun k hk hn => h.block k hk (by intro e; exact hn (hx k e.symm hk))⟩
theorem Foot.row (h : Foot X w w') (r : Lrow w g t vs) (hx : ¬ X g) : Lrow w' g t vs := (h.keep g r.lt hx).trans r
theorem Foot.below {B : Nat} (h : Foot X w w') (hB : B ≤ w.heap.size) (hx : ∀ b, X b → B ≤ b) : Below B w w' := ⟨h.os, h.tape, h.output, h.size, fun k hk => h.keep k (by omega) (fun e => by have := hx k e; omega)⟩
theorem Foot.drewN (h : Foot X w w') (q : Nat) : Foot X w (w'.drewN q) := ⟨h.os, h.tape, h.output, h.size, h.keep⟩
theorem Foot.mono (h : Foot X w w') (hy : ∀ b, X b → Y b) : Foot Y w w' := ⟨h.os, h.tape, h.output, h.size, fun k hk hn => h.keep k hk (fun e => hn (hy k e))⟩
end

theorem splice_get {α : Type} (L : List α) (o : Nat) (cs : List α) (h : o + cs.length ≤ L.length) (i : Nat) :
    (splice L o cs)[i]? = if i < o then L[i]? else if i < o + cs.length then cs[i - o]? else L[i]? := by
  have hm : min o L.length = o := by omega
  unfold splice
  by_cases h1 : i < o
  · rw [List.getElem?_append_left (by rw [List.length_take, hm]; exact h1), List.getElem?_take_of_lt h1, if_pos h1]
  · rw [List.getElem?_append_right (by rw [List.length_take, hm]; omega), List.length_take, hm, if_neg h1]
    by_cases h2 : i < o + cs.length
    · rw [List.getElem?_append_left (by omega), if_pos h2]
    · rw [List.getElem?_append_right (by omega), if_neg h2, List.getElem?_drop]
      congr 1; omega
theorem splice_cons {α : Type} (L : List α) (o : Nat) (v : α) (r : List α) (h : o + (v :: r).length ≤ L.length) : splice (L.set o v) (o + 1) r = splice L o (v :: r) := by
  simp only [List.length_cons] at h
  apply List.ext_getElem?
  intro i
  rw [splice_get _ _ _ (by rw [List.length_set]; omega), splice_get _ _ _ (by simp only [List.length_cons]; omega)]
  simp only [List.length_cons, List.getElem?_set]
  rcases Nat.lt_trichotomy i o with h1 | h1 | h1
  · simp [h1, show i < o + 1 by omega, show ¬ o = i by omega]
  · subst h1
    simp [show i < L.length by omega]
  · obtain ⟨j, rfl⟩ : ∃ j, i = o + 1 + j := ⟨i - (o + 1), by omega⟩
    rw [if_neg (by omega : ¬ o + 1 + j < o + 1), if_neg (by omega : ¬ o = o + 1 + j), if_neg (by omega : ¬ o + 1 + j < o), show o + 1 + j - (o + 1) = j by omega, show o + 1 + j - o = j + 1 by omega, List.getElem?_cons_succ]
    by_cases h3 : o + 1 + j < o + 1 + r.length
    · rw [if_pos h3, if_pos (by omega : o + 1 + j < o + (r.length + 1))]
    · rw [if_neg h3, if_neg (by omega : ¬ o + 1 + j < o + (r.length + 1))]
theorem splice_nil {α : Type} (L : List α) (o : Nat) : splice L o [] = L := by simp [splice]
theorem grown_alloc {a w : World} {row : Option Nat} (h : a.grownBy w row) (o : Obj) : a.grownBy (w.alloc o) row :=
  ⟨h.os, h.tape, h.output, Nat.le_trans h.size (by simp), fun i hi hne => (Below.heap_alloc w o i (Nat.lt_of_lt_of_le hi h.size)).trans (h.block i hi hne)⟩
theorem grown_more {a w w' : World} {g : Nat} (h : a.grownBy w (some g)) {row : Option Nat} (k : w.grownBy w' row) (hr : ∀ r, row = some r → r = g ∨ a.heap.size ≤ r) : a.grownBy w' (some g) :=
  ⟨k.os.trans h.os, k.tape.trans h.tape, k.output.trans h.output, Nat.le_trans h.size k.size, fun i hi hne =>
    (k.block i (Nat.lt_of_lt_of_le hi h.size) (fun e => by rcases hr i e.symm with rfl | hr; exact hne rfl; omega)).trans (h.block i hi hne)⟩

theorem grown_trans1 {a w w' : World} {g : Nat} (h : a.grownBy w (some g)) (k : w.grownBy w' (some g)) : a.grownBy w' (some g) := grown_more h k fun r e => Or.inl (by injection e with e; exact e.symm)
theorem row_setCells (g : Nat) (t : TypeId) : ∀ (vs : List Value) (o : Nat) (w : World) (L : List Value), Lrow w g t L → o + vs.length ≤ L.length →
    Lrow (w.setCells g o vs) g t (splice L o vs) ∧ w.grownBy (w.setCells g o vs) (some g)
  | [], o, w, L, h, _ => ⟨by rw [splice_nil]; exact h, World.grownBy.refl w _⟩
  | v :: r, o, w, L, h, hl => by
    have ih := row_setCells g t r (o + 1) (w.setCell ⟨g, o, none⟩ v) (L.set o v) (h.set_ o v) (by simp at hl ⊢; omega)
    rw [splice_cons L o v r hl] at ih
    exact ⟨ih.1, grown_trans1 (grown_set w g o v) ih.2⟩

theorem grown_drewN (w : World) (q : Nat) (row : Option Nat) : w.grownBy (w.drewN q) row := ⟨rfl, rfl, rfl, Nat.le_refl _, fun _ _ _ => rfl⟩
theorem splice_mid {α : Type} (X Y Z : List α) (o n : Nat) (h1 : o = X.length) (h2 : n = Y.length) (V : List α) (h3 : V.length = n) : splice (X ++ Y ++ Z) o V = X ++ V ++ Z := by
  subst h1 h2
  unfold splice
  rw [List.append_assoc, List.take_left, h3, ← List.drop_drop, List.drop_left, List.drop_left, List.append_assoc]

section
variable {w w' : World} {B : Nat}
theorem own_form {v : Value} {n : Nat} {xs : List Value} {t : TypeId} {s : Nat} (h : w.ownsRow B t s v n xs) : ∃ A c, v = .slice A n c := by
  rcases h.2 with ⟨rfl, rfl⟩ | ⟨g, cap, cur, rfl, _⟩
  · exact ⟨_, _, rfl⟩
  · exact ⟨_, _, rfl⟩
theorem own_row {n g c : Nat} {xs : List Value} {t : TypeId} {s : Nat} {A : Option Addr} (h : w.ownsRow B t s (.slice A n c) n xs) (hA : A = some ⟨g, 0, none⟩) : ∃ rest, Lrow w g t (xs ++ rest) ∧ B ≤ g ∧ n ≤ c ∧ c ≤ maxLen ∧ xs.length + rest.length = c * s := by
  rcases h.2 with ⟨e, rfl⟩ | ⟨g', cap, cur, e, hB, hg, hn, hc, hs, ht⟩
  · injection e with e; rw [hA] at e; cases e
  · injection e with e _ ec
    rw [hA] at e
    injection e with e
    injection e with e
    subst e
    subst ec
    have hx : xs ++ cur.toList.drop (n * s) = cur.toList := by rw [← ht]; exact List.take_append_drop _ _
    refine ⟨cur.toList.drop (n * s), ?_, hB, hn, hc, ?_⟩
    · show w.heap[g]? = _
      rw [hx, hg]
    · have : (xs ++ cur.toList.drop (n * s)).length = cur.toList.length := by rw [hx]
      rw [List.length_append] at this
      rw [this, Array.length_toList, hs]
theorem own_of_row {n g c : Nat} {xs rest : List Value} {t : TypeId} {s : Nat} (hr : Lrow w g t (xs ++ rest)) (hB : B ≤ g) (hn : n ≤ c) (hc : c ≤ maxLen) (hx : xs.length = n * s) (hl : xs.length + rest.length = c * s) : w.ownsRow B t s (.slice (some ⟨g, 0, none⟩) n c) n xs :=
  ⟨hx, Or.inr ⟨g, c, (xs ++ rest).toArray, rfl, hB, hr, hn, hc, by simpa using hl, by simp [← hx]⟩⟩
theorem own_heap {v : Value} {n : Nat} {xs : List Value} {t : TypeId} {s : Nat} (h : w.ownsRow B t s v n xs) (hk : ∀ g, v.ownBlock = some g → w'.heap[g]? = w.heap[g]?) : w'.ownsRow B t s v n xs := by
  refine ⟨h.1, ?_⟩
  rcases h.2 with hn | ⟨g, cap, cur, rfl, hbg, hg, rest⟩
  · exact Or.inl hn
  · exact Or.inr ⟨g, cap, cur, rfl, hbg, (hk g rfl).trans hg, rest⟩
theorem own_block {v : Value} {n g : Nat} {xs : List Value} {t : TypeId} {s : Nat} (h : w.ownsRow B t s v n xs) (e : v.ownBlock = some g) : ∃ vs, Lrow w g t vs ∧ B ≤ g := by
  rcases h.2 with ⟨rfl, rfl⟩ | ⟨g', cap, cur, rfl, hbg, hg, rest⟩
  · cases e
  · injection e with e
    subst e
    exact ⟨cur.toList, hg, hbg⟩

theorem own_base {v : Value} {n : Nat} {xs : List Value} {t : TypeId} {s B' : Nat} (h : w.ownsRow B t s v n xs) (hb : ∀ g, v.ownBlock = some g → B' ≤ g) : w.ownsRow B' t s v n xs := by
  refine ⟨h.1, ?_⟩
  rcases h.2 with hn | ⟨g, cap, cur, rfl, hbg, hg, rest⟩
  · exact Or.inl hn
  · exact Or.inr ⟨g, cap, cur, rfl, hb g rfl, hg, rest⟩
end


/-! Lists of items in a slice of one's own, whatever the items are. -/
/-- How an item lies in memory: a row of cells. -/
structure Enc (P : Program) (α : Type) where
  enc : α → List Value
  sz : Nat
  el : TypeId
  sl : TypeId
  zero : Value
  bytes : Nat
  len : ∀ a, (enc a).length = sz
  one : ∀ a, ∀ u ∈ enc a, u.oneCell' = true
  pos : 0 < sz
  zsz : zero.cells.size = sz
  und : P.underlying sl = some (.slice el)
  info : (P.info? el).map (fun i => (i.zero, i.size, i.bytes)) = some (some zero, sz, bytes)
  small : bytes ≤ 1000
section
variable {P : Program} {α : Type} (E : Enc P α)
def Enc.cells : List α → List Value
  | [] => []
  | x :: r => E.enc x ++ Enc.cells r
@[simp] theorem Enc.cells_nil : E.cells [] = [] := rfl
theorem Enc.cells_cons (x : α) (r : List α) : E.cells (x :: r) = E.enc x ++ E.cells r := rfl
theorem Enc.cells_length (L : List α) : (E.cells L).length = L.length * E.sz := by
  induction L with
  | nil => simp
  | cons x r ih => rw [E.cells_cons, List.length_append, ih, E.len, List.length_cons, Nat.add_mul]; omega
theorem Enc.cells_append (L M : List α) : E.cells (L ++ M) = E.cells L ++ E.cells M := by
  induction L with
  | nil => rfl
  | cons x r ih => rw [List.cons_append, E.cells_cons, E.cells_cons, ih, List.append_assoc]
theorem Enc.cells_one (L : List α) : ∀ u ∈ E.cells L, u.oneCell' = true := by
  induction L with
  | nil => intro u h; cases h
  | cons x r ih =>
    intro u h
    rw [E.cells_cons, List.mem_append] at h
    rcases h with h | h
    · exact E.one x u h
    · exact ih u h
theorem Enc.cells_sing (x : α) : E.cells [x] = E.enc x := by rw [E.cells_cons, E.cells_nil, List.append_nil]
theorem Enc.cells_take (L : List α) : ∀ n, E.cells (L.take n) = (E.cells L).take (n * E.sz) := by
  induction L with
  | nil => intro n; simp
  | cons x r ih =>
    intro n
    match n with
    | 0 => simp
    | n + 1 =>
      have e1 : (E.enc x).take ((n + 1) * E.sz) = E.enc x := List.take_of_length_le (by rw [E.len, Nat.add_mul]; omega)
      rw [List.take_succ_cons, E.cells_cons, E.cells_cons, ih, List.take_append, e1, E.len, show (n + 1) * E.sz - E.sz = n * E.sz by rw [Nat.add_mul]; omega]
theorem Enc.cells_drop (L : List α) : ∀ n, E.cells (L.drop n) = (E.cells L).drop (n * E.sz) := by
  induction L with
  | nil => intro n; simp
  | cons x r ih =>
    intro n
    match n with
    | 0 => simp
    | n + 1 =>
      have e1 : (E.enc x).drop ((n + 1) * E.sz) = [] := List.drop_of_length_le (by rw [E.len, Nat.add_mul]; omega)
      rw [List.drop_succ_cons, E.cells_cons, ih, List.drop_append, e1, E.len, List.nil_append, show (n + 1) * E.sz - E.sz = n * E.sz by rw [Nat.add_mul]; omega]
/-- The cells of the item at j. -/
theorem Enc.cells_get (L : List α) {j : Nat} (h : j < L.length) (i : Nat) (hi : i < E.sz) : (E.cells L)[j * E.sz + i]? = (E.enc L[j])[i]? := by
  have e : E.cells L = E.cells (L.take j) ++ (E.enc L[j] ++ E.cells (L.drop (j + 1))) := by
    rw [← E.cells_cons, ← E.cells_append, ← List.drop_eq_getElem_cons h, List.take_append_drop]
  rw [e, List.getElem?_append_right (by rw [E.cells_length, List.length_take]; have : min j L.length = j := by omega
                                        rw [this]; omega), E.cells_length, List.length_take, show min j L.length = j by omega, show j * E.sz + i - j * E.sz = i by omega, List.getElem?_append_left (by rw [E.len]; exact hi)]
/-- A list in a slice of one's own. -/
def Enc.Own (B : Nat) (w : World) (v : Value) (L : List α) : Prop := w.ownsRow B E.el E.sz v L.length (E.cells L)
/-- The item that lies at p. -/
def Enc.At (w : World) (g o : Nat) (x : α) : Prop := ∀ i, i < E.sz → w.cell? ⟨g, o + i, none⟩ = (E.enc x)[i]?
variable {E} {w w' : World} {B : Nat} {v : Value} {L : List α}
theorem Enc.At.heap {g o : Nat} {x : α} (h : E.At w g o x) (hk : w'.heap[g]? = w.heap[g]?) : E.At w' g o x := fun i hi => (World.cell?_of_block (a := ⟨g, o + i, none⟩) hk).trans (h i hi)
theorem Enc.Own.form (h : E.Own B w v L) : ∃ A c, v = .slice A L.length c := own_form h
theorem Enc.Own.block (h : E.Own B w v L) {g : Nat} (e : v.ownBlock = some g) : ∃ vs, Lrow w g E.el vs ∧ B ≤ g := own_block h e
theorem Enc.Own.heap (h : E.Own B w v L) (hk : ∀ g, v.ownBlock = some g → w'.heap[g]? = w.heap[g]?) : E.Own B w' v L := own_heap h hk
theorem Enc.Own.call (h : E.Own B w v L) (hb : Below w.heap.size w w') : E.Own B w' v L := h.heap fun g e => by
  obtain ⟨vs, r, _⟩ := h.block e
  exact hb.block g r.lt
theorem Enc.Own.drewN (h : E.Own B w v L) (k : Nat) : E.Own B (w.drewN k) v L := h.heap fun _ _ => rfl
theorem Enc.Own.base {B' : Nat} (h : E.Own B w v L) (hb : B' ≤ B) : E.Own B' w v L := own_base h fun g e => by
  obtain ⟨vs, _, r⟩ := own_block h e
  omega
theorem Enc.Own.nil (B : Nat) (w : World) : E.Own B w (.slice none 0 0) [] := ⟨by rw [E.cells_nil, List.length_nil, List.length_nil, Nat.zero_mul], Or.inl ⟨rfl, rfl⟩⟩
theorem Enc.Own.some_ {A : Option Addr} {n c : Nat} (h : E.Own B w (.slice A n c) L) (hn : 0 < L.length) : ∃ g, A = some ⟨g, 0, none⟩ ∧ B ≤ g ∧ g < w.heap.size ∧ n = L.length ∧ ∀ (j : Nat) (hj : j < L.length), E.At w g (j * E.sz) L[j] := by
  rcases h.2 with ⟨e, h0⟩ | ⟨g, cap, cur, e, hB, hg, hnc, hc, hs, ht⟩
  · omega
  · injection e with e1 e2 e3
    refine ⟨g, e1, hB, (Array.getElem?_eq_some_iff.1 hg).1, e2, fun j hj i hi => ?_⟩
    have hlt : j * E.sz + i < L.length * E.sz := by
      have : (j + 1) * E.sz ≤ L.length * E.sz := Nat.mul_le_mul_right _ hj
      rw [Nat.add_mul] at this; omega
    rw [cell_of_row w g _ cur _ (0, 0) hg, ← E.cells_get L hj i hi, ← ht, List.getElem?_take_of_lt hlt, Array.getElem?_toList]
theorem Enc.cells_set : ∀ (L : List α) (j q : Nat) (u : Value) (x : α) (hj : j < L.length), q < E.sz → E.enc x = (E.enc L[j]).set q u → E.cells (L.set j x) = (E.cells L).set (j * E.sz + q) u
  | y :: r, 0, q, u, x, hj, hq, hx => by
    have hx : E.enc x = (E.enc y).set q u := hx
    rw [List.set_cons_zero, E.cells_cons, E.cells_cons, hx, Nat.zero_mul, Nat.zero_add, List.set_append_left _ _ (by rw [E.len]; exact hq)]
  | y :: r, j + 1, q, u, x, hj, hq, hx => by
    have hj' : j < r.length := by simpa using hj
    have ih := Enc.cells_set r j q u x hj' hq hx
    rw [List.set_cons_succ, E.cells_cons, E.cells_cons, ih, List.set_append_right _ _ (by rw [E.len, Nat.add_mul]; omega), E.len]
    congr 2
    rw [Nat.add_mul]; omega
/-- One cell of an item is written. -/
theorem Enc.Own.put {A : Option Addr} {n c : Nat} (h : E.Own B w (.slice A n c) L) {j q : Nat} (hj : j < L.length) (hq : q < E.sz) {u : Value} {x : α} (hx : E.enc x = (E.enc L[j]).set q u) {g : Nat} (hA : A = some ⟨g, 0, none⟩) :
    (∀ i, w.frozen? ⟨g, i, none⟩ = false) ∧ E.Own B (w.setCell ⟨g, j * E.sz + q, none⟩ u) (.slice A n c) (L.set j x) := by
  subst hA
  have hn : n = L.length := by obtain ⟨_, _, e⟩ := h.form; injection e
  subst hn
  obtain ⟨rest, r1, r2, r3, r4, r5⟩ := own_row h rfl
  refine ⟨fun i => r1.frozen i, ?_⟩
  have hc := Enc.cells_set (E := E) L j q u x hj hq hx
  have r6 := r1.set_ (j * E.sz + q) u
  have hlt : j * E.sz + q < (E.cells L).length := by
    rw [E.cells_length]
    have : (j + 1) * E.sz ≤ L.length * E.sz := Nat.mul_le_mul_right _ hj
    rw [Nat.add_mul] at this; omega
  rw [List.set_append_left _ _ hlt, ← hc] at r6
  have hl : (L.set j x).length = L.length := List.length_set
  show (w.setCell _ u).ownsRow B E.el E.sz _ (L.set j x).length (E.cells (L.set j x))
  rw [hl]
  exact own_of_row r6 r2 r3 r4 (by rw [E.cells_length, hl]) (by rw [E.cells_length, hl]; rw [E.cells_length] at r5; exact r5)
/-- Items behind a list: the run of append, whatever room there is. -/
theorem Enc.Own.app (h : E.Own B w v L) (hB : B ≤ w.heap.size) (ad : Addr) (cc : Nat) (M : List α) (hM : ∀ j u, (E.cells M)[j]? = some u → w.cell? (ad.add j) = some u) (hl : L.length + M.length ≤ 100000) : ∃ A c w3,
    (∀ ty, ty = E.sl → (Builtin.append_ #[E.sl, E.sl] ty #[v, .slice (some ad) M.length cc]).run P w = .ok (.slice A (L.length + M.length) c) w3) ∧
    E.Own B w3 (.slice A (L.length + M.length) c) (L ++ M) ∧ w.grownBy w3 v.ownBlock ∧ ((Value.slice A (L.length + M.length) c).ownBlock = v.ownBlock ∨ (Value.slice A (L.length + M.length) c).ownBlock = some w.heap.size) := by
  obtain ⟨i0, hi0, hz0, hz1, hz2⟩ := info_parts E.info
  have hby : (L.length + M.length) * E.bytes ≤ 140737488355328 := Nat.le_trans (Nat.mul_le_mul hl E.small) (by decide)
  obtain ⟨v1, W1, r1, o1, g1, -, t1⟩ := run_append_own_at (P := P) (w := w) B E.sl E.sl E.el i0 E.zero E.sz E.bytes E.und hi0 hz0 hz1 hz2 E.zsz E.pos v L.length _ h ad M.length cc (E.cells M) (E.cells_length M) hM (E.cells_one M) (by unfold maxLen; omega) hby hB
  obtain ⟨A, c, hv⟩ := own_form o1
  subst hv
  refine ⟨A, c, W1, fun ty e => by rw [e]; exact r1, ?_, g1, t1⟩
  show W1.ownsRow B E.el E.sz _ (L ++ M).length (E.cells (L ++ M))
  rw [List.length_append, E.cells_append]
  exact o1
theorem addr_add (g j : Nat) : (⟨g, 0, none⟩ : Addr).add j = ⟨g, j, none⟩ := by unfold Addr.add; split <;> simp_all
/-- One item more, out of a new block. -/
theorem Enc.Own.app1 (h : E.Own B w v L) (hB : B ≤ w.heap.size) (x : α) (hl : L.length ≤ 90000) (cs : Array Value) (hcs : cs = (E.enc x).toArray) : ∃ A c w3,
    (∀ ty, ty = E.sl → (Builtin.append_ #[E.sl, E.sl] ty #[v, .slice (some ⟨w.heap.size, 0, none⟩) 1 1]).run P (w.alloc (.cells cs E.el)) = .ok (.slice A (L.length + 1) c) w3) ∧
    E.Own B w3 (.slice A (L.length + 1) c) (L ++ [x]) ∧ w.grownBy w3 v.ownBlock ∧ ((Value.slice A (L.length + 1) c).ownBlock = v.ownBlock ∨ ∃ g, (Value.slice A (L.length + 1) c).ownBlock = some g ∧ w.heap.size ≤ g) := by
  subst hcs
  have hbn : Below w.heap.size w (w.alloc (.cells (E.enc x).toArray E.el)) := (Below.refl _ _).alloc (Nat.le_refl _) _
  obtain ⟨A, c, w3, r, o, g, t⟩ := Enc.Own.app (h.call hbn) (Nat.le_trans hB hbn.size) ⟨w.heap.size, 0, none⟩ 1 [x] (fun j u hu => by
    rw [addr_add, (Lrow.new w E.el (E.enc x)).cell]; rwa [E.cells_sing] at hu) (by simp only [List.length_cons, List.length_nil]; omega)
  refine ⟨A, c, w3, r, o, ⟨g.os, g.tape, g.output, Nat.le_trans hbn.size g.size, fun i hi hne => (g.block i (Nat.lt_of_lt_of_le hi hbn.size) hne).trans (hbn.block i hi)⟩, t.imp id fun e => ⟨_, e, hbn.size⟩⟩
/-- A list that a slice shows, whoever owns it. -/
def Enc.Ls (E : Enc P α) (w : World) (A : Option Addr) (L : List α) : Prop := 0 < L.length → ∃ g, A = some ⟨g, 0, none⟩ ∧ g < w.heap.size ∧ ∀ j (hj : j < L.length), E.At w g (j * E.sz) L[j]
theorem Enc.Own.ls {A : Option Addr} {n c : Nat} (h : E.Own B w (.slice A n c) L) : E.Ls w A L := fun h0 => by
  obtain ⟨g, e, -, hl, -, hat⟩ := h.some_ h0
  exact ⟨g, e, hl, hat⟩
theorem Enc.Ls.call {A : Option Addr} (h : E.Ls w A L) (hb : Below w.heap.size w w') : E.Ls w' A L := fun h0 => by
  obtain ⟨g, e, hl, hat⟩ := h h0
  exact ⟨g, e, Nat.lt_of_lt_of_le hl hb.size, fun j hj => (hat j hj).heap (hb.block g hl)⟩
theorem Enc.Ls.nil (w : World) (A : Option Addr) : E.Ls w A [] := fun h => absurd h (by simp)
end
end Go.Proofs.Ytekfkglielmfaaa
