/- Worlds, blocks that are known whole, slices of one's own; lists of items of whatever kind: no program is named. -/
import Derived.Test.YtklhcgekagimkaaGreatMg00
import Derived.Test.YtklhcgekagimkaaGreatMg04
import Derived.WalkKit
import Derived.WalkSpells
import Derived.Below
import Derived.Laws.OwnMore
import Derived.Laws.Rows
import Derived.Deep.Draws
import Derived.Lib.Hide
import Derived.Laws.AppendOwn
import Derived.Maps.AppendAt
import Derived.Laws.IdiomCopy
import Derived.Laws.CopyOwn
import Derived.Lib.SliceRun
import Derived.Lib.AppendZerosOnto
import Derived.Lib.Overlaps
import Derived.Laws.Externs
namespace Go.Proofs.YtklhcgekagimkaaGreat
open Go.RowKit

section
variable {w w' : World} {g : Nat} {t : TypeId} {vs : List Value}
end

/-- What a call leaves as it was: each block that is there, but for those of X. -/
structure Foot (X : Nat → Prop) (w w' : World) : Prop where
  os : w'.os = w.os
  tape : w'.tape = w.tape
  output : w'.output = w.output
  size : w.heap.size ≤ w'.heap.size
  keep : ∀ k, k < w.heap.size → ¬ X k → w'.heap[k]? = w.heap[k]?
section
variable {w w' w'' : World} {X Y : Nat → Prop} {g : Nat} {t : TypeId} {vs : List Value}
theorem Foot.refl (X : Nat → Prop) (w : World) : Foot X w w := ⟨rfl, rfl, rfl, Nat.le_refl _, fun _ _ _ => rfl⟩
theorem Foot.trans (h : Foot X w w') (k : Foot Y w' w'') (hy : ∀ b, Y b → b < w.heap.size → X b) : Foot X w w'' :=
  ⟨k.os.trans h.os, k.tape.trans h.tape, k.output.trans h.output, Nat.le_trans h.size k.size, fun i hi hx => (k.keep i (Nat.lt_of_lt_of_le hi h.size) (fun e => hx (hy i e hi))).trans (h.keep i hi hx)⟩
theorem Foot.of_below (h : Below w.heap.size w w') : Foot X w w' := ⟨h.os, h.tape, h.output, h.size, fun k hk _ => h.block k hk⟩
theorem Foot.grown {b : Nat} (h : w.grownBy w' (some b)) (hx : X b) : Foot X w w' := ⟨h.os, h.tape, h.output, h.size, fun k hk hn => h.block k hk (by intro e; injection e with e; subst e; exact hn hx)⟩
theorem Foot.grownO {row : Option Nat} (h : w.grownBy w' row) (hx : ∀ b, row = some b → b < w.heap.size → X b) : Foot X w w' := ⟨h.os, h.tape, h.output, h.size, fun k hk hn => h.block k hk (by intro e; exact hn (hx k e.symm hk))⟩
theorem Foot.row (h : Foot X w w') (r : Lrow w g t vs) (hx : ¬ X g) : Lrow w' g t vs := (h.keep g r.lt hx).trans r
theorem Foot.below {B : Nat} (h : Foot X w w') (hB : B ≤ w.heap.size) (hx : ∀ b, X b → B ≤ b) : Below B w w' := ⟨h.os, h.tape, h.output, h.size, fun k hk => h.keep k (by omega) (fun e => by have := hx k e; omega)⟩
theorem Foot.drewN (h : Foot X w w') (q : Nat) : Foot X w (w'.drewN q) := ⟨h.os, h.tape, h.output, h.size, h.keep⟩
theorem Foot.mono (h : Foot X w w') (hy : ∀ b, X b → Y b) : Foot Y w w' := ⟨h.os, h.tape, h.output, h.size, fun k hk hn => h.keep k hk (fun e => hn (hy k e))⟩
end


theorem row_setCells (g : Nat) (t : TypeId) : ∀ (vs : List Value) (o : Nat) (w : World) (L : List Value), Lrow w g t L → o + vs.length ≤ L.length →
    Lrow (w.setCells g o vs) g t (splice L o vs) ∧ w.grownBy (w.setCells g o vs) (some g)
  | [], o, w, L, h, _ => ⟨by rw [splice_nil]; exact h, World.grownBy.refl w _⟩
  | v :: r, o, w, L, h, hl => by
    have ih := row_setCells g t r (o + 1) (w.setCell ⟨g, o, none⟩ v) (L.set o v) (h.set_ o v) (by simp at hl ⊢; omega)
    rw [splice_cons L o v r hl] at ih
    exact ⟨ih.1, grown_trans1 (grown_set w g o v) ih.2⟩

theorem splice_mid {α : Type} (X Y Z : List α) (o n : Nat) (h1 : o = X.length) (h2 : n = Y.length) (V : List α) (h3 : V.length = n) : splice (X ++ Y ++ Z) o V = X ++ V ++ Z := by
  subst h1 h2
  unfold splice
  rw [List.append_assoc, List.take_left, h3, ← List.drop_drop, List.drop_left, List.drop_left, List.append_assoc]

section
variable {w w' : World} {B : Nat}
theorem own_formK {v : Value} {n : Nat} {xs : List Value} {t : TypeId} {s : Nat} (h : w.ownsRow B t s v n xs) : ∃ A c, v = .slice A n c := by
  rcases h.2 with ⟨rfl, rfl⟩ | ⟨g, cap, cur, rfl, _⟩
  · exact ⟨_, _, rfl⟩
  · exact ⟨_, _, rfl⟩
theorem own_rowK {n g c : Nat} {xs : List Value} {t : TypeId} {s : Nat} {A : Option Addr} (h : w.ownsRow B t s (.slice A n c) n xs) (hA : A = some ⟨g, 0, none⟩) : ∃ rest, Lrow w g t (xs ++ rest) ∧ B ≤ g ∧ n ≤ c ∧ c ≤ maxLen ∧ xs.length + rest.length = c * s := by
  rcases h.2 with ⟨e, rfl⟩ | ⟨g', cap, cur, e, hB, hg, hn, hc, hs, ht⟩
  · injection e with e; rw [hA] at e; cases e
  · injection e with e _ ec
    rw [hA] at e
    injection e with e
    injection e with e
    subst e
    subst ec
    have hx : xs ++ cur.toList.drop (n * s) = cur.toList := by rw [← ht]; exact List.take_append_drop _ _
    refine ⟨cur.toList.drop (n * s), ?_, hB, hn, hc, ?_⟩
    · show w.heap[g]? = _
      rw [hx, hg]
    · have : (xs ++ cur.toList.drop (n * s)).length = cur.toList.length := by rw [hx]
      rw [List.length_append] at this
      rw [this, Array.length_toList, hs]
theorem own_of_row {n g c : Nat} {xs rest : List Value} {t : TypeId} {s : Nat} (hr : Lrow w g t (xs ++ rest)) (hB : B ≤ g) (hn : n ≤ c) (hc : c ≤ maxLen) (hx : xs.length = n * s) (hl : xs.length + rest.length = c * s) : w.ownsRow B t s (.slice (some ⟨g, 0, none⟩) n c) n xs :=
  ⟨hx, Or.inr ⟨g, c, (xs ++ rest).toArray, rfl, hB, hr, hn, hc, by simpa using hl, by simp [← hx]⟩⟩
theorem own_heap {v : Value} {n : Nat} {xs : List Value} {t : TypeId} {s : Nat} (h : w.ownsRow B t s v n xs) (hk : ∀ g, v.ownBlock = some g → w'.heap[g]? = w.heap[g]?) : w'.ownsRow B t s v n xs := by
  refine ⟨h.1, ?_⟩
  rcases h.2 with hn | ⟨g, cap, cur, rfl, hbg, hg, rest⟩
  · exact Or.inl hn
  · exact Or.inr ⟨g, cap, cur, rfl, hbg, (hk g rfl).trans hg, rest⟩
theorem own_block {v : Value} {n g : Nat} {xs : List Value} {t : TypeId} {s : Nat} (h : w.ownsRow B t s v n xs) (e : v.ownBlock = some g) : ∃ vs, Lrow w g t vs ∧ B ≤ g := by
  rcases h.2 with ⟨rfl, rfl⟩ | ⟨g', cap, cur, rfl, hbg, hg, rest⟩
  · cases e
  · injection e with e
    subst e
    exact ⟨cur.toList, hg, hbg⟩

theorem own_base {v : Value} {n : Nat} {xs : List Value} {t : TypeId} {s B' : Nat} (h : w.ownsRow B t s v n xs) (hb : ∀ g, v.ownBlock = some g → B' ≤ g) : w.ownsRow B' t s v n xs := by
  refine ⟨h.1, ?_⟩
  rcases h.2 with hn | ⟨g, cap, cur, rfl, hbg, hg, rest⟩
  · exact Or.inl hn
  · exact Or.inr ⟨g, cap, cur, rfl, hb g rfl, hg, rest⟩
end


/-! Lists of items in a slice of one's own, whatever the items are. -/
/-- How an item lies in memory: a row of cells. -/
structure Enc (P : Program) (α : Type) where
  enc : α → List Value
  sz : Nat
  el : TypeId
  sl : TypeId
  zero : Value
  bytes : Nat
  len : ∀ a, (enc a).length = sz
  one : ∀ a, ∀ u ∈ enc a, u.oneCell' = true
  pos : 0 < sz
  zsz : zero.cells.size = sz
  und : P.underlying sl = some (.slice el)
  info : (P.info? el).map (fun i => (i.zero, i.size, i.bytes)) = some (some zero, sz, bytes)
  small : bytes ≤ 1000
section
variable {P : Program} {α : Type} (E : Enc P α)
def Enc.cells : List α → List Value
  | [] => []
  | x :: r => E.enc x ++ Enc.cells r
@[simp] theorem Enc.cells_nil : E.cells [] = [] := rfl
theorem Enc.cells_cons (x : α) (r : List α) : E.cells (x :: r) = E.enc x ++ E.cells r := rfl
theorem Enc.cells_length (L : List α) : (E.cells L).length = L.length * E.sz := by
  induction L with
  | nil => simp
  | cons x r ih => rw [E.cells_cons, List.length_append, ih, E.len, List.length_cons, Nat.add_mul]; omega
theorem Enc.cells_append (L M : List α) : E.cells (L ++ M) = E.cells L ++ E.cells M := by
  induction L with
  | nil => rfl
  | cons x r ih => rw [List.cons_append, E.cells_cons, E.cells_cons, ih, List.append_assoc]
theorem Enc.cells_one (L : List α) : ∀ u ∈ E.cells L, u.oneCell' = true := by
  induction L with
  | nil => intro u h; cases h
  | cons x r ih =>
    intro u h
    rw [E.cells_cons, List.mem_append] at h
    rcases h with h | h
    · exact E.one x u h
    · exact ih u h
theorem Enc.cells_sing (x : α) : E.cells [x] = E.enc x := by rw [E.cells_cons, E.cells_nil, List.append_nil]
theorem Enc.cells_take (L : List α) : ∀ n, E.cells (L.take n) = (E.cells L).take (n * E.sz) := by
  induction L with
  | nil => intro n; simp
  | cons x r ih =>
    intro n
    match n with
    | 0 => simp
    | n + 1 =>
      have e1 : (E.enc x).take ((n + 1) * E.sz) = E.enc x := List.take_of_length_le (by rw [E.len, Nat.add_mul]; omega)
      rw [List.take_succ_cons, E.cells_cons, E.cells_cons, ih, List.take_append, e1, E.len, show (n + 1) * E.sz - E.sz = n * E.sz by rw [Nat.add_mul]; omega]
theorem Enc.cells_drop (L : List α) : ∀ n, E.cells (L.drop n) = (E.cells L).drop (n * E.sz) := by
  induction L with
  | nil => intro n; simp
  | cons x r ih =>
    intro n
    match n with
    | 0 => simp
    | n + 1 =>
      have e1 : (E.enc x).drop ((n + 1) * E.sz) = [] := List.drop_of_length_le (by rw [E.len, Nat.add_mul]; omega)
      rw [List.drop_succ_cons, E.cells_cons, ih, List.drop_append, e1, E.len, List.nil_append, show (n + 1) * E.sz - E.sz = n * E.sz by rw [Nat.add_mul]; omega]
/-- The cells of the item at j. -/
theorem Enc.cells_get (L : List α) {j : Nat} (h : j < L.length) (i : Nat) (hi : i < E.sz) : (E.cells L)[j * E.sz + i]? = (E.enc L[j])[i]? := by
  have e : E.cells L = E.cells (L.take j) ++ (E.enc L[j] ++ E.cells (L.drop (j + 1))) := by
    rw [← E.cells_cons, ← E.cells_append, ← List.drop_eq_getElem_cons h, List.take_append_drop]
  rw [e, List.getElem?_append_right (by rw [E.cells_length, List.length_take]; have : min j L.length = j := by omega
                                        rw [this]; omega), E.cells_length, List.length_take, show min j L.length = j by omega, show j * E.sz + i - j * E.sz = i by omega, List.getElem?_append_left (by rw [E.len]; exact hi)]
/-- A list in a slice of one's own. -/
def Enc.Own (B : Nat) (w : World) (v : Value) (L : List α) : Prop := w.ownsRow B E.el E.sz v L.length (E.cells L)
/-- The item that lies at p. -/
def Enc.At (w : World) (g o : Nat) (x : α) : Prop := ∀ i, i < E.sz → w.cell? ⟨g, o + i, none⟩ = (E.enc x)[i]?
variable {E} {w w' : World} {B : Nat} {v : Value} {L : List α}
theorem Enc.At.heap {g o : Nat} {x : α} (h : E.At w g o x) (hk : w'.heap[g]? = w.heap[g]?) : E.At w' g o x := fun i hi => (World.cell?_of_block (a := ⟨g, o + i, none⟩) hk).trans (h i hi)
theorem Enc.Own.form (h : E.Own B w v L) : ∃ A c, v = .slice A L.length c := own_formK h
theorem Enc.Own.block (h : E.Own B w v L) {g : Nat} (e : v.ownBlock = some g) : ∃ vs, Lrow w g E.el vs ∧ B ≤ g := own_block h e
theorem Enc.Own.heap (h : E.Own B w v L) (hk : ∀ g, v.ownBlock = some g → w'.heap[g]? = w.heap[g]?) : E.Own B w' v L := own_heap h hk
theorem Enc.Own.call (h : E.Own B w v L) (hb : Below w.heap.size w w') : E.Own B w' v L := h.heap fun g e => by
  obtain ⟨vs, r, _⟩ := h.block e
  exact hb.block g r.lt
theorem Enc.Own.drewN (h : E.Own B w v L) (k : Nat) : E.Own B (w.drewN k) v L := h.heap fun _ _ => rfl
theorem Enc.Own.base {B' : Nat} (h : E.Own B w v L) (hb : B' ≤ B) : E.Own B' w v L := own_base h fun g e => by
  obtain ⟨vs, _, r⟩ := own_block h e
  omega
theorem Enc.Own.nil (B : Nat) (w : World) : E.Own B w (.slice none 0 0) [] := ⟨by rw [E.cells_nil, List.length_nil, List.length_nil, Nat.zero_mul], Or.inl ⟨rfl, rfl⟩⟩
theorem Enc.Own.some_ {A : Option Addr} {n c : Nat} (h : E.Own B w (.slice A n c) L) (hn : 0 < L.length) : ∃ g, A = some ⟨g, 0, none⟩ ∧ B ≤ g ∧ g < w.heap.size ∧ n = L.length ∧ ∀ (j : Nat) (hj : j < L.length), E.At w g (j * E.sz) L[j] := by
  rcases h.2 with ⟨e, h0⟩ | ⟨g, cap, cur, e, hB, hg, hnc, hc, hs, ht⟩
  · omega
  · injection e with e1 e2 e3
    refine ⟨g, e1, hB, (Array.getElem?_eq_some_iff.1 hg).1, e2, fun j hj i hi => ?_⟩
    have hlt : j * E.sz + i < L.length * E.sz := by
      have : (j + 1) * E.sz ≤ L.length * E.sz := Nat.mul_le_mul_right _ hj
      rw [Nat.add_mul] at this; omega
    rw [cell_of_row w g _ cur _ (0, 0) hg, ← E.cells_get L hj i hi, ← ht, List.getElem?_take_of_lt hlt, Array.getElem?_toList]
theorem Enc.cells_set : ∀ (L : List α) (j q : Nat) (u : Value) (x : α) (hj : j < L.length), q < E.sz → E.enc x = (E.enc L[j]).set q u → E.cells (L.set j x) = (E.cells L).set (j * E.sz + q) u
  | y :: r, 0, q, u, x, hj, hq, hx => by
    have hx : E.enc x = (E.enc y).set q u := hx
    rw [List.set_cons_zero, E.cells_cons, E.cells_cons, hx, Nat.zero_mul, Nat.zero_add, List.set_append_left _ _ (by rw [E.len]; exact hq)]
  | y :: r, j + 1, q, u, x, hj, hq, hx => by
    have hj' : j < r.length := by simpa using hj
    have ih := Enc.cells_set r j q u x hj' hq hx
    rw [List.set_cons_succ, E.cells_cons, E.cells_cons, ih, List.set_append_right _ _ (by rw [E.len, Nat.add_mul]; omega), E.len]
    congr 2
    rw [Nat.add_mul]; omega
/-- One cell of an item is written. -/
theorem Enc.Own.put {A : Option Addr} {n c : Nat} (h : E.Own B w (.slice A n c) L) {j q : Nat} (hj : j < L.length) (hq : q < E.sz) {u : Value} {x : α} (hx : E.enc x = (E.enc L[j]).set q u) {g : Nat} (hA : A = some ⟨g, 0, none⟩) :
    (∀ i, w.frozen? ⟨g, i, none⟩ = false) ∧ E.Own B (w.setCell ⟨g, j * E.sz + q, none⟩ u) (.slice A n c) (L.set j x) := by
  subst hA
  have hn : n = L.length := by obtain ⟨_, _, e⟩ := h.form; injection e
  subst hn
  obtain ⟨rest, r1, r2, r3, r4, r5⟩ := own_rowK h rfl
  refine ⟨fun i => r1.frozen i, ?_⟩
  have hc := Enc.cells_set (E := E) L j q u x hj hq hx
  have r6 := r1.set_ (j * E.sz + q) u
  have hlt : j * E.sz + q < (E.cells L).length := by
    rw [E.cells_length]
    have : (j + 1) * E.sz ≤ L.length * E.sz := Nat.mul_le_mul_right _ hj
    rw [Nat.add_mul] at this; omega
  rw [List.set_append_left _ _ hlt, ← hc] at r6
  have hl : (L.set j x).length = L.length := List.length_set
  show (w.setCell _ u).ownsRow B E.el E.sz _ (L.set j x).length (E.cells (L.set j x))
  rw [hl]
  exact own_of_row r6 r2 r3 r4 (by rw [E.cells_length, hl]) (by rw [E.cells_length, hl]; rw [E.cells_length] at r5; exact r5)
/-- Items behind a list: the run of append, whatever room there is. -/
theorem Enc.Own.app (h : E.Own B w v L) (hB : B ≤ w.heap.size) (ad : Addr) (cc : Nat) (M : List α) (hM : ∀ j u, (E.cells M)[j]? = some u → w.cell? (ad.add j) = some u) (hl : L.length + M.length ≤ 100000) : ∃ A c w3,
    (∀ ty, ty = E.sl → (Builtin.append_ #[E.sl, E.sl] ty #[v, .slice (some ad) M.length cc]).run P w = .ok (.slice A (L.length + M.length) c) w3) ∧
    E.Own B w3 (.slice A (L.length + M.length) c) (L ++ M) ∧ w.grownBy w3 v.ownBlock ∧ ((Value.slice A (L.length + M.length) c).ownBlock = v.ownBlock ∨ (Value.slice A (L.length + M.length) c).ownBlock = some w.heap.size) := by
  obtain ⟨i0, hi0, hz0, hz1, hz2⟩ := info_parts E.info
  have hby : (L.length + M.length) * E.bytes ≤ 140737488355328 := Nat.le_trans (Nat.mul_le_mul hl E.small) (by decide)
  obtain ⟨v1, W1, r1, o1, g1, -, t1⟩ := run_append_own_at (P := P) (w := w) B E.sl E.sl E.el i0 E.zero E.sz E.bytes E.und hi0 hz0 hz1 hz2 E.zsz E.pos v L.length _ h ad M.length cc (E.cells M) (E.cells_length M) hM (E.cells_one M) (by unfold maxLen; omega) hby hB
  obtain ⟨A, c, hv⟩ := own_formK o1
  subst hv
  refine ⟨A, c, W1, fun ty e => by rw [e]; exact r1, ?_, g1, t1⟩
  show W1.ownsRow B E.el E.sz _ (L ++ M).length (E.cells (L ++ M))
  rw [List.length_append, E.cells_append]
  exact o1
theorem addr_add (g j : Nat) : (⟨g, 0, none⟩ : Addr).add j = ⟨g, j, none⟩ := by unfold Addr.add; split <;> simp_all
/-- One item more, out of a new block. -/
theorem Enc.Own.app1 (h : E.Own B w v L) (hB : B ≤ w.heap.size) (x : α) (hl : L.length ≤ 90000) (cs : Array Value) (hcs : cs = (E.enc x).toArray) : ∃ A c w3,
    (∀ ty, ty = E.sl → (Builtin.append_ #[E.sl, E.sl] ty #[v, .slice (some ⟨w.heap.size, 0, none⟩) 1 1]).run P (w.alloc (.cells cs E.el)) = .ok (.slice A (L.length + 1) c) w3) ∧
    E.Own B w3 (.slice A (L.length + 1) c) (L ++ [x]) ∧ w.grownBy w3 v.ownBlock ∧ ((Value.slice A (L.length + 1) c).ownBlock = v.ownBlock ∨ ∃ g, (Value.slice A (L.length + 1) c).ownBlock = some g ∧ w.heap.size ≤ g) := by
  subst hcs
  have hbn : Below w.heap.size w (w.alloc (.cells (E.enc x).toArray E.el)) := (Below.refl _ _).alloc (Nat.le_refl _) _
  obtain ⟨A, c, w3, r, o, g, t⟩ := Enc.Own.app (h.call hbn) (Nat.le_trans hB hbn.size) ⟨w.heap.size, 0, none⟩ 1 [x] (fun j u hu => by
    rw [addr_add, (Lrow.new w E.el (E.enc x)).cell]; rwa [E.cells_sing] at hu) (by simp only [List.length_cons, List.length_nil]; omega)
  refine ⟨A, c, w3, r, o, ⟨g.os, g.tape, g.output, Nat.le_trans hbn.size g.size, fun i hi hne => (g.block i (Nat.lt_of_lt_of_le hi hbn.size) hne).trans (hbn.block i hi)⟩, t.imp id fun e => ⟨_, e, hbn.size⟩⟩
/-- A list that a slice shows, whoever owns it. -/
def Enc.Ls (E : Enc P α) (w : World) (A : Option Addr) (L : List α) : Prop := 0 < L.length → ∃ g, A = some ⟨g, 0, none⟩ ∧ g < w.heap.size ∧ ∀ j (hj : j < L.length), E.At w g (j * E.sz) L[j]
theorem Enc.Own.ls {A : Option Addr} {n c : Nat} (h : E.Own B w (.slice A n c) L) : E.Ls w A L := fun h0 => by
  obtain ⟨g, e, -, hl, -, hat⟩ := h.some_ h0
  exact ⟨g, e, hl, hat⟩
theorem Enc.Ls.call {A : Option Addr} (h : E.Ls w A L) (hb : Below w.heap.size w w') : E.Ls w' A L := fun h0 => by
  obtain ⟨g, e, hl, hat⟩ := h h0
  exact ⟨g, e, Nat.lt_of_lt_of_le hl hb.size, fun j hj => (hat j hj).heap (hb.block g hl)⟩
theorem Enc.Ls.nil (w : World) (A : Option Addr) : E.Ls w A [] := fun h => absurd h (by simp)
end
end Go.Proofs.YtklhcgekagimkaaGreat
/- What frames are, without the program: what each call answers, and what it makes of them. -/
namespace Go.Proofs.YtklhcgekagimkaaGreat
def isF (x : Int) : Bool := decide (0 ≤ x ∧ x ≤ 5)
def mayF (a b : Int) : Bool := decide (a ≠ b ∧ (a = 0 ∨ b = 0 ∨ (a = 2 ∧ (b = 4 ∨ b = 5)) ∨ (b = 2 ∧ (a = 4 ∨ a = 5))))
def areF (I : List Int) (f n : Nat) (a : Int) : Bool := decide (∀ i, i < n → I[f + i]? = some a)
def tuE (I : List Int) (f n a b : Int) : Int :=
  if n < 1 ∨ isF a = false ∨ isF b = false then 2 else if f < 0 ∨ (I.length : Int) ≤ f ∨ (I.length : Int) - f < n then 3
  else if mayF a b = false then 5 else if areF I f.toNat n.toNat a = false then 12 else 0
def putF (I : List Int) (f n : Nat) (b : Int) : List Int := splice I f (List.replicate n b)
def tuL (I : List Int) (f n a b : Int) : List Int := if tuE I f n a b = 0 then putF I f.toNat n.toNat b else I
structure OkF (I : List Int) : Prop where
  l0 : 8 ≤ I.length
  l1 : I.length ≤ 1024
  is : ∀ x, x ∈ I → 0 ≤ x ∧ x ≤ 5
/-- Which is the next one. -/
def NxIs (I : List Int) (f x r : Int) : Prop :=
  (r = -1 ∧ ∀ i : Nat, f ≤ i → I[i]? ≠ some x) ∨ (∃ k : Nat, r = k ∧ f ≤ k ∧ I[k]? = some x ∧ ∀ i : Nat, f ≤ i → i < k → I[i]? ≠ some x)
/-- How many of the first j are so. -/
def cnF (I : List Int) (x : Int) (j : Nat) : Nat := (I.take j).count x
section
variable {I : List Int} {f n a b x r r' : Int} {j k : Nat}
theorem cnF_succ (I : List Int) (x : Int) (j : Nat) : cnF I x (j + 1) = if I[j]? = some x then cnF I x j + 1 else cnF I x j := by
  unfold cnF
  rw [List.take_add_one, List.count_append]
  cases e : I[j]? with
  | none => simp
  | some y =>
    by_cases c : y = x
    · subst c; simp
    · rw [if_neg (by simpa using c)]
      simp [c]
theorem cnF_all (I : List Int) (x : Int) : cnF I x I.length = I.count x := by unfold cnF; rw [List.take_length]
theorem cnF_le (I : List Int) (x : Int) (j : Nat) : cnF I x j ≤ j := by
  unfold cnF
  exact Nat.le_trans List.count_le_length (by rw [List.length_take]; omega)
theorem cnF_len (I : List Int) (x : Int) (j : Nat) : cnF I x j ≤ I.length := by
  unfold cnF
  exact Nat.le_trans List.count_le_length (by rw [List.length_take]; omega)
theorem count_len (I : List Int) (x : Int) : I.count x ≤ I.length := List.count_le_length
/-- Between j and k none is so. -/
theorem cnF_gap (I : List Int) (x : Int) (j : Nat) : ∀ k, (∀ i : Nat, j ≤ i → i < j + k → I[i]? ≠ some x) → cnF I x (j + k) = cnF I x j
  | 0, _ => rfl
  | k + 1, h => by
    rw [show j + (k + 1) = (j + k) + 1 by omega, cnF_succ, if_neg (h (j + k) (by omega) (by omega))]
    exact cnF_gap I x j k fun i h1 h2 => h i h1 (by omega)
theorem nx_one (h : NxIs I f x r) (h' : NxIs I f x r') : r = r' := by
  rcases h with ⟨rfl, h⟩ | ⟨k, rfl, a1, a2, a3⟩ <;> rcases h' with ⟨rfl, h'⟩ | ⟨k', rfl, b1, b2, b3⟩
  · rfl
  · exact absurd b2 (h k' b1)
  · exact absurd a2 (h' k a1)
  · rcases Nat.lt_trichotomy k k' with c | c | c
    · exact absurd a2 (b3 k a1 c)
    · rw [c]
    · exact absurd b2 (a3 k' b1 c)
theorem nx_ex (I : List Int) (f x : Int) : ∃ r, NxIs I f x r := by
  by_cases h : ∃ k : Nat, f ≤ k ∧ I[k]? = some x
  · obtain ⟨k, hk⟩ := h
    have : ∀ m : Nat, (∃ k : Nat, k < m ∧ f ≤ k ∧ I[k]? = some x) → ∃ r, NxIs I f x r := by
      intro m
      induction m with
      | zero => rintro ⟨k, h, _⟩; omega
      | succ m ih =>
        intro hm
        by_cases c : ∃ k : Nat, k < m ∧ f ≤ k ∧ I[k]? = some x
        · exact ih c
        · obtain ⟨k, h1, h2, h3⟩ := hm
          exact ⟨k, Or.inr ⟨k, rfl, h2, h3, fun i h4 h5 h6 => c ⟨i, by omega, h4, h6⟩⟩⟩
    exact this (k + 1) ⟨k, by omega, hk⟩
  · exact ⟨-1, Or.inl ⟨rfl, fun i h1 h2 => h ⟨i, h1, h2⟩⟩⟩
theorem are_split {f n : Nat} (h : areF I f n a = true) : I = I.take f ++ List.replicate n a ++ I.drop (f + n) := by
  unfold areF at h
  have h := of_decide_eq_true h
  have e : (I.drop f).take n = List.replicate n a := by
    apply List.ext_getElem?
    intro i
    rw [List.getElem?_replicate, List.getElem?_take]
    by_cases c : i < n
    · rw [if_pos c, if_pos c, List.getElem?_drop, h i c]
    · rw [if_neg c, if_neg c]
  rw [← e, List.append_assoc, ← List.drop_drop, List.take_append_drop, List.take_append_drop]
theorem put_is (I : List Int) (f n : Nat) (b : Int) : putF I f n b = I.take f ++ List.replicate n b ++ I.drop (f + n) := by
  unfold putF splice
  rw [List.length_replicate, List.append_assoc]
theorem put_len {f n : Nat} (hl : f + n ≤ I.length) (b : Int) : (putF I f n b).length = I.length := by
  rw [put_is]
  simp only [List.length_append, List.length_take, List.length_replicate, List.length_drop]; omega
theorem put_get {f n : Nat} (hl : f + n ≤ I.length) (b : Int) (i : Nat) : (putF I f n b)[i]? = if f ≤ i ∧ i < f + n then some b else I[i]? := by
  unfold putF
  rw [splice_get _ _ _ (by rw [List.length_replicate]; exact hl), List.length_replicate, List.getElem?_replicate]
  by_cases c1 : i < f
  · rw [if_pos c1, if_neg (by omega)]
  · rw [if_neg c1]
    by_cases c2 : i < f + n
    · rw [if_pos c2, if_pos (by omega), if_pos (by omega)]
    · rw [if_neg c2, if_neg (by omega)]
theorem put_zero (I : List Int) (f : Nat) (b : Int) : putF I f 0 b = I := by unfold putF; exact splice_nil I f
theorem put_next {f m : Nat} (hl : f + m < I.length) (b : Int) : (putF I f m b).set (f + m) b = putF I f (m + 1) b := by
  apply List.ext_getElem?
  intro i
  rw [List.getElem?_set, put_len (by omega), put_get (by omega), put_get (by omega)]
  by_cases c : f + m = i
  · subst c
    rw [if_pos rfl, if_pos (by omega), if_pos (by omega)]
  · rw [if_neg c]
    by_cases d : f ≤ i ∧ i < f + m
    · rw [if_pos d, if_pos (by omega)]
    · rw [if_neg d, if_neg (by omega)]
theorem put_count {f n : Nat} (h : areF I f n a = true) (hab : a ≠ b) (x : Int) :
    ((putF I f n b).count x : Int) = (I.count x : Int) - (if x = a then (n : Int) else 0) + (if x = b then (n : Int) else 0) := by
  have e := congrArg (List.count x) (are_split h)
  rw [put_is]
  simp only [List.count_append, List.count_replicate, beq_iff_eq] at e ⊢
  by_cases c1 : x = a
  · subst c1
    rw [if_pos rfl] at e
    simp only [if_neg (fun e : b = x => hab e.symm), if_neg hab, if_pos] at e ⊢
    omega
  · by_cases c2 : x = b
    · subst c2
      simp only [if_neg (fun e : a = x => c1 e.symm), if_neg c1, if_pos] at e ⊢
      omega
    · simp only [if_neg (fun e : a = x => c1 e.symm), if_neg (fun e : b = x => c2 e.symm), if_neg c1, if_neg c2] at e ⊢
      omega
theorem tuE_ok (h : tuE I f n a b = 0) : ∃ f' n' : Nat, f = f' ∧ n = n' ∧ 1 ≤ n' ∧ f' + n' ≤ I.length ∧ isF a = true ∧ isF b = true ∧ mayF a b = true ∧ areF I f' n' a = true ∧ a ≠ b := by
  unfold tuE at h
  split at h
  · omega
  · rename_i c1
    split at h
    · omega
    · rename_i c2
      split at h
      · omega
      · rename_i c3
        split at h
        · omega
        · rename_i c4
          refine ⟨f.toNat, n.toNat, by omega, by omega, by omega, by omega, ?_, ?_, ?_, ?_, ?_⟩
          · cases e : isF a <;> simp_all
          · cases e : isF b <;> simp_all
          · cases e : mayF a b <;> simp_all
          · cases e : areF I f.toNat n.toNat a <;> simp_all
          · rintro rfl
            apply c3
            unfold mayF; simp
theorem isF_iff : isF x = true ↔ 0 ≤ x ∧ x ≤ 5 := by unfold isF; exact decide_eq_true_iff
theorem OkF.turn (h : OkF I) (f n a b : Int) : OkF (tuL I f n a b) := by
  unfold tuL
  split
  · rename_i c
    obtain ⟨f', n', rfl, rfl, -, h2, -, h4, -, -, -⟩ := tuE_ok c
    rw [Int.toNat_natCast, Int.toNat_natCast]
    refine ⟨by rw [put_len h2]; exact h.l0, by rw [put_len h2]; exact h.l1, fun x hx => ?_⟩
    rw [put_is] at hx
    simp only [List.mem_append, List.mem_replicate] at hx
    rcases hx with (hx | ⟨_, rfl⟩) | hx
    · exact h.is x (List.mem_of_mem_take hx)
    · exact isF_iff.1 h4
    · exact h.is x (List.mem_of_mem_drop hx)
  · exact h
theorem turn_len (I : List Int) (f n a b : Int) : (tuL I f n a b).length = I.length := by
  unfold tuL
  split
  · rename_i c
    obtain ⟨f', n', rfl, rfl, -, h2, -⟩ := tuE_ok c
    rw [Int.toNat_natCast, Int.toNat_natCast, put_len h2]
  · rfl
theorem OkF.none (h : OkF I) (hx : isF x = false) : I.count x = 0 := by
  rw [List.count_eq_zero]
  intro c
  have := h.is x c
  rw [isF_iff.2 this] at hx
  cases hx
theorem OkF.all (h : ∀ x, x ∈ I → 0 ≤ x ∧ x ≤ 5) : I.count 0 + I.count 1 + I.count 2 + I.count 3 + I.count 4 + I.count 5 = I.length := by
  induction I with
  | nil => rfl
  | cons y r ih =>
    have := ih fun x hx => h x (List.mem_cons_of_mem _ hx)
    obtain ⟨h0, h1⟩ := h y List.mem_cons_self
    simp only [List.count_cons, List.length_cons]
    rcases (show y = 0 ∨ y = 1 ∨ y = 2 ∨ y = 3 ∨ y = 4 ∨ y = 5 by omega) with rfl | rfl | rfl | rfl | rfl | rfl <;> simp <;> omega
/-- The counts, in a row. -/
def ctF (I : List Int) : List Int := [(I.count 0 : Nat), (I.count 1 : Nat), (I.count 2 : Nat), (I.count 3 : Nat), (I.count 4 : Nat), (I.count 5 : Nat)]
theorem ct_get (I : List Int) {k : Nat} (hk : k < 6) : (ctF I)[k]? = some ((I.count (k : Int) : Nat) : Int) := by
  match k, hk with
  | 0, _ => rfl
  | 1, _ => rfl
  | 2, _ => rfl
  | 3, _ => rfl
  | 4, _ => rfl
  | 5, _ => rfl
theorem ct_len (I : List Int) : (ctF I).length = 6 := rfl
theorem ct_turn {f n a b : Nat} (h : areF I f n a = true) (hab : a ≠ b) (ha : a < 6) (hb : b < 6) :
    ((ctF I).set a ((I.count (a : Int) : Nat) - n : Int)).set b ((I.count (b : Int) : Nat) + n : Int) = ctF (putF I f n b) := by
  apply List.ext_getElem?
  intro k
  have hab' : ((a : Nat) : Int) ≠ ((b : Nat) : Int) := by omega
  by_cases hk : k < 6
  · rw [ct_get _ hk, put_count h hab', List.getElem?_set, List.getElem?_set, List.length_set, ct_len]
    by_cases c1 : b = k
    · subst c1
      rw [if_pos rfl, if_pos hb, if_neg (fun e => hab' e.symm), if_pos rfl]
      congr 1 <;> omega
    · rw [if_neg c1, if_neg (c := (k : Int) = (b : Nat)) (by omega)]
      by_cases c2 : a = k
      · subst c2
        rw [if_pos rfl, if_pos ha, if_pos rfl]
        congr 1 <;> omega
      · rw [if_neg c2, if_neg (c := (k : Int) = (a : Nat)) (by omega), ct_get _ hk]
        congr 1 <;> omega
  · rw [List.getElem?_eq_none (by rw [List.length_set, List.length_set, ct_len]; omega), List.getElem?_eq_none (by rw [ct_len]; omega)]
end
end Go.Proofs.YtklhcgekagimkaaGreat
