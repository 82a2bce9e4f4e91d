/- Plain facts of package ram, without the program: what each call answers, over the list of a memory's words, and what becomes of that list; and a memory as it lies in a world. -/
import Derived.WalkKit
import Derived.WalkSpells
import Derived.Below
import Derived.Laws.OwnMore
import Derived.Laws.Rows
import Derived.Laws.CopyOwn
import Derived.Laws.IdiomCopy
import Derived.Lib.SliceRun
import Derived.Deep.Draws
import Derived.Lib.Hide
import Derived.Test.YtklhcgekagimkaaGreatProg
import Derived.WalkLawsBesides
import Derived.Deep.QuietTactic
import Derived.BigQuiet
namespace Go.Proofs.YtklhcgekagimkaaGreat
open Go.RowKit

theorem ret_bool {a b : Bool} (h : a = b) : Ending.returned (.bool a) = .returned (.bool b) := by rw [h]
theorem ret_int {k : IntKind} {a b : Int} (h : a = b) : Ending.returned (.int k a) = .returned (.int k b) := by rw [h]
theorem ret2_int {k l : IntKind} {a b c d : Int} (h : a = b) (g : c = d) : Ending.returned (.tuple #[.int k a, .int l c]) = .returned (.tuple #[.int k b, .int l d]) := by rw [h, g]
theorem bcell {W w1 : World} {B : Nat} (hb : Below B W w1) : (∀ b o, b < B → w1.cell? ⟨b, o, none⟩ = W.cell? ⟨b, o, none⟩) ∧ (∀ b o, b < B → w1.frozen? ⟨b, o, none⟩ = W.frozen? ⟨b, o, none⟩) :=
  ⟨fun b o h => hb.cell (p := ⟨b, o, none⟩) h, fun b o h => hb.frozen (p := ⟨b, o, none⟩) h⟩

/-! What is wrong with a byte's, a word's address in a memory of n words, and with stretches of k frames. -/
def errB (n : Nat) (i : Int) : Int := if i < 0 ∨ (n : Int) * 8 ≤ i then 3 else 0
def errW (n : Nat) (i : Int) : Int := if i < 0 ∨ (n : Int) * 8 ≤ i then 3 else if i % 8 = 0 then 0 else 4
def errF (n : Nat) (f k : Int) : Int := if f < 0 ∨ (n : Int) / 8 - f < k then 3 else 0
def errZ (n : Nat) (f k : Int) : Int := if k < 1 then 2 else errF n f k
def errC (n : Nat) (t f k : Int) : Int := if k < 1 then 2 else if errF n t k = 0 then errF n f k else 3

/-! What is read, and what becomes of the words. -/
def ldV (ws : List Int) (i : Int) : Int := if errW ws.length i = 0 then ws.getD (i.toNat / 8) 0 else 0
def byV (ws : List Int) (i : Int) : Int := if errB ws.length i = 0 then ws.getD (i.toNat / 8) 0 / 2 ^ (i.toNat % 8 * 8) % 256 else 0
def stL (ws : List Int) (i v : Int) : List Int := if errW ws.length i = 0 then ws.set (i.toNat / 8) v else ws
def zeL (ws : List Int) (f k : Int) : List Int := if errZ ws.length f k = 0 then splice ws (f.toNat * 8) (List.replicate (k.toNat * 8) 0) else ws
def cpL (ws : List Int) (t f k : Int) : List Int := if errC ws.length t f k = 0 then splice ws (t.toNat * 8) ((ws.drop (f.toNat * 8)).take (k.toNat * 8)) else ws

/-- Words as cells. -/
def wcells (ws : List Int) : List Value := ws.map (Value.int .u64)
theorem wcells_length (ws : List Int) : (wcells ws).length = ws.length := by simp [wcells]
theorem wcells_get (ws : List Int) (i : Nat) : (wcells ws)[i]? = ws[i]?.map (Value.int .u64) := by simp [wcells]
theorem wcells_splice (ws cs : List Int) (o : Nat) : splice (wcells ws) o (wcells cs) = wcells (splice ws o cs) := by simp [splice, wcells]
theorem wcells_set (ws : List Int) (i : Nat) (v : Int) : (wcells ws).set i (.int .u64 v) = wcells (ws.set i v) := by simp [wcells, List.map_set]

/-- All are words. -/
def Words (ws : List Int) : Prop := ∀ x ∈ ws, 0 ≤ x ∧ x < 18446744073709551616
theorem Words.at_ {ws : List Int} (h : Words ws) (i : Nat) : 0 ≤ ws.getD i 0 ∧ ws.getD i 0 < 18446744073709551616 := by
  by_cases hi : i < ws.length
  · rw [List.getD_eq_getElem?_getD, List.getElem?_eq_getElem hi]; exact h _ (List.getElem_mem hi)
  · rw [List.getD_eq_getElem?_getD, List.getElem?_eq_none (by omega)]; simp
theorem Words.set_ {ws : List Int} (h : Words ws) (i : Nat) (v : Int) (h0 : 0 ≤ v) (h1 : v < 18446744073709551616) : Words (ws.set i v) := by
  intro x hx
  rcases List.mem_or_eq_of_mem_set hx with hx | rfl
  · exact h x hx
  · exact ⟨h0, h1⟩
theorem Words.splice_ {ws cs : List Int} (h : Words ws) (g : Words cs) (o : Nat) : Words (splice ws o cs) := by
  intro x hx
  simp only [splice, List.mem_append] at hx
  rcases hx with hx | hx | hx
  · exact h x (List.mem_of_mem_take hx)
  · exact g x hx
  · exact h x (List.mem_of_mem_drop hx)
theorem Words.zeros (n : Nat) : Words (List.replicate n 0) := by
  intro x hx
  rw [List.eq_of_mem_replicate hx]; omega
theorem Words.part {ws : List Int} (h : Words ws) (i k : Nat) : Words ((ws.drop i).take k) := fun x hx => h x (List.mem_of_mem_drop (List.mem_of_mem_take hx))

/-- A block that is known whole. -/
def Row (w : World) (g : Nat) (t : TypeId) (vs : List Value) : Prop := w.heap[g]? = some (.cells vs.toArray t (0, 0))
section
variable {w w' : World} {g : Nat} {t : TypeId} {vs : List Value}
theorem Row.lt (h : Row w g t vs) : g < w.heap.size := by
  rcases Nat.lt_or_ge g w.heap.size with hl | hl
  · exact hl
  · unfold Row at h; rw [Array.getElem?_eq_none hl] at h; cases h
theorem Row.cell (h : Row w g t vs) (i : Nat) : w.cell? ⟨g, i, none⟩ = vs[i]? := by
  have := cell_of_row w g i vs.toArray t (0, 0) h
  simpa using this
theorem Row.frozen (h : Row w g t vs) (i : Nat) : w.frozen? ⟨g, i, none⟩ = false := by
  unfold Row at h
  simp [World.frozen?, h]
theorem Row.new (w : World) (t : TypeId) (vs : List Value) : Row (w.alloc (.cells vs.toArray t)) w.heap.size t vs := heap_alloc_new w _
theorem Row.alloc (h : Row w g t vs) (o : Obj) : Row (w.alloc o) g t vs := (Below.heap_alloc w o g h.lt).trans h
theorem Row.set_ (h : Row w g t vs) (i : Nat) (u : Value) : Row (w.setCell ⟨g, i, none⟩ u) g t (vs.set i u) := by
  unfold Row at h ⊢
  simp [World.setCell, Array.getElem?_modify, h]
theorem Row.far (h : Row w g t vs) {p : Addr} (hp : g ≠ p.block) (u : Value) : Row (w.setCell p u) g t vs := (Below.heap_setCell w p u g hp).trans h
theorem Row.below {B : Nat} (h : Row w g t vs) (hb : Below B w w') (hg : g < B) : Row w' g t vs := (hb.block g hg).trans h
theorem Row.grown {row : Option Nat} (h : Row w g t vs) (hb : w.grownBy w' row) (hg : some g ≠ row) : Row w' g t vs := (hb.block g h.lt hg).trans h
theorem Row.apart {g' : Nat} {t' : TypeId} {vs' : List Value} (h : Row w g t vs) (h' : Row w g' t' vs') (hne : t ≠ t') : g ≠ g' := by
  rintro rfl
  unfold Row at h h'
  rw [h] at h'
  injection h' with h'
  injection h' with _ ht
  exact hne ht
end

/-- A memory in a world: the struct of type T in block a, its n words in block b. -/
structure RamAt (w : World) (a b : Nat) (T : TypeId) (n : Nat) (ws : List Int) : Prop where
  len : ws.length = n
  m8 : n % 8 = 0
  lo : 64 ≤ n
  hi : n ≤ 8192
  words : Words ws
  top : Row w a T [.slice (some ⟨b, 0, none⟩) n n]
  row : Row w b 34 (wcells ws)
  ne : a ≠ b
section
variable {w w' : World} {a b n : Nat} {T : TypeId} {ws ws' : List Int}
theorem RamAt.field (h : RamAt w a b T n ws) : w.cell? ⟨a, 0, none⟩ = some (.slice (some ⟨b, 0, none⟩) n n) := by rw [h.top.cell]; rfl
theorem RamAt.word (h : RamAt w a b T n ws) {i : Nat} (hi : i < n) : w.cell? ⟨b, i, none⟩ = some (.int .u64 (ws.getD i 0)) := by
  have hl := h.len
  rw [h.row.cell, wcells_get, List.getD_eq_getElem?_getD, List.getElem?_eq_getElem (by omega)]; rfl
theorem RamAt.alloc (h : RamAt w a b T n ws) (o : Obj) : RamAt (w.alloc o) a b T n ws := ⟨h.len, h.m8, h.lo, h.hi, h.words, h.top.alloc o, h.row.alloc o, h.ne⟩
theorem RamAt.below {B : Nat} (h : RamAt w a b T n ws) (hb : Below B w w') (ha : a < B) (hb' : b < B) : RamAt w' a b T n ws := ⟨h.len, h.m8, h.lo, h.hi, h.words, h.top.below hb ha, h.row.below hb hb', h.ne⟩
theorem RamAt.grown {row : Option Nat} (h : RamAt w a b T n ws) (hg : w.grownBy w' row) (ha : some a ≠ row) (hb : some b ≠ row) : RamAt w' a b T n ws :=
  ⟨h.len, h.m8, h.lo, h.hi, h.words, h.top.grown hg ha, h.row.grown hg hb, h.ne⟩
theorem RamAt.drewN (h : RamAt w a b T n ws) (k : Nat) : RamAt (w.drewN k) a b T n ws := ⟨h.len, h.m8, h.lo, h.hi, h.words, h.top, h.row, h.ne⟩
/-- The row has turned, all else is old. -/
theorem RamAt.turned (h : RamAt w a b T n ws) (hg : w.grownBy w' (some b)) (hr : Row w' b 34 (wcells ws')) (hl : ws'.length = n) (hw : Words ws') : RamAt w' a b T n ws' :=
  ⟨hl, h.m8, h.lo, h.hi, hw, h.top.grown hg (by have := h.ne; simpa using this), hr, h.ne⟩
end

theorem grown_set (w : World) (g i : Nat) (u : Value) : w.grownBy (w.setCell ⟨g, i, none⟩ u) (some g) :=
  ⟨rfl, rfl, rfl, by simp [World.setCell], fun k _ hne => Below.heap_setCell w _ u k (by rintro rfl; exact hne rfl)⟩
theorem grown_alloc {a w : World} {row : Option Nat} (h : a.grownBy w row) (o : Obj) : a.grownBy (w.alloc o) row :=
  ⟨h.os, h.tape, h.output, Nat.le_trans h.size (by simp), fun i hi hne => (Below.heap_alloc w o i (Nat.lt_of_lt_of_le hi h.size)).trans (h.block i hi hne)⟩
theorem grown_more {a w w' : World} {g : Nat} (h : a.grownBy w (some g)) {row : Option Nat} (k : w.grownBy w' row) (hr : ∀ r, row = some r → r = g ∨ a.heap.size ≤ r) : a.grownBy w' (some g) :=
  ⟨k.os.trans h.os, k.tape.trans h.tape, k.output.trans h.output, Nat.le_trans h.size k.size, fun i hi hne =>
    (k.block i (Nat.lt_of_lt_of_le hi h.size) (fun e => by rcases hr i e.symm with rfl | hr; exact hne rfl; omega)).trans (h.block i hi hne)⟩

/-! A list with a stretch of it laid anew. -/
theorem splice_get {α : Type} (L : List α) (o : Nat) (cs : List α) (h : o + cs.length ≤ L.length) (i : Nat) :
    (splice L o cs)[i]? = if i < o then L[i]? else if i < o + cs.length then cs[i - o]? else L[i]? := by
  have hm : min o L.length = o := by omega
  unfold splice
  by_cases h1 : i < o
  · rw [List.getElem?_append_left (by rw [List.length_take, hm]; exact h1), List.getElem?_take_of_lt h1, if_pos h1]
  · rw [List.getElem?_append_right (by rw [List.length_take, hm]; omega), List.length_take, hm, if_neg h1]
    by_cases h2 : i < o + cs.length
    · rw [List.getElem?_append_left (by omega), if_pos h2]
    · rw [List.getElem?_append_right (by omega), if_neg h2, List.getElem?_drop]
      congr 1; omega
theorem splice_cons {α : Type} (L : List α) (o : Nat) (v : α) (r : List α) (h : o + (v :: r).length ≤ L.length) : splice (L.set o v) (o + 1) r = splice L o (v :: r) := by
  simp only [List.length_cons] at h
  apply List.ext_getElem?
  intro i
  rw [splice_get _ _ _ (by rw [List.length_set]; omega), splice_get _ _ _ (by simp only [List.length_cons]; omega)]
  simp only [List.length_cons, List.getElem?_set]
  rcases Nat.lt_trichotomy i o with h1 | h1 | h1
  · simp [h1, show i < o + 1 by omega, show ¬ o = i by omega]
  · subst h1
    simp [show i < L.length by omega]
  · obtain ⟨j, rfl⟩ : ∃ j, i = o + 1 + j := ⟨i - (o + 1), by omega⟩
    rw [if_neg (by omega : ¬ o + 1 + j < o + 1), if_neg (by omega : ¬ o = o + 1 + j), if_neg (by omega : ¬ o + 1 + j < o), show o + 1 + j - (o + 1) = j by omega, show o + 1 + j - o = j + 1 by omega, List.getElem?_cons_succ]
    by_cases h3 : o + 1 + j < o + 1 + r.length
    · rw [if_pos h3, if_pos (by omega : o + 1 + j < o + (r.length + 1))]
    · rw [if_neg h3, if_neg (by omega : ¬ o + 1 + j < o + (r.length + 1))]
theorem splice_snoc {α : Type} (L : List α) (o : Nat) (v : α) (r : List α) (h : o + (r.length + 1) ≤ L.length) : (splice L o r).set (o + r.length) v = splice L o (r ++ [v]) := by
  apply List.ext_getElem?
  intro i
  rw [List.getElem?_set, splice_get _ _ (r ++ [v]) (by rw [List.length_append]; simpa using h), splice_get _ _ _ (by omega), length_splice _ _ _ (by omega)]
  simp only [List.length_append, List.length_cons, List.length_nil]
  by_cases h1 : o + r.length = i
  · subst h1
    simp [show o + r.length < L.length by omega, show ¬ o + r.length < o by omega]
  · rw [if_neg h1]
    by_cases h2 : i < o
    · rw [if_pos h2, if_pos h2]
    · rw [if_neg h2, if_neg h2]
      by_cases h3 : i < o + r.length
      · rw [if_pos h3, if_pos (by omega : i < o + (r.length + (0 + 1))), List.getElem?_append_left (by omega)]
      · rw [if_neg h3, if_neg (by omega : ¬ i < o + (r.length + (0 + 1)))]
theorem splice_nil {α : Type} (L : List α) (o : Nat) : splice L o [] = L := by simp [splice]

theorem grown_trans1 {a w w' : World} {g : Nat} (h : a.grownBy w (some g)) (k : w.grownBy w' (some g)) : a.grownBy w' (some g) := grown_more h k fun r e => Or.inl (by injection e with e; exact e.symm)
theorem grown_setRow (w : World) (g : Nat) (cs : Array Value) : w.grownBy (w.setRow g cs) (some g) :=
  ⟨rfl, rfl, rfl, by simp, fun k _ hne => setRow_other w g k cs (by rintro rfl; exact hne rfl)⟩
theorem rowR_setCells (g : Nat) (t : TypeId) : ∀ (vs : List Value) (o : Nat) (w : World) (L : List Value), Row w g t L → o + vs.length ≤ L.length →
    Row (w.setCells g o vs) g t (splice L o vs) ∧ w.grownBy (w.setCells g o vs) (some g)
  | [], o, w, L, h, _ => ⟨by rw [splice_nil]; exact h, World.grownBy.refl w _⟩
  | v :: r, o, w, L, h, hl => by
    have ih := rowR_setCells g t r (o + 1) (w.setCell ⟨g, o, none⟩ v) (L.set o v) (h.set_ o v) (by simp at hl ⊢; omega)
    rw [splice_cons L o v r hl] at ih
    exact ⟨ih.1, grown_trans1 (grown_set w g o v) ih.2⟩
section
variable {P : Program} {w : World} {g : Nat} {t : TypeId} {L : List Value}
/-- Clearing a stretch of a block. -/
theorem clear_run (h : Row w g t L) (st : TypeId) (z : Value) (ht : P.underlying st = some (.slice t)) (hv : ∀ w, (zeroValue t).run P w = .ok z w) (hz : z.cells = #[z]) (h1 : z.oneCell' = true) (o m c : Nat) (hm : 0 < m) (hl : o + m ≤ L.length) :
    ∃ w2, (∀ ty, (Builtin.clear_ #[st] ty #[.slice (some ⟨g, o, none⟩) m c]).run P w = .ok (.tuple #[]) w2) ∧ Row w2 g t (splice L o (List.replicate m z)) ∧ w.grownBy w2 (some g) := by
  obtain ⟨k1, k2⟩ := rowR_setCells g t (List.replicate m z) o w L h (by simpa using hl)
  refine ⟨_, fun ty => Lib.run_clear_slice w st t ty z ht hv hz h1 g o m c hm (fun j hj => ?_) (fun j _ => h.frozen _), k1, k2⟩
  rw [h.cell, List.getElem?_eq_getElem (by omega)]; rfl
/-- Copying a stretch of a block within it. -/
theorem copy_run (h : Row w g t L) (st : TypeId) (hu : P.underlying st = some (.slice t)) (hs : (P.info? t).map (·.size) = some 1) (h1 : ∀ v ∈ L, v.oneCell' = true) (o f m c c' : Nat) (ho : o + m ≤ L.length) (hf : f + m ≤ L.length) :
    ∃ w2, (∀ ty, (Builtin.copy_ #[st, st] ty #[.slice (some ⟨g, o, none⟩) m c, .slice (some ⟨g, f, none⟩) m c']).run P w = .ok (goInt m) w2) ∧ Row w2 g t (splice L o ((L.drop f).take m)) ∧ w.grownBy w2 (some g) := by
  have hcl : ((L.drop f).take m).length = m := by simp; omega
  refine ⟨w.setRow g (splice L o ((L.drop f).take m)).toArray, fun ty => ?_, setRow_heap w g _ _ t _ h, grown_setRow _ _ _⟩
  have := run_copy_row (P := P) w st st ty t g o m c ⟨g, f, none⟩ m c' L.toArray t ((L.drop f).take m) hu hs h (by rw [hcl]; exact (Nat.min_self m).symm) (fun j v hj => ?_) (by rw [hcl]; simpa using ho) (fun v hv => h1 v (List.mem_of_mem_drop (List.mem_of_mem_take hv)))
  · rw [this, hcl]
    simp [splice, hcl, List.append_assoc]
  · have hj' : j < m := by rw [← hcl]; exact (List.getElem?_eq_some_iff.1 hj).1
    have ha : (⟨g, f, none⟩ : Addr).add j = ⟨g, f + j, none⟩ := by unfold Addr.add; split <;> simp_all
    rw [ha, h.cell, ← hj, List.getElem?_take_of_lt hj', List.getElem?_drop]
end
/-- What is wrong with several stretches of k frames. -/
def errFs (n : Nat) (k : Int) : List Int → Int
  | [] => 0
  | f :: r => if errF n f k = 0 then errFs n k r else 3
theorem errFs_bad {n : Nat} {k f : Int} {r r' : List Int} (h0 : errFs n k r = 0) (h : errF n f k ≠ 0) : errFs n k (r ++ f :: r') = 3 := by
  induction r with
  | nil => simp [errFs, h]
  | cons x r ih =>
    simp only [errFs, List.cons_append] at h0 ⊢
    split
    · rename_i hx; rw [if_pos hx] at h0; exact ih h0
    · rfl
theorem errFs_snoc {n : Nat} {k f : Int} {r : List Int} (h0 : errFs n k r = 0) (h : errF n f k = 0) : errFs n k (r ++ [f]) = 0 := by
  induction r with
  | nil => simp [errFs, h]
  | cons x r ih =>
    simp only [errFs, List.cons_append] at h0 ⊢
    split
    · rename_i hx; rw [if_pos hx] at h0; exact ih h0
    · rename_i hx; rw [if_neg hx] at h0; omega
end Go.Proofs.YtklhcgekagimkaaGreat
/- The contracts of package ram: what its reading calls answer. -/
namespace Go.Proofs.YtklhcgekagimkaaGreat
open Go.RowKit

section
variable {w : World} {a b n : Nat} {T : TypeId} {ws : List Int}

theorem frames_nil (w : World) : Calls Tryz.prog 95 #[.pointer none] w fun e w' => e = .returned (.int .i64 0) ∧ w = w' := by
  go_enter Tryz.func95, Tryz.ntmps95
  go_wp2
  go_ret
  exact ⟨rfl, rfl⟩
theorem frames_any (h : RamAt w a b T n ws) : Calls Tryz.prog 95 #[.pointer (some ⟨a, 0, none⟩)] w fun e w' => e = .returned (.int .i64 ((n : Int) / 8)) ∧ w = w' := by
  have hc := h.field
  have hi := h.hi
  clear h
  go_enter Tryz.func95, Tryz.ntmps95
  go_wp2
  go_ret
  exact ⟨rfl, rfl⟩
theorem checkByte_nil (i : Int) (w : World) : Calls Tryz.prog 71 #[.pointer none, .int .i64 i] w fun e w' => e = .returned (.int .i64 1) ∧ w = w' := by
  go_enter Tryz.func71, Tryz.ntmps71
  go_wp2
  go_ret
  exact ⟨rfl, rfl⟩
theorem checkByte_any (h : RamAt w a b T n ws) (i : Int) : Calls Tryz.prog 71 #[.pointer (some ⟨a, 0, none⟩), .int .i64 i] w fun e w' => e = .returned (.int .i64 (errB n i)) ∧ w = w' := by
  have hi := h.hi
  have hm := h.m8
  by_cases h1 : i < 0
  · go_enter Tryz.func71, Tryz.ntmps71
    go_wp2
    go_ret
    exact ⟨ret_int (by simp [errB, h1]), rfl⟩
  · have h0 : 0 ≤ i := by omega
    by_cases h2 : (n : Int) * 8 ≤ i
    · have h3 : (n : Int) / 8 * 64 ≤ i := by omega
      have H : Hid (3 = errB n i) := by show _ = _; simp [errB, h2]
      clear h1 h2 hm
      go_enter Tryz.func71, Tryz.ntmps71
      go_wp2_with (go_at_call 95; refine (frames_any h).mono ?_; rintro e w' ⟨rfl, rfl⟩)
      go_ret
      exact ⟨ret_int H.out, rfl⟩
    · have h3 : i < (n : Int) / 8 * 64 := by omega
      have H : Hid (0 = errB n i) := by show _ = _; simp [errB, h1, h2]
      clear h1 h2 hm
      go_enter Tryz.func71, Tryz.ntmps71
      go_wp2_with (go_at_call 95; refine (frames_any h).mono ?_; rintro e w' ⟨rfl, rfl⟩)
      go_ret
      exact ⟨ret_int H.out, rfl⟩

theorem checkWord_nil (i : Int) (w : World) : Calls Tryz.prog 40 #[.pointer none, .int .i64 i] w fun e w' => e = .returned (.int .i64 1) ∧ w = w' := by
  go_enter Tryz.func40, Tryz.ntmps40
  go_wp2_with (go_at_call 71; refine (checkByte_nil _ _).mono ?_; rintro e w' ⟨rfl, rfl⟩)
  go_ret
  exact ⟨rfl, rfl⟩
theorem checkWord_any (h : RamAt w a b T n ws) (i : Int) : Calls Tryz.prog 40 #[.pointer (some ⟨a, 0, none⟩), .int .i64 i] w fun e w' => e = .returned (.int .i64 (errW n i)) ∧ w = w' := by
  have hi := h.hi
  by_cases h1 : i < 0 ∨ (n : Int) * 8 ≤ i
  · have hb : (errB n i != 0) = true := by simp [errB, h1]
    have H : Hid (errB n i = errW n i) := by show _ = _; simp [errB, errW, h1]
    clear h1
    go_enter Tryz.func40, Tryz.ntmps40
    go_wp2_with (go_at_call 71; refine (checkByte_any h _).mono ?_; rintro e w' ⟨rfl, rfl⟩)
    go_ret
    exact ⟨ret_int H.out, rfl⟩
  · have hb : (errB n i != 0) = false := by simp [errB, h1]
    have h0 : 0 ≤ i := by omega
    by_cases h2 : i % 8 = 0
    · have h2' : (i % 8 != 0) = false := by simp [h2]
      have H : Hid (0 = errW n i) := by show _ = _; simp [errW, h1, h2]
      clear h1 h2
      go_enter Tryz.func40, Tryz.ntmps40
      go_wp2_with (go_at_call 71; refine (checkByte_any h _).mono ?_; rintro e w' ⟨rfl, rfl⟩)
      go_ret
      exact ⟨ret_int H.out, rfl⟩
    · have h2' : (i % 8 != 0) = true := by simp [h2]
      have H : Hid (4 = errW n i) := by show _ = _; simp [errW, h1, h2]
      clear h1 h2
      go_enter Tryz.func40, Tryz.ntmps40
      go_wp2_with (go_at_call 71; refine (checkByte_any h _).mono ?_; rintro e w' ⟨rfl, rfl⟩)
      go_ret
      exact ⟨ret_int H.out, rfl⟩
theorem load_nil (i : Int) (w : World) : Calls Tryz.prog 15 #[.pointer none, .int .i64 i] w fun e w' => e = .returned (.tuple #[.int .u64 0, .int .i64 1]) ∧ w = w' := by
  go_enter Tryz.func15, Tryz.ntmps15
  go_wp2_with (go_at_call 40; refine (checkWord_nil _ _).mono ?_; rintro e w' ⟨rfl, rfl⟩)
  go_ret2
  exact ⟨rfl, rfl⟩
theorem load_any (h : RamAt w a b T n ws) (i : Int) : Calls Tryz.prog 15 #[.pointer (some ⟨a, 0, none⟩), .int .i64 i] w fun e w' => e = .returned (.tuple #[.int .u64 (ldV ws i), .int .i64 (errW n i)]) ∧ w = w' := by
  have hi := h.hi
  have hl := h.len
  by_cases h1 : errW n i = 0
  · have hb : (errW n i != 0) = false := by simp [h1]
    obtain ⟨h0, h2⟩ : 0 ≤ i ∧ i < n * 8 := by unfold errW at h1; split at h1 <;> omega
    obtain ⟨k, rfl⟩ : ∃ k : Nat, i = k := ⟨i.toNat, by omega⟩
    have hk : k / 8 < n := by omega
    have H : Hid (ws.getD (k / 8) 0 = ldV ws k) := by show _ = _; simp [ldV, hl, h1]
    have H2 : Hid (0 = errW n k) := h1.symm
    have hc := h.field
    have hc2 := h.word hk
    clear h1 hl
    go_enter Tryz.func15, Tryz.ntmps15
    go_wp2_with (go_at_call 40; refine (checkWord_any h _).mono ?_; rintro e w' ⟨rfl, rfl⟩)
    go_ret2
    exact ⟨ret2_int H.out H2.out, rfl⟩
  · have hb : (errW n i != 0) = true := by simp [h1]
    have H : Hid (0 = ldV ws i) := by show _ = _; simp [ldV, hl, h1]
    clear h1 hl
    go_enter Tryz.func15, Tryz.ntmps15
    go_wp2_with (go_at_call 40; refine (checkWord_any h _).mono ?_; rintro e w' ⟨rfl, rfl⟩)
    go_ret2
    exact ⟨ret2_int H.out rfl, rfl⟩
theorem store_nil (i v : Int) (w : World) : Calls Tryz.prog 59 #[.pointer none, .int .i64 i, .int .u64 v] w fun e w' => e = .returned (.int .i64 1) ∧ w = w' := by
  go_enter Tryz.func59, Tryz.ntmps59
  go_wp2_with (go_at_call 40; refine (checkWord_nil _ _).mono ?_; rintro e w' ⟨rfl, rfl⟩)
  go_ret
  exact ⟨rfl, rfl⟩
theorem store_any (h : RamAt w a b T n ws) (i v : Int) (hv0 : 0 ≤ v) (hv1 : v < 18446744073709551616) : Calls Tryz.prog 59 #[.pointer (some ⟨a, 0, none⟩), .int .i64 i, .int .u64 v] w fun e w' => e = .returned (.int .i64 (errW n i)) ∧ RamAt w' a b T n (stL ws i v) ∧ w.grownBy w' (some b) := by
  have hi := h.hi
  have hl := h.len
  by_cases h1 : errW n i = 0
  · have hb : (errW n i != 0) = false := by simp [h1]
    obtain ⟨h0, h2⟩ : 0 ≤ i ∧ i < n * 8 := by unfold errW at h1; split at h1 <;> omega
    obtain ⟨k, rfl⟩ : ∃ k : Nat, i = k := ⟨i.toNat, by omega⟩
    have hk : k / 8 < n := by omega
    have H : Hid (stL ws k v = ws.set (k / 8) v) := by show _ = _; simp [stL, hl, h1]
    have H2 : Hid (0 = errW n k) := h1.symm
    have hc := h.field
    have hc2 := h.word hk
    have hf := h.row.frozen (k / 8)
    obtain ⟨x, hx⟩ : ∃ x, x = ws.getD (k / 8) 0 := ⟨_, rfl⟩
    rw [← hx] at hc2
    have HL := Lib.hid hl
    clear h1 hl hx
    go_enter Tryz.func59, Tryz.ntmps59
    go_wp2_with (go_at_call 40; refine (checkWord_any h _).mono ?_; rintro e w' ⟨rfl, rfl⟩)
    go_ret
    refine ⟨ret_int H2.out, ?_, grown_set _ _ _ _⟩
    rw [H.out]
    exact h.turned (grown_set _ _ _ _) (by rw [← wcells_set]; exact h.row.set_ _ _) (by simp [HL.out]) (h.words.set_ _ _ hv0 hv1)
  · have hb : (errW n i != 0) = true := by simp [h1]
    have H : Hid (stL ws i v = ws) := by show _ = _; simp [stL, hl, h1]
    clear h1 hl
    go_enter Tryz.func59, Tryz.ntmps59
    go_wp2_with (go_at_call 40; refine (checkWord_any h _).mono ?_; rintro e w' ⟨rfl, rfl⟩)
    go_ret
    refine ⟨rfl, ?_, World.grownBy.refl _ _⟩
    rw [H.out]
    exact h
end
end Go.Proofs.YtklhcgekagimkaaGreat
