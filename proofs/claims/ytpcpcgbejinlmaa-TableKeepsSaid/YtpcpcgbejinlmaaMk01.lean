/- Plain facts of package ram, without the program: what each call answers, over the list of a memory's words, and what becomes of that list; and a memory as it lies in a world. -/
import Derived.Test.YtpcpcgbejinlmaaMk00
import Derived.WalkKit
import Derived.WalkSpells
import Derived.Below
import Derived.Laws.OwnMore
import Derived.Laws.Rows
import Derived.Laws.CopyOwn
import Derived.Laws.IdiomCopy
import Derived.Lib.SliceRun
import Derived.Deep.Draws
import Derived.Lib.Hide
import Derived.Laws.BitsAllLaws
import Derived.Deep.AppendLies
import Derived.IntWalk
namespace Go.Proofs.Ytpcpcgbejinlmaa
open Go.RowKit
def errB (n : Nat) (i : Int) : Int := if i < 0 ∨ (n : Int) * 8 ≤ i then 3 else 0
def errW (n : Nat) (i : Int) : Int := if i < 0 ∨ (n : Int) * 8 ≤ i then 3 else if i % 8 = 0 then 0 else 4
def errF (n : Nat) (f k : Int) : Int := if f < 0 ∨ (n : Int) / 8 - f < k then 3 else 0
def errZ (n : Nat) (f k : Int) : Int := if k < 1 then 2 else errF n f k
def ldV (ws : List Int) (i : Int) : Int := if errW ws.length i = 0 then ws.getD (i.toNat / 8) 0 else 0
def stL (ws : List Int) (i v : Int) : List Int := if errW ws.length i = 0 then ws.set (i.toNat / 8) v else ws
def zeL (ws : List Int) (f k : Int) : List Int := if errZ ws.length f k = 0 then splice ws (f.toNat * 8) (List.replicate (k.toNat * 8) 0) else ws
def wcells (ws : List Int) : List Value := ws.map (Value.int .u64)
theorem wcells_length (ws : List Int) : (wcells ws).length = ws.length := by simp [wcells]
theorem wcells_get (ws : List Int) (i : Nat) : (wcells ws)[i]? = ws[i]?.map (Value.int .u64) := by simp [wcells]
theorem wcells_splice (ws cs : List Int) (o : Nat) : splice (wcells ws) o (wcells cs) = wcells (splice ws o cs) := by simp [splice, wcells]
theorem wcells_set (ws : List Int) (i : Nat) (v : Int) : (wcells ws).set i (.int .u64 v) = wcells (ws.set i v) := by simp [wcells, List.map_set]
def Words (ws : List Int) : Prop := ∀ x ∈ ws, 0 ≤ x ∧ x < 18446744073709551616
theorem Words.at_ {ws : List Int} (h : Words ws) (i : Nat) : 0 ≤ ws.getD i 0 ∧ ws.getD i 0 < 18446744073709551616 := by
  by_cases hi : i < ws.length
  · rw [List.getD_eq_getElem?_getD, List.getElem?_eq_getElem hi]; exact h _ (List.getElem_mem hi)
  · rw [List.getD_eq_getElem?_getD, List.getElem?_eq_none (by omega)]; simp
theorem Words.set_ {ws : List Int} (h : Words ws) (i : Nat) (v : Int) (h0 : 0 ≤ v) (h1 : v < 18446744073709551616) : Words (ws.set i v) := by
  intro x hx
  rcases List.mem_or_eq_of_mem_set hx with hx | rfl
  · exact h x hx
  · exact ⟨h0, h1⟩
theorem Words.splice_ {ws cs : List Int} (h : Words ws) (g : Words cs) (o : Nat) : Words (splice ws o cs) := by
  intro x hx
  simp only [splice, List.mem_append] at hx
  rcases hx with hx | hx | hx
  · exact h x (List.mem_of_mem_take hx)
  · exact g x hx
  · exact h x (List.mem_of_mem_drop hx)
theorem Words.zeros (n : Nat) : Words (List.replicate n 0) := by
  intro x hx
  rw [List.eq_of_mem_replicate hx]; omega
def Row (w : World) (g : Nat) (t : TypeId) (vs : List Value) : Prop := w.heap[g]? = some (.cells vs.toArray t (0, 0))
section
variable {w w' : World} {g : Nat} {t : TypeId} {vs : List Value}
theorem Row.lt (h : Row w g t vs) : g < w.heap.size := by
  rcases Nat.lt_or_ge g w.heap.size with hl | hl
  · exact hl
  · unfold Row at h; rw [Array.getElem?_eq_none hl] at h; cases h
theorem Row.cell (h : Row w g t vs) (i : Nat) : w.cell? ⟨g, i, none⟩ = vs[i]? := by
  have := cell_of_row w g i vs.toArray t (0, 0) h
  simpa using this
theorem Row.frozen (h : Row w g t vs) (i : Nat) : w.frozen? ⟨g, i, none⟩ = false := by
  unfold Row at h
  simp [World.frozen?, h]
theorem Row.new (w : World) (t : TypeId) (vs : List Value) : Row (w.alloc (.cells vs.toArray t)) w.heap.size t vs := heap_alloc_new w _
theorem Row.alloc (h : Row w g t vs) (o : Obj) : Row (w.alloc o) g t vs := (Below.heap_alloc w o g h.lt).trans h
theorem Row.set_ (h : Row w g t vs) (i : Nat) (u : Value) : Row (w.setCell ⟨g, i, none⟩ u) g t (vs.set i u) := by
  unfold Row at h ⊢
  simp [World.setCell, Array.getElem?_modify, h]
theorem Row.far (h : Row w g t vs) {p : Addr} (hp : g ≠ p.block) (u : Value) : Row (w.setCell p u) g t vs := (Below.heap_setCell w p u g hp).trans h
theorem Row.below {B : Nat} (h : Row w g t vs) (hb : Below B w w') (hg : g < B) : Row w' g t vs := (hb.block g hg).trans h
theorem Row.grown {row : Option Nat} (h : Row w g t vs) (hb : w.grownBy w' row) (hg : some g ≠ row) : Row w' g t vs := (hb.block g h.lt hg).trans h
theorem Row.apart {g' : Nat} {t' : TypeId} {vs' : List Value} (h : Row w g t vs) (h' : Row w g' t' vs') (hne : t ≠ t') : g ≠ g' := by
  rintro rfl
  unfold Row at h h'
  rw [h] at h'
  injection h' with h'
  injection h' with _ ht
  exact hne ht
end
structure RamAt (w : World) (a b : Nat) (T : TypeId) (n : Nat) (ws : List Int) : Prop where
  len : ws.length = n
  m8 : n % 8 = 0
  lo : 64 ≤ n
  hi : n ≤ 8192
  words : Words ws
  top : Row w a T [.slice (some ⟨b, 0, none⟩) n n]
  row : Row w b 127 (wcells ws)
  ne : a ≠ b
section
variable {w w' : World} {a b n : Nat} {T : TypeId} {ws ws' : List Int}
theorem RamAt.field (h : RamAt w a b T n ws) : w.cell? ⟨a, 0, none⟩ = some (.slice (some ⟨b, 0, none⟩) n n) := by rw [h.top.cell]; rfl
theorem RamAt.word (h : RamAt w a b T n ws) {i : Nat} (hi : i < n) : w.cell? ⟨b, i, none⟩ = some (.int .u64 (ws.getD i 0)) := by
  have hl := h.len
  rw [h.row.cell, wcells_get, List.getD_eq_getElem?_getD, List.getElem?_eq_getElem (by omega)]; rfl
theorem RamAt.alloc (h : RamAt w a b T n ws) (o : Obj) : RamAt (w.alloc o) a b T n ws := ⟨h.len, h.m8, h.lo, h.hi, h.words, h.top.alloc o, h.row.alloc o, h.ne⟩
theorem RamAt.below {B : Nat} (h : RamAt w a b T n ws) (hb : Below B w w') (ha : a < B) (hb' : b < B) : RamAt w' a b T n ws := ⟨h.len, h.m8, h.lo, h.hi, h.words, h.top.below hb ha, h.row.below hb hb', h.ne⟩
theorem RamAt.grown {row : Option Nat} (h : RamAt w a b T n ws) (hg : w.grownBy w' row) (ha : some a ≠ row) (hb : some b ≠ row) : RamAt w' a b T n ws :=
  ⟨h.len, h.m8, h.lo, h.hi, h.words, h.top.grown hg ha, h.row.grown hg hb, h.ne⟩
theorem RamAt.drewN (h : RamAt w a b T n ws) (k : Nat) : RamAt (w.drewN k) a b T n ws := ⟨h.len, h.m8, h.lo, h.hi, h.words, h.top, h.row, h.ne⟩
theorem RamAt.turned (h : RamAt w a b T n ws) (hg : w.grownBy w' (some b)) (hr : Row w' b 127 (wcells ws')) (hl : ws'.length = n) (hw : Words ws') : RamAt w' a b T n ws' :=
  ⟨hl, h.m8, h.lo, h.hi, hw, h.top.grown hg (by have := h.ne; simpa using this), hr, h.ne⟩
end
theorem grown_set (w : World) (g i : Nat) (u : Value) : w.grownBy (w.setCell ⟨g, i, none⟩ u) (some g) :=
  ⟨rfl, rfl, rfl, by simp [World.setCell], fun k _ hne => Below.heap_setCell w _ u k (by rintro rfl; exact hne rfl)⟩
theorem grown_alloc {a w : World} {row : Option Nat} (h : a.grownBy w row) (o : Obj) : a.grownBy (w.alloc o) row :=
  ⟨h.os, h.tape, h.output, Nat.le_trans h.size (by simp), fun i hi hne => (Below.heap_alloc w o i (Nat.lt_of_lt_of_le hi h.size)).trans (h.block i hi hne)⟩
theorem grown_more {a w w' : World} {g : Nat} (h : a.grownBy w (some g)) {row : Option Nat} (k : w.grownBy w' row) (hr : ∀ r, row = some r → r = g ∨ a.heap.size ≤ r) : a.grownBy w' (some g) :=
  ⟨k.os.trans h.os, k.tape.trans h.tape, k.output.trans h.output, Nat.le_trans h.size k.size, fun i hi hne =>
    (k.block i (Nat.lt_of_lt_of_le hi h.size) (fun e => by rcases hr i e.symm with rfl | hr; exact hne rfl; omega)).trans (h.block i hi hne)⟩
theorem splice_get {α : Type} (L : List α) (o : Nat) (cs : List α) (h : o + cs.length ≤ L.length) (i : Nat) :
    (splice L o cs)[i]? = if i < o then L[i]? else if i < o + cs.length then cs[i - o]? else L[i]? := by
  have hm : min o L.length = o := by omega
  unfold splice
  by_cases h1 : i < o
  · rw [List.getElem?_append_left (by rw [List.length_take, hm]; exact h1), List.getElem?_take_of_lt h1, if_pos h1]
  · rw [List.getElem?_append_right (by rw [List.length_take, hm]; omega), List.length_take, hm, if_neg h1]
    by_cases h2 : i < o + cs.length
    · rw [List.getElem?_append_left (by omega), if_pos h2]
    · rw [List.getElem?_append_right (by omega), if_neg h2, List.getElem?_drop]
      congr 1; omega
theorem splice_cons {α : Type} (L : List α) (o : Nat) (v : α) (r : List α) (h : o + (v :: r).length ≤ L.length) : splice (L.set o v) (o + 1) r = splice L o (v :: r) := by
  simp only [List.length_cons] at h
  apply List.ext_getElem?
  intro i
  rw [splice_get _ _ _ (by rw [List.length_set]; omega), splice_get _ _ _ (by simp only [List.length_cons]; omega)]
  simp only [List.length_cons, List.getElem?_set]
  rcases Nat.lt_trichotomy i o with h1 | h1 | h1
  · simp [h1, show i < o + 1 by omega, show ¬ o = i by omega]
  · subst h1
    simp [show i < L.length by omega]
  · obtain ⟨j, rfl⟩ : ∃ j, i = o + 1 + j := ⟨i - (o + 1), by omega⟩
    rw [if_neg (by omega : ¬ o + 1 + j < o + 1), if_neg (by omega : ¬ o = o + 1 + j), if_neg (by omega : ¬ o + 1 + j < o), show o + 1 + j - (o + 1) = j by omega, show o + 1 + j - o = j + 1 by omega, List.getElem?_cons_succ]
    by_cases h3 : o + 1 + j < o + 1 + r.length
    · rw [if_pos h3, if_pos (by omega : o + 1 + j < o + (r.length + 1))]
    · rw [if_neg h3, if_neg (by omega : ¬ o + 1 + j < o + (r.length + 1))]
theorem splice_nil {α : Type} (L : List α) (o : Nat) : splice L o [] = L := by simp [splice]
theorem grown_trans1 {a w w' : World} {g : Nat} (h : a.grownBy w (some g)) (k : w.grownBy w' (some g)) : a.grownBy w' (some g) := grown_more h k fun r e => Or.inl (by injection e with e; exact e.symm)
theorem row_setCells (g : Nat) (t : TypeId) : ∀ (vs : List Value) (o : Nat) (w : World) (L : List Value), Row w g t L → o + vs.length ≤ L.length →
    Row (w.setCells g o vs) g t (splice L o vs) ∧ w.grownBy (w.setCells g o vs) (some g)
  | [], o, w, L, h, _ => ⟨by rw [splice_nil]; exact h, World.grownBy.refl w _⟩
  | v :: r, o, w, L, h, hl => by
    have ih := row_setCells g t r (o + 1) (w.setCell ⟨g, o, none⟩ v) (L.set o v) (h.set_ o v) (by simp at hl ⊢; omega)
    rw [splice_cons L o v r hl] at ih
    exact ⟨ih.1, grown_trans1 (grown_set w g o v) ih.2⟩
section
variable {P : Program} {w : World} {g : Nat} {t : TypeId} {L : List Value}
theorem clear_run (h : Row w g t L) (st : TypeId) (z : Value) (ht : P.underlying st = some (.slice t)) (hv : ∀ w, (zeroValue t).run P w = .ok z w) (hz : z.cells = #[z]) (h1 : z.oneCell' = true) (o m c : Nat) (hm : 0 < m) (hl : o + m ≤ L.length) :
    ∃ w2, (∀ ty, (Builtin.clear_ #[st] ty #[.slice (some ⟨g, o, none⟩) m c]).run P w = .ok (.tuple #[]) w2) ∧ Row w2 g t (splice L o (List.replicate m z)) ∧ w.grownBy w2 (some g) := by
  obtain ⟨k1, k2⟩ := row_setCells g t (List.replicate m z) o w L h (by simpa using hl)
  refine ⟨_, fun ty => Lib.run_clear_slice w st t ty z ht hv hz h1 g o m c hm (fun j hj => ?_) (fun j _ => h.frozen _), k1, k2⟩
  rw [h.cell, List.getElem?_eq_getElem (by omega)]; rfl
end
def errFs (n : Nat) (k : Int) : List Int → Int
  | [] => 0
  | f :: r => if errF n f k = 0 then errFs n k r else 3
theorem errFs_bad {n : Nat} {k f : Int} {r r' : List Int} (h0 : errFs n k r = 0) (h : errF n f k ≠ 0) : errFs n k (r ++ f :: r') = 3 := by
  induction r with
  | nil => simp [errFs, h]
  | cons x r ih =>
    simp only [errFs, List.cons_append] at h0 ⊢
    split
    · rename_i hx; rw [if_pos hx] at h0; exact ih h0
    · rfl
theorem errFs_snoc {n : Nat} {k f : Int} {r : List Int} (h0 : errFs n k r = 0) (h : errF n f k = 0) : errFs n k (r ++ [f]) = 0 := by
  induction r with
  | nil => simp [errFs, h]
  | cons x r ih =>
    simp only [errFs, List.cons_append] at h0 ⊢
    split
    · rename_i hx; rw [if_pos hx] at h0; exact ih h0
    · rename_i hx; rw [if_neg hx] at h0; omega
end Go.Proofs.Ytpcpcgbejinlmaa
/- Plain facts of package geo, without the program: what each call answers, the greedy cut of a stretch and the cut from the middle, and a slice that reads as a list. -/
namespace Go.Proofs.Ytpcpcgbejinlmaa
open Go.RowKit
def ordB (o : Int) : Bool := decide (0 ≤ o ∧ o ≤ 8)
def dnI (p o : Int) : Int := if ordB o = true then p - p % 2 ^ o.toNat else p
def evB (p o : Int) : Bool := ordB o && decide (p % 2 ^ o.toNat = 0)
theorem ord_cases {o : Int} (h : ordB o = true) : o = 0 ∨ o = 1 ∨ o = 2 ∨ o = 3 ∨ o = 4 ∨ o = 5 ∨ o = 6 ∨ o = 7 ∨ o = 8 := by
  simp only [ordB, decide_eq_true_eq] at h; omega
theorem ord_nat {o : Int} (h : ordB o = true) : ∃ k : Nat, o = k ∧ k ≤ 8 := by
  simp only [ordB, decide_eq_true_eq] at h; exact ⟨o.toNat, by omega, by omega⟩
theorem ord_not {o : Int} (h : ordB o = false) : o < 0 ∨ 8 < o := by
  simp only [ordB, decide_eq_false_iff_not] at h; omega
theorem andNot_of (p : Int) (m M : Nat) (r : Int) (hl : -9223372036854775808 ≤ p) (hh : p ≤ 9223372036854775807) (hM : (~~~BitVec.ofInt 64 (m : Int)).toNat = M)
    (hx : ∀ x : Nat, x &&& M = x % 18446744073709551616 / (m + 1) * (m + 1)) (hr : ((m + 1 : Nat) : Int) * r = 9223372036854775808) : bits .andNot .i64 p m = p - p % ((m + 1 : Nat) : Int) := by
  have e : bits .andNot .i64 p m = IntKind.i64.wrap ((BitVec.ofInt 64 p &&& ~~~BitVec.ofInt 64 (m : Int)).toNat : Int) := rfl
  have hu : ((BitVec.ofInt 64 p).toNat : Int) = p % 18446744073709551616 := by
    rw [BitVec.toNat_ofInt]; omega
  have hul : (BitVec.ofInt 64 p).toNat < 18446744073709551616 := (BitVec.ofInt 64 p).isLt
  rw [e, BitVec.toNat_and, hM, hx, Nat.mod_eq_of_lt hul]
  obtain ⟨u, hu0⟩ : ∃ u, u = (BitVec.ofInt 64 p).toNat := ⟨_, rfl⟩
  rw [← hu0] at hu hul ⊢
  clear hM hx hu0 e
  have hdiv : u / (m + 1) * (m + 1) = u - u % (m + 1) := by
    have := Nat.div_add_mod u (m + 1); rw [Nat.mul_comm]; omega
  have hrem : ((u % (m + 1) : Nat) : Int) = p % ((m + 1 : Nat) : Int) := by
    rw [Int.natCast_emod, hu]
    apply Int.emod_emod_of_dvd
    exact ⟨2 * r, by rw [← Int.mul_assoc, Int.mul_comm _ 2, Int.mul_assoc, hr]; rfl⟩
  have hle : u % (m + 1) ≤ u := Nat.mod_le _ _
  rw [hdiv, Int.ofNat_sub hle, hrem]
  obtain ⟨k, hk⟩ : ∃ k : Int, k = ((m + 1 : Nat) : Int) := ⟨_, rfl⟩
  have hk0 : 0 < k := by omega
  rw [← hk] at hr hrem ⊢
  have hmod0 : 0 ≤ p % k := Int.emod_nonneg _ (by omega)
  have hlow : -9223372036854775808 ≤ p - p % k := by
    have hfl : k * (p / k) = p - p % k := by have := Int.mul_ediv_add_emod p k; omega
    have h1 : -r ≤ p / k := by
      rw [Int.le_ediv_iff_mul_le hk0, Int.neg_mul, Int.mul_comm, hr]; exact hl
    have h2 : k * (-r) ≤ k * (p / k) := Int.mul_le_mul_of_nonneg_left h1 (by omega)
    rw [Int.mul_neg, hr, hfl] at h2
    exact h2
  have hzu : p % k ≤ u := by omega
  obtain ⟨z, hz⟩ : ∃ z, z = p % k := ⟨_, rfl⟩
  rw [← hz] at hmod0 hlow hzu ⊢
  clear hz hrem hdiv hr hk
  rw [IntKind.wrap_i64]
  omega
theorem down_bits (p : Int) (k : Nat) (hk : k ≤ 8) (hl : -9223372036854775808 ≤ p) (hh : p ≤ 9223372036854775807) : bits .andNot .i64 p (2 ^ k - 1) = p - p % 2 ^ k := by
  have : k = 0 ∨ k = 1 ∨ k = 2 ∨ k = 3 ∨ k = 4 ∨ k = 5 ∨ k = 6 ∨ k = 7 ∨ k = 8 := by omega
  rcases this with rfl | rfl | rfl | rfl | rfl | rfl | rfl | rfl | rfl
  · exact andNot_of p 0 18446744073709551615 9223372036854775808 hl hh (by decide) (fun x => by have := nat_midmask 64 0 x (by decide); simpa using this) (by decide)
  · exact andNot_of p 1 18446744073709551614 4611686018427387904 hl hh (by decide) nat_hi64_1 (by decide)
  · exact andNot_of p 3 18446744073709551612 2305843009213693952 hl hh (by decide) nat_hi64_2 (by decide)
  · exact andNot_of p 7 18446744073709551608 1152921504606846976 hl hh (by decide) nat_hi64_3 (by decide)
  · exact andNot_of p 15 18446744073709551600 576460752303423488 hl hh (by decide) nat_hi64_4 (by decide)
  · exact andNot_of p 31 18446744073709551584 288230376151711744 hl hh (by decide) nat_hi64_5 (by decide)
  · exact andNot_of p 63 18446744073709551552 144115188075855872 hl hh (by decide) nat_hi64_6 (by decide)
  · exact andNot_of p 127 18446744073709551488 72057594037927936 hl hh (by decide) nat_hi64_7 (by decide)
  · exact andNot_of p 255 18446744073709551360 36028797018963968 hl hh (by decide) nat_hi64_8 (by decide)
end Go.Proofs.Ytpcpcgbejinlmaa
