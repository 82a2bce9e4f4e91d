/- Lines of a buffer as they lie in memory; what a call leaves as it was. -/
import Derived.WalkKit
import Derived.WalkSpells
import Derived.Below
import Derived.Laws.OwnMore
import Derived.Laws.Rows
import Derived.Deep.Draws
import Derived.Lib.Hide
import Derived.Maps.AppendAt
import Derived.Deep.AppendLies
import Derived.Deep.OwnRows
import Derived.OwnWalk
import Derived.RangeFuncOwn
import Derived.Test.YtbnnfgdlkldafaaProg
import Derived.Test.YtbnnfgdlkldafaaAp
namespace Go.Proofs.Ytbnnfgdlkldafaa
open Go.RowKit
/-- A block that is known whole. -/
def Lrow (w : World) (g : Nat) (t : TypeId) (vs : List Value) : Prop := w.heap[g]? = some (.cells vs.toArray t (0, 0))
section
variable {w w' : World} {g : Nat} {t : TypeId} {vs : List Value}
theorem Lrow.lt (h : Lrow w g t vs) : g < w.heap.size := by
  rcases Nat.lt_or_ge g w.heap.size with hl | hl
  · exact hl
  · unfold Lrow at h; rw [Array.getElem?_eq_none hl] at h; cases h
theorem Lrow.cell (h : Lrow w g t vs) (i : Nat) : w.cell? ⟨g, i, none⟩ = vs[i]? := by
  have := cell_of_row w g i vs.toArray t (0, 0) h
  simpa using this
theorem Lrow.frozen (h : Lrow w g t vs) (i : Nat) : w.frozen? ⟨g, i, none⟩ = false := by
  unfold Lrow at h
  simp [World.frozen?, h]
theorem Lrow.new (w : World) (t : TypeId) (vs : List Value) : Lrow (w.alloc (.cells vs.toArray t)) w.heap.size t vs := heap_alloc_new w _
theorem Lrow.alloc (h : Lrow w g t vs) (o : Obj) : Lrow (w.alloc o) g t vs := (Below.heap_alloc w o g h.lt).trans h
theorem Lrow.set_ (h : Lrow w g t vs) (i : Nat) (u : Value) : Lrow (w.setCell ⟨g, i, none⟩ u) g t (vs.set i u) := by
  unfold Lrow at h ⊢
  simp [World.setCell, Array.getElem?_modify, h]
theorem Lrow.far (h : Lrow w g t vs) {p : Addr} (hp : g ≠ p.block) (u : Value) : Lrow (w.setCell p u) g t vs := (Below.heap_setCell w p u g hp).trans h
theorem Lrow.below {B : Nat} (h : Lrow w g t vs) (hb : Below B w w') (hg : g < B) : Lrow w' g t vs := (hb.block g hg).trans h
theorem Lrow.call (h : Lrow w g t vs) (hb : Below w.heap.size w w') : Lrow w' g t vs := h.below hb h.lt
theorem Lrow.grown {row : Option Nat} (h : Lrow w g t vs) (hb : w.grownBy w' row) (hg : some g ≠ row) : Lrow w' g t vs := (hb.block g h.lt hg).trans h
theorem Lrow.apart {g' : Nat} {t' : TypeId} {vs' : List Value} (h : Lrow w g t vs) (h' : Lrow w g' t' vs') (hne : t ≠ t') : g ≠ g' := by
  rintro rfl
  unfold Lrow at h h'
  rw [h] at h'
  injection h' with h'
  injection h' with _ ht
  exact hne ht
theorem Lrow.drewN (h : Lrow w g t vs) (k : Nat) : Lrow (w.drewN k) g t vs := h
theorem Lrow.inj {t' : TypeId} {vs' : List Value} (h : Lrow w g t vs) (h' : Lrow w g t' vs') : vs = vs' := by
  unfold Lrow at h h'
  rw [h] at h'
  injection h' with h'
  injection h' with e _
  exact List.toArray_inj e
end
theorem below_dN {B : Nat} {w w' : World} (h : Below B w w') (q : Nat) : Below B w (w'.drewN q) := ⟨h.os, h.tape, h.output, h.size, h.block⟩
theorem grown_set (w : World) (g i : Nat) (u : Value) : w.grownBy (w.setCell ⟨g, i, none⟩ u) (some g) :=
  ⟨rfl, rfl, rfl, by simp [World.setCell], fun k _ hne => Below.heap_setCell w _ u k (by rintro rfl; exact hne rfl)⟩

/-- What a call leaves as it was: each block that is there, but for those of X. -/
structure Foot (X : Nat → Prop) (w w' : World) : Prop where
  os : w'.os = w.os
  tape : w'.tape = w.tape
  output : w'.output = w.output
  size : w.heap.size ≤ w'.heap.size
  keep : ∀ k, k < w.heap.size → ¬ X k → w'.heap[k]? = w.heap[k]?
section
variable {w w' w'' : World} {X Y : Nat → Prop} {g : Nat} {t : TypeId} {vs : List Value}
theorem Foot.refl (X : Nat → Prop) (w : World) : Foot X w w := ⟨rfl, rfl, rfl, Nat.le_refl _, fun _ _ _ => rfl⟩
theorem Foot.trans (h : Foot X w w') (k : Foot Y w' w'') (hy : ∀ b, Y b → b < w.heap.size → X b) : Foot X w w'' :=
  ⟨k.os.trans h.os, k.tape.trans h.tape, k.output.trans h.output, Nat.le_trans h.size k.size, fun i hi hx => (k.keep i (Nat.lt_of_lt_of_le hi h.size) (fun e => hx (hy i e hi))).trans (h.keep i hi hx)⟩
theorem Foot.of_below (h : Below w.heap.size w w') : Foot X w w' := ⟨h.os, h.tape, h.output, h.size, fun k hk _ => h.block k hk⟩
theorem Foot.grown {b : Nat} (h : w.grownBy w' (some b)) (hx : X b) : Foot X w w' := ⟨h.os, h.tape, h.output, h.size, fun k hk hn => h.block k hk (by intro e; injection e with e; subst e; exact hn hx)⟩
theorem Foot.grownO {row : Option Nat} (h : w.grownBy w' row) (hx : ∀ b, row = some b → b < w.heap.size → X b) : Foot X w w' := ⟨h.os, h.tape, h.output, h.size, fun k hk hn => h.block k hk (by intro e; exact hn (hx k e.symm hk))⟩
theorem Foot.row (h : Foot X w w') (r : Lrow w g t vs) (hx : ¬ X g) : Lrow w' g t vs := (h.keep g r.lt hx).trans r
theorem Foot.below {B : Nat} (h : Foot X w w') (hB : B ≤ w.heap.size) (hx : ∀ b, X b → B ≤ b) : Below B w w' := ⟨h.os, h.tape, h.output, h.size, fun k hk => h.keep k (by omega) (fun e => by have := hx k e; omega)⟩
theorem Foot.drewN (h : Foot X w w') (q : Nat) : Foot X w (w'.drewN q) := ⟨h.os, h.tape, h.output, h.size, h.keep⟩
theorem Foot.mono (h : Foot X w w') (hy : ∀ b, X b → Y b) : Foot Y w w' := ⟨h.os, h.tape, h.output, h.size, fun k hk hn => h.keep k hk (fun e => hn (hy k e))⟩
end

theorem own_form {w : World} {B n : Nat} {v : Value} {xs : List Value} {t : TypeId} {s : Nat} (h : w.ownsRow B t s v n xs) : ∃ A c, v = .slice A n c := by
  rcases h.2 with ⟨h1, h2⟩ | ⟨g, cap, cur, h1, _⟩
  · exact ⟨none, 0, by rw [h1, h2]⟩
  · exact ⟨_, _, h1⟩
theorem own_heap {w w' : World} {B : Nat} {v : Value} {n : Nat} {xs : List Value} {t : TypeId} {s : Nat} (h : w.ownsRow B t s v n xs) (hk : ∀ g, v.ownBlock = some g → w'.heap[g]? = w.heap[g]?) : w'.ownsRow B t s v n xs := by
  refine ⟨h.1, ?_⟩
  rcases h.2 with hn | ⟨g, cap, cur, rfl, hbg, hg, rest⟩
  · exact Or.inl hn
  · exact Or.inr ⟨g, cap, cur, rfl, hbg, (hk g rfl).trans hg, rest⟩
theorem own_block {w : World} {B : Nat} {v : Value} {n g : Nat} {xs : List Value} {t : TypeId} {s : Nat} (h : w.ownsRow B t s v n xs) (e : v.ownBlock = some g) : ∃ vs, Lrow w g t vs ∧ B ≤ g := by
  rcases h.2 with ⟨rfl, rfl⟩ | ⟨g', cap, cur, rfl, hbg, hg, rest⟩
  · cases e
  · injection e with e
    subst e
    exact ⟨cur.toList, hg, hbg⟩
theorem own_call {w w' : World} {B : Nat} {v : Value} {n : Nat} {xs : List Value} {t : TypeId} {s : Nat} (h : w.ownsRow B t s v n xs) (hb : Below w.heap.size w w') : w'.ownsRow B t s v n xs :=
  own_heap h fun g e => hb.block g (by obtain ⟨vs, r, _⟩ := own_block h e; exact r.lt)
theorem below_new (w : World) (o : Obj) : Below w.heap.size w (w.alloc o) := (Below.refl _ _).alloc (Nat.le_refl _) o
theorem add_offs (g j : Nat) : (⟨g, 0, none⟩ : Addr).add j = ⟨g, j, none⟩ := by unfold Addr.add; split <;> simp_all
theorem add_lit2 (g o j : Nat) : (⟨g, o, none⟩ : Addr).add j = ⟨g, o + j, none⟩ := by unfold Addr.add; split <;> simp_all
/-! Lines as cells. -/
def ccell (c : Cd) : List Value := [.int .i64 c.s, .int .i64 c.p, .int .i64 c.o, .int .i64 c.f, .bool c.w]
def ccells : List Cd → List Value
  | [] => []
  | c :: r => ccell c ++ ccells r
theorem ccells_length (L : List Cd) : (ccells L).length = L.length * 5 := by
  induction L with
  | nil => rfl
  | cons m r ih => simp only [ccells, List.length_append, ih, List.length_cons, ccell, List.length_nil]; omega
theorem ccells_append (L M : List Cd) : ccells (L ++ M) = ccells L ++ ccells M := by
  induction L with
  | nil => rfl
  | cons m r ih => simp only [ccells, List.cons_append, ih, List.append_assoc]
theorem ccells_one (c : Cd) : ccells [c] = ccell c := by simp [ccells]
theorem ccell_one (m : Cd) : ∀ u ∈ ccell m, u.oneCell' = true := by
  intro u hu; simp [ccell] at hu; rcases hu with rfl | rfl | rfl | rfl | rfl <;> rfl
theorem ccells_ones (L : List Cd) : ∀ u ∈ ccells L, u.oneCell' = true := by
  induction L with
  | nil => intro u hu; cases hu
  | cons m r ih =>
    intro u hu
    simp only [ccells, List.mem_append] at hu
    rcases hu with hu | hu
    · exact ccell_one m u hu
    · exact ih u hu
theorem ccells_at : ∀ (L : List Cd) (j : Nat) (hj : j < L.length) (i : Nat), i < 5 → (ccells L)[j * 5 + i]? = (ccell L[j])[i]?
  | [], _, hj, _, _ => absurd hj (Nat.not_lt_zero _)
  | m :: r, 0, _, i, hi => by
    simp only [ccells, Nat.zero_mul, Nat.zero_add]
    rw [List.getElem?_append_left (by simp [ccell]; omega)]; rfl
  | m :: r, j + 1, hj, i, hi => by
    simp only [ccells]
    rw [List.getElem?_append_right (by simp [ccell]; omega), show (j + 1) * 5 + i - (ccell m).length = j * 5 + i by simp [ccell]; omega]
    have := ccells_at r j (by simpa using hj) i hi
    simpa using this
theorem ccells_take : ∀ (L : List Cd) (i : Nat), (ccells L).take (i * 5) = ccells (L.take i)
  | [], i => by simp [ccells]
  | m :: r, 0 => by simp [ccells]
  | m :: r, i + 1 => by
    rw [List.take_succ_cons]
    simp only [ccells]
    rw [List.take_append, show (i + 1) * 5 - (ccell m).length = i * 5 by simp [ccell]; omega, ccells_take r i, List.take_of_length_le (by simp [ccell]; omega)]
theorem ccells_drop : ∀ (L : List Cd) (i : Nat), (ccells L).drop (i * 5) = ccells (L.drop i)
  | [], i => by simp [ccells]
  | m :: r, 0 => by simp [ccells]
  | m :: r, i + 1 => by
    rw [List.drop_succ_cons]
    simp only [ccells]
    rw [List.drop_append, show (i + 1) * 5 - (ccell m).length = i * 5 by simp [ccell]; omega, ccells_drop r i, List.drop_of_length_le (by simp [ccell]; omega), List.nil_append]
/-- One line as it lies from an address on. -/
structure CdAt (w : World) (p : Addr) (c : Cd) : Prop where
  c0 : w.cell? p = some (.int .i64 c.s)
  c1 : w.cell? ⟨p.block, p.off + 1, none⟩ = some (.int .i64 c.p)
  c2 : w.cell? ⟨p.block, p.off + 2, none⟩ = some (.int .i64 c.o)
  c3 : w.cell? ⟨p.block, p.off + 3, none⟩ = some (.int .i64 c.f)
  c4 : w.cell? ⟨p.block, p.off + 4, none⟩ = some (.bool c.w)
/-- A list of them in a row of one's own. -/
def Cs (w : World) (B : Nat) (v : Value) (L : List Cd) : Prop := w.ownsRow B 31 5 v L.length (ccells L)
section
variable {w w' : World} {B g n c : Nat} {v : Value} {L : List Cd} {A : Option Addr}
theorem Cs.nil (w : World) (B : Nat) : Cs w B (.slice none 0 0) [] := World.ownsRow_nil _ _ _ _
theorem Cs.form (h : Cs w B v L) : ∃ A c, v = .slice A L.length c := own_form h
theorem Cs.call (h : Cs w B v L) (hb : Below w.heap.size w w') : Cs w' B v L := own_call h hb
theorem Cs.heap (h : Cs w B v L) (hk : ∀ g, v.ownBlock = some g → w'.heap[g]? = w.heap[g]?) : Cs w' B v L := own_heap h hk
theorem Cs.base {D : Nat} (h : Cs w B v L) (hD : D ≤ B) : Cs w D v L := ⟨h.1, by
  rcases h.2 with hn | ⟨g, cap, cur, e, hb, r⟩
  · exact Or.inl hn
  · exact Or.inr ⟨g, cap, cur, e, Nat.le_trans hD hb, r⟩⟩
/-- The row, whole: the lines, and what stands behind them. -/
theorem Cs.row (h : Cs w B (.slice A L.length c) L) (hn : 0 < L.length) : ∃ g R, A = some ⟨g, 0, none⟩ ∧ B ≤ g ∧ Lrow w g 31 (ccells L ++ R) ∧ L.length ≤ c ∧ c ≤ maxLen ∧ R.length = (c - L.length) * 5 := by
  rcases h.2 with ⟨_, h2⟩ | ⟨g, cap, cur, h1, h2, h3, h4, h5, h6, h7⟩
  · omega
  · injection h1 with h1 h8 h9
    subst h9
    refine ⟨g, cur.toList.drop (L.length * 5), h1, h2, ?_, h4, h5, ?_⟩
    · unfold Lrow
      rw [← h7, List.take_append_drop]; exact h3
    · rw [List.length_drop, Array.length_toList, h6, Nat.sub_mul]
theorem Cs.of_row {R : List Value} (h : Lrow w g 31 (ccells L ++ R)) (hB : B ≤ g) (h1 : L.length ≤ c) (h2 : c ≤ maxLen) (h3 : R.length = (c - L.length) * 5) : Cs w B (.slice (some ⟨g, 0, none⟩) L.length c) L := by
  refine ⟨ccells_length L, Or.inr ⟨g, c, (ccells L ++ R).toArray, rfl, hB, h, h1, h2, ?_, ?_⟩⟩
  · simp only [List.size_toArray, List.length_append, ccells_length, h3]
    rw [← Nat.add_mul]; congr 1; omega
  · rw [← ccells_length]; simp
theorem Lrow.line {R : List Value} (h : Lrow w g 31 (ccells L ++ R)) (j : Nat) (hj : j < L.length) : CdAt w ⟨g, j * 5, none⟩ L[j] := by
  have k : ∀ i, i < 5 → w.cell? ⟨g, j * 5 + i, none⟩ = (ccell L[j])[i]? := fun i hi => by
    rw [h.cell, List.getElem?_append_left (by rw [ccells_length]; omega), ccells_at L j hj i hi]
  exact ⟨k 0 (by omega), k 1 (by omega), k 2 (by omega), k 3 (by omega), k 4 (by omega)⟩
theorem Cs.at_ (h : Cs w B (.slice A L.length c) L) (j : Nat) (hj : j < L.length) : ∃ g, A = some ⟨g, 0, none⟩ ∧ g < w.heap.size ∧ B ≤ g ∧ CdAt w ⟨g, j * 5, none⟩ L[j] := by
  obtain ⟨g, R, e, hB, hr, _⟩ := h.row (by omega)
  exact ⟨g, e, hr.lt, hB, hr.line j hj⟩
theorem CdAt.heap {p : Addr} {x : Cd} (h : CdAt w p x) (hk : w'.heap[p.block]? = w.heap[p.block]?) : CdAt w' p x :=
  ⟨(World.cell?_of_block hk).trans h.c0, (World.cell?_of_block (a := ⟨p.block, _, none⟩) hk).trans h.c1, (World.cell?_of_block (a := ⟨p.block, _, none⟩) hk).trans h.c2, (World.cell?_of_block (a := ⟨p.block, _, none⟩) hk).trans h.c3, (World.cell?_of_block (a := ⟨p.block, _, none⟩) hk).trans h.c4⟩
end
theorem info_cached : (Try.prog.info? 31).map (fun i => (i.zero, i.size, i.bytes)) = some (some (.agg #[.int .i64 0, .int .i64 0, .int .i64 0, .int .i64 0, .bool false]), 5, 40) := by kernel_rfl
theorem cached_slice : Try.prog.underlying 35 = some (.slice 31) := by kernel_rfl
/-- Some lines behind a list: the run of append, whatever room there is. -/
theorem app_run {w : World} {B : Nat} {v : Value} {L : List Cd} (h : Cs w B v L) (hB : B ≤ w.heap.size) (ad : Addr) (cc : Nat) (M : List Cd) (hM : ∀ j u, (ccells M)[j]? = some u → w.cell? (ad.add j) = some u) (hl : L.length + M.length ≤ 100000) : ∃ A c w3,
    (Builtin.append_ #[35, 35] 35 #[v, .slice (some ad) M.length cc]).run Try.prog w = .ok (.slice A (L.length + M.length) c) w3 ∧
    Cs w3 B (.slice A (L.length + M.length) c) (L ++ M) ∧ w.grownBy w3 v.ownBlock ∧ ((Value.slice A (L.length + M.length) c).ownBlock = v.ownBlock ∨ (Value.slice A (L.length + M.length) c).ownBlock = some w.heap.size) := by
  obtain ⟨i0, hi0, hz0, hz1, hz2⟩ := info_parts info_cached
  obtain ⟨v1, W1, r1, o1, g1, -, t1⟩ := run_append_own_at (P := Try.prog) (w := w) B 35 35 31 i0 _ 5 40 cached_slice hi0 hz0 hz1 hz2 rfl (by decide) v L.length _ h ad M.length cc (ccells M) (ccells_length M) hM (ccells_ones M) (by unfold maxLen; omega) (by omega) hB
  obtain ⟨A, c, hv⟩ := own_form o1
  subst hv
  refine ⟨A, c, W1, r1, ?_, g1, t1⟩
  unfold Cs
  rw [List.length_append, ccells_append]
  exact o1
end Go.Proofs.Ytbnnfgdlkldafaa
