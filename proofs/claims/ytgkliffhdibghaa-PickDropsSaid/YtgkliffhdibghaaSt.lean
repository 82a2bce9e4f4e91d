/- The queue as it lies in memory: its struct, the row of its items, its map; what a call leaves as it was. -/
import Derived.WalkKit
import Derived.WalkSpells
import Derived.Below
import Derived.Laws.OwnMore
import Derived.Laws.Rows
import Derived.Deep.Draws
import Derived.Lib.Hide
import Derived.Maps.OwnSet
import Derived.Test.YtgkliffhdibghaaProg
import Derived.Test.YtgkliffhdibghaaSq
namespace Go.Proofs.Ytgkliffhdibghaa
open Go.RowKit

theorem ret_bool {a b : Bool} (h : a = b) : Ending.returned (.bool a) = .returned (.bool b) := by rw [h]
theorem ret_int {k : IntKind} {a b : Int} (h : a = b) : Ending.returned (.int k a) = .returned (.int k b) := by rw [h]
theorem bcell {W w1 : World} {B : Nat} (hb : Below B W w1) : (∀ b o, b < B → w1.cell? ⟨b, o, none⟩ = W.cell? ⟨b, o, none⟩) ∧ (∀ b o, b < B → w1.frozen? ⟨b, o, none⟩ = W.frozen? ⟨b, o, none⟩) :=
  ⟨fun b o h => hb.cell (p := ⟨b, o, none⟩) h, fun b o h => hb.frozen (p := ⟨b, o, none⟩) h⟩
/-- A block that is known whole. -/
def Lrow (w : World) (g : Nat) (t : TypeId) (vs : List Value) : Prop := w.heap[g]? = some (.cells vs.toArray t (0, 0))
section
variable {w w' : World} {g : Nat} {t : TypeId} {vs : List Value}
theorem Lrow.lt (h : Lrow w g t vs) : g < w.heap.size := by
  rcases Nat.lt_or_ge g w.heap.size with hl | hl
  · exact hl
  · unfold Lrow at h; rw [Array.getElem?_eq_none hl] at h; cases h
theorem Lrow.cell (h : Lrow w g t vs) (i : Nat) : w.cell? ⟨g, i, none⟩ = vs[i]? := by
  have := cell_of_row w g i vs.toArray t (0, 0) h
  simpa using this
theorem Lrow.frozen (h : Lrow w g t vs) (i : Nat) : w.frozen? ⟨g, i, none⟩ = false := by
  unfold Lrow at h
  simp [World.frozen?, h]
theorem Lrow.new (w : World) (t : TypeId) (vs : List Value) : Lrow (w.alloc (.cells vs.toArray t)) w.heap.size t vs := heap_alloc_new w _
theorem Lrow.alloc (h : Lrow w g t vs) (o : Obj) : Lrow (w.alloc o) g t vs := (Below.heap_alloc w o g h.lt).trans h
theorem Lrow.set_ (h : Lrow w g t vs) (i : Nat) (u : Value) : Lrow (w.setCell ⟨g, i, none⟩ u) g t (vs.set i u) := by
  unfold Lrow at h ⊢
  simp [World.setCell, Array.getElem?_modify, h]
theorem Lrow.far (h : Lrow w g t vs) {p : Addr} (hp : g ≠ p.block) (u : Value) : Lrow (w.setCell p u) g t vs := (Below.heap_setCell w p u g hp).trans h
theorem Lrow.below {B : Nat} (h : Lrow w g t vs) (hb : Below B w w') (hg : g < B) : Lrow w' g t vs := (hb.block g hg).trans h
theorem Lrow.call (h : Lrow w g t vs) (hb : Below w.heap.size w w') : Lrow w' g t vs := h.below hb h.lt
theorem Lrow.grown {row : Option Nat} (h : Lrow w g t vs) (hb : w.grownBy w' row) (hg : some g ≠ row) : Lrow w' g t vs := (hb.block g h.lt hg).trans h
theorem Lrow.apart {g' : Nat} {t' : TypeId} {vs' : List Value} (h : Lrow w g t vs) (h' : Lrow w g' t' vs') (hne : t ≠ t') : g ≠ g' := by
  rintro rfl
  unfold Lrow at h h'
  rw [h] at h'
  injection h' with h'
  injection h' with _ ht
  exact hne ht
theorem Lrow.drewN (h : Lrow w g t vs) (k : Nat) : Lrow (w.drewN k) g t vs := h
theorem Lrow.inj {t' : TypeId} {vs' : List Value} (h : Lrow w g t vs) (h' : Lrow w g t' vs') : vs = vs' := by
  unfold Lrow at h h'
  rw [h] at h'
  injection h' with h'
  injection h' with e _
  exact List.toArray_inj e
end
theorem below_dN {B : Nat} {w w' : World} (h : Below B w w') (q : Nat) : Below B w (w'.drewN q) := ⟨h.os, h.tape, h.output, h.size, h.block⟩
theorem grown_set (w : World) (g i : Nat) (u : Value) : w.grownBy (w.setCell ⟨g, i, none⟩ u) (some g) :=
  ⟨rfl, rfl, rfl, by simp [World.setCell], fun k _ hne => Below.heap_setCell w _ u k (by rintro rfl; exact hne rfl)⟩

/-- What a call leaves as it was: each block that is there, but for those of X. -/
structure Foot (X : Nat → Prop) (w w' : World) : Prop where
  os : w'.os = w.os
  tape : w'.tape = w.tape
  output : w'.output = w.output
  size : w.heap.size ≤ w'.heap.size
  keep : ∀ k, k < w.heap.size → ¬ X k → w'.heap[k]? = w.heap[k]?
section
variable {w w' w'' : World} {X Y : Nat → Prop} {g : Nat} {t : TypeId} {vs : List Value}
theorem Foot.refl (X : Nat → Prop) (w : World) : Foot X w w := ⟨rfl, rfl, rfl, Nat.le_refl _, fun _ _ _ => rfl⟩
theorem Foot.trans (h : Foot X w w') (k : Foot Y w' w'') (hy : ∀ b, Y b → b < w.heap.size → X b) : Foot X w w'' :=
  ⟨k.os.trans h.os, k.tape.trans h.tape, k.output.trans h.output, Nat.le_trans h.size k.size, fun i hi hx => (k.keep i (Nat.lt_of_lt_of_le hi h.size) (fun e => hx (hy i e hi))).trans (h.keep i hi hx)⟩
theorem Foot.of_below (h : Below w.heap.size w w') : Foot X w w' := ⟨h.os, h.tape, h.output, h.size, fun k hk _ => h.block k hk⟩
theorem Foot.grown {b : Nat} (h : w.grownBy w' (some b)) (hx : X b) : Foot X w w' := ⟨h.os, h.tape, h.output, h.size, fun k hk hn => h.block k hk (by intro e; injection e with e; subst e; exact hn hx)⟩
theorem Foot.grownO {row : Option Nat} (h : w.grownBy w' row) (hx : ∀ b, row = some b → b < w.heap.size → X b) : Foot X w w' := ⟨h.os, h.tape, h.output, h.size, fun k hk hn => h.block k hk (by intro e; exact hn (hx k e.symm hk))⟩
theorem Foot.row (h : Foot X w w') (r : Lrow w g t vs) (hx : ¬ X g) : Lrow w' g t vs := (h.keep g r.lt hx).trans r
theorem Foot.below {B : Nat} (h : Foot X w w') (hB : B ≤ w.heap.size) (hx : ∀ b, X b → B ≤ b) : Below B w w' := ⟨h.os, h.tape, h.output, h.size, fun k hk => h.keep k (by omega) (fun e => by have := hx k e; omega)⟩
theorem Foot.drewN (h : Foot X w w') (q : Nat) : Foot X w (w'.drewN q) := ⟨h.os, h.tape, h.output, h.size, h.keep⟩
theorem Foot.mono (h : Foot X w w') (hy : ∀ b, X b → Y b) : Foot Y w w' := ⟨h.os, h.tape, h.output, h.size, fun k hk hn => h.keep k hk (fun e => hn (hy k e))⟩
end

/-! Items as cells. -/
def pcells : List It → List Value
  | [] => []
  | x :: r => .int .i64 x.1 :: .int .i64 x.2 :: pcells r
theorem pcells_length (L : List It) : (pcells L).length = L.length * 2 := by
  induction L with
  | nil => rfl
  | cons x r ih => simp only [pcells, List.length_cons, ih]; omega
theorem pcells_append (L M : List It) : pcells (L ++ M) = pcells L ++ pcells M := by
  induction L with
  | nil => rfl
  | cons x r ih => simp [pcells, ih]
theorem pcells_one (L : List It) : ∀ u ∈ pcells L, u.oneCell' = true := by
  induction L with
  | nil => intro u h; simp [pcells] at h
  | cons x r ih =>
    intro u h
    simp only [pcells, List.mem_cons] at h
    rcases h with rfl | rfl | h
    · rfl
    · rfl
    · exact ih u h
theorem pcells_at : ∀ (L : List It) (j : Nat), j < L.length → (pcells L)[j * 2]? = some (.int .i64 (at' L j).1) ∧ (pcells L)[j * 2 + 1]? = some (.int .i64 (at' L j).2) := by
  intro L
  induction L with
  | nil => intro j h; simp at h
  | cons x r ih =>
    intro j h
    match j with
    | 0 => exact ⟨rfl, rfl⟩
    | j + 1 =>
      have := ih j (by simpa using h)
      have e : at' (x :: r) (j + 1) = at' r j := by simp [at']
      rw [e]
      simp only [pcells, show (j + 1) * 2 = j * 2 + 1 + 1 by omega, List.getElem?_cons_succ]
      exact this
theorem pcells_set : ∀ (L : List It) (j : Nat) (x : It), pcells (L.set j x) = ((pcells L).set (j * 2) (.int .i64 x.1)).set (j * 2 + 1) (.int .i64 x.2) := by
  intro L
  induction L with
  | nil => intro j x; simp [pcells]
  | cons y r ih =>
    intro j x
    match j with
    | 0 => simp [pcells]
    | j + 1 =>
      simp only [List.set_cons_succ, pcells, ih, show (j + 1) * 2 = j * 2 + 1 + 1 by omega]
theorem pcells_take : ∀ (L : List It) (n : Nat), pcells (L.take n) = (pcells L).take (n * 2) := by
  intro L
  induction L with
  | nil => intro n; simp [pcells]
  | cons y r ih =>
    intro n
    match n with
    | 0 => simp [pcells]
    | n + 1 => simp only [List.take_succ_cons, pcells, ih, show (n + 1) * 2 = n * 2 + 1 + 1 by omega]

/-! The map. -/
theorem keyLaw : Go.Maps.Keyed Try.prog 3 := Go.Maps.int_keyed (q := .i64) (by kernel_rfl)
theorem intT : Try.prog.underlying 3 = some (.int .i64) := by kernel_rfl
theorem mapT : Try.prog.underlying 51 = some (.map 3 3) := by kernel_rfl
theorem zeroT (w : World) : (zeroValue 3).run Try.prog w = .ok (.int .i64 0) w := by kernel_rfl
theorem i64_wf {n : Int} (h : -9223372036854775808 ≤ n ∧ n ≤ 9223372036854775807) : (Lit.int .i64 n).wf = true := WalkArith.wf_i64 h
/-- A number that fits. -/
def Fits (n : Int) : Prop := -9223372036854775808 ≤ n ∧ n ≤ 9223372036854775807
/-- The map in block b: n entries, those of M. -/
def MapIs (w : World) (b n : Nat) (M : Int → Option Int) : Prop :=
  ∃ D : DataW Unit, w.ownsMap Try.prog 3 (plainElem Try.prog 3) b n D ∧ Go.Maps.size D = n ∧
    ∀ f, Fits f → Go.Maps.has D (.int .i64 f) = (M f).isSome ∧ ∀ v, M f = some v → D.atKey (.int .i64 f) (.lit (.int .i64 0)) = .lit (.int .i64 v)
section
variable {w w' : World} {b n : Nat} {M : Int → Option Int}
theorem MapIs.heap (h : MapIs w b n M) (hk : w'.heap[b]? = w.heap[b]?) : MapIs w' b n M := by
  obtain ⟨D, ⟨es, clock, hb, r⟩, h2⟩ := h
  exact ⟨D, ⟨es, clock, hk.trans hb, r⟩, h2⟩
theorem MapIs.lt (h : MapIs w b n M) : b < w.heap.size := by obtain ⟨D, h1, _⟩ := h; exact h1.lt
theorem MapIs.apart (h : MapIs w b n M) {g : Nat} {t : TypeId} {vs : List Value} (r : Lrow w g t vs) : g ≠ b := by
  obtain ⟨D, ⟨es, clock, hb, _⟩, _⟩ := h
  rintro rfl
  unfold Lrow at r
  rw [r] at hb
  cases hb
theorem MapIs.new (w : World) : MapIs (w.alloc (.map #[] 0)) w.heap.size 0 (fun _ => none) :=
  ⟨.map [], World.ownsMap_made _ _ _ _, rfl, fun _ _ => ⟨rfl, fun _ e => by cases e⟩⟩
theorem keyOf_int {f : Int} (hf : Fits f) : keyOf Try.prog 3 (.int .i64 f) = some (.int .i64 f) := Go.Maps.keyOf_int_mk intT (i64_wf hf)
/-- 'v, ok := m[f]'. -/
theorem MapIs.look (h : MapIs w b n M) {f : Int} (hf : Fits f) : ∃ v : Int, (Instr.lookup 51 (.map (some b)) (.int .i64 f) true).run Try.prog w = .ok (.tuple #[.int .i64 v, .bool (M f).isSome]) w ∧ ∀ k, M f = some k → v = k := by
  obtain ⟨D, h1, _, h3⟩ := h
  obtain ⟨v, ps, hr, hv⟩ := h1.look_ok keyLaw mapT (zeroT w) (plainElem_int intT (by decide)) (keyOf_int hf)
  obtain ⟨c, rfl, hc, _⟩ := plainElem_int_inv intT hv
  simp only [Prod.mk.injEq] at hc
  obtain ⟨g1, g2⟩ := h3 f hf
  refine ⟨c, by rw [hr, g1], fun k e => ?_⟩
  have := g2 k e
  rw [hc.1] at this
  injection this with this
  injection this
theorem lit_ne {f g : Int} (h : g ≠ f) : (Lit.int .i64 g) ≠ (Lit.int .i64 f) := fun e => h (by injection e)
/-- 'm[f] = v'. -/
theorem MapIs.put (h : MapIs w b n M) (hn : n < 1000000) {f v : Int} (hf : Fits f) (hv : Fits v) : ∃ w', (Instr.mapUpdate 51 (.map (some b)) (.int .i64 f) (.int .i64 v)).run Try.prog w = .ok () w' ∧ w.grownBy w' (some b) ∧ MapIs w' b (if (M f).isSome = true then n else n + 1) (updM M f (some v)) := by
  obtain ⟨D, h1, h2, h3⟩ := h
  obtain ⟨w', hr, g1, g2⟩ := h1.store keyLaw mapT (by unfold maxLen; omega) (keyOf_int hf) (plainElem_int (H := Unit) intT (i64_wf hv))
  have hT := h1.tidy keyLaw
  have hs := Go.Maps.size_put (k := .int .i64 f) hT (.lit (.int .i64 v))
  have hK : WideAt.IsKeyLit (.int .i64 f) := trivial
  refine ⟨w', hr, g2.grown, D.put (.int .i64 f) (.lit (.int .i64 v)), ?_, ?_, fun g hg => ?_⟩
  · obtain ⟨es, clock, e1, e2, e3, e4⟩ := g1
    refine ⟨es, clock, e1, e2, ?_, e4⟩
    have e5 : es.size = Go.Maps.size (D.put (.int .i64 f) (.lit (.int .i64 v))) := by rw [e4]; simp [Go.Maps.size, length_sorted]
    rw [e5, hs, (h3 f hf).1, h2]
    exact Nat.le_refl _
  · rw [hs, (h3 f hf).1, h2]
  · by_cases e : g = f
    · subst e
      refine ⟨by rw [Go.Maps.has_put_same hT.isMap hK, updM_same]; rfl, fun u hu => ?_⟩
      rw [updM_same] at hu
      injection hu with hu
      rw [Go.Maps.atKey_put_same hT.isMap hK, hu]
    · rw [updM_other _ _ e]
      refine ⟨by rw [Go.Maps.has_put_other (lit_ne e)]; exact (h3 g hg).1, fun u hu => ?_⟩
      rw [Go.Maps.atKey_put_other (lit_ne e)]
      exact (h3 g hg).2 u hu
/-- 'delete(m, f)'. -/
theorem MapIs.drop (h : MapIs w b n M) {f : Int} (hf : Fits f) (ty : TypeId) : ∃ w', (Builtin.delete_ #[51, 3] ty #[.map (some b), .int .i64 f]).run Try.prog w = .ok (.tuple #[]) w' ∧ w.grownBy w' (some b) ∧ MapIs w' b (if (M f).isSome = true then n - 1 else n) (updM M f none) := by
  obtain ⟨D, h1, h2, h3⟩ := h
  obtain ⟨w', hr, g1, g2⟩ := h1.drop keyLaw mapT (keyOf_int hf) ty
  have hT := h1.tidy keyLaw
  have hs := Go.Maps.size_del (k := .int .i64 f) hT
  rw [(h3 f hf).1, h2] at hs
  have hs' : Go.Maps.size (D.del (.int .i64 f)) = if (M f).isSome = true then n - 1 else n := by
    split at hs
    · rename_i e; rw [if_pos e]; omega
    · rename_i e; rw [if_neg e]; omega
  refine ⟨w', hr, g2.grown, D.del (.int .i64 f), ?_, hs', fun g hg => ?_⟩
  · obtain ⟨es, clock, e1, e2, e3, e4⟩ := g1
    refine ⟨es, clock, e1, e2, ?_, e4⟩
    have e5 : es.size = Go.Maps.size (D.del (.int .i64 f)) := by rw [e4]; simp [Go.Maps.size, length_sorted]
    rw [e5, hs']
    exact Nat.le_refl _
  · by_cases e : g = f
    · subst e
      refine ⟨by rw [Go.Maps.has_del_same, updM_same]; rfl, fun u hu => ?_⟩
      rw [updM_same] at hu
      cases hu
    · rw [updM_other _ _ e]
      refine ⟨by rw [Go.Maps.has_del_other (lit_ne e)]; exact (h3 g hg).1, fun u hu => ?_⟩
      rw [Go.Maps.atKey_del_other (lit_ne e)]
      exact (h3 g hg).2 u hu
end

/-- Everything that a queue knows fits. -/
def AllFit (L : List It) : Prop := ∀ x ∈ L, (0 ≤ x.1 ∧ x.1 ≤ 1023) ∧ Fits x.2
/-- The queue in block q: its items in the slice iv, its map in block m. -/
structure Que (B : Nat) (w : World) (q m : Nat) (iv : Value) (L : List It) (M : Int → Option Int) : Prop where
  top : Lrow w q 58 [iv, .map (some m), .func (.func 21) #[] #[]]
  own : w.ownsRow B 55 2 iv L.length (pcells L)
  map : MapIs w m L.length M
  idx : Idx L M
  fit : AllFit L
  len : L.length ≤ 5000
  lq : B ≤ q
  lm : B ≤ m
/-- The blocks that its calls turn. -/
def Mine (q m : Nat) (iv : Value) (k : Nat) : Prop := k = q ∨ k = m ∨ iv.ownBlock = some k
section
variable {w w' : World} {B q m : Nat} {iv : Value} {L : List It} {M : Int → Option Int}
theorem own_form {v : Value} {n : Nat} {xs : List Value} {t : TypeId} {s : Nat} (h : w.ownsRow B t s v n xs) : ∃ A c, v = .slice A n c := by
  rcases h.2 with ⟨rfl, rfl⟩ | ⟨g, cap, cur, rfl, _⟩
  · exact ⟨_, _, rfl⟩
  · exact ⟨_, _, rfl⟩
theorem own_row {n g c : Nat} {xs : List Value} {t : TypeId} {s : Nat} {A : Option Addr} (h : w.ownsRow B t s (.slice A n c) n xs) (hA : A = some ⟨g, 0, none⟩) : ∃ rest, Lrow w g t (xs ++ rest) ∧ B ≤ g ∧ n ≤ c ∧ c ≤ maxLen ∧ xs.length + rest.length = c * s := by
  rcases h.2 with ⟨e, rfl⟩ | ⟨g', cap, cur, e, hB, hg, hn, hc, hs, ht⟩
  · injection e with e; rw [hA] at e; cases e
  · injection e with e _ ec
    rw [hA] at e
    injection e with e
    injection e with e
    subst e
    subst ec
    have hx : xs ++ cur.toList.drop (n * s) = cur.toList := by rw [← ht]; exact List.take_append_drop _ _
    refine ⟨cur.toList.drop (n * s), ?_, hB, hn, hc, ?_⟩
    · show w.heap[g]? = _
      rw [hx, hg]
    · have : (xs ++ cur.toList.drop (n * s)).length = cur.toList.length := by rw [hx]
      rw [List.length_append] at this
      rw [this, Array.length_toList, hs]
theorem own_of_row {n g c : Nat} {xs rest : List Value} {t : TypeId} {s : Nat} (hr : Lrow w g t (xs ++ rest)) (hB : B ≤ g) (hn : n ≤ c) (hc : c ≤ maxLen) (hx : xs.length = n * s) (hl : xs.length + rest.length = c * s) : w.ownsRow B t s (.slice (some ⟨g, 0, none⟩) n c) n xs :=
  ⟨hx, Or.inr ⟨g, c, (xs ++ rest).toArray, rfl, hB, hr, hn, hc, by simpa using hl, by simp [← hx]⟩⟩
theorem own_heap {v : Value} {n : Nat} {xs : List Value} {t : TypeId} {s : Nat} (h : w.ownsRow B t s v n xs) (hk : ∀ g, v.ownBlock = some g → w'.heap[g]? = w.heap[g]?) : w'.ownsRow B t s v n xs := by
  refine ⟨h.1, ?_⟩
  rcases h.2 with hn | ⟨g, cap, cur, rfl, hbg, hg, rest⟩
  · exact Or.inl hn
  · exact Or.inr ⟨g, cap, cur, rfl, hbg, (hk g rfl).trans hg, rest⟩
theorem own_block {v : Value} {n g : Nat} {xs : List Value} {t : TypeId} {s : Nat} (h : w.ownsRow B t s v n xs) (e : v.ownBlock = some g) : ∃ vs, Lrow w g t vs ∧ B ≤ g := by
  rcases h.2 with ⟨rfl, rfl⟩ | ⟨g', cap, cur, rfl, hbg, hg, rest⟩
  · cases e
  · injection e with e
    subst e
    exact ⟨cur.toList, hg, hbg⟩
theorem Que.keep (h : Que B w q m iv L M) (hk : ∀ k, Mine q m iv k → w'.heap[k]? = w.heap[k]?) : Que B w' q m iv L M :=
  ⟨(hk q (Or.inl rfl)).trans h.top, own_heap h.own (fun g e => hk g (Or.inr (Or.inr e))), h.map.heap (hk m (Or.inr (Or.inl rfl))), h.idx, h.fit, h.len, h.lq, h.lm⟩
theorem Que.lt (h : Que B w q m iv L M) : ∀ k, Mine q m iv k → k < w.heap.size := by
  rintro k (rfl | rfl | e)
  · exact h.top.lt
  · exact h.map.lt
  · obtain ⟨vs, r, _⟩ := own_block h.own e; exact r.lt
theorem Que.lo (h : Que B w q m iv L M) : ∀ k, Mine q m iv k → B ≤ k := by
  rintro k (rfl | rfl | e)
  · exact h.lq
  · exact h.lm
  · obtain ⟨vs, _, r⟩ := own_block h.own e; exact r
theorem Que.call (h : Que B w q m iv L M) (hb : Below w.heap.size w w') : Que B w' q m iv L M := h.keep fun k hk => hb.block k (h.lt k hk)
theorem Que.alloc (h : Que B w q m iv L M) (o : Obj) : Que B (w.alloc o) q m iv L M := h.call ((Below.refl _ _).alloc (Nat.le_refl _) o)
theorem Que.drewN (h : Que B w q m iv L M) (k : Nat) : Que B (w.drewN k) q m iv L M := h.keep fun _ _ => rfl
theorem Que.foot {X : Nat → Prop} (h : Que B w q m iv L M) (hf : Foot X w w') (hx : ∀ k, Mine q m iv k → ¬ X k) : Que B w' q m iv L M := h.keep fun k hk => hf.keep k (h.lt k hk) (hx k hk)
/-- A block of another type is none of its own. -/
theorem Que.other (h : Que B w q m iv L M) {g : Nat} {t : TypeId} {vs : List Value} (r : Lrow w g t vs) (h1 : t ≠ 58) (h2 : t ≠ 55) : ¬ Mine q m iv g := by
  rintro (rfl | rfl | e)
  · exact r.apart h.top h1 rfl
  · exact h.map.apart r rfl
  · obtain ⟨us, r2, _⟩ := own_block h.own e
    exact r.apart r2 h2 rfl
theorem Que.c0 (h : Que B w q m iv L M) : w.cell? ⟨q, 0, none⟩ = some iv := by rw [h.top.cell]; rfl
theorem Que.c1 (h : Que B w q m iv L M) : w.cell? ⟨q, 1, none⟩ = some (.map (some m)) := by rw [h.top.cell]; rfl
theorem Que.c2 (h : Que B w q m iv L M) : w.cell? ⟨q, 2, none⟩ = some (.func (.func 21) #[] #[]) := by rw [h.top.cell]; rfl
theorem AllFit.at_ {L : List It} (h : AllFit L) {k : Nat} (hk : k < L.length) : (0 ≤ (at' L k).1 ∧ (at' L k).1 ≤ 1023) ∧ Fits (at' L k).2 := h _ (at_mem hk)
/-- An item's cells. -/
theorem Que.items {A : Option Addr} {c : Nat} (h : Que B w q m (.slice A L.length c) L M) (h0 : 0 < L.length) : ∃ g, A = some ⟨g, 0, none⟩ ∧ L.length ≤ c ∧ c ≤ maxLen ∧ g < w.heap.size ∧ B ≤ g ∧ (∀ i, w.frozen? ⟨g, i, none⟩ = false) ∧ ∀ k, k < L.length → w.cell? ⟨g, k * 2, none⟩ = some (.int .i64 (at' L k).1) ∧ w.cell? ⟨g, k * 2 + 1, none⟩ = some (.int .i64 (at' L k).2) := by
  rcases h.own.2 with ⟨e, e2⟩ | ⟨g, cap, cur, e, hB, hg, hn, hc, hs, ht⟩
  · omega
  · injection e with e _ ec
    subst ec
    obtain ⟨rest, r, _⟩ := own_row h.own e
    refine ⟨g, e, hn, hc, r.lt, hB, r.frozen, fun k hk => ?_⟩
    obtain ⟨p1, p2⟩ := pcells_at L k hk
    have hl := pcells_length L
    rw [r.cell, r.cell, List.getElem?_append_left (by omega), List.getElem?_append_left (by omega)]
    exact ⟨p1, p2⟩
end
end Go.Proofs.Ytgkliffhdibghaa
