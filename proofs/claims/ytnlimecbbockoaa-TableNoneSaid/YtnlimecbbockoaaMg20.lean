/- The state of package table as it lies in memory: the set of its roots, its struct, the memory, the bag; what a call may turn. -/
import Derived.Test.YtnlimecbbockoaaMg05
import Derived.Test.YtnlimecbbockoaaMg17
import Derived.Test.YtnlimecbbockoaaMg19
import Derived.Maps.OwnSet
namespace Go.Proofs.Ytnlimecbbockoaa
open Go.RowKit

/-! A set of numbers. -/
theorem keyLaw : Go.Maps.Keyed Try.prog 3 := Go.Maps.int_keyed (q := .i64) (by kernel_rfl)
theorem intT : Try.prog.underlying 3 = some (.int .i64) := by kernel_rfl
theorem setT : Try.prog.underlying 89 = some (.map 3 101) := by kernel_rfl
theorem zeroU (w : World) : (zeroValue 101).run Try.prog w = .ok (.agg #[]) w := by kernel_rfl
theorem i64_wf {n : Int} (h : -9223372036854775808 ≤ n ∧ n ≤ 9223372036854775807) : (Lit.int .i64 n).wf = true := WalkArith.wf_i64 h
/-- A number that fits. -/
def Fits (n : Int) : Prop := -9223372036854775808 ≤ n ∧ n ≤ 9223372036854775807
theorem keyOf_int {f : Int} (hf : Fits f) : keyOf Try.prog 3 (.int .i64 f) = some (.int .i64 f) := Go.Maps.keyOf_int_mk intT (i64_wf hf)
theorem lit_ne {f g : Int} (h : g ≠ f) : (Lit.int .i64 g) ≠ (Lit.int .i64 f) := fun e => h (by injection e)
/-- The set in block b: those of R. -/
def SetIs (w : World) (b : Nat) (R : List Int) : Prop :=
  ∃ D : DataW Unit, w.ownsMap Try.prog 3 unitElem b R.length D ∧ R.Nodup ∧ Go.Maps.size D = R.length ∧ ∀ f, Fits f → Go.Maps.has D (.int .i64 f) = decide (f ∈ R)
section
variable {w w' : World} {b : Nat} {R : List Int}
theorem SetIs.heap (h : SetIs w b R) (hk : w'.heap[b]? = w.heap[b]?) : SetIs w' b R := by
  obtain ⟨D, ⟨es, clock, hb, r⟩, h2⟩ := h
  exact ⟨D, ⟨es, clock, hk.trans hb, r⟩, h2⟩
theorem SetIs.lt (h : SetIs w b R) : b < w.heap.size := by obtain ⟨D, h1, _⟩ := h; exact h1.lt
theorem SetIs.apart (h : SetIs w b R) {g : Nat} {t : TypeId} {vs : Array Value} {p : Nat × Nat} (r : w.heap[g]? = some (.cells vs t p)) : g ≠ b := by
  obtain ⟨D, ⟨es, clock, hb, _⟩, _⟩ := h
  rintro rfl
  rw [r] at hb
  cases hb
theorem SetIs.new (w : World) : SetIs (w.alloc (.map #[] 0)) w.heap.size [] :=
  ⟨.map [], World.ownsMap_made _ _ _ _, List.nodup_nil, rfl, fun _ _ => by simp [Go.Maps.has]⟩
/-- 'v, ok := m[f]'. -/
theorem SetIs.look (h : SetIs w b R) {f : Int} (hf : Fits f) : (Instr.lookup 89 (.map (some b)) (.int .i64 f) true).run Try.prog w = .ok (.tuple #[.agg #[], .bool (decide (f ∈ R))]) w := by
  obtain ⟨D, h1, -, -, h3⟩ := h
  obtain ⟨v, ps, hr, hv⟩ := h1.look_ok keyLaw setT (zeroU w) unitElem_mk (keyOf_int hf)
  obtain ⟨rfl, -⟩ := unitElem_inv hv
  rw [hr, h3 f hf]
/-- 'm[f] = struct{}{}', of one that is not there. -/
theorem SetIs.put (h : SetIs w b R) (hn : R.length < 1000000) {f : Int} (hf : Fits f) (hR : f ∉ R) : ∃ w', (Instr.mapUpdate 89 (.map (some b)) (.int .i64 f) (.agg #[])).run Try.prog w = .ok () w' ∧ w.grownBy w' (some b) ∧ SetIs w' b (f :: R) := by
  obtain ⟨D, h1, hd, h2, h3⟩ := h
  obtain ⟨w', hr, g1, g2⟩ := h1.store keyLaw setT (by unfold maxLen; omega) (keyOf_int hf) (unitElem_mk (H := Unit))
  have hT := h1.tidy keyLaw
  have hs := Go.Maps.size_put (k := .int .i64 f) hT (.agg [])
  have hK : WideAt.IsKeyLit (.int .i64 f) := trivial
  have hno : Go.Maps.has D (.int .i64 f) = false := by rw [h3 f hf]; simpa using hR
  rw [hno, h2] at hs
  refine ⟨w', hr, g2.grown, D.put (.int .i64 f) (.agg []), g1, List.nodup_cons.2 ⟨hR, hd⟩, by simpa using hs, fun g hg => ?_⟩
  by_cases e : g = f
  · subst e
    rw [Go.Maps.has_put_same h1.isMap hK]; simp
  · rw [Go.Maps.has_put_other (lit_ne e), h3 g hg]; simp [e]
/-- 'delete(m, f)'. -/
theorem SetIs.drop (h : SetIs w b R) {f : Int} (hf : Fits f) (hR : f ∈ R) (ty : TypeId) : ∃ w', (Builtin.delete_ #[89, 3] ty #[.map (some b), .int .i64 f]).run Try.prog w = .ok (.tuple #[]) w' ∧ w.grownBy w' (some b) ∧ SetIs w' b (R.erase f) := by
  obtain ⟨D, h1, hd, h2, h3⟩ := h
  obtain ⟨w', hr, g1, g2⟩ := h1.drop keyLaw setT (keyOf_int hf) ty
  have hT := h1.tidy keyLaw
  have hs := Go.Maps.size_del (k := .int .i64 f) hT
  have hyes : Go.Maps.has D (.int .i64 f) = true := by rw [h3 f hf]; simpa using hR
  rw [hyes, h2] at hs
  have hl := List.length_erase_of_mem hR
  have hpos := List.length_pos_of_mem hR
  have hs' : Go.Maps.size (D.del (.int .i64 f)) = (R.erase f).length := by simp at hs; omega
  refine ⟨w', hr, g2.grown, D.del (.int .i64 f), ?_, hd.erase f, hs', fun g hg => ?_⟩
  · obtain ⟨es, clock, e1, e2, e3, e4⟩ := g1
    refine ⟨es, clock, e1, e2, ?_, e4⟩
    have e5 : es.size = Go.Maps.size (D.del (.int .i64 f)) := by rw [e4]; simp [Go.Maps.size, length_sorted]
    rw [e5, hs']
    exact Nat.le_refl _
  · by_cases e : g = f
    · subst e
      rw [Go.Maps.has_del_same]
      have : g ∉ R.erase g := fun hm => by rw [hd.mem_erase_iff] at hm; exact hm.1 rfl
      simpa using this
    · rw [Go.Maps.has_del_other (lit_ne e), h3 g hg]
      have : g ∈ R.erase f ↔ g ∈ R := by rw [hd.mem_erase_iff]; exact ⟨fun h => h.2, fun h => ⟨e, h⟩⟩
      simp [this]
end

/-- What a call leaves as it was: each block that is there, but for those of X. -/
structure Foot (X : Nat → Prop) (w w' : World) : Prop where
  os : w'.os = w.os
  tape : w'.tape = w.tape
  output : w'.output = w.output
  size : w.heap.size ≤ w'.heap.size
  keep : ∀ k, k < w.heap.size → ¬ X k → w'.heap[k]? = w.heap[k]?
section
variable {w w' w'' : World} {X Y : Nat → Prop} {g : Nat} {t : TypeId} {vs : List Value}
theorem Foot.refl (X : Nat → Prop) (w : World) : Foot X w w := ⟨rfl, rfl, rfl, Nat.le_refl _, fun _ _ _ => rfl⟩
theorem Foot.trans (h : Foot X w w') (k : Foot Y w' w'') (hy : ∀ b, Y b → b < w.heap.size → X b) : Foot X w w'' :=
  ⟨k.os.trans h.os, k.tape.trans h.tape, k.output.trans h.output, Nat.le_trans h.size k.size, fun i hi hx => (k.keep i (Nat.lt_of_lt_of_le hi h.size) (fun e => hx (hy i e hi))).trans (h.keep i hi hx)⟩
theorem Foot.of_below (h : Below w.heap.size w w') : Foot X w w' := ⟨h.os, h.tape, h.output, h.size, fun k hk _ => h.block k hk⟩
theorem Foot.grown {b : Nat} (h : w.grownBy w' (some b)) (hx : X b) : Foot X w w' := ⟨h.os, h.tape, h.output, h.size, fun k hk hn => h.block k hk (by intro e; injection e with e; subst e; exact hn hx)⟩
theorem Foot.row (h : Foot X w w') (r : Row w g t vs) (hx : ¬ X g) : Row w' g t vs := (h.keep g r.lt hx).trans r
theorem Foot.below {B : Nat} (h : Foot X w w') (hB : B ≤ w.heap.size) (hx : ∀ b, X b → B ≤ b) : Below B w w' := ⟨h.os, h.tape, h.output, h.size, fun k hk => h.keep k (by omega) (fun e => by have := hx k e; omega)⟩
theorem Foot.mono (h : Foot X w w') (hy : ∀ b, X b → Y b) : Foot Y w w' := ⟨h.os, h.tape, h.output, h.size, fun k hk hn => h.keep k hk (fun e => hn (hy k e))⟩
end

/-- Where tables lie: the memory's struct and row, the tables' struct, their set, the bag; rows of the bag lie from C on. -/
structure Seat where
  a : Nat
  b : Nat
  x : Nat
  m : Nat
  y : Nat
  C : Nat
def bagV (s : Seat) : Value := .iface 36 (.pointer (some ⟨s.y, 0, none⟩))
/-- The tables as they lie: the words of the memory, the bag's frames, the roots. -/
structure Tab (w : World) (s : Seat) (v : Value) (ws L R : List Int) : Prop where
  ram : RamAt w s.a s.b 104 4096 ws
  bag : BagAt w s.C s.y v L
  top : Row w s.x 91 [.pointer (some ⟨s.a, 0, none⟩), bagV s, .map (some s.m)]
  set : SetIs w s.m R
  yC : s.y < s.C
  Cw : s.C ≤ w.heap.size
/-- What they turn. -/
def Mine (s : Seat) (v : Value) (k : Nat) : Prop := k = s.b ∨ k = s.y ∨ k = s.m ∨ v.ownBlock = some k
structure Mv (s : Seat) (v : Value) (w : World) (v' : Value) (w' : World) : Prop where
  foot : Foot (Mine s v) w w'
  own : ∀ g, v'.ownBlock = some g → v.ownBlock = some g ∨ w.heap.size ≤ g
section
variable {w w' w'' : World} {s : Seat} {v v' v'' : Value} {ws L R : List Int} {g : Nat} {t : TypeId} {vs : List Value}
theorem Mv.refl (s : Seat) (v : Value) (w : World) : Mv s v w v w := ⟨Foot.refl _ _, fun _ h => Or.inl h⟩
theorem Mv.back (h : Mv s v w v' w') {k : Nat} (hk : k < w.heap.size) (hx : Mine s v' k) : Mine s v k := by
  rcases hx with e | e | e | e
  · exact Or.inl e
  · exact Or.inr (Or.inl e)
  · exact Or.inr (Or.inr (Or.inl e))
  · rcases h.own k e with e | e
    · exact Or.inr (Or.inr (Or.inr e))
    · omega
theorem Mv.trans (h : Mv s v w v' w') (k : Mv s v' w' v'' w'') : Mv s v w v'' w'' :=
  ⟨h.foot.trans k.foot fun b hb hl => h.back hl hb, fun g hg => by
    rcases k.own g hg with e | e
    · exact h.own g e
    · exact Or.inr (Nat.le_trans h.foot.size e)⟩
theorem Mv.of_below (h : Below w.heap.size w w') : Mv s v w v w' := ⟨Foot.of_below h, fun _ h => Or.inl h⟩
theorem Mv.size (h : Mv s v w v' w') : w.heap.size ≤ w'.heap.size := h.foot.size
theorem Mv.turned {k : Nat} (h : w.grownBy w' (some k)) (hk : Mine s v k) : Mv s v w v w' := ⟨Foot.grown h hk, fun _ h => Or.inl h⟩
/-- A cell in a block that is no block of theirs. -/
theorem Mv.cell (h : Mv s v w v' w') {p : Addr} (hp : p.block < w.heap.size) (hx : ¬ Mine s v p.block) : w'.cell? p = w.cell? p := World.cell?_of_block (h.foot.keep _ hp hx)
theorem Tab.call (h : Tab w s v ws L R) (hb : Below w.heap.size w w') : Tab w' s v ws L R :=
  ⟨h.ram.below hb h.ram.top.lt h.ram.row.lt, h.bag.call hb, h.top.below hb h.top.lt, h.set.heap (hb.block _ h.set.lt), h.yC, Nat.le_trans h.Cw hb.size⟩
theorem Tab.own (h : Tab w s v ws L R) {g : Nat} (hg : v.ownBlock = some g) : s.C ≤ g ∧ g < w.heap.size ∧ ∃ cur, w.heap[g]? = some (.cells cur 3 (0, 0)) := by
  have hl := h.bag.row.lt g hg
  refine ⟨hl.1, hl.2, ?_⟩
  rcases h.bag.row.2 with ⟨h1, _⟩ | ⟨g', cap, cur, h1, _, h3, _⟩
  · rw [h1] at hg; cases hg
  · rw [h1] at hg; injection hg with hg; subst hg; exact ⟨cur, h3⟩
theorem Tab.mine_lt (h : Tab w s v ws L R) {k : Nat} (hk : Mine s v k) : k < w.heap.size := by
  rcases hk with rfl | rfl | rfl | e
  · exact h.ram.row.lt
  · exact h.bag.top.lt
  · exact h.set.lt
  · exact (h.own e).2.1
/-- A block of another type is none of theirs. -/
theorem Tab.apart (h : Tab w s v ws L R) (r : Row w g t vs) (h1 : t ≠ 128) (h2 : t ≠ 46) (h3 : t ≠ 3) : ¬ Mine s v g := by
  rintro (e | e | e | e)
  · exact r.apart h.ram.row h1 e
  · exact r.apart h.bag.top h2 e
  · exact h.set.apart r e
  · obtain ⟨-, -, cur, hc⟩ := h.own e
    unfold Row at r
    rw [r] at hc
    injection hc with hc
    injection hc with _ hc
    exact h3 hc
theorem Tab.row (h : Tab w s v ws L R) (m : Mv s v w v' w') (r : Row w g t vs) (h1 : t ≠ 128) (h2 : t ≠ 46) (h3 : t ≠ 3) : Row w' g t vs := m.foot.row r (h.apart r h1 h2 h3)
/-- What is new is none of theirs. -/
theorem Tab.fresh (h : Tab w s v ws L R) (hg : w.heap.size ≤ g) : ¬ Mine s v g := fun e => by have := h.mine_lt e; omega
theorem Tab.below {B : Nat} (h : Tab w s v ws L R) (m : Mv s v w v' w') (hB : B ≤ w.heap.size) (hb : B ≤ s.b) (hy : B ≤ s.y) (hm : B ≤ s.m) : Below B w w' := m.foot.below hB fun k hk => by
  rcases hk with rfl | rfl | rfl | e
  · exact hb
  · exact hy
  · exact hm
  · have := (h.own e).1; have := h.yC; omega
/-! Lists of numbers that a call has laid itself. -/
/-- A list of numbers in memory, in none of their blocks. -/
structure Loc (w : World) (s : Seat) (v : Value) (A : Option Addr) (n : Nat) (l : List Int) : Prop where
  ints : IntsAt w w.heap.size A n l
  off : 0 < n → ∀ a, A = some a → ¬ Mine s v a.block
theorem Loc.nil (w : World) (s : Seat) (v : Value) (A : Option Addr) : Loc w s v A 0 [] := ⟨IntsAt.nil _ _ _, fun h => absurd h (Nat.lt_irrefl 0)⟩
theorem Loc.mv {A : Option Addr} {n : Nat} {l : List Int} (h : Loc w s v A n l) (m : Mv s v w v' w') : Loc w' s v' A n l := by
  refine ⟨⟨h.ints.len, fun h0 => ?_⟩, fun h0 a e hx => ?_⟩
  · obtain ⟨a, rfl, ha, hc⟩ := h.ints.at_ h0
    refine ⟨a, rfl, Nat.lt_of_lt_of_le ha m.size, fun j hj => ?_⟩
    have hb : (a.add j).block = a.block := by unfold Addr.add; split <;> rfl
    rw [m.cell (by rw [hb]; exact ha) (by rw [hb]; exact h.off h0 a rfl)]
    exact hc j hj
  · obtain ⟨a', e', ha, -⟩ := h.ints.at_ h0
    obtain rfl : a' = a := by rw [e] at e'; injection e' with e'; exact e'.symm
    exact h.off h0 a' e (m.back ha hx)
theorem Loc.new (h : Tab w s v ws L R) {A : Option Addr} {n : Nat} {l : List Int} (hi : IntsAt w' w'.heap.size A n l) (hn : ∀ g, A = some g → w.heap.size ≤ g.block) : Loc w' s v A n l :=
  ⟨hi, fun _ a e => h.fresh (hn a e)⟩
theorem Loc.cell {A : Option Addr} {n : Nat} {l : List Int} (h : Loc w s v A n l) {j : Nat} (hj : j < n) : ∃ a, A = some a ∧ a.block < w.heap.size ∧ w.cell? (a.add j) = some (.int .i64 (l.getD j 0)) := h.ints.cell hj
end
end Go.Proofs.Ytnlimecbbockoaa
