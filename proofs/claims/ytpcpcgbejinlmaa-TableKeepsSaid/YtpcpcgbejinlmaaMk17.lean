/- The bag of frames that the laws of package table give: Get and Put. -/
import Derived.Test.YtpcpcgbejinlmaaMk16
import Derived.Deep.QuietTactic
import Derived.BigQuiet
import Derived.IntWalk
import Derived.StillTailTactics
import Derived.Deep.RegionHeld3
import Derived.WalkSmall
import Derived.Test.YtpcpcgbejinlmaaMk04
import Derived.Maps.OwnSet
namespace Go.Proofs.Ytpcpcgbejinlmaa
open Go.RowKit
structure BagAt (w : World) (C x : Nat) (v : Value) (L : List Int) : Prop where
  top : Row w x 46 [v]
  row : w.ownsRow C 3 1 v L.length (L.map (Value.int .i64))
  len : L.length ≤ 5000
theorem info_int8 : (Try.prog.info? 3).map (fun i => (i.zero, i.size, i.bytes)) = some (some (.int .i64 0), 1, 8) := by kernel_rfl
theorem drewN_b8 (w : World) (n : Nat) : Below w.heap.size w (w.drewN n) := ⟨rfl, rfl, rfl, Nat.le_refl _, fun _ _ => rfl⟩
theorem wpList_append_run8 {P : Program} {w : World} {ops : Array Oper} {rest : List Oper} {o : Oper} {a : Act} {Q : Exit → Act → World → Prop}
    (hg : o.guard = none) (d x : Operand) (t : TypeId) (hop : o.op = Op.call { callee := Callee.builtin Builtin.append, args := #[d, x], argTypes := #[t, t] })
    (v u : Value) (hd : a.eval d = v) (hx : a.eval x = u) {v' : Value} {w' : World} (hr : (Builtin.append_ #[t, t] o.type #[v, u]).run P w = .ok v' w') (h : wpList P ops Q rest (a.put o.dst v') w') : wpList P ops Q (o :: rest) a w := by
  refine wpList_plain hg fun K' hK' => ?_
  unfold Oper.wp
  simp [execOp, hop, resolve, invoke, builtin, hd, hx, hr, Result.andThen]
  exact hK' _ _ h
section
variable {w : World} {C x : Nat} {v : Value} {L : List Int}
theorem BagAt.call {w' : World} (h : BagAt w C x v L) (hb : Below w.heap.size w w') : BagAt w' C x v L := ⟨h.top.below hb h.top.lt, own_call h.row hb, h.len⟩
set_option maxHeartbeats 1000000 in
theorem bagGet_none (h : BagAt w C x v []) : Calls Try.prog 112 #[.pointer (some ⟨x, 0, none⟩)] w fun e w' => e = .returned (.tuple #[.int .i64 0, .int .i64 8]) ∧ w = w' := by
  obtain ⟨A, c, rfl⟩ := own_form h.row
  have hc : w.cell? ⟨x, 0, none⟩ = some (.slice A 0 c) := h.top.cell 0
  clear h
  go_enter Try.func112, Try.ntmps112
  go_wp2
  go_ret2
  exact ⟨rfl, rfl⟩
set_option maxRecDepth 100000 in
set_option maxHeartbeats 1000000 in
theorem bagGet_some (f : Int) (h : BagAt w C x v (L ++ [f])) (hx : x < C) : Calls Try.prog 112 #[.pointer (some ⟨x, 0, none⟩)] w fun e w' => e = .returned (.tuple #[.int .i64 f, .int .i64 0]) ∧ ∃ v', BagAt w' C x v' L ∧ w.grownBy w' (some x) ∧ v'.ownBlock = v.ownBlock := by
  have hL := h.len
  rw [List.length_append, List.length_singleton] at hL
  obtain ⟨n, hn⟩ : ∃ n, n = L.length := ⟨_, rfl⟩
  have hrow := h.row
  rw [List.length_append, List.length_singleton, List.map_append] at hrow
  obtain ⟨g, c, rfl⟩ : ∃ g c, v = .slice (some ⟨g, 0, none⟩) (L.length + 1) c := by
    obtain ⟨A, c, rfl⟩ := own_form hrow
    rcases hrow.2 with ⟨_, h2⟩ | ⟨g, cap, cur, h1, _⟩
    · omega
    · injection h1 with h1; exact ⟨g, c, by rw [h1]⟩
  have hc : w.cell? ⟨x, 0, none⟩ = some (.slice (some ⟨g, 0, none⟩) (n + 1) c) := by rw [hn]; exact h.top.cell 0
  have hf : w.cell? ⟨g, n, none⟩ = some (.int .i64 f) := by
    have := hrow.cellAt n (by omega)
    rw [this, hn, List.getElem?_append_right (by simp)]; simp
  have hfz := h.top.frozen 0
  have HT := Lib.hid h.top
  have HR := Lib.hid hrow
  have HN := Lib.hid hn
  have hcap : n + 1 ≤ c ∧ c ≤ maxLen := by
    rcases hrow.2 with ⟨h1, _⟩ | ⟨g', cap, cur, h1, _, _, h3, h4, _⟩
    · cases h1
    · injection h1 with _ _ h1; rw [h1]; exact ⟨by omega, h4⟩
  have hn5 : n ≤ 5000 := by omega
  have hgx : g ≠ x := by have := (hrow.lt g rfl).1; omega
  clear h hrow hL hn
  obtain ⟨hc1, hc2⟩ := hcap
  have hcB : (c : Int) ≤ 9223372036854775807 := by unfold maxLen at hc2; omega
  clear hc2
  have s3 : IntKind.i64.wrap (n : Int) = (n : Int) := IntWalk.i64_in _ (by omega)
  have hnc : (n : Int) ≤ c := by omega
  go_enter Try.func112, Try.ntmps112
  go_wp2_with fail
  go_quiet (fail)
  have hc' : (w.drewN nq).cell? ⟨x, 0, none⟩ = some (.slice (some ⟨g, 0, none⟩) (n + 1) c) := hc
  have hfz' : (w.drewN nq).frozen? ⟨x, 0, none⟩ = false := hfz
  obtain ⟨w1, ew⟩ : ∃ w1, w1 = w.drewN nq := ⟨_, rfl⟩
  rw [← ew] at hc' hfz' ⊢
  have HW := Lib.hid ew
  clear ew hc hf hfz
  go_wp2_with fail
  go_still_tail 14, (by kernel_rfl)
  change wpList _ _ _ _ _ w1.drew
  obtain ⟨w2, e2⟩ : ∃ w2, w2 = w1.drew := ⟨_, rfl⟩
  have hc2 : w2.cell? ⟨x, 0, none⟩ = some (.slice (some ⟨g, 0, none⟩) (n + 1) c) := e2 ▸ hc'
  have hfz2 : w2.frozen? ⟨x, 0, none⟩ = false := e2 ▸ hfz'
  have HT2 : Hid (Row w2 x 46 [.slice (some ⟨g, 0, none⟩) (L.length + 1) c]) := by rw [e2, HW.out]; exact HT.out
  have HR2 : Hid (w2.ownsRow C 3 1 (.slice (some ⟨g, 0, none⟩) (L.length + 1) c) (L.length + 1) (L.map (Value.int .i64) ++ [f].map (Value.int .i64))) := by rw [e2, HW.out]; exact HR.out
  have HG2 : Hid (w.grownBy w2 (some x)) := by rw [e2, HW.out]; exact grown_of_below (drewN_b8 _ _).drew
  rw [← e2]
  clear e2 hc' hfz' HW
  go_wp2_with fail
  go_ret2
  refine ⟨rfl, .slice (some ⟨g, 0, none⟩) n c, ⟨HT2.out.set_ 0 _, ?_, by rw [← HN.out]; exact hn5⟩, grown_trans1 HG2.out (grown_set _ _ _ _), rfl⟩
  have := ownsRow_pop (by simp) HR2.out
  rw [HN.out]
  exact ownsRow_setCell_below this (a := ⟨x, 0, none⟩) hx _
set_option maxHeartbeats 1000000 in
theorem bagPut_any (h : BagAt w C x v L) (hx : x < C) (hC : C ≤ w.heap.size) (hL : L.length < 5000) (f : Int) : Calls Try.prog 113 #[.pointer (some ⟨x, 0, none⟩), .int .i64 f] w fun e w' => e = .returned (.tuple #[]) ∧ ∃ v', BagAt w' C x v' (L ++ [f]) ∧ (∀ g, g < w.heap.size → g ≠ x → some g ≠ v.ownBlock → w'.heap[g]? = w.heap[g]?) ∧ w.heap.size ≤ w'.heap.size ∧ w'.os = w.os ∧ w'.tape = w.tape ∧ w'.output = w.output ∧ ∀ g, v'.ownBlock = some g → v.ownBlock = some g ∨ w.heap.size ≤ g := by
  obtain ⟨A, c, rfl⟩ := own_form h.row
  obtain ⟨n, hn⟩ : ∃ n, n = L.length := ⟨_, rfl⟩
  have hc : w.cell? ⟨x, 0, none⟩ = some (.slice A n c) := by rw [hn]; exact h.top.cell 0
  have hrow := h.row
  obtain ⟨i0, hi0, hz0, hz1, hz2⟩ := info_parts info_int8
  have ho := hrow.alloc (.cells #[.int .i64 f] 3)
  have hnew : ∀ (i : Nat) (u : Value), [Value.int .i64 f][i]? = some u → (w.alloc (.cells #[.int .i64 f] 3)).cell? ((⟨w.heap.size, 0, none⟩ : Addr).add i) = some u := fun i u hu => by
    rw [add_zero_off, (Row.new w _ [Value.int .i64 f]).cell]; exact hu
  have hone : ∀ u ∈ [Value.int .i64 f], u.oneCell' = true := by
    intro u hu; simp at hu; rw [hu]; rfl
  obtain ⟨v1, W1, r1, o1, g1, -, t1⟩ := run_append_own_at (P := Try.prog) (w := w.alloc (.cells #[.int .i64 f] 3)) C 44 44 3 i0 (.int .i64 0) 1 8 Try.underlying44 hi0 hz0 hz1 hz2 rfl (by decide) _ L.length _ ho ⟨w.heap.size, 0, none⟩ 1 1 [.int .i64 f] rfl hnew hone (by unfold maxLen; omega) (by omega) (by simp; omega)
  obtain ⟨A1, c1, rfl⟩ := own_form o1
  have hne : some x ≠ (Value.slice A L.length c).ownBlock := fun e => by have := (hrow.lt _ e.symm).1; omega
  have hg : w.grownBy W1 (Value.slice A L.length c).ownBlock := (World.grownBy_alloc w _ _).trans g1
  have T1 := Lib.hid (h.top.grown hg hne)
  have hc1 : W1.cell? ⟨x, 0, none⟩ = some (.slice A n c) := by rw [hn]; exact T1.out.cell 0
  have hf1 : W1.frozen? ⟨x, 0, none⟩ = false := T1.out.frozen 0
  have HG := Lib.hid hg
  have O1 := Lib.hid o1
  have HLL := Lib.hid hL
  rw [← hn] at r1 HG O1 ⊢
  have HN := Lib.hid hn
  have HOW : Hid (∀ g, (Value.slice A1 (n + 1) c1).ownBlock = some g → (Value.slice A n c).ownBlock = some g ∨ w.heap.size ≤ g) := by
    intro g hg0
    rw [← hn] at t1
    rcases t1 with t1 | t1
    · left; exact t1.symm.trans hg0
    · right
      have h2 := t1.symm.trans hg0
      injection h2 with h2
      rw [← h2]; simp
  clear h hn hrow ho hnew hone o1 g1 t1 hg hne hi0 hz0 hz1 hz2 hL
  go_enter Try.func113, Try.ntmps113
  go_wp2_with (at_builtin; refine wpList_append_run8 rfl _ _ 44 rfl (.slice A n c) (.slice (some ⟨w.heap.size, 0, none⟩) 1 1) rfl rfl r1 ?_)
  go_end0
  refine ⟨rfl, .slice A1 (n + 1) c1, ⟨T1.out.set_ 0 _, ?_, by rw [List.length_append]; have := HLL.out; simp; omega⟩, fun b hb h1 h2 => ?_, ?_, HG.out.os, HG.out.tape, HG.out.output, HOW.out⟩
  · have := O1.out
    rw [List.length_append, List.map_append, ← HN.out]
    exact ownsRow_setCell_below this (a := ⟨x, 0, none⟩) hx _
  · exact (Below.heap_setCell W1 _ _ b h1).trans (HG.out.block b hb h2)
  · have := HG.out.size; simpa [World.setCell] using this
end
end Go.Proofs.Ytpcpcgbejinlmaa
/- The state of package table as it lies in memory: the set of its roots, its struct, the memory, the bag; what a call may turn. -/
namespace Go.Proofs.Ytpcpcgbejinlmaa
open Go.RowKit
theorem keyLaw : Go.Maps.Keyed Try.prog 3 := Go.Maps.int_keyed (q := .i64) (by kernel_rfl)
theorem intT : Try.prog.underlying 3 = some (.int .i64) := by kernel_rfl
theorem setT : Try.prog.underlying 88 = some (.map 3 103) := by kernel_rfl
theorem zeroU (w : World) : (zeroValue 103).run Try.prog w = .ok (.agg #[]) w := by kernel_rfl
theorem i64_wf {n : Int} (h : -9223372036854775808 ≤ n ∧ n ≤ 9223372036854775807) : (Lit.int .i64 n).wf = true := WalkArith.wf_i64 h
def Fits (n : Int) : Prop := -9223372036854775808 ≤ n ∧ n ≤ 9223372036854775807
theorem keyOf_int {f : Int} (hf : Fits f) : keyOf Try.prog 3 (.int .i64 f) = some (.int .i64 f) := Go.Maps.keyOf_int_mk intT (i64_wf hf)
theorem lit_ne {f g : Int} (h : g ≠ f) : (Lit.int .i64 g) ≠ (Lit.int .i64 f) := fun e => h (by injection e)
def SetIs (w : World) (b : Nat) (R : List Int) : Prop :=
  ∃ D : DataW Unit, w.ownsMap Try.prog 3 unitElem b R.length D ∧ R.Nodup ∧ Go.Maps.size D = R.length ∧ ∀ f, Fits f → Go.Maps.has D (.int .i64 f) = decide (f ∈ R)
section
variable {w w' : World} {b : Nat} {R : List Int}
theorem SetIs.heap (h : SetIs w b R) (hk : w'.heap[b]? = w.heap[b]?) : SetIs w' b R := by
  obtain ⟨D, ⟨es, clock, hb, r⟩, h2⟩ := h
  exact ⟨D, ⟨es, clock, hk.trans hb, r⟩, h2⟩
theorem SetIs.lt (h : SetIs w b R) : b < w.heap.size := by obtain ⟨D, h1, _⟩ := h; exact h1.lt
theorem SetIs.apart (h : SetIs w b R) {g : Nat} {t : TypeId} {vs : Array Value} {p : Nat × Nat} (r : w.heap[g]? = some (.cells vs t p)) : g ≠ b := by
  obtain ⟨D, ⟨es, clock, hb, _⟩, _⟩ := h
  rintro rfl
  rw [r] at hb
  cases hb
theorem SetIs.new (w : World) : SetIs (w.alloc (.map #[] 0)) w.heap.size [] :=
  ⟨.map [], World.ownsMap_made _ _ _ _, List.nodup_nil, rfl, fun _ _ => by simp [Go.Maps.has]⟩
theorem SetIs.look (h : SetIs w b R) {f : Int} (hf : Fits f) : (Instr.lookup 88 (.map (some b)) (.int .i64 f) true).run Try.prog w = .ok (.tuple #[.agg #[], .bool (decide (f ∈ R))]) w := by
  obtain ⟨D, h1, -, -, h3⟩ := h
  obtain ⟨v, ps, hr, hv⟩ := h1.look_ok keyLaw setT (zeroU w) unitElem_mk (keyOf_int hf)
  obtain ⟨rfl, -⟩ := unitElem_inv hv
  rw [hr, h3 f hf]
theorem SetIs.put (h : SetIs w b R) (hn : R.length < 1000000) {f : Int} (hf : Fits f) (hR : f ∉ R) : ∃ w', (Instr.mapUpdate 88 (.map (some b)) (.int .i64 f) (.agg #[])).run Try.prog w = .ok () w' ∧ w.grownBy w' (some b) ∧ SetIs w' b (f :: R) := by
  obtain ⟨D, h1, hd, h2, h3⟩ := h
  obtain ⟨w', hr, g1, g2⟩ := h1.store keyLaw setT (by unfold maxLen; omega) (keyOf_int hf) (unitElem_mk (H := Unit))
  have hT := h1.tidy keyLaw
  have hs := Go.Maps.size_put (k := .int .i64 f) hT (.agg [])
  have hK : WideAt.IsKeyLit (.int .i64 f) := trivial
  have hno : Go.Maps.has D (.int .i64 f) = false := by rw [h3 f hf]; simpa using hR
  rw [hno, h2] at hs
  refine ⟨w', hr, g2.grown, D.put (.int .i64 f) (.agg []), g1, List.nodup_cons.2 ⟨hR, hd⟩, by simpa using hs, fun g hg => ?_⟩
  by_cases e : g = f
  · subst e
    rw [Go.Maps.has_put_same h1.isMap hK]; simp
  · rw [Go.Maps.has_put_other (lit_ne e), h3 g hg]; simp [e]
end
structure Foot (X : Nat → Prop) (w w' : World) : Prop where
  os : w'.os = w.os
  tape : w'.tape = w.tape
  output : w'.output = w.output
  size : w.heap.size ≤ w'.heap.size
  keep : ∀ k, k < w.heap.size → ¬ X k → w'.heap[k]? = w.heap[k]?
section
variable {w w' w'' : World} {X Y : Nat → Prop} {g : Nat} {t : TypeId} {vs : List Value}
theorem Foot.refl (X : Nat → Prop) (w : World) : Foot X w w := ⟨rfl, rfl, rfl, Nat.le_refl _, fun _ _ _ => rfl⟩
theorem Foot.trans (h : Foot X w w') (k : Foot Y w' w'') (hy : ∀ b, Y b → b < w.heap.size → X b) : Foot X w w'' :=
  ⟨k.os.trans h.os, k.tape.trans h.tape, k.output.trans h.output, Nat.le_trans h.size k.size, fun i hi hx => (k.keep i (Nat.lt_of_lt_of_le hi h.size) (fun e => hx (hy i e hi))).trans (h.keep i hi hx)⟩
theorem Foot.of_below (h : Below w.heap.size w w') : Foot X w w' := ⟨h.os, h.tape, h.output, h.size, fun k hk _ => h.block k hk⟩
theorem Foot.grown {b : Nat} (h : w.grownBy w' (some b)) (hx : X b) : Foot X w w' := ⟨h.os, h.tape, h.output, h.size, fun k hk hn => h.block k hk (by intro e; injection e with e; subst e; exact hn hx)⟩
theorem Foot.row (h : Foot X w w') (r : Row w g t vs) (hx : ¬ X g) : Row w' g t vs := (h.keep g r.lt hx).trans r
theorem Foot.below {B : Nat} (h : Foot X w w') (hB : B ≤ w.heap.size) (hx : ∀ b, X b → B ≤ b) : Below B w w' := ⟨h.os, h.tape, h.output, h.size, fun k hk => h.keep k (by omega) (fun e => by have := hx k e; omega)⟩
theorem Foot.mono (h : Foot X w w') (hy : ∀ b, X b → Y b) : Foot Y w w' := ⟨h.os, h.tape, h.output, h.size, fun k hk hn => h.keep k hk (fun e => hn (hy k e))⟩
end
structure Seat where
  a : Nat
  b : Nat
  x : Nat
  m : Nat
  y : Nat
  C : Nat
def bagV (s : Seat) : Value := .iface 36 (.pointer (some ⟨s.y, 0, none⟩))
structure Tab (w : World) (s : Seat) (v : Value) (ws L R : List Int) : Prop where
  ram : RamAt w s.a s.b 102 4096 ws
  bag : BagAt w s.C s.y v L
  top : Row w s.x 90 [.pointer (some ⟨s.a, 0, none⟩), bagV s, .map (some s.m)]
  set : SetIs w s.m R
  yC : s.y < s.C
  Cw : s.C ≤ w.heap.size
def Mine (s : Seat) (v : Value) (k : Nat) : Prop := k = s.b ∨ k = s.y ∨ k = s.m ∨ v.ownBlock = some k
structure Mv (s : Seat) (v : Value) (w : World) (v' : Value) (w' : World) : Prop where
  foot : Foot (Mine s v) w w'
  own : ∀ g, v'.ownBlock = some g → v.ownBlock = some g ∨ w.heap.size ≤ g
section
variable {w w' w'' : World} {s : Seat} {v v' v'' : Value} {ws L R : List Int} {g : Nat} {t : TypeId} {vs : List Value}
theorem Mv.refl (s : Seat) (v : Value) (w : World) : Mv s v w v w := ⟨Foot.refl _ _, fun _ h => Or.inl h⟩
theorem Mv.back (h : Mv s v w v' w') {k : Nat} (hk : k < w.heap.size) (hx : Mine s v' k) : Mine s v k := by
  rcases hx with e | e | e | e
  · exact Or.inl e
  · exact Or.inr (Or.inl e)
  · exact Or.inr (Or.inr (Or.inl e))
  · rcases h.own k e with e | e
    · exact Or.inr (Or.inr (Or.inr e))
    · omega
theorem Mv.trans (h : Mv s v w v' w') (k : Mv s v' w' v'' w'') : Mv s v w v'' w'' :=
  ⟨h.foot.trans k.foot fun b hb hl => h.back hl hb, fun g hg => by
    rcases k.own g hg with e | e
    · exact h.own g e
    · exact Or.inr (Nat.le_trans h.foot.size e)⟩
theorem Mv.of_below (h : Below w.heap.size w w') : Mv s v w v w' := ⟨Foot.of_below h, fun _ h => Or.inl h⟩
theorem Mv.size (h : Mv s v w v' w') : w.heap.size ≤ w'.heap.size := h.foot.size
theorem Mv.turned {k : Nat} (h : w.grownBy w' (some k)) (hk : Mine s v k) : Mv s v w v w' := ⟨Foot.grown h hk, fun _ h => Or.inl h⟩
theorem Mv.cell (h : Mv s v w v' w') {p : Addr} (hp : p.block < w.heap.size) (hx : ¬ Mine s v p.block) : w'.cell? p = w.cell? p := World.cell?_of_block (h.foot.keep _ hp hx)
theorem Tab.call (h : Tab w s v ws L R) (hb : Below w.heap.size w w') : Tab w' s v ws L R :=
  ⟨h.ram.below hb h.ram.top.lt h.ram.row.lt, h.bag.call hb, h.top.below hb h.top.lt, h.set.heap (hb.block _ h.set.lt), h.yC, Nat.le_trans h.Cw hb.size⟩
theorem Tab.own (h : Tab w s v ws L R) {g : Nat} (hg : v.ownBlock = some g) : s.C ≤ g ∧ g < w.heap.size ∧ ∃ cur, w.heap[g]? = some (.cells cur 3 (0, 0)) := by
  have hl := h.bag.row.lt g hg
  refine ⟨hl.1, hl.2, ?_⟩
  rcases h.bag.row.2 with ⟨h1, _⟩ | ⟨g', cap, cur, h1, _, h3, _⟩
  · rw [h1] at hg; cases hg
  · rw [h1] at hg; injection hg with hg; subst hg; exact ⟨cur, h3⟩
theorem Tab.mine_lt (h : Tab w s v ws L R) {k : Nat} (hk : Mine s v k) : k < w.heap.size := by
  rcases hk with rfl | rfl | rfl | e
  · exact h.ram.row.lt
  · exact h.bag.top.lt
  · exact h.set.lt
  · exact (h.own e).2.1
theorem Tab.apart (h : Tab w s v ws L R) (r : Row w g t vs) (h1 : t ≠ 127) (h2 : t ≠ 46) (h3 : t ≠ 3) : ¬ Mine s v g := by
  rintro (e | e | e | e)
  · exact r.apart h.ram.row h1 e
  · exact r.apart h.bag.top h2 e
  · exact h.set.apart r e
  · obtain ⟨-, -, cur, hc⟩ := h.own e
    unfold Row at r
    rw [r] at hc
    injection hc with hc
    injection hc with _ hc
    exact h3 hc
theorem Tab.row (h : Tab w s v ws L R) (m : Mv s v w v' w') (r : Row w g t vs) (h1 : t ≠ 127) (h2 : t ≠ 46) (h3 : t ≠ 3) : Row w' g t vs := m.foot.row r (h.apart r h1 h2 h3)
theorem Tab.fresh (h : Tab w s v ws L R) (hg : w.heap.size ≤ g) : ¬ Mine s v g := fun e => by have := h.mine_lt e; omega
theorem Tab.below {B : Nat} (h : Tab w s v ws L R) (m : Mv s v w v' w') (hB : B ≤ w.heap.size) (hb : B ≤ s.b) (hy : B ≤ s.y) (hm : B ≤ s.m) : Below B w w' := m.foot.below hB fun k hk => by
  rcases hk with rfl | rfl | rfl | e
  · exact hb
  · exact hy
  · exact hm
  · have := (h.own e).1; have := h.yC; omega
structure Loc (w : World) (s : Seat) (v : Value) (A : Option Addr) (n : Nat) (l : List Int) : Prop where
  ints : IntsAt w w.heap.size A n l
  off : 0 < n → ∀ a, A = some a → ¬ Mine s v a.block
theorem Loc.nil (w : World) (s : Seat) (v : Value) (A : Option Addr) : Loc w s v A 0 [] := ⟨IntsAt.nil _ _ _, fun h => absurd h (Nat.lt_irrefl 0)⟩
theorem Loc.mv {A : Option Addr} {n : Nat} {l : List Int} (h : Loc w s v A n l) (m : Mv s v w v' w') : Loc w' s v' A n l := by
  refine ⟨⟨h.ints.len, fun h0 => ?_⟩, fun h0 a e hx => ?_⟩
  · obtain ⟨a, rfl, ha, hc⟩ := h.ints.at_ h0
    refine ⟨a, rfl, Nat.lt_of_lt_of_le ha m.size, fun j hj => ?_⟩
    have hb : (a.add j).block = a.block := by unfold Addr.add; split <;> rfl
    rw [m.cell (by rw [hb]; exact ha) (by rw [hb]; exact h.off h0 a rfl)]
    exact hc j hj
  · obtain ⟨a', e', ha, -⟩ := h.ints.at_ h0
    obtain rfl : a' = a := by rw [e] at e'; injection e' with e'; exact e'.symm
    exact h.off h0 a' e (m.back ha hx)
theorem Loc.new (h : Tab w s v ws L R) {A : Option Addr} {n : Nat} {l : List Int} (hi : IntsAt w' w'.heap.size A n l) (hn : ∀ g, A = some g → w.heap.size ≤ g.block) : Loc w' s v A n l :=
  ⟨hi, fun _ a e => h.fresh (hn a e)⟩
theorem Loc.cell {A : Option Addr} {n : Nat} {l : List Int} (h : Loc w s v A n l) {j : Nat} (hj : j < n) : ∃ a, A = some a ∧ a.block < w.heap.size ∧ w.cell? (a.add j) = some (.int .i64 (l.getD j 0)) := h.ints.cell hj
end
end Go.Proofs.Ytpcpcgbejinlmaa
