/- The contracts of Walk, Path, and Mark without a memory. -/
import Derived.Test.YtpcpcgbejinlmaaMg18
import Derived.Test.YtpcpcgbejinlmaaMg12
import Derived.Deep.QuietTactic
import Derived.BigQuiet
import Derived.IntWalk
import Derived.StillTailTactics
import Derived.Deep.RegionHeld3
import Derived.WalkSmall
namespace Go.Proofs.Ytpcpcgbejinlmaa
open Go.RowKit
section
variable {w : World} {a b n : Nat} {T : TypeId} {ws : List Int}
theorem follow_any (h : RamAt w a b T n ws) (root p : Int) : Calls Try.prog 23 #[.pointer (some ⟨a, 0, none⟩), .int .i64 root, .int .i64 p] w (Trail w (fol ws root p) p) := by
  unfold fol
  by_cases hi : inT n root 0 = true
  · by_cases hp : 0 ≤ p ∧ p ≤ 4095
    · rw [if_pos ⟨by rw [h.len]; exact hi, hp⟩]
      exact follow_in h root p hi hp
    · rw [if_neg (fun k => hp k.2)]
      exact follow_page h root p hi hp
  · simp only [Bool.not_eq_true] at hi
    rw [if_neg (fun k => by rw [h.len, hi] at k; cases k.1)]
    exact follow_root h root p hi
end
def leafE (r : Fd) (p : Int) : Value := .agg #[.int .i64 (lfF r), .bool (lfB r 0), .bool (lfB r 1), .bool (lfB r 7), .bool (lfB r 9), .bool (lfB r 5), .bool (lfB r 6), .int .i64 (lfV r), .int .i64 (lfP r p)]
theorem below_leaf {B g : Nat} {w w' : World} {x0 x1 x2 x3 x4 x5 x6 x7 x8 : Value} (h : Below B w w') (hg : B ≤ g) :
    Below B w (((((((((w'.setCell ⟨g, 0, none⟩ x0).setCell ⟨g, 1, none⟩ x1).setCell ⟨g, 2, none⟩ x2).setCell ⟨g, 3, none⟩ x3).setCell ⟨g, 4, none⟩ x4).setCell ⟨g, 5, none⟩ x5).setCell ⟨g, 6, none⟩ x6).setCell ⟨g, 7, none⟩ x7).setCell ⟨g, 8, none⟩ x8) :=
  ((((((((h.setCell hg _).setCell hg _).setCell hg _).setCell hg _).setCell hg _).setCell hg _).setCell hg _).setCell hg _).setCell hg _
def WalkAns (w : World) (r : Fd) (p : Int) (e : Ending) (w' : World) : Prop := e = .returned (.tuple #[leafE r p, .int .i64 r.er]) ∧ Below w.heap.size w w'
def PathNew (w : World) (r : Fd) (e : Ending) (w' : World) : Prop := ∃ A m c, e = .returned (.tuple #[.slice A m c, .int .i64 r.er]) ∧ IntsAt w' w'.heap.size A m r.ts ∧ Below w.heap.size w w' ∧ (∀ g, A = some g → w.heap.size ≤ g.block) ∧ m ≤ c
def PathAns (w : World) (r : Fd) (e : Ending) (w' : World) : Prop := ∃ A m c, e = .returned (.tuple #[.slice A m c, .int .i64 r.er]) ∧ IntsAt w' w'.heap.size A m r.ts ∧ Below w.heap.size w w'
set_option maxHeartbeats 1600000 in
theorem walk_of (w : World) (po : Option Addr) (root p : Int) (r : Fd) (hfol : ∀ w1, Below w.heap.size w w1 → Calls Try.prog 23 #[.pointer po, .int .i64 root, .int .i64 p] w1 (Trail w1 r p)) :
    Calls Try.prog 9 #[.pointer po, .int .i64 root, .int .i64 p] w (WalkAns w r p) := by
  have HF := Lib.hid hfol
  clear hfol
  go_enter Try.func9, Try.ntmps9
  go_wp2_with fail
  refine (HF.out _ ((Below.refl _ _).alloc (Nat.le_refl _) _)).mono ?_
  rintro e w2 ⟨A, m, c, rfl, -, hb, -⟩
  have r2 := (Row.new w 30 [.int .i64 0, .bool false, .bool false, .bool false, .bool false, .bool false, .bool false, .int .i64 0, .int .i64 0]).below hb (by simp)
  have B2 := (below_new w 30 [.int .i64 0, .bool false, .bool false, .bool false, .bool false, .bool false, .bool false, .int .i64 0, .int .i64 0]).trans (hb.mono (by simp))
  obtain ⟨f, ef⟩ : ∃ y, y = lfF r := ⟨_, rfl⟩
  obtain ⟨y0, ey0⟩ : ∃ y, y = lfB r 0 := ⟨_, rfl⟩
  obtain ⟨y1, ey1⟩ : ∃ y, y = lfB r 1 := ⟨_, rfl⟩
  obtain ⟨y7, ey7⟩ : ∃ y, y = lfB r 7 := ⟨_, rfl⟩
  obtain ⟨y9, ey9⟩ : ∃ y, y = lfB r 9 := ⟨_, rfl⟩
  obtain ⟨y5, ey5⟩ : ∃ y, y = lfB r 5 := ⟨_, rfl⟩
  obtain ⟨y6, ey6⟩ : ∃ y, y = lfB r 6 := ⟨_, rfl⟩
  obtain ⟨lv, elv⟩ : ∃ y, y = lfV r := ⟨_, rfl⟩
  obtain ⟨fr, efr⟩ : ∃ y, y = lfP r p := ⟨_, rfl⟩
  rw [← ef, ← ey0, ← ey1, ← ey7, ← ey9, ← ey5, ← ey6, ← elv, ← efr]
  have HE : Hid (leafE r p = .agg #[.int .i64 f, .bool y0, .bool y1, .bool y7, .bool y9, .bool y5, .bool y6, .int .i64 lv, .int .i64 fr]) := by
    show _ = _
    rw [ef, ey0, ey1, ey7, ey9, ey5, ey6, elv, efr]; rfl
  obtain ⟨w3, hw3⟩ : ∃ w3, w3 = w2.alloc (.cells #[.slice A m c, .int .i64 r.sl, .int .i64 f, .bool y0, .bool y1, .bool y7, .bool y9, .bool y5, .bool y6, .int .i64 lv, .int .i64 fr] 70) := ⟨_, rfl⟩
  have r3 : Row w3 w.heap.size 30 [.int .i64 0, .bool false, .bool false, .bool false, .bool false, .bool false, .bool false, .int .i64 0, .int .i64 0] := hw3 ▸ r2.alloc _
  have q3 : Row w3 w2.heap.size 70 [.slice A m c, .int .i64 r.sl, .int .i64 f, .bool y0, .bool y1, .bool y7, .bool y9, .bool y5, .bool y6, .int .i64 lv, .int .i64 fr] := hw3 ▸ Row.new w2 _ _
  have B3 : Hid (Below w.heap.size w w3) := hw3 ▸ B2.alloc B2.size _
  have hne : ¬ w.heap.size = w2.heap.size := Nat.ne_of_lt r2.lt
  have hne2 : ¬ w2.heap.size = w.heap.size := fun e => hne e.symm
  have HW := Lib.hid hw3
  have c0 : w3.cell? ⟨w.heap.size, 0, none⟩ = some (.int .i64 0) := r3.cell 0
  have c1 : w3.cell? ⟨w.heap.size, 1, none⟩ = some (.bool false) := r3.cell 1
  have c2 : w3.cell? ⟨w.heap.size, 2, none⟩ = some (.bool false) := r3.cell 2
  have c3 : w3.cell? ⟨w.heap.size, 3, none⟩ = some (.bool false) := r3.cell 3
  have c4 : w3.cell? ⟨w.heap.size, 4, none⟩ = some (.bool false) := r3.cell 4
  have c5 : w3.cell? ⟨w.heap.size, 5, none⟩ = some (.bool false) := r3.cell 5
  have c6 : w3.cell? ⟨w.heap.size, 6, none⟩ = some (.bool false) := r3.cell 6
  have c7 : w3.cell? ⟨w.heap.size, 7, none⟩ = some (.int .i64 0) := r3.cell 7
  have c8 : w3.cell? ⟨w.heap.size, 8, none⟩ = some (.int .i64 0) := r3.cell 8
  have cf : ∀ o, w3.frozen? ⟨w.heap.size, o, none⟩ = false := fun o => r3.frozen o
  have d2 : w3.cell? ⟨w2.heap.size, 2, none⟩ = some (.int .i64 f) := q3.cell 2
  have d3 : w3.cell? ⟨w2.heap.size, 3, none⟩ = some (.bool y0) := q3.cell 3
  have d4 : w3.cell? ⟨w2.heap.size, 4, none⟩ = some (.bool y1) := q3.cell 4
  have d5 : w3.cell? ⟨w2.heap.size, 5, none⟩ = some (.bool y7) := q3.cell 5
  have d6 : w3.cell? ⟨w2.heap.size, 6, none⟩ = some (.bool y9) := q3.cell 6
  have d7 : w3.cell? ⟨w2.heap.size, 7, none⟩ = some (.bool y5) := q3.cell 7
  have d8 : w3.cell? ⟨w2.heap.size, 8, none⟩ = some (.bool y6) := q3.cell 8
  have d9 : w3.cell? ⟨w2.heap.size, 9, none⟩ = some (.int .i64 lv) := q3.cell 9
  have d10 : w3.cell? ⟨w2.heap.size, 10, none⟩ = some (.int .i64 fr) := q3.cell 10
  clear hb B2 r2 hw3 r3 q3 HF ef ey0 ey1 ey7 ey9 ey5 ey6 elv efr
  go_upto_region 2 with (fail)
  rw [← HW.out]
  go_wp2_with fail
  exact bodyPost_ret (v := .tuple #[.agg #[.int .i64 f, .bool y0, .bool y1, .bool y7, .bool y9, .bool y5, .bool y6, .int .i64 lv, .int .i64 fr], .int .i64 r.er]) (by simp [results, Try.results9, go_sem, *]) rfl ⟨by rw [HE.out], below_leaf B3.out (Nat.le_refl _)⟩
theorem path_of (w : World) (po : Option Addr) (root p : Int) (r : Fd) (hfol : ∀ w1, Below w.heap.size w w1 → Calls Try.prog 23 #[.pointer po, .int .i64 root, .int .i64 p] w1 (Trail w1 r p)) :
    Calls Try.prog 47 #[.pointer po, .int .i64 root, .int .i64 p] w (PathNew w r) := by
  have HF := Lib.hid hfol
  clear hfol
  go_enter Try.func47, Try.ntmps47
  go_wp2_with fail
  refine (HF.out _ (Below.refl _ _)).mono ?_
  rintro e w2 ⟨A, m, c, rfl, hi, hb, hn⟩
  have HNW := Lib.hid hn
  clear hn
  have HI := Lib.hid hi
  have HB := Lib.hid hb
  clear hi hb HF
  go_wp2_with fail
  go_ret2
  exact ⟨A, m, c, rfl, HI.out.call (below_new _ _ _), HB.out.alloc HB.out.size _, HNW.out⟩
section
variable {w : World} {a b n : Nat} {T : TypeId} {ws : List Int}
theorem walk_any (h : RamAt w a b T n ws) (root p : Int) : Calls Try.prog 9 #[.pointer (some ⟨a, 0, none⟩), .int .i64 root, .int .i64 p] w (WalkAns w (fol ws root p) p) :=
  walk_of w _ root p _ fun _ hb => follow_any (h.below hb h.top.lt h.row.lt) root p
theorem path_new (h : RamAt w a b T n ws) (root p : Int) : Calls Try.prog 47 #[.pointer (some ⟨a, 0, none⟩), .int .i64 root, .int .i64 p] w (PathNew w (fol ws root p)) :=
  path_of w _ root p _ fun _ hb => follow_any (h.below hb h.top.lt h.row.lt) root p
end
end Go.Proofs.Ytpcpcgbejinlmaa
/- The bag of frames that the laws of package table give: Get and Put. -/
namespace Go.Proofs.Ytpcpcgbejinlmaa
open Go.RowKit
structure BagAt (w : World) (C x : Nat) (v : Value) (L : List Int) : Prop where
  top : Row w x 46 [v]
  row : w.ownsRow C 3 1 v L.length (L.map (Value.int .i64))
  len : L.length ≤ 5000
theorem info_int8 : (Try.prog.info? 3).map (fun i => (i.zero, i.size, i.bytes)) = some (some (.int .i64 0), 1, 8) := by kernel_rfl
theorem drewN_b8 (w : World) (n : Nat) : Below w.heap.size w (w.drewN n) := ⟨rfl, rfl, rfl, Nat.le_refl _, fun _ _ => rfl⟩
theorem wpList_append_run8 {P : Program} {w : World} {ops : Array Oper} {rest : List Oper} {o : Oper} {a : Act} {Q : Exit → Act → World → Prop}
    (hg : o.guard = none) (d x : Operand) (t : TypeId) (hop : o.op = Op.call { callee := Callee.builtin Builtin.append, args := #[d, x], argTypes := #[t, t] })
    (v u : Value) (hd : a.eval d = v) (hx : a.eval x = u) {v' : Value} {w' : World} (hr : (Builtin.append_ #[t, t] o.type #[v, u]).run P w = .ok v' w') (h : wpList P ops Q rest (a.put o.dst v') w') : wpList P ops Q (o :: rest) a w := by
  refine wpList_plain hg fun K' hK' => ?_
  unfold Oper.wp
  simp [execOp, hop, resolve, invoke, builtin, hd, hx, hr, Result.andThen]
  exact hK' _ _ h
section
variable {w : World} {C x : Nat} {v : Value} {L : List Int}
theorem BagAt.call {w' : World} (h : BagAt w C x v L) (hb : Below w.heap.size w w') : BagAt w' C x v L := ⟨h.top.below hb h.top.lt, own_call h.row hb, h.len⟩
set_option maxHeartbeats 1000000 in
theorem bagGet_none (h : BagAt w C x v []) : Calls Try.prog 112 #[.pointer (some ⟨x, 0, none⟩)] w fun e w' => e = .returned (.tuple #[.int .i64 0, .int .i64 8]) ∧ w = w' := by
  obtain ⟨A, c, rfl⟩ := own_form h.row
  have hc : w.cell? ⟨x, 0, none⟩ = some (.slice A 0 c) := h.top.cell 0
  clear h
  go_enter Try.func112, Try.ntmps112
  go_wp2
  go_ret2
  exact ⟨rfl, rfl⟩
set_option maxRecDepth 100000 in
set_option maxHeartbeats 1000000 in
theorem bagGet_some (f : Int) (h : BagAt w C x v (L ++ [f])) (hx : x < C) : Calls Try.prog 112 #[.pointer (some ⟨x, 0, none⟩)] w fun e w' => e = .returned (.tuple #[.int .i64 f, .int .i64 0]) ∧ ∃ v', BagAt w' C x v' L ∧ w.grownBy w' (some x) ∧ v'.ownBlock = v.ownBlock := by
  have hL := h.len
  rw [List.length_append, List.length_singleton] at hL
  obtain ⟨n, hn⟩ : ∃ n, n = L.length := ⟨_, rfl⟩
  have hrow := h.row
  rw [List.length_append, List.length_singleton, List.map_append] at hrow
  obtain ⟨g, c, rfl⟩ : ∃ g c, v = .slice (some ⟨g, 0, none⟩) (L.length + 1) c := by
    obtain ⟨A, c, rfl⟩ := own_form hrow
    rcases hrow.2 with ⟨_, h2⟩ | ⟨g, cap, cur, h1, _⟩
    · omega
    · injection h1 with h1; exact ⟨g, c, by rw [h1]⟩
  have hc : w.cell? ⟨x, 0, none⟩ = some (.slice (some ⟨g, 0, none⟩) (n + 1) c) := by rw [hn]; exact h.top.cell 0
  have hf : w.cell? ⟨g, n, none⟩ = some (.int .i64 f) := by
    have := hrow.cellAt n (by omega)
    rw [this, hn, List.getElem?_append_right (by simp)]; simp
  have hfz := h.top.frozen 0
  have HT := Lib.hid h.top
  have HR := Lib.hid hrow
  have HN := Lib.hid hn
  have hcap : n + 1 ≤ c ∧ c ≤ maxLen := by
    rcases hrow.2 with ⟨h1, _⟩ | ⟨g', cap, cur, h1, _, _, h3, h4, _⟩
    · cases h1
    · injection h1 with _ _ h1; rw [h1]; exact ⟨by omega, h4⟩
  have hn5 : n ≤ 5000 := by omega
  have hgx : g ≠ x := by have := (hrow.lt g rfl).1; omega
  clear h hrow hL hn
  obtain ⟨hc1, hc2⟩ := hcap
  have hcB : (c : Int) ≤ 9223372036854775807 := by unfold maxLen at hc2; omega
  clear hc2
  have s3 : IntKind.i64.wrap (n : Int) = (n : Int) := IntWalk.i64_in _ (by omega)
  have hnc : (n : Int) ≤ c := by omega
  go_enter Try.func112, Try.ntmps112
  go_wp2_with fail
  go_quiet (fail)
  have hc' : (w.drewN nq).cell? ⟨x, 0, none⟩ = some (.slice (some ⟨g, 0, none⟩) (n + 1) c) := hc
  have hfz' : (w.drewN nq).frozen? ⟨x, 0, none⟩ = false := hfz
  obtain ⟨w1, ew⟩ : ∃ w1, w1 = w.drewN nq := ⟨_, rfl⟩
  rw [← ew] at hc' hfz' ⊢
  have HW := Lib.hid ew
  clear ew hc hf hfz
  go_wp2_with fail
  go_still_tail 14, (by kernel_rfl)
  change wpList _ _ _ _ _ w1.drew
  obtain ⟨w2, e2⟩ : ∃ w2, w2 = w1.drew := ⟨_, rfl⟩
  have hc2 : w2.cell? ⟨x, 0, none⟩ = some (.slice (some ⟨g, 0, none⟩) (n + 1) c) := e2 ▸ hc'
  have hfz2 : w2.frozen? ⟨x, 0, none⟩ = false := e2 ▸ hfz'
  have HT2 : Hid (Row w2 x 46 [.slice (some ⟨g, 0, none⟩) (L.length + 1) c]) := by rw [e2, HW.out]; exact HT.out
  have HR2 : Hid (w2.ownsRow C 3 1 (.slice (some ⟨g, 0, none⟩) (L.length + 1) c) (L.length + 1) (L.map (Value.int .i64) ++ [f].map (Value.int .i64))) := by rw [e2, HW.out]; exact HR.out
  have HG2 : Hid (w.grownBy w2 (some x)) := by rw [e2, HW.out]; exact grown_of_below (drewN_b8 _ _).drew
  rw [← e2]
  clear e2 hc' hfz' HW
  go_wp2_with fail
  go_ret2
  refine ⟨rfl, .slice (some ⟨g, 0, none⟩) n c, ⟨HT2.out.set_ 0 _, ?_, by rw [← HN.out]; exact hn5⟩, grown_trans1 HG2.out (grown_set _ _ _ _), rfl⟩
  have := ownsRow_pop (by simp) HR2.out
  rw [HN.out]
  exact ownsRow_setCell_below this (a := ⟨x, 0, none⟩) hx _
set_option maxHeartbeats 1000000 in
theorem bagPut_any (h : BagAt w C x v L) (hx : x < C) (hC : C ≤ w.heap.size) (hL : L.length < 5000) (f : Int) : Calls Try.prog 113 #[.pointer (some ⟨x, 0, none⟩), .int .i64 f] w fun e w' => e = .returned (.tuple #[]) ∧ ∃ v', BagAt w' C x v' (L ++ [f]) ∧ (∀ g, g < w.heap.size → g ≠ x → some g ≠ v.ownBlock → w'.heap[g]? = w.heap[g]?) ∧ w.heap.size ≤ w'.heap.size ∧ w'.os = w.os ∧ w'.tape = w.tape ∧ w'.output = w.output ∧ ∀ g, v'.ownBlock = some g → v.ownBlock = some g ∨ w.heap.size ≤ g := by
  obtain ⟨A, c, rfl⟩ := own_form h.row
  obtain ⟨n, hn⟩ : ∃ n, n = L.length := ⟨_, rfl⟩
  have hc : w.cell? ⟨x, 0, none⟩ = some (.slice A n c) := by rw [hn]; exact h.top.cell 0
  have hrow := h.row
  obtain ⟨i0, hi0, hz0, hz1, hz2⟩ := info_parts info_int8
  have ho := hrow.alloc (.cells #[.int .i64 f] 3)
  have hnew : ∀ (i : Nat) (u : Value), [Value.int .i64 f][i]? = some u → (w.alloc (.cells #[.int .i64 f] 3)).cell? ((⟨w.heap.size, 0, none⟩ : Addr).add i) = some u := fun i u hu => by
    rw [add_zero_off, (Row.new w _ [Value.int .i64 f]).cell]; exact hu
  have hone : ∀ u ∈ [Value.int .i64 f], u.oneCell' = true := by
    intro u hu; simp at hu; rw [hu]; rfl
  obtain ⟨v1, W1, r1, o1, g1, -, t1⟩ := run_append_own_at (P := Try.prog) (w := w.alloc (.cells #[.int .i64 f] 3)) C 44 44 3 i0 (.int .i64 0) 1 8 Try.underlying44 hi0 hz0 hz1 hz2 rfl (by decide) _ L.length _ ho ⟨w.heap.size, 0, none⟩ 1 1 [.int .i64 f] rfl hnew hone (by unfold maxLen; omega) (by omega) (by simp; omega)
  obtain ⟨A1, c1, rfl⟩ := own_form o1
  have hne : some x ≠ (Value.slice A L.length c).ownBlock := fun e => by have := (hrow.lt _ e.symm).1; omega
  have hg : w.grownBy W1 (Value.slice A L.length c).ownBlock := (World.grownBy_alloc w _ _).trans g1
  have T1 := Lib.hid (h.top.grown hg hne)
  have hc1 : W1.cell? ⟨x, 0, none⟩ = some (.slice A n c) := by rw [hn]; exact T1.out.cell 0
  have hf1 : W1.frozen? ⟨x, 0, none⟩ = false := T1.out.frozen 0
  have HG := Lib.hid hg
  have O1 := Lib.hid o1
  have HLL := Lib.hid hL
  rw [← hn] at r1 HG O1 ⊢
  have HN := Lib.hid hn
  have HOW : Hid (∀ g, (Value.slice A1 (n + 1) c1).ownBlock = some g → (Value.slice A n c).ownBlock = some g ∨ w.heap.size ≤ g) := by
    intro g hg0
    rw [← hn] at t1
    rcases t1 with t1 | t1
    · left; exact t1.symm.trans hg0
    · right
      have h2 := t1.symm.trans hg0
      injection h2 with h2
      rw [← h2]; simp
  clear h hn hrow ho hnew hone o1 g1 t1 hg hne hi0 hz0 hz1 hz2 hL
  go_enter Try.func113, Try.ntmps113
  go_wp2_with (at_builtin; refine wpList_append_run8 rfl _ _ 44 rfl (.slice A n c) (.slice (some ⟨w.heap.size, 0, none⟩) 1 1) rfl rfl r1 ?_)
  go_end0
  refine ⟨rfl, .slice A1 (n + 1) c1, ⟨T1.out.set_ 0 _, ?_, by rw [List.length_append]; have := HLL.out; simp; omega⟩, fun b hb h1 h2 => ?_, ?_, HG.out.os, HG.out.tape, HG.out.output, HOW.out⟩
  · have := O1.out
    rw [List.length_append, List.map_append, ← HN.out]
    exact ownsRow_setCell_below this (a := ⟨x, 0, none⟩) hx _
  · exact (Below.heap_setCell W1 _ _ b h1).trans (HG.out.block b hb h2)
  · have := HG.out.size; simpa [World.setCell] using this
end
end Go.Proofs.Ytpcpcgbejinlmaa
