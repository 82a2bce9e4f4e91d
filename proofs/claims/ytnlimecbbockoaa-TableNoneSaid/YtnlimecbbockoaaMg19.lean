/- The bag of frames that the laws of package table give: Get and Put. -/
import Derived.Test.YtnlimecbbockoaaMg18
import Derived.Deep.QuietTactic
import Derived.BigQuiet
import Derived.IntWalk
import Derived.StillTailTactics
import Derived.Deep.RegionHeld3
import Derived.WalkSmall
namespace Go.Proofs.Ytnlimecbbockoaa
open Go.RowKit
/-- A bag as it lies: its struct in block x, its frames in a row of its own. -/
structure BagAt (w : World) (C x : Nat) (v : Value) (L : List Int) : Prop where
  top : Row w x 46 [v]
  row : w.ownsRow C 3 1 v L.length (L.map (Value.int .i64))
  len : L.length ≤ 5000
theorem info_int8 : (Try.prog.info? 3).map (fun i => (i.zero, i.size, i.bytes)) = some (some (.int .i64 0), 1, 8) := by kernel_rfl
theorem drewN_b8 (w : World) (n : Nat) : Below w.heap.size w (w.drewN n) := ⟨rfl, rfl, rfl, Nat.le_refl _, fun _ _ => rfl⟩
/-- An appending whose run is known, as one step of a walk. -/
theorem wpList_append_run8 {P : Program} {w : World} {ops : Array Oper} {rest : List Oper} {o : Oper} {a : Act} {Q : Exit → Act → World → Prop}
    (hg : o.guard = none) (d x : Operand) (t : TypeId) (hop : o.op = Op.call { callee := Callee.builtin Builtin.append, args := #[d, x], argTypes := #[t, t] })
    (v u : Value) (hd : a.eval d = v) (hx : a.eval x = u) {v' : Value} {w' : World} (hr : (Builtin.append_ #[t, t] o.type #[v, u]).run P w = .ok v' w') (h : wpList P ops Q rest (a.put o.dst v') w') : wpList P ops Q (o :: rest) a w := by
  refine wpList_plain hg fun K' hK' => ?_
  unfold Oper.wp
  simp [execOp, hop, resolve, invoke, builtin, hd, hx, hr, Result.andThen]
  exact hK' _ _ h
section
variable {w : World} {C x : Nat} {v : Value} {L : List Int}
theorem BagAt.call {w' : World} (h : BagAt w C x v L) (hb : Below w.heap.size w w') : BagAt w' C x v L := ⟨h.top.below hb h.top.lt, own_call h.row hb, h.len⟩
set_option maxHeartbeats 1000000 in
theorem bagGet_none (h : BagAt w C x v []) : Calls Try.prog 114 #[.pointer (some ⟨x, 0, none⟩)] w fun e w' => e = .returned (.tuple #[.int .i64 0, .int .i64 8]) ∧ w = w' := by
  obtain ⟨A, c, rfl⟩ := own_form h.row
  have hc : w.cell? ⟨x, 0, none⟩ = some (.slice A 0 c) := h.top.cell 0
  clear h
  go_enter Try.func114, Try.ntmps114
  go_wp2
  go_ret2
  exact ⟨rfl, rfl⟩
set_option maxRecDepth 100000 in
set_option maxHeartbeats 1000000 in
theorem bagGet_some (f : Int) (h : BagAt w C x v (L ++ [f])) (hx : x < C) : Calls Try.prog 114 #[.pointer (some ⟨x, 0, none⟩)] w fun e w' => e = .returned (.tuple #[.int .i64 f, .int .i64 0]) ∧ ∃ v', BagAt w' C x v' L ∧ w.grownBy w' (some x) ∧ v'.ownBlock = v.ownBlock := by
  have hL := h.len
  rw [List.length_append, List.length_singleton] at hL
  obtain ⟨n, hn⟩ : ∃ n, n = L.length := ⟨_, rfl⟩
  have hrow := h.row
  rw [List.length_append, List.length_singleton, List.map_append] at hrow
  obtain ⟨g, c, rfl⟩ : ∃ g c, v = .slice (some ⟨g, 0, none⟩) (L.length + 1) c := by
    obtain ⟨A, c, rfl⟩ := own_form hrow
    rcases hrow.2 with ⟨_, h2⟩ | ⟨g, cap, cur, h1, _⟩
    · omega
    · injection h1 with h1; exact ⟨g, c, by rw [h1]⟩
  have hc : w.cell? ⟨x, 0, none⟩ = some (.slice (some ⟨g, 0, none⟩) (n + 1) c) := by rw [hn]; exact h.top.cell 0
  have hf : w.cell? ⟨g, n, none⟩ = some (.int .i64 f) := by
    have := hrow.cellAt n (by omega)
    rw [this, hn, List.getElem?_append_right (by simp)]; simp
  have hfz := h.top.frozen 0
  have HT := Lib.hid h.top
  have HR := Lib.hid hrow
  have HN := Lib.hid hn
  have hcap : n + 1 ≤ c ∧ c ≤ maxLen := by
    rcases hrow.2 with ⟨h1, _⟩ | ⟨g', cap, cur, h1, _, _, h3, h4, _⟩
    · cases h1
    · injection h1 with _ _ h1; rw [h1]; exact ⟨by omega, h4⟩
  have hn5 : n ≤ 5000 := by omega
  have hgx : g ≠ x := by have := (hrow.lt g rfl).1; omega
  clear h hrow hL hn
  obtain ⟨hc1, hc2⟩ := hcap
  have hcB : (c : Int) ≤ 9223372036854775807 := by unfold maxLen at hc2; omega
  clear hc2
  have s3 : IntKind.i64.wrap (n : Int) = (n : Int) := IntWalk.i64_in _ (by omega)
  have hnc : (n : Int) ≤ c := by omega
  go_enter Try.func114, Try.ntmps114
  go_wp2_with fail
  go_quiet (fail)
  have hc' : (w.drewN nq).cell? ⟨x, 0, none⟩ = some (.slice (some ⟨g, 0, none⟩) (n + 1) c) := hc
  have hfz' : (w.drewN nq).frozen? ⟨x, 0, none⟩ = false := hfz
  obtain ⟨w1, ew⟩ : ∃ w1, w1 = w.drewN nq := ⟨_, rfl⟩
  rw [← ew] at hc' hfz' ⊢
  have HW := Lib.hid ew
  clear ew hc hf hfz
  go_wp2_with fail
  go_still_tail 14, (by kernel_rfl)
  change wpList _ _ _ _ _ w1.drew
  obtain ⟨w2, e2⟩ : ∃ w2, w2 = w1.drew := ⟨_, rfl⟩
  have hc2 : w2.cell? ⟨x, 0, none⟩ = some (.slice (some ⟨g, 0, none⟩) (n + 1) c) := e2 ▸ hc'
  have hfz2 : w2.frozen? ⟨x, 0, none⟩ = false := e2 ▸ hfz'
  have HT2 : Hid (Row w2 x 46 [.slice (some ⟨g, 0, none⟩) (L.length + 1) c]) := by rw [e2, HW.out]; exact HT.out
  have HR2 : Hid (w2.ownsRow C 3 1 (.slice (some ⟨g, 0, none⟩) (L.length + 1) c) (L.length + 1) (L.map (Value.int .i64) ++ [f].map (Value.int .i64))) := by rw [e2, HW.out]; exact HR.out
  have HG2 : Hid (w.grownBy w2 (some x)) := by rw [e2, HW.out]; exact grown_of_below (drewN_b8 _ _).drew
  rw [← e2]
  clear e2 hc' hfz' HW
  go_wp2_with fail
  go_ret2
  refine ⟨rfl, .slice (some ⟨g, 0, none⟩) n c, ⟨HT2.out.set_ 0 _, ?_, by rw [← HN.out]; exact hn5⟩, grown_trans1 HG2.out (grown_set _ _ _ _), rfl⟩
  have := ownsRow_pop (by simp) HR2.out
  rw [HN.out]
  exact ownsRow_setCell_below this (a := ⟨x, 0, none⟩) hx _
set_option maxHeartbeats 1000000 in
theorem bagPut_any (h : BagAt w C x v L) (hx : x < C) (hC : C ≤ w.heap.size) (hL : L.length < 5000) (f : Int) : Calls Try.prog 115 #[.pointer (some ⟨x, 0, none⟩), .int .i64 f] w fun e w' => e = .returned (.tuple #[]) ∧ ∃ v', BagAt w' C x v' (L ++ [f]) ∧ (∀ g, g < w.heap.size → g ≠ x → some g ≠ v.ownBlock → w'.heap[g]? = w.heap[g]?) ∧ w.heap.size ≤ w'.heap.size ∧ w'.os = w.os ∧ w'.tape = w.tape ∧ w'.output = w.output ∧ ∀ g, v'.ownBlock = some g → v.ownBlock = some g ∨ w.heap.size ≤ g := by
  obtain ⟨A, c, rfl⟩ := own_form h.row
  obtain ⟨n, hn⟩ : ∃ n, n = L.length := ⟨_, rfl⟩
  have hc : w.cell? ⟨x, 0, none⟩ = some (.slice A n c) := by rw [hn]; exact h.top.cell 0
  have hrow := h.row
  obtain ⟨i0, hi0, hz0, hz1, hz2⟩ := info_parts info_int8
  have ho := hrow.alloc (.cells #[.int .i64 f] 3)
  have hnew : ∀ (i : Nat) (u : Value), [Value.int .i64 f][i]? = some u → (w.alloc (.cells #[.int .i64 f] 3)).cell? ((⟨w.heap.size, 0, none⟩ : Addr).add i) = some u := fun i u hu => by
    rw [add_zero_off, (Row.new w _ [Value.int .i64 f]).cell]; exact hu
  have hone : ∀ u ∈ [Value.int .i64 f], u.oneCell' = true := by
    intro u hu; simp at hu; rw [hu]; rfl
  obtain ⟨v1, W1, r1, o1, g1, -, t1⟩ := run_append_own_at (P := Try.prog) (w := w.alloc (.cells #[.int .i64 f] 3)) C 44 44 3 i0 (.int .i64 0) 1 8 Try.underlying44 hi0 hz0 hz1 hz2 rfl (by decide) _ L.length _ ho ⟨w.heap.size, 0, none⟩ 1 1 [.int .i64 f] rfl hnew hone (by unfold maxLen; omega) (by omega) (by simp; omega)
  obtain ⟨A1, c1, rfl⟩ := own_form o1
  have hne : some x ≠ (Value.slice A L.length c).ownBlock := fun e => by have := (hrow.lt _ e.symm).1; omega
  have hg : w.grownBy W1 (Value.slice A L.length c).ownBlock := (World.grownBy_alloc w _ _).trans g1
  have T1 := Lib.hid (h.top.grown hg hne)
  have hc1 : W1.cell? ⟨x, 0, none⟩ = some (.slice A n c) := by rw [hn]; exact T1.out.cell 0
  have hf1 : W1.frozen? ⟨x, 0, none⟩ = false := T1.out.frozen 0
  have HG := Lib.hid hg
  have O1 := Lib.hid o1
  have HLL := Lib.hid hL
  rw [← hn] at r1 HG O1 ⊢
  have HN := Lib.hid hn
  have HOW : Hid (∀ g, (Value.slice A1 (n + 1) c1).ownBlock = some g → (Value.slice A n c).ownBlock = some g ∨ w.heap.size ≤ g) := by
    intro g hg0
    rw [← hn] at t1
    rcases t1 with t1 | t1
    · left; exact t1.symm.trans hg0
    · right
      have h2 := t1.symm.trans hg0
      injection h2 with h2
      rw [← h2]; simp
  clear h hn hrow ho hnew hone o1 g1 t1 hg hne hi0 hz0 hz1 hz2 hL
  go_enter Try.func115, Try.ntmps115
  go_wp2_with (at_builtin; refine wpList_append_run8 rfl _ _ 44 rfl (.slice A n c) (.slice (some ⟨w.heap.size, 0, none⟩) 1 1) rfl rfl r1 ?_)
  go_end0
  refine ⟨rfl, .slice A1 (n + 1) c1, ⟨T1.out.set_ 0 _, ?_, by rw [List.length_append]; have := HLL.out; simp; omega⟩, fun b hb h1 h2 => ?_, ?_, HG.out.os, HG.out.tape, HG.out.output, HOW.out⟩
  · have := O1.out
    rw [List.length_append, List.map_append, ← HN.out]
    exact ownsRow_setCell_below this (a := ⟨x, 0, none⟩) hx _
  · exact (Below.heap_setCell W1 _ _ b h1).trans (HG.out.block b hb h2)
  · have := HG.out.size; simpa [World.setCell] using this
end
end Go.Proofs.Ytnlimecbbockoaa
