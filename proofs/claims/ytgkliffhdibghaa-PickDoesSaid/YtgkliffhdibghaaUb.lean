/- The reference's Put, Drop and First. -/
import Derived.Test.YtgkliffhdibghaaUa
namespace Go.Proofs.Ytgkliffhdibghaa
open Go.RowKit

theorem one_slice : Try.prog.underlying 26 = some (.slice 38) := by kernel_rfl
theorem info_one : (Try.prog.info? 38).map (fun i => (i.zero, i.size, i.bytes)) = some (some (.agg #[.int .i64 0, .int .i64 0]), 2, 16) := by kernel_rfl
/-- An appending whose run is known, as one step of a walk. -/
theorem wpList_append_run {P : Program} {w : World} {ops : Array Oper} {rest : List Oper} {o : Oper} {a : Act} {Q : Exit → Act → World → Prop}
    (hg : o.guard = none) (d x : Operand) (t : TypeId) (hop : o.op = Op.call { callee := Callee.builtin Builtin.append, args := #[d, x], argTypes := #[t, t] })
    (v u : Value) (hd : a.eval d = v) (hx : a.eval x = u) {v' : Value} {w' : World} (hr : (Builtin.append_ #[t, t] o.type #[v, u]).run P w = .ok v' w') (h : wpList P ops Q rest (a.put o.dst v') w') : wpList P ops Q (o :: rest) a w := by
  refine wpList_plain hg fun K' hK' => ?_
  unfold Oper.wp
  simp [execOp, hop, resolve, invoke, builtin, hd, hx, hr, Result.andThen]
  exact hK' _ _ h
theorem app_run0 {W : World} {C : Nat} {v : Value} {M : List It} (hC : C ≤ W.heap.size) (hown : W.ownsRow C 38 2 v M.length (pcells M)) (hM : M.length ≤ 6000) (x : It) : ∃ A c W3,
    (Builtin.append_ #[26, 26] 26 #[v, .slice (some ⟨W.heap.size, 0, none⟩) 1 1]).run Try.prog (W.alloc (.cells #[.int .i64 x.1, .int .i64 x.2] 38)) = .ok (.slice A (M.length + 1) c) W3 ∧
    W3.ownsRow C 38 2 (.slice A (M.length + 1) c) (M ++ [x]).length (pcells (M ++ [x])) ∧ W.grownBy W3 v.ownBlock ∧ ((Value.slice A (M.length + 1) c).ownBlock = v.ownBlock ∨ ∃ g, (Value.slice A (M.length + 1) c).ownBlock = some g ∧ W.heap.size ≤ g) := by
  obtain ⟨i0, hi0, hz0, hz1, hz2⟩ := info_parts info_one
  have ho := own_call hown ((Below.refl W.heap.size W).alloc (Nat.le_refl _) (.cells #[.int .i64 x.1, .int .i64 x.2] 38))
  obtain ⟨v1, W1, r1, o1, g1, -, t1⟩ := run_append_own_at (P := Try.prog) (w := W.alloc (.cells #[.int .i64 x.1, .int .i64 x.2] 38)) C 26 26 38 i0 (.agg #[.int .i64 0, .int .i64 0]) 2 16 one_slice hi0 hz0 hz1 hz2 rfl (by decide) v M.length _ ho ⟨W.heap.size, 0, none⟩ 1 1 [.int .i64 x.1, .int .i64 x.2] rfl (new_cells W 38 x.1 x.2) (two_one x.1 x.2) (by unfold maxLen; omega) (by omega) (by simp; omega)
  obtain ⟨A, c, hv⟩ := own_form o1
  subst hv
  refine ⟨A, c, W1, r1, ?_, ?_, ?_⟩
  · rw [List.length_append, pcells_append]
    simpa [pcells] using o1
  · have : W.grownBy (W.alloc (.cells #[.int .i64 x.1, .int .i64 x.2] 38)) v.ownBlock := ⟨rfl, rfl, rfl, by simp, fun i hi _ => Below.heap_alloc W _ i hi⟩
    exact this.trans g1
  · rcases t1 with e | e
    · exact Or.inl e
    · exact Or.inr ⟨_, e, by simp⟩
/-- What a call of the reference comes to. -/
def DidR (B : Nat) (w : World) (x : Nat) (rv : Value) (N : List It) (r : Value) (e : Ending) (w' : World) : Prop :=
  e = .returned r ∧ ∃ rv', RefX B w' x rv' N ∧ GrewR w w' x rv rv'
section
variable {w : World} {B x : Nat} {rv : Value} {N : List It}
theorem didR_same (h : RefX B w x rv N) (r : Value) : DidR B w x rv N r (.returned r) w := ⟨rfl, rv, h, GrewR.of_below (Below.refl _ _)⟩
theorem ref_set {g c k : Nat} {y : It} (h : RefX B w x (.slice (some ⟨g, 0, none⟩) N.length c) N) (hk : k < N.length) :
    RefX B ((w.setCell ⟨g, k * 2, none⟩ (.int .i64 y.1)).setCell ⟨g, k * 2 + 1, none⟩ (.int .i64 y.2)) x (.slice (some ⟨g, 0, none⟩) N.length c) (N.set k y) ∧
      GrewR w ((w.setCell ⟨g, k * 2, none⟩ (.int .i64 y.1)).setCell ⟨g, k * 2 + 1, none⟩ (.int .i64 y.2)) x (.slice (some ⟨g, 0, none⟩) N.length c) (.slice (some ⟨g, 0, none⟩) N.length c) := by
  obtain ⟨rest, hr, hB, hn, hc, hs⟩ := own_row h.own rfl
  have hr2 := (hr.set_ (k * 2) (.int .i64 y.1)).set_ (k * 2 + 1) (.int .i64 y.2)
  have hl := pcells_length N
  rw [List.set_append_left _ _ (by omega), List.set_append_left _ _ (by rw [List.length_set]; omega), ← pcells_set] at hr2
  have hg := grown_set' (grown_set w g (k * 2) (.int .i64 y.1)) (k * 2 + 1) (.int .i64 y.2)
  have hq : x ≠ g := h.top.apart hr (by decide)
  have e : Value.slice (some (⟨g, 0, none⟩ : Addr)) N.length c = Value.slice (some ⟨g, 0, none⟩) (N.set k y).length c := by rw [List.length_set]
  refine ⟨⟨h.top.grown hg (by simpa using hq), ?_, h.lx⟩, ⟨Foot.grown hg (Or.inr rfl), fun _ e => Or.inl e⟩⟩
  have h3 := own_of_row (n := (N.set k y).length) (c := c) hr2 hB (by rw [List.length_set]; exact hn) hc (pcells_length _) (by rw [pcells_length, List.length_set, ← pcells_length]; exact hs)
  rw [e]
  exact h3
set_option maxHeartbeats 2000000 in
theorem refPut_any (h : RefX B w x rv N) (hl : N.length ≤ 5000) (hd : Dst N) (f v : Int) :
    Calls Try.prog 12 #[.pointer (some ⟨x, 0, none⟩), .int .i64 f, .int .i64 v] w (DidR B w x rv (putL N f v) (.int .i64 (putE f))) := by
  have H := Lib.hid h
  by_cases hB : frB f = true
  · have hf : 0 ≤ f ∧ f ≤ 1023 := by simpa [frB] using hB
    have h0 : 0 ≤ f := hf.1
    have h1 : f ≤ 1023 := hf.2
    have e1 := Lib.hid (show putE f = 0 by simp [putE, hB])
    have HA := Lib.hid (refAt_any h (by omega) f)
    by_cases hh : hasF N f = true
    · have hk := ix_lt.2 hh
      have e2 := Lib.hid (And.intro (show atI N f = (ix N f : Int) by simp [atI, hh]) (show putL N f v = N.set (ix N f) (f, v) by rw [putL_in hB hh, map_set hd hk (ix_at hh)]))
      rw [e2.out.2, e1.out]
      rw [e2.out.1] at HA
      generalize ix N f = k at hk HA ⊢
      obtain ⟨A, c, e⟩ := own_form h.own
      subst e
      obtain ⟨g, hA, hgl, hfz, hit⟩ := h.items (by omega)
      subst hA
      obtain ⟨a1, a2⟩ := hit k hk
      have hc := h.c0
      have za1 := hfz (k * 2)
      have za2 := hfz (k * 2 + 1)
      have k0 : (0 : Int) ≤ k := by omega
      have kl : (k : Int) < N.length := by omega
      have HZ := Lib.hid (ref_set (y := (f, v)) h hk)
      generalize N.length = n at *
      clear hB hf hh hit hfz h hd hl e1 e2 H hk
      go_enter Try.func12, Try.ntmps12
      go_wp2_with (go_at_call 19; refine Calls.mono HA.out ?_; rintro e w' ⟨rfl, rfl⟩)
      go_ret
      exact ⟨rfl, _, HZ.out.1, HZ.out.2⟩
    · have hno : hasF N f = false := by simpa using hh
      have e2 := Lib.hid (And.intro (show atI N f = -1 by simp [atI, hno]) (putL_new (w := v) hB hno))
      rw [e2.out.2, e1.out]
      rw [e2.out.1] at HA
      have hc := h.c0
      obtain ⟨A5, c5, W5, r5, o5, g5, t5⟩ := app_run0 h.lB h.own (by omega) (f, v)
      obtain ⟨q1, q2, q3⟩ := h.laid g5 o5
      replace q2 : GrewR w _ x rv _ := ⟨q2, at_of t5⟩
      have hc5 : W5.cell? ⟨x, 0, none⟩ = some rv := q3.cell 0
      have hz5 := q3.frozen 0
      have HZ := Lib.hid (And.intro q1 q2)
      obtain ⟨A, c, e⟩ := own_form h.own
      subst e
      have hxl := h.top.lt
      have hxn : ¬ x = w.heap.size := by omega
      generalize N.length = n at *
      clear hB hf hh hno h hd hl e1 e2 H q1 q2 q3 o5 g5 t5
      go_enter Try.func12, Try.ntmps12
      go_wp2_with (first | (go_at_call 19; refine Calls.mono HA.out ?_; rintro e w' ⟨rfl, rfl⟩) | (at_builtin; refine wpList_append_run rfl _ _ 26 rfl (.slice A n c) (.slice (some ⟨w.heap.size, 0, none⟩) 1 1) rfl rfl r5 ?_))
      go_ret
      exact ⟨rfl, _, HZ.out.1, HZ.out.2⟩
  · have hB' : frB f = false := by simpa using hB
    have e1 := Lib.hid (And.intro (putL_no (N := N) (w := v) hB') (show putE f = 3 by simp [putE, hB']))
    rw [e1.out.1, e1.out.2]
    by_cases hneg : f < 0
    · clear hB hB' h hd hl
      go_enter Try.func12, Try.ntmps12
      go_wp2
      go_ret
      exact didR_same H.out _
    · have h0 : 0 ≤ f := by omega
      have h1 : 1023 < f := by
        rcases Int.lt_or_le 1023 f with g | g
        · exact g
        · exact absurd (show frB f = true by simp [frB]; omega) hB
      clear hB hB' h hd hl hneg
      go_enter Try.func12, Try.ntmps12
      go_wp2
      go_ret
      exact didR_same H.out _
end
end Go.Proofs.Ytgkliffhdibghaa
