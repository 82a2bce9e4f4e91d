/- The reference of reservations: turn, Fill, Clear. -/
import Derived.Test.YtfalmjibpkkjaaaA1
namespace Go.Proofs.Ytfalmjibpkkjaaa
open Go.RowKit
theorem wpList_append_run {P : Program} {w : World} {ops : Array Oper} {rest : List Oper} {o : Oper} {a : Act} {Q : Exit → Act → World → Prop} (hgd : o.guard = none) (d s : Operand) (t : TypeId)
    (ho : o.op = .call { callee := .builtin .append, args := #[d, s], argTypes := #[t, t] }) (v u : Value) (hd : a.eval d = v) (hs : a.eval s = u) {v' : Value} {w' : World}
    (hr : (Builtin.append_ #[t, t] o.type #[v, u]).run P w = .ok v' w') (h : wpList P ops Q rest (a.put o.dst v') w') : wpList P ops Q (o :: rest) a w := by
  refine wpList_plain hgd fun K' hK' => ?_
  unfold Oper.wp
  simp [execOp, ho, resolve, invoke, builtin, hd, hs, hr, Result.andThen]
  exact hK' _ _ h
section
variable {w w' : World} {B xa : Nat} {v : Value} {K : List Rw} {S S' : Rs} {n : Nat} {s p : Int}
theorem ix_hit {i : Nat} (hi : i = ixP S.L s p) (hl : i < S.L.length) : hitP s p S.L[i] = true ∧ atP S.L s p = some S.L[i] := by
  subst hi
  exact ⟨List.findIdx_getElem (p := hitP s p) (xs := S.L) (w := hl), ix_yes hl⟩
theorem turn_list (hb : Bnd n S) {i : Nat} (hi : i = ixP S.L s p) (hl : i < S.L.length) (b : Bool) (T : Int) : S.L.set i (tuX s p b T S.L[i]) = S.L.map (tuX s p b T) := by
  apply List.ext_getElem
  · simp
  · intro j h1 h2
    have hj : j < S.L.length := by simpa using h1
    rw [List.getElem_set, List.getElem_map]
    by_cases e : i = j
    · subst e; rw [if_pos rfl]
    · rw [if_neg e]
      suffices hs : ¬ hitP s p S.L[j] = true from (show tuX s p b T S.L[j] = S.L[j] from if_neg hs).symm
      intro hh
      have h0 := (ix_hit hi hl).1
      unfold hitP at hh h0
      simp only [decide_eq_true_eq] at hh h0
      have hk : upR S.L[i] S.L[j] ∨ upR S.L[j] S.L[i] := by
        rcases Nat.lt_or_ge i j with c | c
        · exact Or.inl (List.pairwise_iff_getElem.1 hb.up i j hl hj c)
        · exact Or.inr (List.pairwise_iff_getElem.1 hb.up j i hj hl (by omega))
      unfold upR at hk
      omega
theorem Rx.at_ (h : Rx B w xa v K S) {i : Nat} (hl : i < S.L.length) : ∃ hk : i < K.length, K[i].v = S.L[i] := by
  have hk : i < K.length := by rw [h.len]; exact hl
  obtain ⟨_, e⟩ := h.get hk
  exact ⟨hk, e.symm⟩
/-- One is turned: its new marks lie in block g; what is written, and what it comes to. -/
theorem Rx.turned (h : Rx B w xa v K S) (hb : Bnd n S) {i : Nat} (hi : i = ixP S.L s p) (hl : i < S.L.length) {gl m c : Nat} (hv : v = .slice (some ⟨gl, 0, none⟩) m c) (b : Bool) {w5 : World} (b5 : Below w.heap.size w w5) {g c5 : Nat} {rest : List Value} (hg : w.heap.size ≤ g)
    (r5 : Lrow w5 g 4 (bitsV S.L[i].n ++ rest)) {w6 w7 w8 w9 : World} (e6 : w6 = w5.setCell ⟨g, jd p, none⟩ (.bool b)) (e7 : w7 = w6.setCell ⟨xa, 1, none⟩ (.int .i64 (S.T + 1))) (e8 : w8 = w7.setCell ⟨gl, i * 5 + 3, none⟩ (.slice (some ⟨g, 0, none⟩) 8 c5)) (e9 : w9 = w8.setCell ⟨gl, i * 5 + 4, none⟩ (.int .i64 (S.T + 1))) :
    (w5.cell? ⟨xa, 0, none⟩ = some v ∧ w5.cell? ⟨gl, i * 5 + 1, none⟩ = some (.int .i64 S.L[i].p) ∧ w5.cell? ⟨g, jd p, none⟩ = some (.bool (S.L[i].n.testBit (jd p))) ∧ w5.frozen? ⟨g, jd p, none⟩ = false) ∧
    (w6.cell? ⟨xa, 1, none⟩ = some (.int .i64 S.T) ∧ w6.frozen? ⟨xa, 1, none⟩ = false) ∧
    (w7.cell? ⟨xa, 0, none⟩ = some v ∧ (∃ u, w7.cell? ⟨gl, i * 5 + 3, none⟩ = some u) ∧ w7.frozen? ⟨gl, i * 5 + 3, none⟩ = false) ∧
    (w8.cell? ⟨xa, 0, none⟩ = some v ∧ w8.cell? ⟨xa, 1, none⟩ = some (.int .i64 (S.T + 1)) ∧ (∃ u, w8.cell? ⟨gl, i * 5 + 4, none⟩ = some u) ∧ w8.frozen? ⟨gl, i * 5 + 4, none⟩ = false) ∧
    DidR B w xa v K (tuS S s p b) w9 := by
  subst hv
  obtain ⟨hk, hkv⟩ := h.at_ hl
  have ok := hb.ok _ (List.getElem_mem hl)
  have hj := jd_lt p
  have h5 := h.call b5
  obtain ⟨vs, rg, hgB⟩ := h.own.block (g := gl) rfl
  have hgl : gl < w.heap.size := rg.lt
  obtain ⟨-, gl', e, -, hat⟩ := h5.on rfl hk
  injection e with e; injection e with e; subst e
  obtain ⟨d0, d1, d2, d3, d4⟩ := on_at hat
  rw [hkv] at d1
  have hx : xa < w.heap.size := h.top.lt
  have n1 : xa ≠ g := by omega
  have n2 : gl ≠ g := by omega
  have n3 : gl ≠ xa := rg.apart h.top (by decide)
  have bl0 : (bitsV S.L[i].n ++ rest)[jd p]? = some (.bool (S.L[i].n.testBit (jd p))) := by
    rw [List.getElem?_append_left (by unfold bitsV; rw [List.length_map, bitsL_len]; exact hj)]
    unfold bitsV
    rw [List.getElem?_map, bitsL_get ok.nl hj]; rfl
  -- w6
  have r6 : Lrow w6 g 4 (bitsV (setB S.L[i].n (jd p) b) ++ rest) := by
    have := r5.set_ (jd p) (.bool b)
    rw [List.set_append_left _ _ (by unfold bitsV; rw [List.length_map, bitsL_len]; exact hj)] at this
    have e : (bitsV S.L[i].n).set (jd p) (.bool b) = bitsV (setB S.L[i].n (jd p) b) := by
      unfold bitsV; rw [bitsL_set ok.nl hj b, List.map_set]
    rw [e] at this
    rw [e6]; exact this
  have k6 : ∀ k, k ≠ g → w6.heap[k]? = w5.heap[k]? := fun k hk => by rw [e6]; exact Below.heap_setCell w5 _ _ k (by exact hk)
  have t6 : Lrow w6 xa 48 [.slice (some ⟨gl, 0, none⟩) m c, .int .i64 S.T] := (k6 xa n1).trans h5.top
  have o6 : EOn.Own B w6 (.slice (some ⟨gl, 0, none⟩) m c) K := h5.own.heap fun k e => by injection e with e; subst e; exact k6 _ n2
  have t7 : Lrow w7 xa 48 [.slice (some ⟨gl, 0, none⟩) m c, .int .i64 (S.T + 1)] := by rw [e7]; exact t6.set_ 1 _
  have k7 : ∀ k, k ≠ xa → w7.heap[k]? = w6.heap[k]? := fun k hk => by rw [e7]; exact Below.heap_setCell w6 _ _ k (by exact hk)
  have o7 : EOn.Own B w7 (.slice (some ⟨gl, 0, none⟩) m c) K := o6.heap fun k e => by injection e with e; subst e; exact k7 _ n3
  obtain ⟨y1, hy1⟩ : ∃ y1 : Rw, y1 = ⟨S.L[i], g, c5⟩ := ⟨_, rfl⟩
  obtain ⟨f7, o8⟩ := o7.put (j := i) (q := 3) hk (by decide) (u := .slice (some ⟨g, 0, none⟩) 8 c5) (x := y1) (by rw [hy1, ← hkv]; rfl) rfl
  change EOn.Own B (w7.setCell ⟨gl, i * 5 + 3, none⟩ _) _ _ at o8
  rw [← e8] at o8
  have k8 : ∀ k, k ≠ gl → w8.heap[k]? = w7.heap[k]? := fun k hk => by rw [e8]; exact Below.heap_setCell w7 _ _ k (by exact hk)
  have hk1 : i < (K.set i y1).length := by rw [List.length_set]; exact hk
  obtain ⟨y2, hy2⟩ : ∃ y2 : Rw, y2 = ⟨⟨S.L[i].s, S.L[i].p, S.L[i].f, setB S.L[i].n (jd p) b, S.T + 1⟩, g, c5⟩ := ⟨_, rfl⟩
  obtain ⟨f8, o9⟩ := o8.put (j := i) (q := 4) hk1 (by decide) (u := .int .i64 (S.T + 1)) (x := y2) (by rw [List.getElem_set_self, hy1, hy2]; rfl) rfl
  change EOn.Own B (w8.setCell ⟨gl, i * 5 + 4, none⟩ _) _ _ at o9
  rw [← e9, List.set_set] at o9
  have k9 : ∀ k, k ≠ gl → w9.heap[k]? = w8.heap[k]? := fun k hk => by rw [e9]; exact Below.heap_setCell w8 _ _ k (by exact hk)
  have t8 := (k8 xa n3.symm).trans t7
  have t9 : Lrow w9 xa 48 [.slice (some ⟨gl, 0, none⟩) m c, .int .i64 (S.T + 1)] := (k9 xa n3.symm).trans t8
  have t8 : Lrow w8 xa 48 [.slice (some ⟨gl, 0, none⟩) m c, .int .i64 (S.T + 1)] := t8
  have z7 : ∀ q, q < 5 → ∃ u, w7.cell? ⟨gl, i * 5 + q, none⟩ = some u := fun q hq => by
    obtain ⟨g', e, -, -, -, hat⟩ := o7.some_ (by omega)
    injection e with e; injection e with e; subst e
    exact ⟨_, (hat i hk q hq).trans (List.getElem?_eq_getElem (by rw [EOn.len]; exact hq))⟩
  have z8 : ∀ q, q < 5 → ∃ u, w8.cell? ⟨gl, i * 5 + q, none⟩ = some u := fun q hq => by
    obtain ⟨g', e, -, -, -, hat⟩ := o8.some_ (by omega)
    injection e with e; injection e with e; subst e
    exact ⟨_, (hat i hk1 q hq).trans (List.getElem?_eq_getElem (by rw [EOn.len]; exact hq))⟩
  have sz : w5.heap.size = w9.heap.size := by rw [e9, e8, e7, e6]; simp [World.setCell]
  have hkeep : ∀ k, k ≠ xa → k ≠ gl → k ≠ g → w9.heap[k]? = w5.heap[k]? := fun k h1 h2 h3 => (k9 k h2).trans ((k8 k h2).trans ((k7 k h1).trans (k6 k h3)))
  have hR : Rx B w9 xa (.slice (some ⟨gl, 0, none⟩) m c) (K.set i y2) (tuS S s p b) := by
    refine ⟨t9, o9, ?_, fun y hy => ?_, h.lo, by rw [← sz]; exact Nat.le_trans h.lw b5.size, fun y hy => ?_⟩
    · show _ = S.L.map _
      rw [List.map_set, h.is, ← turn_list hb hi hl b (S.T + 1)]
      congr 1
      unfold tuX
      rw [if_pos (ix_hit hi hl).1, hy2]
    · rcases List.mem_or_eq_of_mem_set hy with hy | rfl
      · obtain ⟨rs, r⟩ := h5.bl y hy
        obtain ⟨rs', r'⟩ := h.bl y hy
        have a1 : y.g ≠ xa := r'.apart h.top (by decide)
        have a2 : y.g ≠ gl := r'.apart rg (by decide)
        have a3 : y.g ≠ g := by have := r'.lt; omega
        exact ⟨rs, (hkeep _ a1 a2 a3).trans r⟩
      · rw [hy2]
        exact ⟨rest, (k9 g n2.symm).trans ((k8 g n2.symm).trans ((k7 g n1.symm).trans r6))⟩
    · rcases List.mem_or_eq_of_mem_set hy with hy | rfl
      · exact h.bg y hy
      · rw [hy2]; have := h.lw; show B ≤ g; omega
  refine ⟨⟨h5.c0, d1, (r5.cell _).trans bl0, r5.frozen _⟩, ⟨t6.cell 1, t6.frozen 1⟩, ⟨t7.cell 0, z7 3 (by decide), f7 _⟩, ⟨t8.cell 0, t8.cell 1, z8 4 (by decide), f8 _⟩, _, _, hR, ?_, ?_⟩
  · refine ⟨?_, ?_, ?_, ?_, fun k hkl hk => ?_⟩
    · rw [e9, e8, e7, e6]; exact b5.os
    · rw [e9, e8, e7, e6]; exact b5.tape
    · rw [e9, e8, e7, e6]; exact b5.output
    · rw [← sz]; exact b5.size
    · have a1 : k ≠ xa := fun e => hk (Or.inl e)
      have a2 : k ≠ gl := fun e => hk (Or.inr (Or.inl (by rw [e]; rfl)))
      exact (hkeep k a1 a2 (by omega)).trans (b5.block k hkl)
  · rintro k (rfl | e | ⟨y, hy, rfl⟩)
    · exact Or.inl (Or.inl rfl)
    · exact Or.inl (Or.inr (Or.inl e))
    · rcases List.mem_or_eq_of_mem_set hy with hy | rfl
      · exact Or.inl (Or.inr (Or.inr ⟨y, hy, rfl⟩))
      · rw [hy2]; exact Or.inr hg
theorem EB.cells_is (l : List Bool) : EB.cells l = l.map Value.bool := by
  induction l with
  | nil => rfl
  | cons x r ih => rw [List.map_cons, ← ih, Enc.cells_cons]; rfl
/-- The marks are copied. -/
theorem Rx.copied (h : Rx B w xa v K S) (hb : Bnd n S) {i : Nat} (hl : i < S.L.length) {y : Rw} (hy : y ∈ K) (hyv : y.v = S.L[i]) : ∃ g c5 rest w5,
    (Builtin.append_ #[38, 38] 38 #[.slice (some ⟨w.heap.size, 0, none⟩) 0 0, .slice (some ⟨y.g, 0, none⟩) 8 y.c]).run Try.prog (w.alloc (.cells #[] 4)) = .ok (.slice (some ⟨g, 0, none⟩) 8 c5) w5 ∧
    Below w.heap.size w w5 ∧ w.heap.size ≤ g ∧ Lrow w5 g 4 (bitsV S.L[i].n ++ rest) := by
  have ok := hb.ok _ (List.getElem_mem hl)
  obtain ⟨rest0, ry⟩ := h.bl y hy
  have hbn := below_new w (.cells #[] 4)
  have h0 : EB.Own w.heap.size (w.alloc (.cells #[] 4)) (.slice (some ⟨w.heap.size, 0, none⟩) 0 0) [] :=
    own_of_row (rest := []) (Lrow.new w 4 []) (Nat.le_refl _) (Nat.le_refl _) (Nat.zero_le _) rfl rfl
  have ry1 := ry.call hbn
  obtain ⟨A, c5, w5, r, o, g5, t⟩ := Enc.Own.app h0 hbn.size ⟨y.g, 0, none⟩ y.c (bitsL S.L[i].n) (fun j u hu => by
    rw [EB.cells_is] at hu
    rw [addr_add, ry1.cell, hyv, List.getElem?_append_left (by
      unfold bitsV
      rcases Nat.lt_or_ge j ((bitsL S.L[i].n).map Value.bool).length with c | c
      · exact c
      · rw [List.getElem?_eq_none c] at hu; cases hu)]
    exact hu) (by rw [bitsL_len]; decide)
  rw [bitsL_len] at r o t
  have hbw : Below w.heap.size w w5 := hbn.grown g5 hbn.size (fun k e => by have e' : w.heap.size = k := Option.some.inj (by first | exact e | exact e.symm); omega)
  rw [List.nil_append] at o
  have hlen : (bitsL S.L[i].n).length = 8 := bitsL_len _
  obtain ⟨g, eA, hge, -, -, -⟩ := o.some_ (by rw [hlen]; decide)
  obtain ⟨rest, r2, -⟩ := own_row o eA
  rw [EB.cells_is] at r2
  subst eA
  exact ⟨g, c5, rest, w5, r _ rfl, hbw, hge, r2⟩
set_option maxRecDepth 100000 in
set_option maxHeartbeats 2000000 in
theorem turn_x (h : Rx B w xa v K S) (hb : Bnd n S) (hn : n ≤ 1000) {i : Nat} (hi : i = ixP S.L s p) (hl : i < S.L.length) (b : Bool) : Calls Try.prog 51 #[.pointer (some ⟨xa, 0, none⟩), .int .i64 i, .int .i64 p, .bool b] w fun e w' => e = .returned (.tuple #[]) ∧ DidR B w xa v K (tuS S s p b) w' := by
  obtain ⟨hk, hkv⟩ := h.at_ hl
  obtain ⟨A, c, hv⟩ := h.own.form
  obtain ⟨m, hm⟩ : ∃ m, m = K.length := ⟨_, rfl⟩
  rw [← hm] at hv
  obtain ⟨-, gl, rfl, -, hat⟩ := h.on hv hk
  have hbn := below_new w (.cells #[] 4)
  have c0 := (h.call hbn).c0
  rw [hv] at c0
  obtain ⟨-, gl', e, -, hat'⟩ := (h.call hbn).on hv hk
  injection e with e; injection e with e; subst e
  obtain ⟨-, -, -, d3, -⟩ := on_at hat'
  clear hbn hat'
  obtain ⟨g, c5, rest, w5, r5, b5, hge, row5⟩ := h.copied hb hl (List.getElem_mem hk) hkv
  obtain ⟨w6, e6⟩ : ∃ w6, w6 = w5.setCell ⟨g, jd p, none⟩ (.bool b) := ⟨_, rfl⟩
  obtain ⟨w7, e7⟩ : ∃ w7, w7 = w6.setCell ⟨xa, 1, none⟩ (.int .i64 (S.T + 1)) := ⟨_, rfl⟩
  obtain ⟨w8, e8⟩ : ∃ w8, w8 = w7.setCell ⟨gl, i * 5 + 3, none⟩ (.slice (some ⟨g, 0, none⟩) 8 c5) := ⟨_, rfl⟩
  obtain ⟨w9, e9⟩ : ∃ w9, w9 = w8.setCell ⟨gl, i * 5 + 4, none⟩ (.int .i64 (S.T + 1)) := ⟨_, rfl⟩
  obtain ⟨⟨a1, a2, a3, a4⟩, ⟨a5, a6⟩, ⟨a7, ⟨u7, a8⟩, a9⟩, ⟨b1, b2, ⟨u8, b3⟩, b4⟩, hD⟩ := h.turned hb hi hl hv b b5 hge row5 e6 e7 e8 e9
  have HD : Hid (∀ k, DidR B w xa v K (tuS S s p b) (w9.drewN k)) := fun k => by
    obtain ⟨x1, x2, x3, x4, x5⟩ := hD
    exact ⟨x1, x2, x3.drewN k, x4.drewN k, x5⟩
  have hh := (ix_hit hi hl).1
  unfold hitP at hh
  simp only [decide_eq_true_eq] at hh
  have ok := hb.ok _ (List.getElem_mem hl)
  have hj := jd_lt p
  have hji := jd_is p
  obtain ⟨j, hjj⟩ : ∃ j, j = jd p := ⟨_, rfl⟩
  have ep : IntKind.i64.wrap (p - S.L[i].p) = (j : Int) := by
    rw [hh.2, ← hji.2, ← hjj]; exact IntWalk.i64_in _ (by omega)
  rw [hv] at a1 a7 b1
  have t1 := hb.t1
  have t0 := hb.t0
  rw [← hjj] at hj a3 a4 e6
  have HW := Lib.hid (And.intro e6 (And.intro e7 (And.intro e8 e9)))
  have eT : IntKind.i64.wrap (S.T + 1) = S.T + 1 := IntWalk.i64_in _ (by omega)
  have i1 : (i : Int) < (m : Int) := by omega
  have i0 : (0 : Int) ≤ i := by omega
  have j1 : (j : Int) < 8 := by omega
  have j0 : (0 : Int) ≤ j := by omega
  generalize S.L[i].p = xp at *
  generalize S.L[i].n.testBit j = xn at *
  generalize K[i].g = gy at *
  generalize K[i].c = cy at *
  clear h hb hn hi hh hat hv hm hkv row5 hge b5 hD e6 e7 e8 e9 ok hji hjj t1 t0 hj hk
  go_enter Try.func51, Try.ntmps51
  go_upto_region 2 with (at_builtin; refine wpList_append_run rfl _ _ 38 rfl _ _ rfl rfl r5 ?_)
  rw [← HW.out.1]
  clear r5 a1 a2 a3 a4
  go_upto_region 3 with (fail)
  rw [← HW.out.2.1]
  clear a5 a6
  go_upto_region 4 with (fail)
  rw [← HW.out.2.2.1]
  clear a7 a8 a9
  go_wp2_with fail
  go_still_tail 11, (by kernel_rfl)
  change wpList _ _ _ _ _ w8.drew
  obtain ⟨wa, ea⟩ : ∃ wa, wa = w8.drew := ⟨_, rfl⟩
  have b3' : wa.cell? ⟨gl, i * 5 + 4, none⟩ = some u8 := ea ▸ b3
  have b4' : wa.frozen? ⟨gl, i * 5 + 4, none⟩ = false := ea ▸ b4
  have HE : Hid (DidR B w xa v K (tuS S s p b) (wa.setCell ⟨gl, i * 5 + 4, none⟩ (.int .i64 (S.T + 1)))) := by
    have := HD.out 1
    rw [HW.out.2.2.2] at this
    rw [ea]; exact this
  rw [← ea]
  clear ea b3 b4 b1 b2
  go_wp2_with fail
  go_end0
  exact ⟨rfl, HE.out⟩
end
end Go.Proofs.Ytfalmjibpkkjaaa
