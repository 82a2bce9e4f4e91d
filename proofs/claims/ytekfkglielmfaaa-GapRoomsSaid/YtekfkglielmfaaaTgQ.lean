/- The program's object: All, Len. -/
import Derived.Test.YtekfkglielmfaaaTgP
import Derived.Deep.RegionLaw
namespace Go.Proofs.Ytekfkglielmfaaa
open Go.RowKit
theorem step_append_run {P : Program} {ops : Array Oper} {o : Oper} {a : Act} {w : World} {K : Act → World → Prop} {Q : Exit → Act → World → Prop} {E : Prop}
    (hg : o.guard = none) (d x : Operand) (t : TypeId) (hop : o.op = Op.call { callee := Callee.builtin Builtin.append, args := #[d, x], argTypes := #[t, t] })
    (v u : Value) (hd : a.eval d = v) (hx : a.eval x = u) {v' : Value} {w' : World} (hr : (Builtin.append_ #[t, t] o.type #[v, u]).run P w = .ok v' w') (hK : K (a.put o.dst v') w') :
    if Region.wanted o (yielded ops a.tmps) = true then Oper.wp P o a w K Q else E := by
  have hw : Region.wanted o (yielded ops a.tmps) = true := by simp [Region.wanted, hg]
  rw [if_pos hw]
  unfold Oper.wp
  simp [execOp, hop, resolve, invoke, builtin, hd, hx, hr, Result.andThen]
  exact hK
/-- The closure of All, and what it has told so far. -/
def TlX (D : Nat) (W : World) (pt pl : Nat) (u : Value) (P : List (Nat × Nat)) : Prop :=
  Lrow W pt 64 [.func (.func 31) #[] #[.pointer (some ⟨pt, 0, none⟩), .pointer (some ⟨pl, 0, none⟩)]] ∧ Lrow W pl 32 [u] ∧ ETr.Own D W u P ∧ D ≤ pt ∧ D ≤ pl
def TlTo (w0 : World) (T : Nd) : Prop := ∀ (W : World) (v : Value) (pt pl : Nat) (u : Value) (P : List (Nat × Nat)), Below w0.heap.size w0 W → TlX w0.heap.size W pt pl u P → P.length + T.L.length ≤ 5000 → NdAt w0 T v →
  Calls Try.prog 31 #[v, .pointer (some ⟨pt, 0, none⟩), .pointer (some ⟨pl, 0, none⟩)] W fun e W' => e = .returned (.tuple #[]) ∧ ∃ u', Below w0.heap.size w0 W' ∧ TlX w0.heap.size W' pt pl u' (P ++ T.L)
section
variable {w0 w w' W W' : World} {B x D pt pl : Nat} {L P : List (Nat × Nat)} {u : Value} {l r : Nd} {s : Nat × Nat}
theorem TlX.drew (h : TlX D W pt pl u P) : TlX D W.drew pt pl u P := ⟨h.1, h.2.1, h.2.2.1.drewN 1, h.2.2.2⟩
theorem TlX.form (h : TlX D W pt pl u P) : ∃ A c, u = .slice A P.length c := h.2.2.1.form
/-- One more is told. -/
theorem TlX.more (h : TlX D W pt pl u P) (hD : D ≤ W.heap.size) (hl : P.length ≤ 90000) (y : Nat × Nat) : ∃ A c w3,
    (Builtin.append_ #[32, 32] 32 #[u, .slice (some ⟨W.heap.size, 0, none⟩) 1 1]).run Try.prog (W.alloc (.cells #[.int .i64 y.1, .int .i64 y.2] 31)) = .ok (.slice A (P.length + 1) c) w3 ∧
    w3.cell? ⟨pl, 0, none⟩ = some u ∧ w3.frozen? ⟨pl, 0, none⟩ = false ∧ TlX D (w3.setCell ⟨pl, 0, none⟩ (.slice A (P.length + 1) c)) pt pl (.slice A (P.length + 1) c) (P ++ [y]) ∧ Below D W (w3.setCell ⟨pl, 0, none⟩ (.slice A (P.length + 1) c)) := by
  obtain ⟨A, c, w3, r3, o3, b3, k3⟩ := app_step (Below.refl D W) hD h.2.2.1 hl y
  have hp : ∀ {q ty vs}, Lrow W q ty vs → ty ≠ 31 → some q ≠ u.ownBlock := fun hr ht e => by
    obtain ⟨vs', r, -⟩ := h.2.2.1.block e.symm
    exact hr.apart r ht rfl
  have rt := k3 h.1 (hp h.1 (by decide))
  have rl := k3 h.2.1 (hp h.2.1 (by decide))
  have hne : pt ≠ pl := rt.apart rl (by decide)
  refine ⟨A, c, w3, r3, rl.cell 0, rl.frozen 0, ⟨rt.far hne _, rl.set_ 0 _, o3.heap fun k e => ?_, h.2.2.2⟩, b3.setCell h.2.2.2.2 _⟩
  obtain ⟨vs', r, -⟩ := o3.block e
  exact Below.heap_setCell w3 _ _ k (r.apart rl (by decide))
theorem tell_nil : TlTo w0 .nil := by
  intro W v pt pl u P hb hx hl hn
  have hv : v = .pointer none := hn
  subst hv
  have HX := Lib.hid (And.intro hb hx)
  clear hb hx hl hn
  go_enter Try.func31, Try.ntmps31
  go_wp2_with fail
  refine bodyPost_ret (results_none rfl _ _ _) rfl ?_
  exact ⟨rfl, u, HX.out.1, by rw [Nd.L_nil, List.append_nil]; exact HX.out.2⟩
set_option maxHeartbeats 4000000 in
set_option maxRecDepth 100000 in
theorem tell_node (il : TlTo w0 l) (ir : TlTo w0 r) : TlTo w0 (.node l s r) := by
  intro W v pt pl u P hb hx hl hn
  obtain ⟨g, rfl⟩ := hn.open_
  obtain ⟨ol, or, nl, nr, d0, d1, d2, d3, hg⟩ := hn.cells
  rw [Nd.L_node, List.length_append, List.length_cons] at hl
  have hL := il W.drew _ pt pl u P (below_dN hb 1) hx.drew (by omega) nl
  have KC : Hid (∀ {W' i z}, Below w0.heap.size w0 W' → w0.cell? ⟨g, i, none⟩ = some z → W'.cell? ⟨g, i, none⟩ = some z) := fun hb hc => keep_cell hb hc
  have HL := Lib.hid hl
  have HG := Lib.hid hg
  have HIR := Lib.hid (And.intro ir nr)
  have HD := Lib.hid (And.intro d0 (And.intro d1 (And.intro d2 d3)))
  have hs : W.cell? ⟨pt, 0, none⟩ = some (.func (.func 31) #[] #[.pointer (some ⟨pt, 0, none⟩), .pointer (some ⟨pl, 0, none⟩)]) ∧ W.cell? ⟨g, 2, none⟩ = some (.pointer ol) := ⟨hx.1.cell 0, KC.out hb d2⟩
  obtain ⟨s1, s2⟩ := s
  dsimp only at *
  clear il ir hb hx hl hn nl nr d0 d1 d2 d3 hg
  go_enter Try.func31, Try.ntmps31
  go_upto_region 1 with (fail)
  go_region_held3 (fun v => v.cell? ⟨pt, 0, none⟩ = some (.func (.func 31) #[] #[.pointer (some ⟨pt, 0, none⟩), .pointer (some ⟨pl, 0, none⟩)]) ∧ v.cell? ⟨g, 2, none⟩ = some (.pointer ol))
    (first | exact hs | exact hs1)
    (first | (go_at_call 31; (with_reducible refine hL.mono ?_); rintro e V ⟨rfl, u1, hb1, hx1⟩; have hs1 := And.intro (hx1.1.cell 0) (KC.out hb1 HD.out.2.2.1)) | fail)
  obtain ⟨A1, k1, hu1⟩ := hx1.form
  subst hu1
  obtain ⟨n1, hn1⟩ : ∃ n1, n1 = (P ++ l.L).length := ⟨_, rfl⟩
  have hn2 : n1 ≤ 5000 := by have := HL.out; rw [hn1, List.length_append]; omega
  obtain ⟨A2, k2, w3, r5, e0, ef, hx3, hb3⟩ := hx1.drew.more (below_dN hb1 1).size (by omega) (s1, s2)
  rw [← hn1] at r5 e0 hx3 hb3
  have p0 : V.cell? ⟨pl, 0, none⟩ = some (.slice A1 n1 k1) := by rw [hn1]; exact hx1.2.1.cell 0
  have hb4 : Below w0.heap.size w0 (w3.setCell ⟨pl, 0, none⟩ (.slice A2 (n1 + 1) k2)) := (below_dN hb1 1).trans hb3
  have zpl : pl < V.heap.size := hx1.2.1.lt
  have zg : g < V.heap.size := Nat.lt_of_lt_of_le HG.out hb1.size
  have zpl1 : ¬ pl = V.heap.size := by omega
  have zg1 : ¬ g = V.heap.size := by omega
  have q0 := KC.out hb1 HD.out.1
  have q1 := KC.out hb1 HD.out.2.1
  have HX3 := Lib.hid hx3
  have HB4 := Lib.hid hb4
  have HN := Lib.hid hn1
  clear hs hs1 hL hx1 hx3 hb3 hb4 hn1
  go_upto_region 2 with (fail)
  go_cut [] from 12 to 26 (fun wx => wx = w3.setCell ⟨pl, 0, none⟩ (.slice A2 (n1 + 1) k2))
  case first =>
    go_region_law (refine step_append_run (by rfl) _ _ 32 (by rfl) (.slice A1 n1 k1) (.slice (some ⟨V.heap.size, 0, none⟩) 1 1) (by simp [Act.eval]) (by simp [Act.eval]) r5 ?_)
    all_goals
      go_wp2_with fail
      go_meet
      rfl
  case rest =>
    rw [← hcut] at HX3 HB4
    have hR := HIR.out.1 wc.drew _ pt pl _ _ (below_dN HB4.out 1) HX3.out.drew (by have := HL.out; rw [List.length_append, List.length_append, List.length_singleton]; omega) HIR.out.2
    have hs : wc.cell? ⟨pt, 0, none⟩ = some (.func (.func 31) #[] #[.pointer (some ⟨pt, 0, none⟩), .pointer (some ⟨pl, 0, none⟩)]) ∧ wc.cell? ⟨g, 3, none⟩ = some (.pointer or) := ⟨HX3.out.1.cell 0, KC.out HB4.out HD.out.2.2.2⟩
    have HCUT := Lib.hid hcut
    clear hcut r5 e0 ef p0 q0 q1 hb1 zpl zg zpl1 zg1
    go_upto_region 3 with (fail)
    go_region_held3 (fun v => v.cell? ⟨pt, 0, none⟩ = some (.func (.func 31) #[] #[.pointer (some ⟨pt, 0, none⟩), .pointer (some ⟨pl, 0, none⟩)]) ∧ v.cell? ⟨g, 3, none⟩ = some (.pointer or))
      (first | exact hs | exact hs2)
      (first | (go_at_call 31; (with_reducible refine hR.mono ?_); rintro e V2 ⟨rfl, u2, hb2, hx2⟩; have hs2 := And.intro (hx2.1.cell 0) (KC.out hb2 HD.out.2.2.2)) | fail)
    all_goals
      go_wp2_with fail
      go_end0
      exact ⟨rfl, u2, hb2, by rw [Nd.L_node]; simpa using hx2⟩
theorem tell_to : ∀ T, TlTo w0 T
  | .nil => tell_nil
  | .node l _ r => tell_node (tell_to l) (tell_to r)
theorem boxes2 (w : World) : ∃ W2 pl, (w.alloc (.cells #[.slice none 0 0] 32)).alloc (.cells #[.func (.func 31) #[] #[.pointer (some ⟨pl + 1, 0, none⟩), .pointer (some ⟨pl, 0, none⟩)]] 64) = W2 ∧ w.heap.size = pl ∧ TlX w.heap.size W2 (pl + 1) pl (.slice none 0 0) [] ∧ Below w.heap.size w W2 := by
  obtain ⟨W1, e1⟩ : ∃ W1, W1 = w.alloc (.cells #[.slice none 0 0] 32) := ⟨_, rfl⟩
  have s1 : W1.heap.size = w.heap.size + 1 := by rw [e1, World.size_alloc]
  obtain ⟨W2, e2⟩ : ∃ W2, W2 = W1.alloc (.cells #[.func (.func 31) #[] #[.pointer (some ⟨w.heap.size + 1, 0, none⟩), .pointer (some ⟨w.heap.size, 0, none⟩)]] 64) := ⟨_, rfl⟩
  have b1 : Below w.heap.size w W1 := e1 ▸ below_new w _
  have b2 : Below W1.heap.size W1 W2 := e2 ▸ below_new W1 _
  have r1 : Lrow W1 w.heap.size 32 [.slice none 0 0] := by rw [e1]; exact Lrow.new w _ _
  have r2 : Lrow W2 (w.heap.size + 1) 64 [.func (.func 31) #[] #[.pointer (some ⟨w.heap.size + 1, 0, none⟩), .pointer (some ⟨w.heap.size, 0, none⟩)]] := by rw [e2, ← s1]; exact Lrow.new W1 _ _
  exact ⟨W2, w.heap.size, by rw [e2, e1], rfl, ⟨r2, r1.call b2, Enc.Own.nil _ _, by omega, Nat.le_refl _⟩, b1.trans (b2.mono b1.size)⟩
set_option maxHeartbeats 1000000 in
theorem all_p (h : PrT B w x L) : Calls Try.prog 15 #[.pointer (some ⟨x, 0, none⟩)] w fun e w' => ∃ A c, e = .returned (.slice A L.length c) ∧ ETr.Own w.heap.size w' (.slice A L.length c) L ∧ Below w.heap.size w w' := by
  obtain ⟨ov, T, r0, nT, bT, okT, rfl, hB⟩ := h
  obtain ⟨W2, pl, e2, hpl, hx, hb⟩ := boxes2 w
  have hlen := okT.len
  have ht := top_p (w := W2.drew) (r0.call (below_dN hb 1))
  have hT := tell_to T W2.drew _ (pl + 1) pl _ [] (below_dN hb 1) hx.drew (by simpa using Nat.le_trans hlen (by omega)) nT
  rw [List.nil_append] at hT
  have hs : W2.cell? ⟨pl + 1, 0, none⟩ = some (.func (.func 31) #[] #[.pointer (some ⟨pl + 1, 0, none⟩), .pointer (some ⟨pl, 0, none⟩)]) := hx.1.cell 0
  have HE := Lib.hid (And.intro e2 hpl)
  clear r0 nT bT okT hB e2 hpl hx hb hlen
  go_enter Try.func15, Try.ntmps15
  go_upto_region 4 with (fail)
  rw [HE.out.2, HE.out.1]
  go_region_held3 (fun v => v.cell? ⟨pl + 1, 0, none⟩ = some (.func (.func 31) #[] #[.pointer (some ⟨pl + 1, 0, none⟩), .pointer (some ⟨pl, 0, none⟩)]))
    (first | exact hs | exact hs2)
    (first | (go_at_call 29; (with_reducible refine ht.mono ?_); rintro e W3 ⟨rfl, rfl⟩) | (go_at_call 31; (with_reducible refine hT.mono ?_); rintro e V2 ⟨rfl, u2, hb2, hx2⟩; have hs2 := hx2.1.cell 0) | fail)
  all_goals
    have l2 := hx2.2.1.cell 0
    obtain ⟨A2, c2, hu2⟩ := hx2.form
    subst hu2
    have HX := Lib.hid (And.intro hx2 hb2)
    clear hs hs2 hx2 hb2
    go_wp2_with fail
    go_ret
    exact ⟨A2, c2, rfl, HX.out.1.2.2.1, HX.out.2⟩
theorem all_n (w : World) : Calls Try.prog 15 #[.pointer none] w fun e w' => ∃ A c, e = .returned (.slice A 0 c) ∧ Below w.heap.size w w' := by
  obtain ⟨W2, pl, e2, hpl, hx, hb⟩ := boxes2 w
  have ht := top_n W2.drew
  have hT := tell_to (w0 := w) .nil W2.drew _ (pl + 1) pl _ [] (below_dN hb 1) hx.drew (by simp [Nd.L_nil]) (NdAt.nil w)
  rw [List.nil_append, Nd.L_nil] at hT
  have hs : W2.cell? ⟨pl + 1, 0, none⟩ = some (.func (.func 31) #[] #[.pointer (some ⟨pl + 1, 0, none⟩), .pointer (some ⟨pl, 0, none⟩)]) := hx.1.cell 0
  have HE := Lib.hid (And.intro e2 hpl)
  clear e2 hpl hx hb
  go_enter Try.func15, Try.ntmps15
  go_upto_region 4 with (fail)
  rw [HE.out.2, HE.out.1]
  go_region_held3 (fun v => v.cell? ⟨pl + 1, 0, none⟩ = some (.func (.func 31) #[] #[.pointer (some ⟨pl + 1, 0, none⟩), .pointer (some ⟨pl, 0, none⟩)]))
    (first | exact hs | exact hs2)
    (first | (go_at_call 29; (with_reducible refine ht.mono ?_); rintro e W3 ⟨rfl, rfl⟩) | (go_at_call 31; (with_reducible refine hT.mono ?_); rintro e V2 ⟨rfl, u2, hb2, hx2⟩; have hs2 := hx2.1.cell 0) | fail)
  all_goals
    have l2 := hx2.2.1.cell 0
    obtain ⟨A2, c2, hu2⟩ := hx2.form
    rw [List.length_nil] at hu2
    subst hu2
    have HB := Lib.hid hb2
    clear hs hs2 hx2 hb2
    go_wp2_with fail
    go_ret
    exact ⟨A2, c2, rfl, HB.out⟩
theorem len_p (h : PrT B w x L) : Calls Try.prog 16 #[.pointer (some ⟨x, 0, none⟩)] w fun e w' => e = .returned (.int .i64 (L.length : Nat)) ∧ Below w.heap.size w w' := by
  have hA := all_p h
  have hl := h.ok.len
  obtain ⟨n, hn⟩ : ∃ n, n = L.length := ⟨_, rfl⟩
  rw [← hn] at hA hl ⊢
  clear hn h
  go_enter Try.func16, Try.ntmps16
  go_wp2_with (first | (go_at_call 15; (with_reducible refine hA.mono ?_); rintro e w1 ⟨A, c, rfl, -, hb⟩) | fail)
  go_ret
  exact ⟨rfl, hb⟩
theorem len_n (w : World) : Calls Try.prog 16 #[.pointer none] w fun e w' => e = .returned (.int .i64 0) ∧ Below w.heap.size w w' := by
  have hA := all_n w
  go_enter Try.func16, Try.ntmps16
  go_wp2_with (first | (go_at_call 15; (with_reducible refine hA.mono ?_); rintro e w1 ⟨A, c, rfl, hb⟩) | fail)
  go_ret
  exact ⟨rfl, hb⟩
end
end Go.Proofs.Ytekfkglielmfaaa
