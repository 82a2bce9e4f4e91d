/- The program's tree: together. -/
import Derived.Test.YtekfkglielmfaaaTgJ
namespace Go.Proofs.Ytekfkglielmfaaa
open Go.RowKit
/-- The first stretch of a tree. -/
theorem mt_first : ∀ {T : Nd}, OkS T.L → T.isN = false → ∃ s R l' r', T.L = s :: R ∧ (T.fi = s.1) ∧ T.mt T.fi T.fi = .node l' s r'
  | .nil, _, h => by cases h
  | .node l s r, ok, _ => by
    obtain ⟨okl, okr, oks, h1, h2⟩ := ok.nd
    cases hl : l.isN with
    | true =>
      cases l with
      | nil =>
        refine ⟨s, r.L, .nil, r, rfl, by simp [Nd.fi, Nd.isN], ?_⟩
        have : (Nd.node .nil s r).fi = s.1 := by simp [Nd.fi, Nd.isN]
        rw [this, Nd.mt, if_neg (by omega), if_neg (by omega)]
      | node _ _ _ => cases hl
    | false =>
      obtain ⟨t, R, l', r', e1, e2, e3⟩ := mt_first okl hl
      have hf : (Nd.node l s r).fi = l.fi := by simp [Nd.fi, hl]
      have ht : t ∈ l.L := by rw [e1]; exact List.mem_cons_self
      have := h1 t ht
      have := (okl.in_ t ht).2.1
      refine ⟨t, R ++ s :: r.L, l', r', by rw [Nd.L_node, e1]; rfl, by rw [hf, e2], ?_⟩
      rw [hf, Nd.mt, if_pos (by omega)]
      exact e3
theorem keep_3 {W W' : World} {b m : Nat} {v0 v1 v2 : Value} (hb : Below W.heap.size W W') (h : W.cell? ⟨b, 5, none⟩ = some v0 ∧ W.cell? ⟨m, 0, none⟩ = some v1 ∧ W.cell? ⟨m, 1, none⟩ = some v2) : W'.cell? ⟨b, 5, none⟩ = some v0 ∧ W'.cell? ⟨m, 0, none⟩ = some v1 ∧ W'.cell? ⟨m, 1, none⟩ = some v2 :=
  ⟨keep_cell hb h.1, keep_cell hb h.2.1, keep_cell hb h.2.2⟩
section
variable {w w' W W' : World} {T l r : Nd} {s : Nat × Nat} {v x y : Value} {p : Nat}
theorem together_n (hx : NdAt w T x) : Calls Try.prog 41 #[x, .pointer none] w fun e w' => e = .returned x ∧ w' = w := by
  obtain ⟨o, rfl⟩ := hx.form
  go_enter Try.func41, Try.ntmps41
  go_wp2_with fail
  go_ret
  exact ⟨rfl, rfl⟩
set_option maxHeartbeats 4000000 in
set_option maxRecDepth 100000 in
theorem together_s {A B : Nd} {b : Nat} (hx : NdAt w A x) (hy : NdAt w B (.pointer (some ⟨b, 0, none⟩))) (bA : A.bal) (bB : B.bal) (ok : OkS (A.L ++ B.L)) : Calls Try.prog 41 #[x, .pointer (some ⟨b, 0, none⟩)] w fun e w' => ∃ o T, e = .returned (.pointer o) ∧ NdAt w' T (.pointer o) ∧ T.L = A.L ++ B.L ∧ T.bal ∧ Below w.heap.size w w' := by
  have hN : B.isN = false := by
    cases B with
    | nil =>
      have : Value.pointer (some (⟨b, 0, none⟩ : Addr)) = .pointer none := hy
      simp at this
    | node _ _ _ => rfl
  have okB := ok.right
  obtain ⟨s, R, l', r', e1, e2, e3⟩ := mt_first okB hN
  have hs1 := okB.in_ s (by rw [e1]; exact List.mem_cons_self)
  have hrow5 : w.cell? ⟨b, 5, none⟩ = some (.int .i64 (s.1 : Nat)) := by
    cases B with
    | nil => cases hN
    | node _ _ _ => rw [← e2]; exact nd_cell5 hy
  obtain ⟨om, hnm, hm⟩ := meets_w hy (s.1 : Nat) (s.1 : Nat)
  rw [e2] at e3
  rw [e3] at hnm
  obtain ⟨mb, hmb⟩ := hnm.open_
  obtain rfl : om = some ⟨mb, 0, none⟩ := by simpa using hmb
  obtain ⟨-, -, -, -, d0, d1, -⟩ := hnm.cells
  have okR : OkS (s :: R) := e1 ▸ okB
  have hbh : bhS s.2 B.L = R := by
    rw [e1, bhS_cons, bhS_all fun y hy => (List.pairwise_cons.1 okR.up).1 y hy]
    unfold bh1
    rw [if_neg (by omega), if_pos (Nat.le_refl _)]
    rfl
  have okJ : ∀ C : Nd, C.L = bhS s.2 B.L → OkS (A.L ++ s :: C.L) := fun C e => by rw [e, hbh, ← e1]; exact ok
  have FIN : Hid (∀ C T : Nd, C.L = bhS s.2 B.L → LvOk A s C T → T.L = A.L ++ B.L) := fun C T e h => by rw [h.L, e, hbh, ← e1]
  have hP : ∀ W, Below w.heap.size w W → Calls Try.prog 38 #[.pointer (some ⟨b, 0, none⟩), .int .i64 s.2] W _ := fun W hb => parted_to s.2 B W _ (hy.call hb) bB okB
  have HX := Lib.hid hx
  have hs : w.cell? ⟨b, 5, none⟩ = some (.int .i64 s.1) ∧ w.cell? ⟨mb, 0, none⟩ = some (.int .i64 s.1) ∧ w.cell? ⟨mb, 1, none⟩ = some (.int .i64 s.2) := ⟨hrow5, d0, d1⟩
  have hsz : b < w.heap.size ∧ mb < w.heap.size := by
    refine ⟨?_, ?_⟩
    · cases B with
      | nil => cases hN
      | node _ _ _ => obtain ⟨_, _, _, _, _, _, _, _, h⟩ := hy.cells; exact h
    · obtain ⟨_, _, _, _, _, _, _, _, h⟩ := hnm.cells; exact h
  clear hy ok okB e1 e2 e3 hs1 okR hbh hN bB hx hmb hnm hrow5 d0 d1
  obtain ⟨s1, s2⟩ := s
  dsimp only at *
  go_enter Try.func41, Try.ntmps41
  go_upto_region 3 with (fail)
  go_cut [5] from 11 to 24 (fun s5 wx => ∃ q, s5 = .pointer (some ⟨q, 0, none⟩) ∧ Lrow wx q 61 [.int .i64 s1, .int .i64 s2] ∧ Below w.heap.size w wx)
  case first =>
    go_region_held3 (fun v => v.cell? ⟨b, 5, none⟩ = some (.int .i64 s1) ∧ v.cell? ⟨mb, 0, none⟩ = some (.int .i64 s1) ∧ v.cell? ⟨mb, 1, none⟩ = some (.int .i64 s2))
      (first | exact hs | exact keep_3 (below_new w.drew _) hs)
      (first | (go_at_call 30; (with_reducible refine (hm _ ?_).mono ?_); (focus exact below_dN (Below.refl _ _) _); rintro e wa ⟨rfl, rfl⟩) | (go_at_call 30; (with_reducible refine (hm _ ?_).mono ?_); (focus exact (below_dN (Below.refl _ _) 1).trans (below_new w.drew _)); rintro e wa ⟨rfl, rfl⟩) | fail)
    all_goals
      go_wp2_with fail
      go_meet
      exact ⟨_, rfl, Lrow.new w _ _, (below_new w _).trans (below_dN (Below.refl _ _) 1)⟩
  case rest =>
    obtain ⟨q, rfl, rq, b2⟩ := hcut
    have HQ := Lib.hid rq
    have HB := Lib.hid b2
    have hP2 := hP wc b2
    have q0 := rq.cell 0
    have q1 := rq.cell 1
    clear rq b2 hm hP hs
    go_upto_region 5 with (first | (go_at_call 38; (with_reducible refine hP2.mono ?_); rintro e w3 ⟨oa, ob, C0, C, rfl, nC0, nC, ⟨-, eC, -, bC⟩, b3⟩; clear q0 q1 hP2 nC0) | fail)
    have rq3 := HQ.out.call b3
    have q0 := rq3.cell 0
    have q1 := rq3.cell 1
    have HB3 := Lib.hid (HB.out.trans (b3.mono HB.out.size))
    have hJ := joined_p (HX.out.call HB3.out) nC bA bC (okJ _ eC)
    dsimp only at hJ
    have HEC := Lib.hid eC
    clear rq3 b3 okJ eC nC
    go_wp2_with (first | (go_at_call 39; (with_reducible refine hJ.mono ?_); rintro e w4 ⟨g4, T4, rfl, n4, h4, b4⟩) | fail)
    go_ret
    exact ⟨some ⟨g4, 0, none⟩, T4, rfl, n4, FIN.out _ _ HEC.out h4, h4.bal, HB3.out.trans (b4.mono HB3.out.size)⟩
theorem together_p {A B : Nd} (hx : NdAt w A x) (hy : NdAt w B y) (bA : A.bal) (bB : B.bal) (ok : OkS (A.L ++ B.L)) : Calls Try.prog 41 #[x, y] w fun e w' => ∃ o T, e = .returned (.pointer o) ∧ NdAt w' T (.pointer o) ∧ T.L = A.L ++ B.L ∧ T.bal ∧ Below w.heap.size w w' := by
  rcases hy.ptr with ⟨rfl, rfl⟩ | ⟨b, l, s, r, -, rfl, -⟩
  · obtain ⟨o, rfl⟩ := hx.form
    refine (together_n hx).mono ?_
    rintro e w' ⟨rfl, rfl⟩
    exact ⟨o, A, rfl, hx, by rw [Nd.L_nil, List.append_nil], bA, Below.refl _ _⟩
  · exact together_s hx hy bA bB ok
end
end Go.Proofs.Ytekfkglielmfaaa
