/- Reservations: ResvAnew, walked. -/
import Derived.Test.YtfalmjibpkkjaaaL3
import Derived.Test.YtfalmjibpkkjaaaL4
namespace Go.Proofs.Ytfalmjibpkkjaaa
open Go.RowKit
/-- What is broken can be made anew. -/
theorem anew_facts {S : Rs} {n : Nat} {s p : Int} {y : Rv} (h : Bnd n S) (e : atP S.L s p = some y) :
    atP (brS S s p).L s p = none ∧ mkE (brS S s p) y.s y.p y.f = 0 ∧ atP (mkS (brS S s p) y.s y.p y.f).L s p = some ⟨y.s, y.p, y.f, 0, S.T + 1⟩ ∧ Bnd n (brS S s p) ∧ Bnd (n + 1) (mkS (brS S s p) y.s y.p y.f) := by
  obtain ⟨hy, e1, e2⟩ := atP_mem e
  have ok := h.ok y hy
  have hb := h.brk s p
  have gone : ∀ x ∈ (brS S s p).L, x ∈ S.L ∧ ¬ (x.s = s ∧ x.p = pd p) := fun x hx => by
    obtain ⟨a, b⟩ := List.mem_filter.1 hx
    refine ⟨a, fun c => ?_⟩
    unfold hitP at b
    rw [decide_eq_true c] at b
    cases b
  have n1 : atP (brS S s p).L s p = none := by
    unfold atP
    rw [List.find?_eq_none]
    intro x hx
    have := (gone x hx).2
    unfold hitP
    simpa using this
  have pp : pd y.p = y.p := pd_even ok.p8
  have ff : pd y.f = y.f := pd_even ok.f8
  have n2 : atP (brS S s p).L y.s y.p = none := by
    unfold atP
    rw [List.find?_eq_none]
    intro x hx
    have := (gone x hx).2
    unfold hitP
    rw [pp, e1, e2]
    simpa using this
  have n3 : atF (brS S s p).L y.f = none := by
    unfold atF
    rw [List.find?_eq_none]
    intro x hx
    have h1 := gone x hx
    unfold hitF
    rw [ff, decide_eq_true_eq]
    intro c
    have := h.own h1.1 hy c
    subst this
    exact h1.2 ⟨e1, e2⟩
  have m0 : mkE (brS S s p) y.s y.p y.f = 0 := by
    unfold mkE
    rw [if_neg, if_neg, if_neg]
    · rw [n2, n3]; simp
    · unfold alR; rw [decide_eq_true_eq]; have := ok.p8; have := ok.f8; omega
    · unfold rgR; rw [decide_eq_true_eq]; have := ok.s0; have := ok.p0; have := ok.p1; have := ok.f0; have := ok.f1; omega
  have hm := hb.make y.s y.p y.f ok.s1
  refine ⟨n1, m0, hm.atP ?_ e1 e2, hb, hm⟩
  rw [mkS_yes m0]
  exact (mem_insR _).2 (Or.inl rfl)
set_option maxHeartbeats 4000000 in
set_option maxRecDepth 100000 in
theorem anew_walk (A : Option Addr) (n c : Nat) {sp pg : Int} (w : World) (hA : Acs w w.heap.size A n) (hs : Fits sp) (hp : Fits pg) :
    Calls Try.prog 7 #[.slice A n c, .int .i64 sp, .int .i64 pg] w fun e w' => e = .returned (.bool true) ∧ Below w.heap.size w w' := by
  obtain ⟨M, hM, hls⟩ := hA.list
  have hm := made_any A n c w.heap.size M w hM hls (Nat.le_refl _)
  have hbd := mdE_bnd M (lsa_ok hls)
  generalize mdE M = S at hm hbd
  have HF := Lib.hid (And.intro hs (And.intro hp hbd))
  clear hA hM hls hs hp hbd
  go_enter Try.func7, Try.ntmps7
  go_wp2_with fail
  refine hm.mono ?_
  rintro e w1 ⟨s, x, rfl, hst, hb1⟩
  have HS1 := Lib.hid hst
  have HB1 := Lib.hid hb1
  have hak := awake_any w1
  clear hm hst hb1
  go_wp2_with fail
  refine hak.mono ?_
  rintro e w2 ⟨rfl, hb2⟩
  have HS2 := Lib.hid (HS1.out.call hb2)
  have HB2 := Lib.hid (HB1.out.trans (hb2.mono HB1.out.size))
  clear hak hb2 HS1 HB1
  obtain ⟨T, v, Kx, rfl, h1, h2, h3⟩ := HS2.out
  have hat := at_x h2 HF.out.2.2 (by decide) sp pg
  have hbr := break_r h1 HF.out.2.2 HF.out.1 HF.out.2.1
  by_cases hl : ixP S.L sp pg < S.L.length
  · obtain ⟨i, hi⟩ : ∃ i, i = ixP S.L sp pg := ⟨_, rfl⟩
    rw [atI_yes hl, ← hi] at hat
    rw [← hi] at hl
    obtain ⟨y, hy⟩ : ∃ y, y = S.L[i] := ⟨_, rfl⟩
    obtain ⟨e1, e2⟩ := ix_hit hi hl
    rw [← hy] at e1 e2
    obtain ⟨hkk, hkv⟩ := h2.at_ hl
    obtain ⟨A2, c2, hv⟩ := h2.own.form
    obtain ⟨m, hm⟩ : ∃ m, m = Kx.length := ⟨_, rfl⟩
    obtain ⟨-, g, e, -, hcell⟩ := h2.on hv hkk
    subst e
    obtain ⟨d0, d1, d2, d3, d4⟩ := on_at hcell
    rw [hkv, ← hy] at d0 d1 d2 d4
    have c0 := h2.c0
    rw [hv, ← hm] at c0
    have i1 : (i : Int) < m := by rw [hm]; omega
    have i0 : (0 : Int) ≤ i := by omega
    have i0n : ¬ (i : Int) < 0 := by omega
    clear hbr
    have HY := Lib.hid (And.intro e2 (And.intro (atP_mem e2) (HF.out.2.2.ok y (atP_mem e2).1)))
    have H1 := Lib.hid h1
    obtain ⟨gg, hgg⟩ : ∃ gg, gg = Kx[i].g := ⟨_, rfl⟩
    obtain ⟨cc, hcc⟩ : ∃ cc, cc = Kx[i].c := ⟨_, rfl⟩
    rw [← hgg, ← hcc] at d3
    obtain ⟨ys, yp, yf, yn, yt⟩ := y
    dsimp only at d0 d1 d2 d4 HY
    obtain ⟨W3, hW3⟩ : ∃ W3, W3 = w2.alloc (.cells #[.int .i64 ys, .int .i64 yp, .int .i64 yf, .slice (some ⟨gg, 0, none⟩) 8 cc, .int .i64 yt] 53) := ⟨_, rfl⟩
    obtain ⟨q, hq⟩ : ∃ q, q = w2.heap.size := ⟨_, rfl⟩
    have g3 : Below w2.heap.size w2 W3 := by rw [hW3]; exact below_new _ _
    have r3 : Lrow W3 q 53 [.int .i64 ys, .int .i64 yp, .int .i64 yf, .slice (some ⟨gg, 0, none⟩) 8 cc, .int .i64 yt] := by rw [hW3, hq]; exact Lrow.new w2 _ _
    have q3 : q < W3.heap.size := r3.lt
    have hbr := break_r (h1.call g3) HF.out.2.2 HF.out.1 HF.out.2.1
    obtain ⟨R, hR⟩ : ∃ R, R = brV S sp pg := ⟨_, rfl⟩
    rw [show brE S sp pg = 0 by unfold brE; rw [e2], ← hR] at hbr
    have HX : Hid (∀ k, MineO T S.L k → k = q → False) := fun k hk e => by
      have := h1.lt k hk
      omega
    have HFA := Lib.hid (anew_facts HF.out.2.2 e2)
    have HC3 := Lib.hid (h1.call g3)
    have HR3 := Lib.hid (And.intro r3 q3)
    have HW := Lib.hid (And.intro hW3 hq)
    have HB3 : Hid (Below w.heap.size w W3) := HB2.out.trans (g3.mono HB2.out.size)
    obtain ⟨S1, hS1⟩ : ∃ S1, S1 = brS S sp pg := ⟨_, rfl⟩
    rw [← hS1] at hbr HFA
    obtain ⟨S2, hS2⟩ : ∃ S2, S2 = mkS S1 ys yp yf := ⟨_, rfl⟩
    have HS2' := Lib.hid hS2
    clear h1 h2 h3 hi hl hy e1 e2 hkk hkv hv hm hcell hgg hcc hW3 hq g3 r3 q3 hR hS1 hS2
    go_upto_region 5 with ((with_reducible refine hat.mono ?_); rintro e w3 ⟨rfl, rfl⟩)
    go_upto_region 9 with fail
    rw [← HW.out.1, ← HW.out.2]
    generalize R.length = rl at hbr
    go_wp2_with fail
    refine hbr.mono ?_
    rintro e w4 ⟨A4, c4, rfl, -, hd⟩
    have HB4 : Hid (Below w.heap.size w w4) := HB3.out.trans (HC3.out.down hd)
    have r4 := hd.choose_spec.2.2.1.row HR3.out.1 (fun e => HX.out q e rfl)
    obtain ⟨T4, t4, o4, -, f4⟩ := hd
    have HX4 : Hid (∀ k, MineO T4 S1.L k → k = q → False) := fun k hk e => by
      rcases f4 k hk with c | c
      · exact HX.out k c e
      · have := HR3.out.2; omega
    have hfi := lookup_r o4 HF.out.1 HF.out.2.1
    rw [HFA.out.1, t4, show tldV none = .agg #[.int .i64 0, .int .i64 0, .int .i64 0, .int .u8 0] from rfl, show (none : Option Rv).isSome = false from rfl] at hfi
    have H4 := Lib.hid (And.intro t4 (And.intro o4 r4))
    clear hbr f4 t4 o4 r4
    go_wp2_with fail
    refine hfi.mono ?_
    rintro e w5 ⟨rfl, hb5⟩
    have HB5 : Hid (Below w.heap.size w w5) := HB4.out.trans (hb5.mono HB4.out.size)
    have r5 := H4.out.2.2.call hb5
    have o5 := H4.out.2.1.call hb5
    obtain ⟨W6, hW6⟩ : ∃ W6, W6 = w5.alloc (.cells #[.int .i64 0, .int .i64 0, .int .i64 0, .int .u8 0] 31) := ⟨_, rfl⟩
    have g6 : Below w5.heap.size w5 W6 := by rw [hW6]; exact below_new _ _
    have r6 := r5.call g6
    have o6 := o5.call g6
    have c0 := r6.cell 0
    have c1 := r6.cell 1
    have c2 := r6.cell 2
    have hmk := make_r o6 HFA.out.2.2.2.1 (by decide) (s := ys) (p := yp) (f := yf) ⟨by have := HY.out.2.2.s0; dsimp only at this; omega, HY.out.2.2.s1⟩ ⟨by have := HY.out.2.2.p0; dsimp only at this; omega, by have := HY.out.2.2.p1; dsimp only at this; omega⟩ ⟨by have := HY.out.2.2.f0; dsimp only at this; omega, by have := HY.out.2.2.f1; dsimp only at this; omega⟩
    rw [HFA.out.2.1, ← HS2'.out, H4.out.1] at hmk
    have HB6 : Hid (Below w.heap.size w W6) := HB5.out.trans (g6.mono HB5.out.size)
    have HW6 := Lib.hid hW6
    have H6 := Lib.hid (And.intro o6 r6)
    clear hfi hb5 r5 o5 hW6 g6 r6 o6
    go_upto_region 13 with fail
    rw [← HW6.out]
    go_wp2_with fail
    refine hmk.mono ?_
    rintro e w7 ⟨rfl, hd⟩
    have HB7 : Hid (Below w.heap.size w w7) := HB6.out.trans (H6.out.1.down hd)
    have r7 := hd.choose_spec.2.2.1.row H6.out.2 (fun e => HX4.out q e rfl)
    obtain ⟨T7, t7, o7, -, -⟩ := hd
    have hfi := lookup_r o7 HF.out.1 HF.out.2.1
    rw [HS2'.out, HFA.out.2.2.1, t7, H4.out.1, show tldV (some ⟨ys, yp, yf, 0, S.T + 1⟩) = .agg #[.int .i64 ys, .int .i64 yp, .int .i64 yf, .int .u8 0] from rfl, show (some (⟨ys, yp, yf, 0, S.T + 1⟩ : Rv)).isSome = true from rfl] at hfi
    have H7 := Lib.hid r7
    clear hmk c0 c1 c2 r7 o7 t7
    go_wp2_with fail
    refine hfi.mono ?_
    rintro e w8 ⟨rfl, hb8⟩
    have HB8 : Hid (Below w.heap.size w w8) := HB7.out.trans (hb8.mono HB7.out.size)
    have r8 := H7.out.call hb8
    obtain ⟨z, hz⟩ : ∃ z, z = w8.heap.size := ⟨_, rfl⟩
    obtain ⟨W9, hW9⟩ : ∃ W9, W9 = w8.alloc (.cells #[.int .i64 ys, .int .i64 yp, .int .i64 yf, .int .u8 0] 31) := ⟨_, rfl⟩
    have g9 : Below w8.heap.size w8 W9 := by rw [hW9]; exact below_new _ _
    have rz : Lrow W9 z 31 [.int .i64 ys, .int .i64 yp, .int .i64 yf, .int .u8 0] := by rw [hW9, hz]; exact Lrow.new w8 _ _
    have r9 := r8.call g9
    have c0 := r9.cell 0
    have c1 := r9.cell 1
    have c2 := r9.cell 2
    have z0 := rz.cell 0
    have z1 := rz.cell 1
    have z2 := rz.cell 2
    have z3 := rz.cell 3
    have HB9 : Hid (Below w.heap.size w W9) := HB8.out.trans (g9.mono HB8.out.size)
    have HW9 := Lib.hid (And.intro hW9 hz)
    clear hfi hb8 r8 r9 rz hW9 hz g9
    go_upto_region 16 with fail
    rw [← HW9.out.1, ← HW9.out.2]
    go_wp2_with fail
    go_ret
    exact ⟨ret_bool (by simp), HB9.out⟩
  · obtain ⟨e1, e2⟩ := atI_no hl
    rw [e1] at hat
    rw [show brE S sp pg = 6 by unfold brE; rw [e2], show (brV S sp pg).length = 0 by unfold brV; rw [e2]; rfl] at hbr
    have H1 := Lib.hid h1
    clear h1 h2 h3 hl e1 e2
    go_upto_region 5 with ((with_reducible refine hat.mono ?_); rintro e w3 ⟨rfl, rfl⟩)
    go_wp2_with fail
    refine hbr.mono ?_
    rintro e w4 ⟨A4, c4, rfl, -, hd⟩
    have HB4 : Hid (Below w.heap.size w w4) := HB2.out.trans (H1.out.down hd)
    clear hbr hd
    go_wp2_with fail
    go_ret
    exact ⟨ret_bool (by simp), HB4.out⟩
end Go.Proofs.Ytfalmjibpkkjaaa
