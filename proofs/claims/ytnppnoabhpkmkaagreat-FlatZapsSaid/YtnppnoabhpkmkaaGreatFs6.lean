/- Spaces: a box of an operation that is written in place; FlatStores, walked. -/
import Derived.Test.YtnppnoabhpkmkaaGreatFs5
import Derived.BigRegion
namespace Go.Proofs.YtnppnoabhpkmkaaGreat
open Go.RowKit
/-- A cell of a block below both sides is written. -/
theorem St.put {I : FlI} {B : Nat} {w : World} {s xa q : Nat} {G F : Fl} {t : TypeId} {vs : List Value} (h : St I B w s xa G F) (r : Lrow w q t vs) (hq : q < B) (ht : t ≠ 45) (hta : t ≠ 93) (i : Nat) (u : Value) : St I B (w.setCell ⟨q, i, none⟩ u) s xa G F := by
  obtain ⟨X, T, e, h1, h2, h3⟩ := h
  have hs : w.heap.size ≤ (w.setCell ⟨q, i, none⟩ u).heap.size := by simp [World.setCell]
  have hk : ∀ k, k ≠ q → (w.setCell ⟨q, i, none⟩ u).heap[k]? = w.heap[k]? := fun k hk => Below.heap_setCell w _ u k hk
  exact ⟨X, T, e, I.keep h1 hs (fun k hx _ => hk k fun e => by have := (I.lo h1 k hx).1; omega) (fun k us r2 => hk k (r2.apart r (Ne.symm hta))), h2.keep hs (fun k hx => hk k fun e => by have := h2.low k hx; omega) (fun k us r2 => hk k (r2.apart r (Ne.symm ht))), h3⟩
/-- The cells of a box. -/
def Box9 (w : World) (q : Nat) (k s a n h p t c v : Int) : Prop := w.cell? ⟨q, 0, none⟩ = some (.int .i64 k) ∧ w.cell? ⟨q, 1, none⟩ = some (.int .i64 s) ∧ w.cell? ⟨q, 2, none⟩ = some (.int .i64 a) ∧ w.cell? ⟨q, 3, none⟩ = some (.int .i64 n) ∧ w.cell? ⟨q, 4, none⟩ = some (.int .i64 h) ∧ w.cell? ⟨q, 5, none⟩ = some (.int .i64 p) ∧ w.cell? ⟨q, 6, none⟩ = some (.int .i64 t) ∧ w.cell? ⟨q, 7, none⟩ = some (.int .i64 c) ∧ w.cell? ⟨q, 8, none⟩ = some (.int .u64 v)
theorem box9 {w : World} {q : Nat} {k s a n h p t c v : Int} (r : Lrow w q 25 (opL ⟨k, s, a, n, h, p, t, c, v⟩)) : Box9 w q k s a n h p t c v := ⟨r.cell 0, r.cell 1, r.cell 2, r.cell 3, r.cell 4, r.cell 5, r.cell 6, r.cell 7, r.cell 8⟩
theorem box_put {w : World} {q : Nat} {k s a n h p t c v : Int} (r : Lrow w q 25 (opL ⟨k, s, a, n, h, p, t, c, v⟩)) (k' : Int) : Lrow (w.setCell ⟨q, 0, none⟩ (.int .i64 k')) q 25 (opL ⟨k', s, a, n, h, p, t, c, v⟩) := r.set_ 0 _
theorem keepc {w U : World} {p : Addr} {v : Value} (hb : Below w.heap.size w U) (h : w.cell? p = some v) : U.cell? p = some v := (hb.cell (World.block_lt_of_cell? w _ h)).trans h
theorem bal {a w : World} {o : Obj} (h : Below a.heap.size a w) : Below a.heap.size a (w.alloc o) := h.alloc h.size o
theorem two_box (w : World) (vs us : List Value) : Lrow ((w.alloc (.cells vs.toArray 45)).alloc (.cells us.toArray 45)).drew w.heap.size 45 vs ∧ Lrow ((w.alloc (.cells vs.toArray 45)).alloc (.cells us.toArray 45)).drew (w.heap.size + 1) 45 us ∧ Below w.heap.size w ((w.alloc (.cells vs.toArray 45)).alloc (.cells us.toArray 45)).drew := by
  have a1 := below_new w (.cells vs.toArray 45)
  have a2 := below_new (w.alloc (.cells vs.toArray 45)) (.cells us.toArray 45)
  have a3 := (Below.refl ((w.alloc (.cells vs.toArray 45)).alloc (.cells us.toArray 45)).heap.size ((w.alloc (.cells vs.toArray 45)).alloc (.cells us.toArray 45))).drew
  have r1 := Lrow.new w 45 vs
  have r2 := Lrow.new (w.alloc (.cells vs.toArray 45)) 45 us
  have e : (w.alloc (.cells vs.toArray 45)).heap.size = w.heap.size + 1 := World.size_alloc _ _
  rw [e] at r2
  exact ⟨(r1.call a2).call a3, r2.call a3, (a1.trans (a2.mono a1.size)).trans (a3.mono (a1.trans (a2.mono a1.size)).size)⟩
set_option maxHeartbeats 4000000 in
set_option maxRecDepth 100000 in
theorem stores_walk (I : FlI) (A : Option Addr) (n c : Nat) (l : Rq) (b : Int) (w : World) (hA : Rqs w w.heap.size A n) (hl : IsRq l) (hb : Fits b) :
    Calls Tryz.prog 4 #[.slice A n c, .agg (rqCells l).toArray, .int .i64 b] w fun e w' => e = .returned (.bool true) ∧ Below w.heap.size w w' := by
  obtain ⟨M, hM, hls⟩ := hA.list
  obtain ⟨W0, hW0⟩ : ∃ W0, W0 = w.alloc (.cells (opL l).toArray 25) := ⟨_, rfl⟩
  obtain ⟨q, hq⟩ : ∃ q, q = w.heap.size := ⟨_, rfl⟩
  have g0 : Below w.heap.size w W0 := by rw [hW0]; exact below_new _ _
  have rs : Lrow W0 q 25 (opL l) := by rw [hW0, hq]; exact Lrow.new w _ (opL l)
  have hm := made_any I A n c w.heap.size 40 M W0 hM (hls.below g0) g0.size (by decide)
  have HBF := Lib.hid (mdE_b M 40)
  generalize mdS (M.take 40) = F at hm HBF
  have HG0 := Lib.hid g0
  have HRS := Lib.hid rs
  have HW := Lib.hid (And.intro hW0 hq)
  have HF := Lib.hid (And.intro hl hb)
  clear hA hM hls hW0 hq g0 rs hl hb
  obtain ⟨lk, ls, la, ln, lh, lp, lt, lc, lv⟩ := l
  dsimp only [rqCells] at HW ⊢
  have HW' := HW.out.1
  dsimp only [opL] at HW'
  have HWA := Lib.hid HW'
  clear HW'
  go_enter Tryz.func4, Tryz.ntmps4
  go_upto_region 1 with (fail)
  rw [← HWA.out, ← HW.out.2]
  go_wp2_with fail
  refine hm.mono ?_
  rintro e w1 ⟨s, x, rfl, hst, hb1⟩
  have HST := Lib.hid hst
  have HB1 := Lib.hid hb1
  clear hm hst hb1
  go_wp2_with fail
  refine (awake_any I _).mono ?_
  rintro e w2 ⟨rfl, hb2⟩
  have HB2 : Hid (Below W0.heap.size W0 w2) := HB1.out.trans (hb2.mono HB1.out.size)
  have hr2 := HRS.out.call HB2.out
  have hqB : Hid (q < W0.heap.size) := HRS.out.lt
  obtain ⟨W3, hW3⟩ : ∃ W3, W3 = w2.setCell ⟨q, 0, none⟩ (.int .i64 10) := ⟨_, rfl⟩
  have hr3 := box_put hr2 10
  have hst3 := (HST.out.call hb2).put hr2 hqB.out (by decide) (by decide) 0 (.int .i64 10)
  rw [← hW3] at hr3 hst3
  have hf0 := hr2.frozen 0
  have he0 := hr2.cell 0
  have HGB : Hid (Below w.heap.size w W3) := by
    show Below _ _ _
    rw [hW3]
    exact below_set (HG0.out.trans (HB2.out.mono HG0.out.size)) (by rw [HW.out.2]; exact Nat.le_refl _) _ _
  have HRF : Hid (IsRq ⟨10, ls, la, ln, lh, lp, lt, lc, lv⟩) := ⟨by show Fits 10; unfold Fits; omega, HF.out.1.s, HF.out.1.a, HF.out.1.n, HF.out.1.h, HF.out.1.p, HF.out.1.t, HF.out.1.c, HF.out.1.v⟩
  obtain ⟨X, T, ex, k1, k2, k3⟩ := hst3
  have hw := I.word k1 HBF.out.ok (Nat.le_trans HBF.out.ob (by decide)) ls b HF.out.1.s HF.out.2
  have HK := Lib.hid (And.intro k1 (And.intro k2 (And.intro k3 ex)))
  have HR3 := Lib.hid hr3
  have HZ3 := Lib.hid hW3
  have d1 : W3.cell? ⟨q, 1, none⟩ = some (.int .i64 ls) := hr3.cell 1
  clear hb2 hr2 hr3 hW3 k1 k2 k3 ex
  go_upto_region 5 with (fail)
  rw [← HZ3.out]
  obtain ⟨E1, hE1⟩ : ∃ E, E = wdE F ls b := ⟨_, rfl⟩
  obtain ⟨V1, hV1⟩ : ∃ V, V = wdV F ls b := ⟨_, rfl⟩
  rw [← hE1, ← hV1] at hw
  have HEV1 := Lib.hid (And.intro hE1 hV1)
  clear hE1 hV1 hf0 he0
  go_wp2_with fail
  refine hw.mono ?_
  rintro e w4 ⟨rfl, hb4⟩
  have hr4 := HR3.out.call hb4
  have hdo := I.do9 (I.call HK.out.1 hb4) HBF.out (by decide) 10 ls la ln lh lp lt lc lv HRF.out
  have hbx := box9 hr4
  unfold Box9 at hbx
  obtain ⟨e0, e1, e2, e3, e4, e5, e6, e7, e8⟩ := hbx
  obtain ⟨E, hE⟩ : ∃ E, E = (stF F ⟨10, ls, la, ln, lh, lp, lt, lc, lv⟩).1 := ⟨_, rfl⟩
  obtain ⟨V, hV⟩ : ∃ V, V = (stF F ⟨10, ls, la, ln, lh, lp, lt, lc, lv⟩).2.1 := ⟨_, rfl⟩
  rw [← hE, ← hV] at hdo
  have HE := Lib.hid hE
  have HR4 := Lib.hid hr4
  have HK4 := Lib.hid (And.intro (I.call HK.out.1 hb4) (HK.out.2.1.call hb4))
  have HB4 : Hid (Below w.heap.size w w4) := HGB.out.trans (hb4.mono HGB.out.size)
  clear hw hb4 hr4 hE hV d1
  go_wp2_with fail
  refine hdo.mono ?_
  rintro e w5 ⟨rfl, hd⟩
  obtain ⟨X5, m1, m2, m3, mb⟩ := half HK4.out.1 HK4.out.2 HK.out.2.2.1 hd
  obtain ⟨W5, hW5⟩ : ∃ W5, W5 = w5.alloc (.cells #[.int .i64 E, .int .u64 V] 33) := ⟨_, rfl⟩
  obtain ⟨b5, hb5⟩ : ∃ b, b = w5.heap.size := ⟨_, rfl⟩
  have g5 : Below w5.heap.size w5 W5 := by rw [hW5]; exact below_new _ _
  have r5 : Lrow W5 b5 33 [.int .i64 E, .int .u64 V] := by rw [hW5, hb5]; exact Lrow.new w5 _ [.int .i64 E, .int .u64 V]
  have hr5 : Lrow W5 q 25 (opL ⟨10, ls, la, ln, lh, lp, lt, lc, lv⟩) := by
    have : Lrow w5 q 25 (opL ⟨10, ls, la, ln, lh, lp, lt, lc, lv⟩) := (mb.block q hqB.out).trans HR4.out
    exact this.call g5
  have HS5 : Hid (St I W0.heap.size W5 s x (stF F ⟨10, ls, la, ln, lh, lp, lt, lc, lv⟩).2.2 F) := ⟨X5, T, HK.out.2.2.2, I.call m1 g5, m2.call g5, m3⟩
  have mb' : Below w.heap.size w4 w5 := mb.mono HG0.out.size
  have HB5 : Hid (Below w.heap.size w W5) := (HB4.out.trans mb').trans (g5.mono (HB4.out.trans mb').size)
  have HZ5 := Lib.hid (And.intro hW5 hb5)
  have c0 := r5.cell 0
  have HR5 := Lib.hid hr5
  clear hdo hd m1 m2 m3 mb mb' hW5 hb5 g5 r5 hr5 e0 e1 e2 e3 e4 e5 e6 e7 e8
  go_upto_region 7 with (fail)
  rw [← HZ5.out.1, ← HZ5.out.2]
  by_cases hE0 : E = 0
  · have he := HE.out
    rw [hE0] at he
    have HE0 := Lib.hid he.symm
    have ee : (E == 0) = true := by rw [hE0]; rfl
    subst hE0
    have HSL := Lib.hid (store_load HBF.out.ok (r := ⟨10, ls, la, ln, lh, lp, lt, lc, lv⟩) rfl HE0.out)
    obtain ⟨W6, hW6⟩ : ∃ W6, W6 = W5.setCell ⟨q, 0, none⟩ (.int .i64 9) := ⟨_, rfl⟩
    have hr6 := box_put HR5.out 9
    have hst6 := HS5.out.put HR5.out hqB.out (by decide) (by decide) 0 (.int .i64 9)
    rw [← hW6] at hr6 hst6
    have hf0 := HR5.out.frozen 0
    have he0 := HR5.out.cell 0
    have HB6 : Hid (Below w.heap.size w W6) := by
      show Below _ _ _
      rw [hW6]
      exact below_set HB5.out (by rw [HW.out.2]; exact Nat.le_refl _) _ _
    have HRL : Hid (IsRq ⟨9, ls, la, ln, lh, lp, lt, lc, lv⟩) := ⟨by show Fits 9; unfold Fits; omega, HF.out.1.s, HF.out.1.a, HF.out.1.n, HF.out.1.h, HF.out.1.p, HF.out.1.t, HF.out.1.c, HF.out.1.v⟩
    have hbd : Below W6.heap.size W6 W6.drew := below_dN (Below.refl _ _) 1
    have HST6 := Lib.hid (hst6.call hbd)
    obtain ⟨X6, T6, ex6, k1, k2, k3⟩ := hst6.call hbd
    have HBG := Lib.hid (HBF.out.step ⟨10, ls, la, ln, lh, lp, lt, lc, lv⟩)
    have hdo := I.do9 k1 HBG.out (by decide) 9 ls la ln lh lp lt lc lv HRL.out
    have hsl := HSL.out
    change stF (stF F ⟨10, ls, la, ln, lh, lp, lt, lc, lv⟩).2.2 ⟨9, ls, la, ln, lh, lp, lt, lc, lv⟩ = _ at hsl
    rw [hsl] at hdo
    dsimp only at hdo
    have hr6d := hr6.call hbd
    have hbx := box9 hr6d
    unfold Box9 at hbx
    have HR6 := Lib.hid hr6d
    have HK6 := Lib.hid (And.intro k1 (And.intro k2 (And.intro k3 ex6)))
    have HBD : Hid (Below w.heap.size w W6.drew) := HB6.out.trans (hbd.mono HB6.out.size)
    have HZ6 := Lib.hid hW6
    clear hr6 hst6 hW6 hbd k1 k2 k3 ex6 hsl hr6d he
    go_upto_region 10 with (fail)
    rw [← HZ6.out]
    clear hf0 he0
    go_wp2_with fail
    go_region_held3 (fun U => U.cell? ⟨q, 0, none⟩ = some (.int .i64 9) ∧ U.cell? ⟨q, 1, none⟩ = some (.int .i64 ls) ∧ U.cell? ⟨q, 2, none⟩ = some (.int .i64 la) ∧ U.cell? ⟨q, 3, none⟩ = some (.int .i64 ln) ∧ U.cell? ⟨q, 4, none⟩ = some (.int .i64 lh) ∧ U.cell? ⟨q, 5, none⟩ = some (.int .i64 lp) ∧ U.cell? ⟨q, 6, none⟩ = some (.int .i64 lt) ∧ U.cell? ⟨q, 7, none⟩ = some (.int .i64 lc) ∧ U.cell? ⟨q, 8, none⟩ = some (.int .u64 lv))
      (first | assumption | (dsimp only; assumption))
      (first | (go_at_call 11; (with_reducible refine hdo.mono ?_); rintro e w7 ⟨rfl, hd⟩; obtain ⟨X7, m1, m2, m3, mb⟩ := half HK6.out.1 HK6.out.2.1 HK6.out.2.2.1 hd; have HR7 : Hid (Lrow w7 q 25 (opL ⟨9, ls, la, ln, lh, lp, lt, lc, lv⟩)) := (mb.block q hqB.out).trans HR6.out; have hby := box9 HR7.out; unfold Box9 at hby; have HM7 := Lib.hid (And.intro m1 (And.intro m2 m3)); have HB7 : Hid (Below w.heap.size w w7) := HBD.out.trans (mb.mono HG0.out.size); clear hd m1 m2 m3 mb) | fail)
    all_goals
      obtain ⟨c3, ce, cp, hst⟩ := st10 (F := F) (r := ⟨10, ls, la, ln, lh, lp, lt, lc, lv⟩) rfl HE0.out
      have hw2 := I.word HM7.out.1 HBG.out.ok (Nat.le_trans HBG.out.ob (by decide)) ls b HF.out.1.s HF.out.2
      have hwe : wdE (stF F ⟨10, ls, la, ln, lh, lp, lt, lc, lv⟩).2.2 ls b = E1 := by rw [HEV1.out.1, hst]; exact store_err c3
      obtain ⟨V2, hV2⟩ : ∃ V, V = wdV (stF F ⟨10, ls, la, ln, lh, lp, lt, lc, lv⟩).2.2 ls b := ⟨_, rfl⟩
      rw [hwe, ← hV2] at hw2
      have HV2 := Lib.hid hV2
      have HST := Lib.hid (And.intro c3 (And.intro ce (And.intro cp hst)))
      clear c3 ce cp hst hwe hV2
      go_wp2_with fail
      refine hw2.mono ?_
      rintro e w8 ⟨rfl, hb8⟩
      have HR8 := Lib.hid (HR7.out.call hb8)
      have HB8 : Hid (Below w.heap.size w w8) := HB7.out.trans (hb8.mono HB7.out.size)
      have HT8 := Lib.hid (HM7.out.2.1.call hb8)
      have t2 : w8.cell? ⟨q, 2, none⟩ = some (.int .i64 la) := HR8.out.cell 2
      clear hw2 hb8
      clear hby
      by_cases hE1 : E1 = 0
      · have he1 := HEV1.out.1
        rw [hE1] at he1
        have HE1 := Lib.hid he1.symm
        have ee1 : (E1 == 0) = true := by rw [hE1]; rfl
        subst hE1
        clear he1
        by_cases hba : b = la
        · have nb : (b == la) = true := by rw [hba]; simp
          subst hba
          go_wp2_with fail
          go_ret
          exact ⟨ret_bool (by simp), HB8.out⟩
        · obtain ⟨c3, ce, cp, hst⟩ := HST.out
          obtain ⟨l0, l1, -⟩ := isS_get c3
          obtain ⟨j, rfl⟩ : ∃ j : Nat, ls = j := ⟨ls.toNat, by omega⟩
          have hj : j < F.L.length := by omega
          have hcb : celE 10 4 (sp F j) b = 0 := by
            have := HE1.out
            unfold wdE at this
            rw [if_pos c3] at this; exact this
          obtain ⟨a0, a1, a2, a3⟩ := celE_ok ce
          obtain ⟨z0, z1, z2, z3⟩ := celE_ok hcb
          obtain ⟨ka, rfl⟩ : ∃ k : Nat, la = k := ⟨la.toNat, by omega⟩
          obtain ⟨kb, rfl⟩ : ∃ k : Nat, b = k := ⟨b.toNat, by omega⟩
          obtain ⟨m1, hm1⟩ : ∃ m : Nat, (ka : Int) / 64 = m := ⟨ka / 64, by omega⟩
          obtain ⟨m2, hm2⟩ : ∃ m : Nat, (kb : Int) / 64 = m := ⟨kb / 64, by omega⟩
          have nb : ((kb : Int) == (ka : Int)) = false := by simpa using hba
          obtain ⟨gL, cL, s1, gP, cP, -, -, y0, y1, y2, y3, y4⟩ := HT8.out.chain hj
          have u := y4 m1 (by omega)
          have v := y4 m2 (by omega)
          rw [HK6.out.2.2.2] at y0
          obtain ⟨P1, hP1⟩ : ∃ P, P = (sp F j).P m1 := ⟨_, rfl⟩
          obtain ⟨P2, hP2⟩ : ∃ P, P = (sp F j).P m2 := ⟨_, rfl⟩
          rw [← hP1] at u
          rw [← hP2] at v
          obtain ⟨h1, p1, o1, x1⟩ := P1
          obtain ⟨h2, p2, o2, x2⟩ := P2
          obtain ⟨u0, u1, u2, u3⟩ := u
          obtain ⟨v0, v1, v2, v3⟩ := v
          dsimp only at u0 u1 u2 u3 v0 v1 v2 v3
          have t1 : w8.cell? ⟨q, 1, none⟩ = some (.int .i64 j) := HR8.out.cell 1
          obtain ⟨N, hN⟩ : ∃ N, N = F.L.length := ⟨_, rfl⟩
          rw [← hN] at y0 hj
          obtain ⟨M4, hM4⟩ : ∃ M : Nat, M = 4096 := ⟨_, rfl⟩
          rw [← hM4] at y3
          have HC : Hid (∀ U, Below w8.heap.size w8 U → U.cell? ⟨x, 0, none⟩ = some (.slice (some ⟨gL, 0, none⟩) N cL) ∧ U.cell? ⟨gL, j, none⟩ = some (.pointer (some ⟨s1.sb, 0, none⟩)) ∧ U.cell? ⟨s1.sb, 0, none⟩ = some (.pointer (some ⟨s1.ab, 0, none⟩)) ∧ U.cell? ⟨s1.ab, 0, none⟩ = some (.slice (some ⟨gP, 0, none⟩) M4 cP) ∧ U.cell? ⟨gP, m1 * 4, none⟩ = some (.int .i64 h1) ∧ U.cell? ⟨gP, m1 * 4 + 1, none⟩ = some (.int .i64 p1) ∧ U.cell? ⟨gP, m1 * 4 + 2, none⟩ = some (.int .i64 o1) ∧ U.cell? ⟨gP, m1 * 4 + 3, none⟩ = some (.int .i64 x1) ∧ U.cell? ⟨gP, m2 * 4, none⟩ = some (.int .i64 h2) ∧ U.cell? ⟨gP, m2 * 4 + 1, none⟩ = some (.int .i64 p2) ∧ U.cell? ⟨gP, m2 * 4 + 2, none⟩ = some (.int .i64 o2) ∧ U.cell? ⟨gP, m2 * 4 + 3, none⟩ = some (.int .i64 x2) ∧ U.cell? ⟨q, 1, none⟩ = some (.int .i64 j) ∧ U.cell? ⟨q, 2, none⟩ = some (.int .i64 ka)) := fun U hU => ⟨keepc hU y0, keepc hU y1, keepc hU y2, keepc hU y3, keepc hU u0, keepc hU u1, keepc hU u2, keepc hU u3, keepc hU v0, keepc hU v1, keepc hU v2, keepc hU v3, keepc hU t1, keepc hU t2⟩
          have j0 : (0 : Int) ≤ j := by omega
          have jN : (j : Int) < N := by omega
          have m10 : (0 : Int) ≤ m1 := by omega
          have m20 : (0 : Int) ≤ m2 := by omega
          have m14 : (m1 : Int) < M4 := by omega
          have m24 : (m2 : Int) < M4 := by omega
          have ka0 : (0 : Int) ≤ ka := by omega
          have kb0 : (0 : Int) ≤ kb := by omega
          have ka1 : (ka : Int) ≤ 262143 := by omega
          have kb1 : (kb : Int) ≤ 262143 := by omega
          have ht1 : (ka : Int).tdiv 64 = m1 := by rw [Int.tdiv_eq_ediv_of_nonneg ka0]; exact hm1
          have ht2 : (kb : Int).tdiv 64 = m2 := by rw [Int.tdiv_eq_ediv_of_nonneg kb0]; exact hm2
          have hi1 : IntKind.i64.wrap ((ka : Int).tdiv 64) = m1 := by rw [ht1]; exact IntWalk.i64_in _ (by omega)
          have hi2 : IntKind.i64.wrap ((kb : Int).tdiv 64) = m2 := by rw [ht2]; exact IntWalk.i64_in _ (by omega)
          have hj1 : IntKind.i64.wrap ((ka : Int) / 64) = m1 := by rw [hm1]; exact IntWalk.i64_in _ (by omega)
          have hj2 : IntKind.i64.wrap ((kb : Int) / 64) = m2 := by rw [hm2]; exact IntWalk.i64_in _ (by omega)
          have iw1 : IntKind.i64.wrap (m1 : Int) = m1 := IntWalk.i64_in _ (by omega)
          have iw2 : IntKind.i64.wrap (m2 : Int) = m2 := IntWalk.i64_in _ (by omega)
          have HP := Lib.hid (And.intro hP1 (And.intro hP2 (And.intro hcb hba)))
          have HS0 := HC.out _ ((Below.refl w8.heap.size w8).drew)
          clear c3 ce cp hst l0 l1 hj hcb hba a0 a1 a2 a3 z0 z1 z2 z3 y4 hP1 hP2 hN hM4
          go_upto_region 15 with (fail)
          go_cut [15, 16] from 76 to 112 (fun s15 s16 wx => ∃ ba bb, s15 = .pointer (some ⟨ba, 0, none⟩) ∧ s16 = .pointer (some ⟨bb, 0, none⟩) ∧ Lrow wx ba 45 [.int .i64 h1, .int .i64 p1, .int .i64 o1, .int .i64 x1] ∧ Lrow wx bb 45 [.int .i64 h2, .int .i64 p2, .int .i64 o2, .int .i64 x2] ∧ Below w8.heap.size w8 wx)
          case first =>
            go_region_held3 (fun U => U.cell? ⟨x, 0, none⟩ = some (.slice (some ⟨gL, 0, none⟩) N cL) ∧ U.cell? ⟨gL, j, none⟩ = some (.pointer (some ⟨s1.sb, 0, none⟩)) ∧ U.cell? ⟨s1.sb, 0, none⟩ = some (.pointer (some ⟨s1.ab, 0, none⟩)) ∧ U.cell? ⟨s1.ab, 0, none⟩ = some (.slice (some ⟨gP, 0, none⟩) M4 cP) ∧ U.cell? ⟨gP, m1 * 4, none⟩ = some (.int .i64 h1) ∧ U.cell? ⟨gP, m1 * 4 + 1, none⟩ = some (.int .i64 p1) ∧ U.cell? ⟨gP, m1 * 4 + 2, none⟩ = some (.int .i64 o1) ∧ U.cell? ⟨gP, m1 * 4 + 3, none⟩ = some (.int .i64 x1) ∧ U.cell? ⟨gP, m2 * 4, none⟩ = some (.int .i64 h2) ∧ U.cell? ⟨gP, m2 * 4 + 1, none⟩ = some (.int .i64 p2) ∧ U.cell? ⟨gP, m2 * 4 + 2, none⟩ = some (.int .i64 o2) ∧ U.cell? ⟨gP, m2 * 4 + 3, none⟩ = some (.int .i64 x2) ∧ U.cell? ⟨q, 1, none⟩ = some (.int .i64 j) ∧ U.cell? ⟨q, 2, none⟩ = some (.int .i64 ka))
              (first | assumption | (dsimp only; assumption) | exact HC.out _ (by repeat (first | exact Below.refl _ _ | refine Below.drew ?_ | refine bal ?_ | refine below_set ?_ (by omega) _ _)))
              (fail)
            all_goals
              go_wp2_with fail
              go_meet
              first
                | exact ⟨_, _, rfl, rfl, (two_box w8 _ _).1, (two_box w8 _ _).2.1, (two_box w8 _ _).2.2⟩
                | exact ⟨_, _, rfl, rfl, (two_box w8 _ _).2.1, (two_box w8 _ _).1, (two_box w8 _ _).2.2⟩
          case rest =>
            obtain ⟨ba, bb, rfl, rfl, r1, r2, hbx⟩ := hcut
            have HBX : Hid (∀ U, Below wc.heap.size wc U → Below w.heap.size w U) := fun U hU => (HB8.out.trans (hbx.mono HB8.out.size)).trans (hU.mono (HB8.out.trans (hbx.mono HB8.out.size)).size)
            have t2x := keepc hbx t2
            have u0 : wc.cell? ⟨ba, 0, none⟩ = some (.int .i64 h1) := r1.cell 0
            have u2 : wc.cell? ⟨ba, 2, none⟩ = some (.int .i64 o1) := r1.cell 2
            have u3 : wc.cell? ⟨ba, 3, none⟩ = some (.int .i64 x1) := r1.cell 3
            have v0 : wc.cell? ⟨bb, 0, none⟩ = some (.int .i64 h2) := r2.cell 0
            have v2 : wc.cell? ⟨bb, 2, none⟩ = some (.int .i64 o2) := r2.cell 2
            have v3 : wc.cell? ⟨bb, 3, none⟩ = some (.int .i64 x2) := r2.cell 3
            have hre1 : (ka : Int).tmod 64 = (ka : Int) % 64 := Int.tmod_eq_emod_of_nonneg ka0
            have hre2 : (kb : Int).tmod 64 = (kb : Int) % 64 := Int.tmod_eq_emod_of_nonneg kb0
            have HSM : Hid (¬ (shr h1 ∧ shr h2 ∧ o1 = o2 ∧ x1 = x2 ∧ (ka : Int) % 64 = (kb : Int) % 64) → V2 = V1) := by
              show _ → _
              intro hn
              obtain ⟨hP1, hP2, hcb, hba⟩ := HP.out
              rw [HV2.out, HEV1.out.2]
              refine store_other HBF.out.ok rfl HE0.out hcb hba ?_
              show ¬ (shr ((sp F j).P ((ka : Int) / 64)).h ∧ shr ((sp F j).P ((kb : Int) / 64)).h ∧ ((sp F j).P ((ka : Int) / 64)).o = ((sp F j).P ((kb : Int) / 64)).o ∧ ((sp F j).P ((ka : Int) / 64)).x = ((sp F j).P ((kb : Int) / 64)).x ∧ (ka : Int) % 64 = (kb : Int) % 64)
              rw [hm1, hm2, ← hP1, ← hP2]
              exact hn
            obtain ⟨ra, hra⟩ : ∃ r, r = (ka : Int) % 64 := ⟨_, rfl⟩
            obtain ⟨rb, hrb⟩ : ∃ r, r = (kb : Int) % 64 := ⟨_, rfl⟩
            rw [← hra, ← hrb] at HSM
            rw [← hra] at hre1
            rw [← hrb] at hre2
            replace hra := hra.symm
            replace hrb := hrb.symm
            clear hbx r1 r2 t2 y0 y1 y2 y3 hi1 hi2 hj1 hj2 ht1 ht2 iw1 iw2 hm1 hm2 HS0
            by_cases q1 : shr h1
            · have d1 : decide (shr h1) = true := decide_eq_true q1
              by_cases q2 : shr h2
              · have d2 : decide (shr h2) = true := decide_eq_true q2
                by_cases q3 : o1 = o2
                · have d3 : (o1 == o2) = true := by simpa using q3
                  by_cases q4 : x1 = x2
                  · have d4 : (x1 == x2) = true := by simpa using q4
                    by_cases q5 : ra = rb
                    · have d5 : (ra == rb) = true := by simpa using q5
                      clear q1 q2 q3 q4 q5
                      go_wp2_with (first | (go_at_call 15; (with_reducible refine (shared_is _ _).mono ?_); rintro e wz ⟨rfl, rfl⟩; first | rw [d1] | rw [d2]) | fail)
                      all_goals
                        go_ret
                        exact ⟨by first | rfl | exact ret_bool (by simp), HBX.out _ (by repeat (first | exact Below.refl _ _ | refine Below.drew ?_))⟩
                    · have d5 : (ra == rb) = false := by simpa using q5
                      have HSN := Lib.hid (HSM.out fun e => q5 e.2.2.2.2)
                      clear q1 q2 q3 q4 q5
                      go_wp2_with (first | (go_at_call 15; (with_reducible refine (shared_is _ _).mono ?_); rintro e wz ⟨rfl, rfl⟩; first | rw [d1] | rw [d2]) | fail)
                      all_goals
                        go_ret
                        exact ⟨ret_bool (by rw [HSN.out]; simp), HBX.out _ (by repeat (first | exact Below.refl _ _ | refine Below.drew ?_))⟩
                  · have d4 : (x1 == x2) = false := by simpa using q4
                    have HSN := Lib.hid (HSM.out fun e => q4 e.2.2.2.1)
                    clear q1 q2 q3 q4
                    go_wp2_with (first | (go_at_call 15; (with_reducible refine (shared_is _ _).mono ?_); rintro e wz ⟨rfl, rfl⟩; first | rw [d1] | rw [d2]) | fail)
                    all_goals
                      go_ret
                      exact ⟨ret_bool (by rw [HSN.out]; simp), HBX.out _ (by repeat (first | exact Below.refl _ _ | refine Below.drew ?_))⟩
                · have d3 : (o1 == o2) = false := by simpa using q3
                  have HSN := Lib.hid (HSM.out fun e => q3 e.2.2.1)
                  clear q1 q2 q3
                  go_wp2_with (first | (go_at_call 15; (with_reducible refine (shared_is _ _).mono ?_); rintro e wz ⟨rfl, rfl⟩; first | rw [d1] | rw [d2]) | fail)
                  all_goals
                    go_ret
                    exact ⟨ret_bool (by rw [HSN.out]; simp), HBX.out _ (by repeat (first | exact Below.refl _ _ | refine Below.drew ?_))⟩
              · have d2 : decide (shr h2) = false := decide_eq_false q2
                have HSN := Lib.hid (HSM.out fun e => q2 e.2.1)
                clear q1 q2
                go_wp2_with (first | (go_at_call 15; (with_reducible refine (shared_is _ _).mono ?_); rintro e wz ⟨rfl, rfl⟩; first | rw [d1] | rw [d2]) | fail)
                all_goals
                  go_ret
                  exact ⟨ret_bool (by rw [HSN.out]; simp), HBX.out _ (by repeat (first | exact Below.refl _ _ | refine Below.drew ?_))⟩
            · have d1 : decide (shr h1) = false := decide_eq_false q1
              have HSN := Lib.hid (HSM.out fun e => q1 e.1)
              clear q1
              go_wp2_with (first | (go_at_call 15; (with_reducible refine (shared_is _ _).mono ?_); rintro e wz ⟨rfl, rfl⟩; rw [d1]) | fail)
              all_goals
                go_ret
                exact ⟨ret_bool (by rw [HSN.out]; simp), HBX.out _ (by repeat (first | exact Below.refl _ _ | refine Below.drew ?_))⟩
      · have ee1 : (E1 == 0) = false := by simpa using hE1
        go_wp2_with fail
        go_ret
        exact ⟨ret_bool (by simp), HB8.out⟩
  · have ee : (E == 0) = false := by simpa using hE0
    go_wp2_with fail
    go_ret
    exact ⟨rfl, HB5.out⟩
end Go.Proofs.YtnppnoabhpkmkaaGreat
