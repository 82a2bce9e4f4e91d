/- Areas: the function that puts areas down behind a list. -/
import Derived.Test.YtnppnoabhpkmkaaGreatMg04
import Derived.Deep.RegionLaw
import Derived.WalkMore
import Derived.StillTailTactics
import Derived.Test.YtnppnoabhpkmkaaGreatMg03
namespace Go.Proofs.YtnppnoabhpkmkaaGreat
open Go.RowKit
/-- An appending whose run is known, as one step of a region that draws. -/
theorem step_append_run {P : Program} {ops : Array Oper} {o : Oper} {a : Act} {w : World} {K : Act → World → Prop} {Q : Exit → Act → World → Prop} {E : Prop}
    (hg : o.guard = none) (d x : Operand) (t : TypeId) (hop : o.op = Op.call { callee := Callee.builtin Builtin.append, args := #[d, x], argTypes := #[t, t] })
    (v u : Value) (hd : a.eval d = v) (hx : a.eval x = u) {v' : Value} {w' : World} (hr : (Builtin.append_ #[t, t] o.type #[v, u]).run P w = .ok v' w') (hK : K (a.put o.dst v') w') :
    if Region.wanted o (yielded ops a.tmps) = true then Oper.wp P o a w K Q else E := by
  have hw : Region.wanted o (yielded ops a.tmps) = true := by simp [Region.wanted, hg]
  rw [if_pos hw]
  unfold Oper.wp
  simp [execOp, hop, resolve, invoke, builtin, hd, hx, hr, Result.andThen]
  exact hK
theorem ar_at {w : World} {g o : Nat} {x : Ar} (h : EAr.At w g o x) : w.cell? ⟨g, o, none⟩ = some (.int .i64 x.f) ∧ w.cell? ⟨g, o + 1, none⟩ = some (.int .i64 x.t) ∧ w.cell? ⟨g, o + 2, none⟩ = some (.int .i64 x.h) ∧ w.cell? ⟨g, o + 3, none⟩ = some (.int .i64 x.p) ∧ w.cell? ⟨g, o + 4, none⟩ = some (.int .i64 x.o) ∧ w.cell? ⟨g, o + 5, none⟩ = some (.int .i64 x.x) :=
  ⟨h 0 (by decide), h 1 (by decide), h 2 (by decide), h 3 (by decide), h 4 (by decide), h 5 (by decide)⟩
/-- Areas that a slice shows, below a height. -/
def LsD (D : Nat) (w : World) (A : Option Addr) (l : List Ar) : Prop := 0 < l.length → ∃ g, A = some ⟨g, 0, none⟩ ∧ g < D ∧ ∀ j (hj : j < l.length), EAr.At w g (j * 6) l[j]
theorem LsD.below {D : Nat} {w w' : World} {A : Option Addr} {l : List Ar} (h : LsD D w A l) (hb : Below D w w') : LsD D w' A l := fun h0 => by
  obtain ⟨g, e, hl, hat⟩ := h h0
  exact ⟨g, e, hl, fun j hj => (hat j hj).heap (hb.block g hl)⟩
theorem LsD.of {D B : Nat} {w : World} {A : Option Addr} {n c : Nat} {l : List Ar} (h : EAr.Own B w (.slice A n c) l) (hD : w.heap.size ≤ D) : LsD D w A l := fun h0 => by
  obtain ⟨g, e, -, hl, -, hat⟩ := h.some_ h0
  exact ⟨g, e, Nat.lt_of_lt_of_le hl hD, hat⟩
/-- The list that is put down: its variable, the box that holds the variable's pointer, its row. -/
structure TdX (D : Nat) (w : World) (tb lb : Nat) (v : Value) (T : List Ar) : Prop where
  top : Lrow w tb 60 [v]
  box : Lrow w lb 138 [.pointer (some ⟨tb, 0, none⟩)]
  own : EAr.Own D w v T
  tlo : D ≤ tb
  lw : D ≤ w.heap.size
theorem TdX.call {D tb lb : Nat} {w w' : World} {v : Value} {T : List Ar} (h : TdX D w tb lb v T) (hb : Below w.heap.size w w') : TdX D w' tb lb v T :=
  ⟨h.top.call hb, h.box.call hb, h.own.call hb, h.tlo, Nat.le_trans h.lw hb.size⟩
/-- All six cells of a row of one item are written. -/
theorem six_is {w : World} {q B : Nat} {ty : TypeId} {a0 a1 a2 a3 a4 a5 : Value} (r : Lrow w q ty [a0, a1, a2, a3, a4, a5]) (hB : B ≤ q) (v0 v1 v2 v3 v4 v5 : Value) :
    (∃ u, w.cell? ⟨q, 0, none⟩ = some u) ∧ w.frozen? ⟨q, 0, none⟩ = false ∧ (∃ u, (w.setCell ⟨q, 0, none⟩ v0).cell? ⟨q, 1, none⟩ = some u) ∧ (w.setCell ⟨q, 0, none⟩ v0).frozen? ⟨q, 1, none⟩ = false ∧ (∃ u, ((w.setCell ⟨q, 0, none⟩ v0).setCell ⟨q, 1, none⟩ v1).cell? ⟨q, 2, none⟩ = some u) ∧ ((w.setCell ⟨q, 0, none⟩ v0).setCell ⟨q, 1, none⟩ v1).frozen? ⟨q, 2, none⟩ = false ∧ (∃ u, (((w.setCell ⟨q, 0, none⟩ v0).setCell ⟨q, 1, none⟩ v1).setCell ⟨q, 2, none⟩ v2).cell? ⟨q, 3, none⟩ = some u) ∧ (((w.setCell ⟨q, 0, none⟩ v0).setCell ⟨q, 1, none⟩ v1).setCell ⟨q, 2, none⟩ v2).frozen? ⟨q, 3, none⟩ = false ∧ (∃ u, ((((w.setCell ⟨q, 0, none⟩ v0).setCell ⟨q, 1, none⟩ v1).setCell ⟨q, 2, none⟩ v2).setCell ⟨q, 3, none⟩ v3).cell? ⟨q, 4, none⟩ = some u) ∧ ((((w.setCell ⟨q, 0, none⟩ v0).setCell ⟨q, 1, none⟩ v1).setCell ⟨q, 2, none⟩ v2).setCell ⟨q, 3, none⟩ v3).frozen? ⟨q, 4, none⟩ = false ∧ (∃ u, (((((w.setCell ⟨q, 0, none⟩ v0).setCell ⟨q, 1, none⟩ v1).setCell ⟨q, 2, none⟩ v2).setCell ⟨q, 3, none⟩ v3).setCell ⟨q, 4, none⟩ v4).cell? ⟨q, 5, none⟩ = some u) ∧ (((((w.setCell ⟨q, 0, none⟩ v0).setCell ⟨q, 1, none⟩ v1).setCell ⟨q, 2, none⟩ v2).setCell ⟨q, 3, none⟩ v3).setCell ⟨q, 4, none⟩ v4).frozen? ⟨q, 5, none⟩ = false ∧
    Lrow ((((((w.setCell ⟨q, 0, none⟩ v0).setCell ⟨q, 1, none⟩ v1).setCell ⟨q, 2, none⟩ v2).setCell ⟨q, 3, none⟩ v3).setCell ⟨q, 4, none⟩ v4).setCell ⟨q, 5, none⟩ v5) q ty [v0, v1, v2, v3, v4, v5] ∧
    Below B w ((((((w.setCell ⟨q, 0, none⟩ v0).setCell ⟨q, 1, none⟩ v1).setCell ⟨q, 2, none⟩ v2).setCell ⟨q, 3, none⟩ v3).setCell ⟨q, 4, none⟩ v4).setCell ⟨q, 5, none⟩ v5) := by
  have r1 := r.set_ 0 v0
  have r2 := r1.set_ 1 v1
  have r3 := r2.set_ 2 v2
  have r4 := r3.set_ 3 v3
  have r5 := r4.set_ 4 v4
  have r6 := r5.set_ 5 v5
  exact ⟨⟨_, r.cell 0⟩, r.frozen 0, ⟨_, r1.cell 1⟩, r1.frozen 1, ⟨_, r2.cell 2⟩, r2.frozen 2, ⟨_, r3.cell 3⟩, r3.frozen 3, ⟨_, r4.cell 4⟩, r4.frozen 4, ⟨_, r5.cell 5⟩, r5.frozen 5, r6, ((((((Below.refl B w).setCell hB v0).setCell hB v1).setCell hB v2).setCell hB v3).setCell hB v4).setCell hB v5⟩
/-- One item more behind the list. -/
theorem TdX.app {D tb lb : Nat} {wz : World} {A : Option Addr} {m c : Nat} {T : List Ar} (h : TdX D wz tb lb (.slice A m c) T) (hl : T.length ≤ 90000) (x : Ar) : ∃ A5 c5 W5,
    (Builtin.append_ #[60, 60] 60 #[.slice A m c, .slice (some ⟨wz.heap.size, 0, none⟩) 1 1]).run Tryz.prog (wz.alloc (.cells #[.int .i64 x.f, .int .i64 x.t, .int .i64 x.h, .int .i64 x.p, .int .i64 x.o, .int .i64 x.x] 93)).drew = .ok (.slice A5 (m + 1) c5) W5 ∧
    W5.cell? ⟨lb, 0, none⟩ = some (.pointer (some ⟨tb, 0, none⟩)) ∧ W5.cell? ⟨tb, 0, none⟩ = some (.slice A m c) ∧ W5.frozen? ⟨tb, 0, none⟩ = false ∧
    TdX D (W5.setCell ⟨tb, 0, none⟩ (.slice A5 (m + 1) c5)) tb lb (.slice A5 (m + 1) c5) (T ++ [x]) ∧ Below D wz (W5.setCell ⟨tb, 0, none⟩ (.slice A5 (m + 1) c5)) := by
  have hd := h.call (below_dN (Below.refl _ wz) 1)
  obtain ⟨A5, c5, W5, r5, o5, g5, -⟩ := hd.own.app1 hd.lw x hl #[.int .i64 x.f, .int .i64 x.t, .int .i64 x.h, .int .i64 x.p, .int .i64 x.o, .int .i64 x.x] rfl
  have hm : T.length = m := by
    obtain ⟨_, _, e⟩ := h.own.form
    injection e with _ e _
    exact e.symm
  rw [hm] at r5 o5
  have far : ∀ {b : Nat} {t : TypeId} {vs : List Value}, Lrow (wz.drewN 1) b t vs → t ≠ 93 → Lrow W5 b t vs := fun r hne => r.grown g5 (fun e => by
    obtain ⟨us, ru, _⟩ := hd.own.block e.symm
    exact r.apart ru hne rfl)
  have htop := far hd.top (by decide)
  have hbox := far hd.box (by decide)
  refine ⟨A5, c5, W5, r5 _ rfl, hbox.cell 0, htop.cell 0, htop.frozen 0, ⟨htop.set_ 0 _, hbox.far (by exact hbox.apart htop (by decide)) _, ?_, h.tlo, ?_⟩, ?_⟩
  · refine o5.heap fun g e => ?_
    obtain ⟨vs, r, _⟩ := o5.block e
    exact Below.heap_setCell W5 _ _ g (r.apart htop (by decide))
  · have := g5.size; have := hd.lw; simp [World.setCell]; omega
  · refine Below.setCell (Below.trans (below_dN (Below.refl D wz) 1) (Below.grown (Below.refl D _) g5 hd.lw fun k e => ?_)) h.tlo _
    obtain ⟨vs, r, hlo⟩ := hd.own.block e
    exact hlo
/-- The last item ends later. -/
theorem TdX.ends {D tb lb g m m1 c : Nat} {wz : World} {T : List Ar} (h : TdX D wz tb lb (.slice (some ⟨g, 0, none⟩) m c) T) (hm : T.length = m1 + 1) (e : Int) :
    (∃ u, wz.cell? ⟨g, m1 * 6 + 1, none⟩ = some u) ∧ wz.frozen? ⟨g, m1 * 6 + 1, none⟩ = false ∧ TdX D (wz.setCell ⟨g, m1 * 6 + 1, none⟩ (.int .i64 e)) tb lb (.slice (some ⟨g, 0, none⟩) m c) (setTo T e) ∧ Below D wz (wz.setCell ⟨g, m1 * 6 + 1, none⟩ (.int .i64 e)) := by
  have hml : m1 < T.length := by omega
  obtain ⟨hf, hp⟩ := h.own.put hml (q := 1) (by decide) (u := .int .i64 e) (x := { T[m1] with t := e }) rfl rfl
  obtain ⟨us, ru, hlo⟩ := h.own.block (g := g) rfl
  obtain ⟨g', eg, -, -, -, hat⟩ := h.own.some_ (by omega)
  injection eg with eg
  injection eg with eg
  subst eg
  refine ⟨⟨_, hat m1 hml 1 (by decide)⟩, hf _, ⟨h.top.far (h.top.apart ru (by decide)) _, h.box.far (h.box.apart ru (by decide)) _, ?_, h.tlo, by have := h.lw; simpa [World.setCell] using this⟩, (Below.refl D wz).setCell hlo _⟩
  rw [setTo_at e hm]; exact hp
theorem jput_at {T : List Ar} {k : Nat} (h : T.length = k + 1) (y : Ar) : jput T y = if jn T[k] y then setTo T y.t else T ++ [y] := by
  obtain ⟨M, a, rfl⟩ : ∃ M a, T = M ++ [a] := ⟨T.dropLast, T.getLast (by intro e; subst e; cases h), (List.dropLast_concat_getLast _).symm⟩
  have hk : k = M.length := by simp at h; omega
  subst hk
  rw [jput_snoc, setTo_snoc, List.getElem_concat_length rfl]
/-- What putting comes to. -/
def Puts (D : Nat) (w : World) (tb lb : Nat) (R : List Ar) (e : Ending) (w' : World) : Prop := e = .returned (.tuple #[]) ∧ ∃ v', TdX D w' tb lb v' R ∧ Below D w w'
set_option maxRecDepth 100000 in
set_option maxHeartbeats 2000000 in
theorem putIt_is {D tb lb c : Nat} {w : World} {v : Value} {A : Option Addr} {l T : List Ar} {u t : Int} (h : TdX D w tb lb v T) (hs : LsD D w A l) (hl : ∀ x ∈ l, ArS x) (hT : ∀ x ∈ T, ArB x) (hn : T.length + l.length ≤ 20000) (hu : 0 ≤ u) (hu4 : u ≤ 4096) (ht : 0 ≤ t) (ht4 : t ≤ 4096) :
    Calls Tryz.prog 119 #[.slice A l.length c, .int .i64 u, .int .i64 t, .pointer (some ⟨lb, 0, none⟩)] w (Puts D w tb lb (putL u t T l)) := by
  obtain ⟨n, hne⟩ : ∃ n, n = l.length := ⟨_, rfl⟩
  obtain ⟨R, hR⟩ : ∃ R, R = putL u t T l := ⟨_, rfl⟩
  obtain ⟨k, hk⟩ : ∃ k, k = T.length := ⟨_, rfl⟩
  rw [← hne, ← hR]
  rw [← hne, ← hk] at hn
  have HX := Lib.hid h
  have HS := Lib.hid hs
  have HL := Lib.hid hl
  have HT := Lib.hid hT
  have HN := Lib.hid hne
  have HR := Lib.hid hR
  have HK := Lib.hid hk
  clear h hs hl hT hne hR hk
  go_enter Tryz.func119, Tryz.ntmps119
  go_wp2
  go_step3
  go_wp2
  go_step3
  go_wp2
  go_loopw [12] (fun i wr => ∃ (j : Nat) (v' : Value) (T' : List Ar), j ≤ n ∧ i = .int .i64 j ∧ TdX D wr tb lb v' T' ∧ Below D w wr ∧ putL u t T' (l.drop j) = R ∧ (∀ x ∈ T', ArB x) ∧ T'.length ≤ k + j) (fun i _ => n - (RowKit.intOf i).toNat)
  case atStart => exact ⟨0, v, T, Nat.zero_le _, rfl, HX.out, Below.refl _ _, by rw [HR.out]; rfl, HT.out, by rw [HK.out]; exact Nat.le_refl _⟩
  case round =>
    obtain ⟨j, v', T', hj, rfl, hx, hb, hp, hT', hk'⟩ := hrel
    have HXR := Lib.hid hx
    have HB := Lib.hid hb
    have HP := Lib.hid hp
    have HT2 := Lib.hid hT'
    have HK2 := Lib.hid hk'
    clear hx hb hp hT' hk'
    by_cases hlt : j < n
    · have hjl : j < l.length := by rw [← HN.out]; exact hlt
      obtain ⟨x, hxe⟩ : ∃ x, x = l[j] := ⟨_, rfl⟩
      have HD : Hid (l.drop j = x :: l.drop (j + 1)) := by show _ = _; rw [hxe]; exact List.drop_eq_getElem_cons hjl
      have HXS : Hid (ArS x) := by show ArS _; rw [hxe]; exact HL.out _ (List.getElem_mem hjl)
      obtain ⟨g, hA, hg, hat⟩ := HS.out.below HB.out (by omega)
      subst hA
      have hc := ar_at (hat j hjl)
      rw [← hxe] at hc
      obtain ⟨f, tt, h, p, o, z⟩ := x
      dsimp only at hc
      obtain ⟨d0, d1, d2, d3, d4, d5⟩ := hc
      have j0 : (0 : Int) ≤ j := by omega
      have jn' : (j : Int) < n := by omega
      clear hat hxe
      by_cases c1 : t ≤ f
      · go_wp2
        try rw [Exit.noGoto_ret]
        go_end0
        refine ⟨rfl, v', ?_, HB.out.trans ((below_new _ _).mono HXR.out.lw)⟩
        have := HP.out
        rw [HD.out] at this
        unfold putL at this
        rw [if_pos (show t ≤ (⟨f, tt, h, p, o, z⟩ : Ar).f from c1)] at this
        rw [← this]; exact HXR.out.call (below_new _ _)
      · by_cases c2 : tt ≤ u
        · go_wp2
          go_round
          case rel =>
            refine ⟨j + 1, v', T', by omega, rfl, HXR.out.call (below_new _ _), HB.out.trans ((below_new _ _).mono HXR.out.lw), ?_, HT2.out, by have := HK2.out; omega⟩
            have := HP.out
            rw [HD.out] at this
            unfold putL at this
            rw [if_neg (show ¬ t ≤ (⟨f, tt, h, p, o, z⟩ : Ar).f from c1), if_pos (show (⟨f, tt, h, p, o, z⟩ : Ar).t ≤ u from c2)] at this
            exact this
          case measure => simp [RowKit.intOf]; omega
        · obtain ⟨q, hq⟩ : ∃ q, q = wr.heap.size := ⟨_, rfl⟩
          obtain ⟨W1, hW1⟩ : ∃ W1, W1 = wr.alloc (.cells #[.int .i64 f, .int .i64 tt, .int .i64 h, .int .i64 p, .int .i64 o, .int .i64 z] 93) := ⟨_, rfl⟩
          have hrow : Lrow W1 q 93 [.int .i64 f, .int .i64 tt, .int .i64 h, .int .i64 p, .int .i64 o, .int .i64 z] := by rw [hW1, hq]; exact Lrow.new wr _ _
          have hb1 : Below wr.heap.size wr W1 := by rw [hW1]; exact below_new _ _
          have hpa := fun w => part_is HXS.out hu hu4 (t := t) w
          obtain ⟨y, hy⟩ : ∃ y, y = cutA u t ⟨f, tt, h, p, o, z⟩ := ⟨_, rfl⟩
          rw [← hy] at hpa
          have HYB : Hid (ArB y) := by show ArB y; rw [hy]; exact cutA_b HXS.out hu hu4 ht ht4
          have HP2 : Hid (putL u t (jput T' y) (l.drop (j + 1)) = R) := by
            have := HP.out
            rw [HD.out] at this
            unfold putL at this
            rw [if_neg (show ¬ t ≤ (⟨f, tt, h, p, o, z⟩ : Ar).f from c1), if_neg (show ¬ (⟨f, tt, h, p, o, z⟩ : Ar).t ≤ u from c2), ← hy] at this
            exact this
          obtain ⟨yf, yt, yh, yp, yo, yx⟩ := y
          change ∀ w, Calls Tryz.prog _ #[.agg #[.int .i64 f, .int .i64 tt, .int .i64 h, .int .i64 p, .int .i64 o, .int .i64 z], .int .i64 u, .int .i64 t] w (fun e w' => e = .returned (.agg #[.int .i64 yf, .int .i64 yt, .int .i64 yh, .int .i64 yp, .int .i64 yo, .int .i64 yx]) ∧ Below w.heap.size w w') at hpa
          have HRW := Lib.hid hrow
          have HB1 := Lib.hid hb1
          have HW := Lib.hid (And.intro hW1 hq)
          clear hy hrow hb1 hW1 hq
          go_upto_region 5 with (fail)
          rw [← HW.out.1, ← HW.out.2]
          have e0 := HRW.out.cell 0
          have e1 := HRW.out.cell 1
          have e2 := HRW.out.cell 2
          have e3 := HRW.out.cell 3
          have e4 := HRW.out.cell 4
          have e5 := HRW.out.cell 5
          clear d0 d1 d2 d3 d4 d5
          go_wp2_with fail
          refine (hpa _).mono ?_
          rintro e w1 ⟨rfl, hb2⟩
          clear hpa e0 e1 e2 e3 e4 e5
          have hq1 := HRW.out.call hb2
          have hbq : Below wr.heap.size wr w1 := HB1.out.trans (hb2.mono HB1.out.size)
          obtain ⟨⟨s0, k0⟩, f0, ⟨s1, k1⟩, f1, ⟨s2, k2⟩, f2, ⟨s3, k3⟩, f3, ⟨s4, k4⟩, f4, ⟨s5, k5⟩, f5, hr2, hbb2⟩ := six_is hq1 (show wr.heap.size ≤ q by have := HW.out.2; omega) (.int .i64 yf) (.int .i64 yt) (.int .i64 yh) (.int .i64 yp) (.int .i64 yo) (.int .i64 yx)
          have HX2 := Lib.hid (HXR.out.call (hbq.trans hbb2))
          have HB2 := Lib.hid (hbq.trans hbb2)
          have HR2 := Lib.hid hr2
          clear hb2 hq1 hbq hr2 hbb2
          obtain ⟨A', c', hv⟩ := HX2.out.own.form
          obtain ⟨m, hm⟩ : ∃ m, m = T'.length := ⟨_, rfl⟩
          rw [← hm] at hv
          subst hv
          have b0 : ((((((w1.setCell ⟨q, 0, none⟩ (.int .i64 yf)).setCell ⟨q, 1, none⟩ (.int .i64 yt)).setCell ⟨q, 2, none⟩ (.int .i64 yh)).setCell ⟨q, 3, none⟩ (.int .i64 yp)).setCell ⟨q, 4, none⟩ (.int .i64 yo)).setCell ⟨q, 5, none⟩ (.int .i64 yx)).cell? ⟨lb, 0, none⟩ = some (.pointer (some ⟨tb, 0, none⟩)) := HX2.out.box.cell 0
          have t0 : ((((((w1.setCell ⟨q, 0, none⟩ (.int .i64 yf)).setCell ⟨q, 1, none⟩ (.int .i64 yt)).setCell ⟨q, 2, none⟩ (.int .i64 yh)).setCell ⟨q, 3, none⟩ (.int .i64 yp)).setCell ⟨q, 4, none⟩ (.int .i64 yo)).setCell ⟨q, 5, none⟩ (.int .i64 yx)).cell? ⟨tb, 0, none⟩ = some (.slice A' m c') := HX2.out.top.cell 0
          have m4 : (m : Int) ≤ 40000 := by have := HK2.out; omega
          have HM := Lib.hid hm
          clear hm
          by_cases hm0 : m = 0
          · subst hm0
            have hT0 : T' = [] := List.length_eq_zero_iff.1 HM.out.symm
            have HF2 : Hid (jput T' ⟨yf, yt, yh, yp, yo, yx⟩ = T' ++ [⟨yf, yt, yh, yp, yo, yx⟩]) := by show _ = _; rw [hT0]; rfl
            clear hT0
            go_wp2_with fail
            clear k0 f0 k1 f1 k2 f2 k3 f3 k4 f4 k5 f5
            obtain ⟨w2, hw2⟩ : ∃ w2, w2 = ((((((w1.setCell ⟨q, 0, none⟩ (.int .i64 yf)).setCell ⟨q, 1, none⟩ (.int .i64 yt)).setCell ⟨q, 2, none⟩ (.int .i64 yh)).setCell ⟨q, 3, none⟩ (.int .i64 yp)).setCell ⟨q, 4, none⟩ (.int .i64 yo)).setCell ⟨q, 5, none⟩ (.int .i64 yx)) := ⟨_, rfl⟩
            rw [← hw2] at HX2 HB2 HR2 b0 t0 ⊢
            clear hw2
            go_quiet (fail)
            obtain ⟨wz, hwz⟩ : ∃ wz, wz = w2.drewN nq := ⟨_, rfl⟩
            rw [← hwz]
            have hbz : Below w2.heap.size w2 wz := by rw [hwz]; exact below_dN (Below.refl _ _) _
            have HXZ := Lib.hid (HX2.out.call hbz)
            have hqz := HR2.out.call hbz
            have HBZ := Lib.hid ((HB.out.trans (HB2.out.mono HXR.out.lw)).trans (hbz.mono HX2.out.lw))
            clear b0 t0 hwz hbz
            obtain ⟨A5, c5, W5, r5, l5, t5, ft5, hx5, hb5⟩ := HXZ.out.app (by have := HK2.out; omega) ⟨yf, yt, yh, yp, yo, yx⟩
            change (Builtin.append_ _ _ _).run Tryz.prog (wz.alloc (.cells #[.int .i64 yf, .int .i64 yt, .int .i64 yh, .int .i64 yp, .int .i64 yo, .int .i64 yx] 93)).drew = _ at r5
            have HX5 := Lib.hid hx5
            have HB5 := Lib.hid (HBZ.out.trans hb5)
            have lz : wz.cell? ⟨lb, 0, none⟩ = some (.pointer (some ⟨tb, 0, none⟩)) := HXZ.out.box.cell 0
            have tz : wz.cell? ⟨tb, 0, none⟩ = some (.slice A' 0 c') := HXZ.out.top.cell 0
            have z0 := hqz.cell 0
            have z1 := hqz.cell 1
            have z2 := hqz.cell 2
            have z3 := hqz.cell 3
            have z4 := hqz.cell 4
            have z5 := hqz.cell 5
            have lbz : lb < wz.heap.size := HXZ.out.box.lt
            have tbz : tb < wz.heap.size := HXZ.out.top.lt
            have qbz : q < wz.heap.size := hqz.lt
            have n1 : ¬ lb = wz.heap.size := by omega
            have n2 : ¬ tb = wz.heap.size := by omega
            have n3 : ¬ q = wz.heap.size := by omega
            clear hx5 hb5 hqz
            go_wp2_with fail
            go_region_law (refine step_append_run (by rfl) _ _ 60 (by rfl) (.slice A' 0 c') (.slice (some ⟨wz.heap.size, 0, none⟩) 1 1) (by simp [Act.eval]) (by simp [Act.eval]) r5 ?_)
            all_goals
              go_wp2_with fail
              go_round
              case rel => exact ⟨j + 1, _, jput T' ⟨yf, yt, yh, yp, yo, yx⟩, by omega, rfl, by rw [HF2.out]; exact HX5.out, HB5.out, HP2.out, (jput_b HT2.out HYB.out).1, by have := (jput_b HT2.out HYB.out).2; have := HK2.out; omega⟩
              case measure => simp [RowKit.intOf]; omega
          · obtain ⟨m1, hm1⟩ : ∃ m1, m = m1 + 1 := ⟨m - 1, by omega⟩
            have hwm : IntKind.i64.wrap ((m : Int) - 1) = (m1 : Int) := by rw [IntKind.wrap_i64]; omega
            have m10 : (0 : Int) ≤ m1 := by omega
            have m11 : (m1 : Int) < (m : Int) := by omega
            have HTL : Hid (T'.length = m1 + 1) := by show _ = _; rw [← HM.out]; exact hm1
            have hml : m1 < T'.length := by have := HM.out; omega
            obtain ⟨g2, rfl, hg2, -, -, -⟩ := HX2.out.own.some_ (by omega)
            obtain ⟨la, hla⟩ : ∃ la, la = T'[m1] := ⟨_, rfl⟩
            have hjn := fun w => join_is (x := la) (y := ⟨yf, yt, yh, yp, yo, yx⟩) (by rw [hla]; exact HT2.out _ (List.getElem_mem hml)) w
            obtain ⟨jb, hjb⟩ : ∃ jb, jb = decide (jn la ⟨yf, yt, yh, yp, yo, yx⟩) := ⟨_, rfl⟩
            rw [← hjb] at hjn
            have HJ : Hid (jput T' ⟨yf, yt, yh, yp, yo, yx⟩ = if jb = true then setTo T' yt else T' ++ [⟨yf, yt, yh, yp, yo, yx⟩]) := by
              show _ = _
              rw [jput_at HTL.out, ← hla, hjb]
              simp only [decide_eq_true_eq]
            have HLC : Hid (∀ wx, TdX D wx tb lb (.slice (some ⟨g2, 0, none⟩) m c') T' → EAr.At wx g2 (m1 * 6) la) := fun wx hx => by
              obtain ⟨g3, e3, -, -, -, hat⟩ := hx.own.some_ (by omega)
              injection e3 with e3
              injection e3 with e3
              subst e3
              rw [hla]; exact hat m1 hml
            obtain ⟨lf, lt, lh, lp, lo, lx⟩ := la
            change ∀ w, Calls Tryz.prog _ #[.agg #[.int .i64 lf, .int .i64 lt, .int .i64 lh, .int .i64 lp, .int .i64 lo, .int .i64 lx], .agg #[.int .i64 yf, .int .i64 yt, .int .i64 yh, .int .i64 yp, .int .i64 yo, .int .i64 yx]] w (fun e w' => e = .returned (.bool jb) ∧ Below w.heap.size w w') at hjn
            clear hla hjb hm0 hm1
            go_wp2_with fail
            clear k0 f0 k1 f1 k2 f2 k3 f3 k4 f4 k5 f5
            obtain ⟨w2, hw2⟩ : ∃ w2, w2 = ((((((w1.setCell ⟨q, 0, none⟩ (.int .i64 yf)).setCell ⟨q, 1, none⟩ (.int .i64 yt)).setCell ⟨q, 2, none⟩ (.int .i64 yh)).setCell ⟨q, 3, none⟩ (.int .i64 yp)).setCell ⟨q, 4, none⟩ (.int .i64 yo)).setCell ⟨q, 5, none⟩ (.int .i64 yx)) := ⟨_, rfl⟩
            rw [← hw2] at HX2 HB2 HR2 b0 t0 ⊢
            clear hw2
            clear b0 t0
            have HS6 : Hid (∀ wx, Below w2.heap.size w2 wx → wx.cell? ⟨lb, 0, none⟩ = some (.pointer (some ⟨tb, 0, none⟩)) ∧ wx.cell? ⟨tb, 0, none⟩ = some (.slice (some ⟨g2, 0, none⟩) m c') ∧ (wx.cell? ⟨g2, m1 * 6, none⟩ = some (.int .i64 lf) ∧ wx.cell? ⟨g2, m1 * 6 + 1, none⟩ = some (.int .i64 lt) ∧ wx.cell? ⟨g2, m1 * 6 + 2, none⟩ = some (.int .i64 lh) ∧ wx.cell? ⟨g2, m1 * 6 + 3, none⟩ = some (.int .i64 lp) ∧ wx.cell? ⟨g2, m1 * 6 + 4, none⟩ = some (.int .i64 lo) ∧ wx.cell? ⟨g2, m1 * 6 + 5, none⟩ = some (.int .i64 lx)) ∧ (wx.cell? ⟨q, 0, none⟩ = some (.int .i64 yf) ∧ wx.cell? ⟨q, 1, none⟩ = some (.int .i64 yt) ∧ wx.cell? ⟨q, 2, none⟩ = some (.int .i64 yh) ∧ wx.cell? ⟨q, 3, none⟩ = some (.int .i64 yp) ∧ wx.cell? ⟨q, 4, none⟩ = some (.int .i64 yo) ∧ wx.cell? ⟨q, 5, none⟩ = some (.int .i64 yx))) := fun wx hbx => by
              have hx := HX2.out.call hbx
              have hr := HR2.out.call hbx
              exact ⟨hx.box.cell 0, hx.top.cell 0, ar_at (HLC.out wx hx), hr.cell 0, hr.cell 1, hr.cell 2, hr.cell 3, hr.cell 4, hr.cell 5⟩
            have hs := HS6.out w2.drew (below_dN (Below.refl _ _) 1)
            cases jb
            · have HF2 : Hid (jput T' ⟨yf, yt, yh, yp, yo, yx⟩ = T' ++ [⟨yf, yt, yh, yp, yo, yx⟩]) := by have := HJ.out; rw [if_neg (by decide)] at this; exact this
              go_region_held3 (fun v => v.cell? ⟨lb, 0, none⟩ = some (.pointer (some ⟨tb, 0, none⟩)) ∧ v.cell? ⟨tb, 0, none⟩ = some (.slice (some ⟨g2, 0, none⟩) m c') ∧ (v.cell? ⟨g2, m1 * 6, none⟩ = some (.int .i64 lf) ∧ v.cell? ⟨g2, m1 * 6 + 1, none⟩ = some (.int .i64 lt) ∧ v.cell? ⟨g2, m1 * 6 + 2, none⟩ = some (.int .i64 lh) ∧ v.cell? ⟨g2, m1 * 6 + 3, none⟩ = some (.int .i64 lp) ∧ v.cell? ⟨g2, m1 * 6 + 4, none⟩ = some (.int .i64 lo) ∧ v.cell? ⟨g2, m1 * 6 + 5, none⟩ = some (.int .i64 lx)) ∧ (v.cell? ⟨q, 0, none⟩ = some (.int .i64 yf) ∧ v.cell? ⟨q, 1, none⟩ = some (.int .i64 yt) ∧ v.cell? ⟨q, 2, none⟩ = some (.int .i64 yh) ∧ v.cell? ⟨q, 3, none⟩ = some (.int .i64 yp) ∧ v.cell? ⟨q, 4, none⟩ = some (.int .i64 yo) ∧ v.cell? ⟨q, 5, none⟩ = some (.int .i64 yx)))
                (first | exact hs | exact hs6)
                (first | (go_at_call 121; refine (hjn _).mono ?_; rintro e w6 ⟨rfl, hb6⟩; have hb7 := Below.trans (below_dN (Below.refl _ w2) 1) hb6; have hs6 := HS6.out w6 hb7))
              obtain ⟨wz, hwz⟩ : ∃ wz, wz = w6 := ⟨_, rfl⟩
              rw [← hwz] at hb7 ⊢
              have HXZ := Lib.hid (HX2.out.call hb7)
              have hqz := HR2.out.call hb7
              have HBZ := Lib.hid ((HB.out.trans (HB2.out.mono HXR.out.lw)).trans (hb7.mono HX2.out.lw))
              clear hs hs6 hb6 hb7 hjn hwz
              obtain ⟨A5, c5, W5, r5, l5, t5, ft5, hx5, hb5⟩ := HXZ.out.app (by have := HK2.out; omega) ⟨yf, yt, yh, yp, yo, yx⟩
              change (Builtin.append_ _ _ _).run Tryz.prog (wz.alloc (.cells #[.int .i64 yf, .int .i64 yt, .int .i64 yh, .int .i64 yp, .int .i64 yo, .int .i64 yx] 93)).drew = _ at r5
              have HX5 := Lib.hid hx5
              have HB5 := Lib.hid (HBZ.out.trans hb5)
              have lz : wz.cell? ⟨lb, 0, none⟩ = some (.pointer (some ⟨tb, 0, none⟩)) := HXZ.out.box.cell 0
              have tz : wz.cell? ⟨tb, 0, none⟩ = some (.slice (some ⟨g2, 0, none⟩) m c') := HXZ.out.top.cell 0
              have z0 := hqz.cell 0
              have z1 := hqz.cell 1
              have z2 := hqz.cell 2
              have z3 := hqz.cell 3
              have z4 := hqz.cell 4
              have z5 := hqz.cell 5
              have lbz : lb < wz.heap.size := HXZ.out.box.lt
              have tbz : tb < wz.heap.size := HXZ.out.top.lt
              have qbz : q < wz.heap.size := hqz.lt
              have n1 : ¬ lb = wz.heap.size := by omega
              have n2 : ¬ tb = wz.heap.size := by omega
              have n3 : ¬ q = wz.heap.size := by omega
              clear hx5 hb5 hqz
              go_wp2_with fail
              go_region_law (refine step_append_run (by rfl) _ _ 60 (by rfl) (.slice (some ⟨g2, 0, none⟩) m c') (.slice (some ⟨wz.heap.size, 0, none⟩) 1 1) (by simp [Act.eval]) (by simp [Act.eval]) r5 ?_)
              all_goals
                go_wp2_with fail
                go_round
                case rel => exact ⟨j + 1, _, jput T' ⟨yf, yt, yh, yp, yo, yx⟩, by omega, rfl, by rw [HF2.out]; exact HX5.out, HB5.out, HP2.out, (jput_b HT2.out HYB.out).1, by have := (jput_b HT2.out HYB.out).2; have := HK2.out; omega⟩
                case measure => simp [RowKit.intOf]; omega
            · have HF2 : Hid (jput T' ⟨yf, yt, yh, yp, yo, yx⟩ = setTo T' yt) := by have := HJ.out; rw [if_pos rfl] at this; exact this
              go_region_held3 (fun v => v.cell? ⟨lb, 0, none⟩ = some (.pointer (some ⟨tb, 0, none⟩)) ∧ v.cell? ⟨tb, 0, none⟩ = some (.slice (some ⟨g2, 0, none⟩) m c') ∧ (v.cell? ⟨g2, m1 * 6, none⟩ = some (.int .i64 lf) ∧ v.cell? ⟨g2, m1 * 6 + 1, none⟩ = some (.int .i64 lt) ∧ v.cell? ⟨g2, m1 * 6 + 2, none⟩ = some (.int .i64 lh) ∧ v.cell? ⟨g2, m1 * 6 + 3, none⟩ = some (.int .i64 lp) ∧ v.cell? ⟨g2, m1 * 6 + 4, none⟩ = some (.int .i64 lo) ∧ v.cell? ⟨g2, m1 * 6 + 5, none⟩ = some (.int .i64 lx)) ∧ (v.cell? ⟨q, 0, none⟩ = some (.int .i64 yf) ∧ v.cell? ⟨q, 1, none⟩ = some (.int .i64 yt) ∧ v.cell? ⟨q, 2, none⟩ = some (.int .i64 yh) ∧ v.cell? ⟨q, 3, none⟩ = some (.int .i64 yp) ∧ v.cell? ⟨q, 4, none⟩ = some (.int .i64 yo) ∧ v.cell? ⟨q, 5, none⟩ = some (.int .i64 yx)))
                (first | exact hs | exact hs6)
                (first | (go_at_call 121; refine (hjn _).mono ?_; rintro e w6 ⟨rfl, hb6⟩; have hb7 := Below.trans (below_dN (Below.refl _ w2) 1) hb6; have hs6 := HS6.out w6 hb7))
              have hb8 := hb7.trans (below_dN (Below.refl w2.heap.size w6) 1)
              have hx8 := HX2.out.call hb8
              obtain ⟨l8, t8, -, -, y8, -⟩ := HS6.out _ hb8
              obtain ⟨⟨u8', c8⟩, f8, hx9, hb9⟩ := hx8.ends HTL.out yt
              have HX9 := Lib.hid hx9
              have HB9 := Lib.hid (((HB.out.trans (HB2.out.mono HXR.out.lw)).trans (hb8.mono HX2.out.lw)).trans hb9)
              obtain ⟨l6, t6, -, -, y6, -⟩ := hs6
              change w6.drew.cell? _ = _ at l8 t8 y8 c8
              change w6.drew.frozen? _ = _ at f8
              clear hs hb6 hb7 hb8 hx8 hx9 hb9 hjn
              go_wp2_with fail
              go_still_tail 8, (by kernel_rfl)
              clear l6 t6 y6
              change wpList _ _ _ _ _ w6.drew
              change Hid (TdX D (w6.drew.setCell _ _) tb lb _ _) at HX9
              change Hid (Below D w (w6.drew.setCell _ _)) at HB9
              generalize w6.drew = w9 at l8 t8 y8 c8 f8 HX9 HB9 ⊢
              go_wp2
              go_round
              case rel => exact ⟨j + 1, _, jput T' ⟨yf, yt, yh, yp, yo, yx⟩, by omega, rfl, by rw [HF2.out]; exact HX9.out, HB9.out, HP2.out, (jput_b HT2.out HYB.out).1, by have := (jput_b HT2.out HYB.out).2; have := HK2.out; omega⟩
              case measure => simp [RowKit.intOf]; omega
    · obtain rfl : j = n := by omega
      have hjn : ¬ (j : Int) < j := by omega
      go_wp2
      try rw [Exit.noGoto_ret]
      go_end0
      refine ⟨rfl, v', ?_, HB.out⟩
      have := HP.out
      rw [List.drop_of_length_le (by rw [← HN.out]; exact Nat.le_refl _)] at this
      have e : T' = R := this
      rw [← e]; exact HXR.out
end Go.Proofs.YtnppnoabhpkmkaaGreat
/- The reference's right, All, Cuts, Covers, copied, become. -/
namespace Go.Proofs.YtnppnoabhpkmkaaGreat
open Go.RowKit
/-- A number that fits. -/
def Fits (n : Int) : Prop := -9223372036854775808 ≤ n ∧ n ≤ 9223372036854775807
theorem right_is {a n : Int} (ha : Fits a) (hn : Fits n) (w : World) : Calls Tryz.prog 82 #[.int .i64 a, .int .i64 n] w fun e w' => e = .returned (.int .i64 (rtI a n 0)) ∧ w = w' := by
  have h := fun w => refRight_any a n 0 ha.1 ha.2 hn.1 hn.2 w
  clear ha hn
  go_enter Tryz.func82, Tryz.ntmps82
  go_wp2_with (go_at_call 58; refine (h _).mono ?_; rintro e w1 ⟨rfl, rfl⟩)
  go_ret
  exact ⟨rfl, rfl⟩
section
variable {w w' : World} {B D xa xb : Nat} {v vb : Value} {P Q : Int → Pg}
theorem xall_is (h : Px B w xa v P) : Calls Tryz.prog 49 #[.pointer (some ⟨xa, 0, none⟩)] w (ToldA (allA P) w) := by
  have hp := pieces_is h (a := 0) (n := 4096) (by omega)
  change Calls _ _ #[.pointer (some ⟨xa, 0, none⟩), .int .i64 0, .int .i64 4096] w (ToldA (allA P) w) at hp
  clear h
  go_enter Tryz.func49, Tryz.ntmps49
  go_wp2_with (go_at_call 77; refine hp.mono ?_; rintro e w1 ⟨A1, c1, rfl, h1, h2⟩)
  go_ret
  exact ⟨A1, c1, rfl, h1, h2⟩
/-- What one page says. -/
theorem Px.how (h : Px B w xa v P) : ∃ g c, v = .slice (some ⟨g, 0, none⟩) 4096 c ∧ ∀ i : Nat, i < 4096 → w.cell? ⟨g, i * 4, none⟩ = some (.int .i64 (P i).h) := by
  obtain ⟨g, c, e, _, _, hat⟩ := h.form
  exact ⟨g, c, e, fun i hi => (pg_at (hat i hi)).1⟩
set_option maxRecDepth 100000 in
set_option maxHeartbeats 2000000 in
theorem cuts_is (h : Px B w xa v P) {a n : Nat} (h1 : 1 ≤ a) (hn : a + n ≤ 4096) (hn1 : 1 ≤ n) : Calls Tryz.prog 60 #[.pointer (some ⟨xa, 0, none⟩), .int .i64 a, .int .i64 n] w fun e w' => e = .returned (.bool (cutsB P a n)) ∧ w = w' := by
  obtain ⟨g, c, rfl, hat⟩ := h.how
  have c0 := h.c0
  have c1 := hat a (by omega)
  obtain ⟨s1, hs1⟩ : ∃ s1, s1 = szO (P a).h := ⟨_, rfl⟩
  have hz1 := szO_pos (P a).h
  rw [← hs1] at hz1
  obtain ⟨ha1, hha1⟩ : ∃ z, z = (P a).h := ⟨_, rfl⟩
  rw [← hha1] at c1 hs1
  have HS1 := Lib.hid hs1
  have a0 : (0 : Int) ≤ a := by omega
  have a4 : (a : Int) < 4096 := by omega
  have n0 : (0 : Int) ≤ n := by omega
  have n4 : (n : Int) ≤ 4096 := by omega
  have hs10 : ¬ s1 = 0 := by omega
  have hs1p : 0 < s1 := by omega
  have hsz := fun w => size_is ha1 w
  rw [← hs1] at hsz
  have HC : Hid (cutsB P a n = (decide ((a : Int) % s1 ≠ 0) || (decide ((a : Int) + n < 4096) && decide (((a : Int) + n) % szO (P ((a : Int) + n)).h ≠ 0)))) := by
    show _ = _
    unfold cutsB; rw [hs1, hha1]
  clear hs1 hha1
  by_cases hm : (a : Int) % s1 = 0
  · have hm1 : ((a : Int) % s1 == 0) = true := by simpa using hm
    by_cases hl : a + n < 4096
    · obtain ⟨b, hb⟩ : ∃ b, b = a + n := ⟨_, rfl⟩
      have c2 := hat b (by omega)
      obtain ⟨s2, hs2⟩ : ∃ s2, s2 = szO (P b).h := ⟨_, rfl⟩
      have hz2 := szO_pos (P b).h
      rw [← hs2] at hz2
      obtain ⟨ha2, hha2⟩ : ∃ z, z = (P b).h := ⟨_, rfl⟩
      rw [← hha2] at c2 hs2
      have hsz2 := fun w => size_is ha2 w
      rw [← hs2] at hsz2
      have hs20 : ¬ s2 = 0 := by omega
      have hs2p : 0 < s2 := by omega
      have hbe : (a : Int) + n = (b : Int) := by omega
      have b0 : (0 : Int) ≤ b := by omega
      have b4 : (b : Int) < 4096 := by omega
      have HC2 : Hid (cutsB P a n = !((b : Int) % s2 == 0)) := by
        show _ = _
        rw [HC.out, hbe, decide_eq_false (by simpa using hm), decide_eq_true b4, Bool.false_or, Bool.true_and, hs2, hha2, Bool.eq_iff_iff]
        simp
      clear HC hs2 hha2 hat h hb
      go_enter Tryz.func60, Tryz.ntmps60
      go_wp2_with (go_at_call 18; first | ((with_reducible refine (hsz _).mono ?_); rintro e w1 ⟨rfl, rfl⟩) | ((with_reducible refine (hsz2 _).mono ?_); rintro e w1 ⟨rfl, rfl⟩))
      go_ret
      exact ⟨ret_bool (by rw [HC2.out] <;> simp [bne]), rfl⟩
    · have hl' : ¬ (a : Int) + n < 4096 := by omega
      have hl2 : decide ((a : Int) + n < 4096) = false := by simp only [decide_eq_false_iff_not]; omega
      have hl3 : decide (a + n < 4096) = false := by simp only [decide_eq_false_iff_not]; omega
      have HC2 : Hid (cutsB P a n = false) := by
        show _ = _
        rw [HC.out, decide_eq_false (by simpa using hm), decide_eq_false hl']; rfl
      clear HC hat h
      go_enter Tryz.func60, Tryz.ntmps60
      go_wp2_with (go_at_call 18; (with_reducible refine (hsz _).mono ?_); rintro e w1 ⟨rfl, rfl⟩)
      go_ret
      exact ⟨ret_bool (by rw [HC2.out]), rfl⟩
  · have hm1 : ((a : Int) % s1 == 0) = false := by simpa using hm
    have HC2 : Hid (cutsB P a n = true) := by
      show _ = _
      rw [HC.out, decide_eq_true (by simpa using hm)]; rfl
    clear HC hat h
    go_enter Tryz.func60, Tryz.ntmps60
    go_wp2_with (go_at_call 18; refine (hsz _).mono ?_; rintro e w1 ⟨rfl, rfl⟩)
    go_ret
    exact ⟨ret_bool (by rw [HC2.out]), rfl⟩
set_option maxRecDepth 100000 in
set_option maxHeartbeats 2000000 in
theorem covers_is (h : Px B w xa v P) {a n : Nat} (hr : rtI a n 0 = 0) (hn : a + n ≤ 4096) : Calls Tryz.prog 59 #[.pointer (some ⟨xa, 0, none⟩), .int .i64 a, .int .i64 n] w fun e w' => e = .returned (.bool (covB P a n)) ∧ w = w' := by
  obtain ⟨g, c, rfl, hat⟩ := h.how
  have c0 := h.c0
  have hri := fun w => right_is (a := a) (n := n) ⟨by omega, by omega⟩ ⟨by omega, by omega⟩ w
  rw [hr] at hri
  have HAT := Lib.hid hat
  have n4 : (n : Int) ≤ 4096 := by omega
  have a4 : (a : Int) ≤ 4096 := by omega
  clear hat h hr
  go_enter Tryz.func59, Tryz.ntmps59
  go_wp2_with (go_at_call 82; refine (hri _).mono ?_; rintro e w1 ⟨rfl, rfl⟩)
  go_loop [7] (fun i => ∃ j : Nat, j ≤ n ∧ i = .int .i64 ((a + j : Nat) : Int) ∧ anyB j (fun k => decide ((P (a + k)).h = 0)) = false) (fun i => a + n - (RowKit.intOf i).toNat)
  case atStart => exact ⟨0, Nat.zero_le _, rfl, rfl⟩
  case round =>
    obtain ⟨j, hj, rfl, hany⟩ := hrel
    have HA := Lib.hid hany
    clear hany
    obtain ⟨q, hq⟩ : ∃ q : Nat, q = a + j := ⟨_, rfl⟩
    rw [← hq]
    by_cases hlt : j < n
    · have hc := HAT.out q (by omega)
      obtain ⟨hh, hhe⟩ : ∃ hh, hh = (P q).h := ⟨_, rfl⟩
      rw [← hhe] at hc
      have hqn : (q : Int) < (a : Int) + n := by omega
      have hq0 : (0 : Int) ≤ q := by omega
      have hq4 : (q : Int) < 4096 := by omega
      have HE : Hid ((P ((a : Int) + j)).h = hh) := by show _ = _; rw [hhe]; congr 2; omega
      have HQ := Lib.hid hq
      clear hq hhe
      by_cases h0 : hh = 0
      · subst h0
        have HF : Hid (covB P a n = false) := by
          show _ = _
          unfold covB
          rw [Bool.not_eq_false', anyB_true]
          exact ⟨j, hlt, decide_eq_true HE.out⟩
        go_wp2
        go_ret
        exact ⟨ret_bool HF.out.symm, rfl⟩
      · have h0' : (hh == 0) = false := by simpa using h0
        have HN : Hid (anyB (j + 1) (fun k => decide ((P (a + k)).h = 0)) = false) := by
          show _ = _
          rw [anyB_succ, HA.out, HE.out, decide_eq_false h0]; rfl
        go_wp2
        go_round
        case rel => exact ⟨j + 1, by omega, congrArg (Value.int .i64) (by have := HQ.out; omega), HN.out⟩
        case measure => simp [RowKit.intOf]; omega
    · obtain rfl : j = n := by omega
      have hqn : ¬ (q : Int) < (a : Int) + j := by omega
      have HF : Hid (covB P a j = true) := by
        show _ = _
        unfold covB
        rw [HA.out]; rfl
      go_wp2
      go_ret
      exact ⟨ret_bool HF.out.symm, rfl⟩
end
end Go.Proofs.YtnppnoabhpkmkaaGreat
