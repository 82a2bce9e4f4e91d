/- The program's reservations: All, Held. -/
import Derived.Test.YtfalmjibpkkjaaaC1
import Derived.Deep.RegionLaw
import Derived.Lib.BitFns
namespace Go.Proofs.Ytfalmjibpkkjaaa
open Go.RowKit
theorem step_append_run {P : Program} {ops : Array Oper} {o : Oper} {a : Act} {w : World} {K : Act → World → Prop} {Q : Exit → Act → World → Prop} {E : Prop}
    (hg : o.guard = none) (d x : Operand) (t : TypeId) (hop : o.op = Op.call { callee := Callee.builtin Builtin.append, args := #[d, x], argTypes := #[t, t] })
    (v u : Value) (hd : a.eval d = v) (hx : a.eval x = u) {v' : Value} {w' : World} (hr : (Builtin.append_ #[t, t] o.type #[v, u]).run P w = .ok v' w') (hK : K (a.put o.dst v') w') :
    if Region.wanted o (yielded ops a.tmps) = true then Oper.wp P o a w K Q else E := by
  have hw : Region.wanted o (yielded ops a.tmps) = true := by simp [Region.wanted, hg]
  rw [if_pos hw]
  unfold Oper.wp
  simp [execOp, hop, resolve, invoke, builtin, hd, hx, hr, Result.andThen]
  exact hK
def ER : Enc Try.prog Rv where
  enc x := [.int .i64 x.s, .int .i64 x.p, .int .i64 x.f, .int .u8 (x.n : Nat)]
  sz := 4
  el := 31
  sl := 28
  zero := .agg #[.int .i64 0, .int .i64 0, .int .i64 0, .int .u8 0]
  bytes := 32
  len _ := rfl
  one a u h := by
    simp only [List.mem_cons, List.not_mem_nil, or_false] at h
    rcases h with rfl | rfl | rfl | rfl <;> rfl
  pos := by decide
  zsz := rfl
  und := by kernel_rfl
  info := by kernel_rfl
  small := by decide
def ToldR (L : List Rv) (w : World) (e : Ending) (w' : World) : Prop := ∃ A c, e = .returned (.slice A L.length c) ∧ ER.Own w.heap.size w' (.slice A L.length c) L ∧ Below w.heap.size w w'
section
variable {w w' : World} {B : Nat} {T : ObT} {S S' : Rs} {n : Nat} {s p f : Int}
set_option maxRecDepth 100000 in
set_option maxHeartbeats 4000000 in
theorem all_r (h : ObAt B w T S) (hb : Bnd n S) (hn : n ≤ 900) : Calls Try.prog 10 #[.pointer (some ⟨T.s, 0, none⟩)] w (ToldR S.L w) := by
  have hk := keys_r h hb hn
  obtain ⟨m, hm⟩ : ∃ m, m = S.L.length := ⟨_, rfl⟩
  have m9 : (m : Int) ≤ 900 := by have := hb.ln; omega
  rw [← hm] at hk
  have HH := Lib.hid (And.intro h (And.intro hb hm))
  clear h hb hn hm
  go_enter Try.func10, Try.ntmps10
  go_wp2_with (go_at_call 26; (with_reducible refine hk.mono ?_); rintro e w1 ⟨A1, c1, rfl, ho1, hb1⟩)
  have HK := Lib.hid (And.intro ho1 hb1)
  clear ho1 hb1 hk
  go_wp2_with fail
  go_loopw [3, 9] (fun l i wr => ∃ j : Nat, j ≤ m ∧ i = .int .i64 j ∧ ER.Own w1.heap.size wr l (S.L.take j) ∧ Below w1.heap.size w1 wr) (fun _ i _ => m - (RowKit.intOf i).toNat)
  case atStart => exact ⟨0, Nat.zero_le _, rfl, Enc.Own.nil _ _, Below.refl _ _⟩
  case round =>
    obtain ⟨j, hj, rfl, hown, hb⟩ := hrel
    obtain ⟨Ar_, cr, rfl⟩ := hown.form
    have hlen : (S.L.take j).length = j := by rw [List.length_take]; have := HH.out.2.2; omega
    rw [hlen] at hown ⊢
    have HO := Lib.hid hown
    have HB := Lib.hid hb
    by_cases hlt : j < m
    · have hjl : j < S.L.length := by rw [← HH.out.2.2]; exact hlt
      have hr := (HH.out.1.call HK.out.2).call hb
      have hkl : (keysR S.L).length = S.L.length := by unfold keysR; rw [List.length_map]
      have hjk : j < (keysR S.L).length := by rw [hkl]; exact hjl
      obtain ⟨gk, e, -, -, -, hat⟩ := (HK.out.1.call hb).some_ (by omega)
      subst e
      have hat := hat j hjk
      have hx : (keysR S.L)[j] = (S.L[j].s, S.L[j].p) := List.getElem_map (fun x : Rv => (x.s, x.p))
      rw [hx] at hat
      have d0 : wr.cell? ⟨gk, j * 2, none⟩ = some (.int .i64 S.L[j].s) := hat 0 (by decide)
      have d1 : wr.cell? ⟨gk, j * 2 + 1, none⟩ = some (.int .i64 S.L[j].p) := hat 1 (by decide)
      have HT : Hid (S.L.take (j + 1) = S.L.take j ++ [S.L[j]]) := List.take_succ_eq_append_getElem hjl
      have hmem : S.L[j] ∈ S.L := List.getElem_mem hjl
      have hpe : pd S.L[j].p = S.L[j].p := pd_even (HH.out.2.1.ok _ hmem).p8
      have hfit : Fits S.L[j].s ∧ Fits S.L[j].p := by
        have o := HH.out.2.1.ok _ hmem
        have := o.s0; have := o.s1; have := o.p0; have := o.p1
        unfold Fits; omega
      have hatp : atP S.L S.L[j].s S.L[j].p = some S.L[j] := HH.out.2.1.atP hmem rfl hpe.symm
      generalize S.L[j] = y at *
      obtain ⟨V, hV⟩ : ∃ V, V = wr.alloc (.cells #[.int .i64 y.s, .int .i64 y.p] 66) := ⟨_, rfl⟩
      obtain ⟨W, hW⟩ : ∃ W, W = V.drew := ⟨_, rfl⟩
      have bW : Below wr.heap.size wr W := by rw [hW, hV]; exact below_dN (below_new _ _) 1
      obtain ⟨kb, hkb⟩ : ∃ kb, kb = wr.heap.size := ⟨_, rfl⟩
      have rk : Lrow W kb 66 [.int .i64 y.s, .int .i64 y.p] := by rw [hW, hV, hkb]; exact Lrow.new wr _ _
      have hrW := hr.call bW
      have hl := hrW.look1 hfit.1 hfit.2 hatp
      rw [hpe] at hl
      have q := hrW.row y hmem
      have q0 : W.cell? ⟨T.a y.s y.p, 0, none⟩ = some (.int .i64 y.s) := q.cell 0
      have q1 : W.cell? ⟨T.a y.s y.p, 1, none⟩ = some (.int .i64 y.p) := q.cell 1
      have q2 : W.cell? ⟨T.a y.s y.p, 2, none⟩ = some (.int .i64 y.f) := q.cell 2
      have q3 : W.cell? ⟨T.a y.s y.p, 3, none⟩ = some (.int .u8 (y.n : Nat)) := q.cell 3
      have x0 := rk.cell 0
      have x1 := rk.cell 1
      have t0 := hrW.c0
      obtain ⟨A5, c5, W5, r5, o5, g5, -⟩ := (HO.out.call bW).app1 (Nat.le_trans hb.size bW.size) y (by rw [hlen]; omega) _ rfl
      have r5' := r5 _ rfl
      rw [hlen] at r5' o5
      change (Builtin.append_ #[28, 28] 28 _).run Try.prog (W.alloc (.cells #[.int .i64 y.s, .int .i64 y.p, .int .i64 y.f, .int .u8 (y.n : Nat)] 31)) = _ at r5'
      have HO5 := Lib.hid o5
      have HB5 : Hid (Below w1.heap.size w1 W5) := (hb.trans (bW.mono hb.size)).grown g5 (Nat.le_trans hb.size bW.size) (fun k e => by
        obtain ⟨vs, r, hlo⟩ := HO.out.block e
        exact hlo)
      have j1 : (j : Int) < m := by omega
      have j0 : (0 : Int) ≤ j := by omega
      have HLL := Lib.hid hlen
      have HV := Lib.hid (And.intro hV hkb)
      rw [hW] at hl q0 q1 q2 q3 x0 x1 t0 r5'
      have hWz : V.drew.heap.size = V.heap.size := rfl
      generalize T.a y.s y.p = yq at *
      generalize y.s = ys at *
      generalize y.p = yp at *
      generalize y.f = yf at *
      generalize (y.n : Int) = yn at *
      clear hr hat hx hjk hkl hmem hpe hfit hatp bW rk hrW q r5 o5 g5 hown hb hlen hjl hW hV hkb
      go_upto_region 5 with (fail)
      rw [← HV.out.1, ← HV.out.2]
      go_region_law (refine step_append_run (by rfl) _ _ 28 (by rfl) (.slice Ar_ j cr) (.slice (some ⟨V.heap.size, 0, none⟩) 1 1) (by simp [Act.eval]) (by simp [Act.eval]) r5' ?_)
      all_goals
        go_wp2_with fail
        go_roundw
        case rel => exact ⟨j + 1, by omega, by go_num, by rw [HT.out]; exact HO5.out, HB5.out⟩
        case measure => simp [RowKit.intOf]; omega
    · obtain rfl : j = m := by omega
      have HE : Hid (S.L.take j = S.L ∧ j = S.L.length) := ⟨List.take_of_length_le (by rw [← HH.out.2.2]; exact Nat.le_refl _), HH.out.2.2⟩
      clear hown hb hlen
      go_wp2_with fail
      go_ret
      refine ⟨Ar_, cr, by rw [← HE.out.2]; rfl, ?_, HK.out.2.trans (HB.out.mono HK.out.2.size)⟩
      have h1 := HO.out
      rw [HE.out.1] at h1
      rw [← HE.out.2]
      exact h1.base HK.out.2.size
end
end Go.Proofs.Ytfalmjibpkkjaaa
