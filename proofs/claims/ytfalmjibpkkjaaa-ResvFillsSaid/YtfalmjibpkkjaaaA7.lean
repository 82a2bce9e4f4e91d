/- The reference of reservations: Make, where one is made. -/
import Derived.Test.YtfalmjibpkkjaaaA6
namespace Go.Proofs.Ytfalmjibpkkjaaa
open Go.RowKit
section
variable {w w' : World} {B xa : Nat} {v : Value} {K : List Rw} {S S' : Rs} {n : Nat} {s p f : Int}
def newB : List Value := [.bool false, .bool false, .bool false, .bool false, .bool false, .bool false, .bool false, .bool false]
theorem bits0 : bitsV 0 = newB := by kernel_rfl
theorem make8 (w : World) : (Instr.makeSlice 38 (.int .i64 8) (.int .i64 8)).run Try.prog w = .ok (.slice (some ⟨w.heap.size, 0, none⟩) 8 8) (w.alloc (.cells #[.bool false, .bool false, .bool false, .bool false, .bool false, .bool false, .bool false, .bool false] 4)) := by kernel_rfl
theorem outJ_len {α : Type} (q : α → Bool) (x : α) (L : List α) (j : Nat) : (outJ q x L j).length ≤ L.length + 1 := by
  unfold outJ
  have h : (L.take j).length ≤ L.length := by rw [List.length_take]; omega
  split
  · omega
  · have e := List.takeWhile_append_dropWhile (p := q) (l := L.take j)
    have e2 : ((L.take j).takeWhile q).length + ((L.take j).dropWhile q).length = (L.take j).length := by rw [← List.length_append, e]
    unfold insG
    rw [List.length_append, List.length_cons]; omega
/-- What lies there when the new one is made. -/
structure NewX (w W : World) (xa q g : Nat) (v : Value) (s p f T : Int) : Prop where
  foot : Foot (fun k => k = xa) w W
  top : Lrow W xa 48 [v, .int .i64 T]
  box : Lrow W q 53 [.int .i64 s, .int .i64 p, .int .i64 f, .slice (some ⟨g, 0, none⟩) 8 8, .int .i64 T]
  row : Lrow W g 4 newB
  gl : w.heap.size ≤ g
/-- What the loop has laid. -/
theorem app_one {wr : World} {D : Nat} {A : Option Addr} {mm c : Nat} {T : List Rw} (h : EOn.Own D wr (.slice A mm c) T) (hD : D ≤ wr.heap.size) (hl : T.length ≤ 2000) (hm : mm = T.length) (y : Rw) : ∃ A5 c5 W5,
    (Builtin.append_ #[46, 46] 46 #[.slice A mm c, .slice (some ⟨wr.heap.size, 0, none⟩) 1 1]).run Try.prog (wr.alloc (.cells #[.int .i64 y.v.s, .int .i64 y.v.p, .int .i64 y.v.f, .slice (some ⟨y.g, 0, none⟩) 8 y.c, .int .i64 y.v.t] 53)) = .ok (.slice A5 (mm + 1) c5) W5 ∧
    EOn.Own D W5 (.slice A5 (mm + 1) c5) (T ++ [y]) ∧ Below D wr W5 ∧ (∀ k, k < wr.heap.size → (Value.slice A mm c).ownBlock ≠ some k → W5.heap[k]? = wr.heap[k]?) := by
  subst hm
  obtain ⟨A5, c5, W5, r5, o5, g5, -⟩ := h.app1 hD y (by omega) _ rfl
  refine ⟨A5, c5, W5, r5 _ rfl, o5, (Below.refl D wr).grown g5 hD (fun k e => by
    obtain ⟨vs, r, hlo⟩ := h.block e
    exact hlo), fun k hk hne => g5.block k hk (fun e => hne e.symm)⟩
set_option maxRecDepth 100000 in
set_option maxHeartbeats 8000000 in
theorem make_new (h : Rx B w xa v K S) (hb : Bnd n S) (hn : n ≤ 900) (c : mkE S s p f = 0) : Calls Try.prog 41 #[.pointer (some ⟨xa, 0, none⟩), .int .i64 s, .int .i64 p, .int .i64 f] w fun e w' => e = .returned (.int .i64 (mkE S s p f)) ∧ DidR B w xa v K (mkS S s p f) w' := by
  obtain ⟨⟨a1, a2, a3, a4, a5, a6, a7⟩, z1, z2⟩ := mkE_ok c
  rw [mkS_yes c, c]
  have ha := at_x h hb (by omega) s p
  have ho := of_x h hb (by omega) f
  rw [show atI S.L s p = -1 from if_neg fun k => by have := ix_yes k; unfold atP at z1; rw [z1] at this; cases this] at ha
  rw [show ofI S.L f = -1 from if_neg fun k => by have := ix_yes k; unfold atF at z2; rw [z2] at this; cases this] at ho
  obtain ⟨pp, rfl⟩ : ∃ k : Nat, p = k := ⟨p.toNat, by omega⟩
  obtain ⟨ff, rfl⟩ : ∃ k : Nat, f = k := ⟨f.toNat, by omega⟩
  have c1 : ¬ s < 0 := by omega
  have c2 : ¬ (pp : Int) < 0 := by omega
  have c3 : ¬ (4095 : Int) < pp := by omega
  have c4 : ¬ (ff : Int) < 0 := by omega
  have c5 : ¬ (1016 : Int) < ff := by omega
  obtain ⟨Tn, hT⟩ : ∃ Tn, Tn = S.T + 1 := ⟨_, rfl⟩
  have t1 := hb.t1
  have t0 := hb.t0
  have eT : IntKind.i64.wrap (S.T + 1) = Tn := by rw [hT]; exact IntWalk.i64_in _ (by omega)
  obtain ⟨w7, e7⟩ : ∃ w7, w7 = w.setCell ⟨xa, 1, none⟩ (.int .i64 Tn) := ⟨_, rfl⟩
  have k1 := h.c1
  have f1 := h.top.frozen 1
  have r7 : Lrow w7 xa 48 [v, .int .i64 Tn] := by rw [e7]; exact h.top.set_ 1 _
  have k2 := r7.cell 1
  have hx7 : xa < w7.heap.size := r7.lt
  have HW := Lib.hid e7
  have f7 : Foot (fun k => k = xa) w w7 := by rw [e7]; exact Foot.grown (grown_set w xa 1 _) rfl
  have HNA : Hid (NewX w (((w7.alloc (.cells #[.bool false, .bool false, .bool false, .bool false, .bool false, .bool false, .bool false, .bool false] 4)).alloc (.cells #[.int .i64 s, .int .i64 pp, .int .i64 ff, .slice (some ⟨w7.heap.size, 0, none⟩) 8 8, .int .i64 Tn] 53)).drew) xa (w7.heap.size + 1) w7.heap.size v s pp ff Tn) := by
    have b1 := below_new w7 (.cells #[.bool false, .bool false, .bool false, .bool false, .bool false, .bool false, .bool false, .bool false] 4)
    have r1 : Lrow (w7.alloc (.cells #[.bool false, .bool false, .bool false, .bool false, .bool false, .bool false, .bool false, .bool false] 4)) w7.heap.size 4 newB := Lrow.new w7 _ newB
    have hs : (w7.alloc (.cells #[.bool false, .bool false, .bool false, .bool false, .bool false, .bool false, .bool false, .bool false] 4)).heap.size = w7.heap.size + 1 := by simp
    generalize w7.alloc (.cells #[.bool false, .bool false, .bool false, .bool false, .bool false, .bool false, .bool false, .bool false] 4) = W1 at *
    have b2 := below_new W1 (.cells #[.int .i64 s, .int .i64 pp, .int .i64 ff, .slice (some ⟨w7.heap.size, 0, none⟩) 8 8, .int .i64 Tn] 53)
    have r2 := Lrow.new W1 53 [.int .i64 s, .int .i64 pp, .int .i64 ff, .slice (some ⟨w7.heap.size, 0, none⟩) 8 8, .int .i64 Tn]
    rw [hs] at r2
    exact ⟨(f7.trans (Foot.of_below (X := fun _ => False) (b1.trans (b2.mono b1.size))) fun _ e _ => e.elim).drewN 1, ((r7.call b1).call b2).drewN 1, r2, (r1.call b2).drewN 1, f7.size⟩
  have HNB : Hid (NewX w (((w7.alloc (.cells #[.int .i64 s, .int .i64 pp, .int .i64 ff, .slice (some ⟨w7.heap.size + 1, 0, none⟩) 8 8, .int .i64 Tn] 53)).alloc (.cells #[.bool false, .bool false, .bool false, .bool false, .bool false, .bool false, .bool false, .bool false] 4)).drew) xa w7.heap.size (w7.heap.size + 1) v s pp ff Tn) := by
    have b1 := below_new w7 (.cells #[.int .i64 s, .int .i64 pp, .int .i64 ff, .slice (some ⟨w7.heap.size + 1, 0, none⟩) 8 8, .int .i64 Tn] 53)
    have r1 := Lrow.new w7 53 [.int .i64 s, .int .i64 pp, .int .i64 ff, .slice (some ⟨w7.heap.size + 1, 0, none⟩) 8 8, .int .i64 Tn]
    have hs : (w7.alloc (.cells #[.int .i64 s, .int .i64 pp, .int .i64 ff, .slice (some ⟨w7.heap.size + 1, 0, none⟩) 8 8, .int .i64 Tn] 53)).heap.size = w7.heap.size + 1 := by simp
    change Lrow (w7.alloc (.cells #[.int .i64 s, .int .i64 pp, .int .i64 ff, .slice (some ⟨w7.heap.size + 1, 0, none⟩) 8 8, .int .i64 Tn] 53)) _ _ _ at r1
    generalize w7.alloc (.cells #[.int .i64 s, .int .i64 pp, .int .i64 ff, .slice (some ⟨w7.heap.size + 1, 0, none⟩) 8 8, .int .i64 Tn] 53) = W1 at *
    have b2 := below_new W1 (.cells #[.bool false, .bool false, .bool false, .bool false, .bool false, .bool false, .bool false, .bool false] 4)
    have r2 : Lrow (W1.alloc (.cells #[.bool false, .bool false, .bool false, .bool false, .bool false, .bool false, .bool false, .bool false] 4)) W1.heap.size 4 newB := Lrow.new W1 _ newB
    rw [hs] at r2
    exact ⟨(f7.trans (Foot.of_below (X := fun _ => False) (b1.trans (b2.mono b1.size))) fun _ e _ => e.elim).drewN 1, ((r7.call b1).call b2).drewN 1, (r1.call b2).drewN 1, r2, Nat.le_trans f7.size (Nat.le_succ _)⟩
  have HT := Lib.hid hT
  clear t0 t1 e7 hT
  go_enter Try.func41, Try.ntmps41
  go_upto_region 8 with (first | (go_at_call 24; (with_reducible refine ha.mono ?_); rintro e w1 ⟨rfl, rfl⟩) | (go_at_call 50; (with_reducible refine ho.mono ?_); rintro e w1 ⟨rfl, rfl⟩))
  rw [← HW.out]
  go_cut [9] from 59 to 67 (fun s9 wx => ∃ q, s9 = .pointer (some ⟨q, 0, none⟩) ∧ ∃ g, NewX w wx xa q g v s pp ff Tn)
  case first =>
    go_wp2_with fail
    have hmk := make8
    go_region
    · go_wp2_with fail
      go_meet
      exact ⟨_, rfl, _, HNA.out⟩
    · go_wp2_with fail
      go_meet
      exact ⟨_, rfl, _, HNB.out⟩
  case rest =>
    obtain ⟨q, rfl, g, hN⟩ := hcut
    obtain ⟨W, hW⟩ : ∃ W, W = wc := ⟨_, rfl⟩
    rw [← hW] at hN ⊢
    clear hW HNA HNB k1 f1 r7 k2 hx7 eT f7 c1 c2 c3 c4 c5 ha ho
    obtain ⟨A, cc, hv⟩ := h.own.form
    obtain ⟨m, hm⟩ : ∃ m, m = K.length := ⟨_, rfl⟩
    rw [← hm] at hv
    have m9 : (m : Int) ≤ 900 := by have := hb.ln; have := h.len; omega
    obtain ⟨qq, hqq⟩ : ∃ qq : Rw → Bool, qq = fun y => befR s pp y.v := ⟨_, rfl⟩
    obtain ⟨x, hx⟩ : ∃ x : Rw, x = ⟨⟨s, pp, ff, 0, Tn⟩, g, 8⟩ := ⟨_, rfl⟩
    have HZ := Lib.hid (And.intro hqq hx)
    have HX := Lib.hid (And.intro h hv)
    have HM := Lib.hid hm
    have HK := Lib.hid (And.intro hN (And.intro hb (And.intro z1 z2)))
    clear hqq hx h hv hm hN hb z1 z2 hn c
    go_wp2_with fail
    go_loopw [10, 11, 12] (fun o d k wr => ∃ j : Nat, j ≤ m ∧ k = .int .i64 j ∧ d = .bool (dnJ qq K j) ∧ EOn.Own W.heap.size wr o (outJ qq x K j) ∧ Below W.heap.size W wr) (fun _ _ k _ => m - (RowKit.intOf k).toNat)
    case atStart => exact ⟨0, Nat.zero_le _, rfl, rfl, Enc.Own.nil _ _, Below.refl _ _⟩
    case round =>
      obtain ⟨j, hj, rfl, rfl, hown, hb⟩ := hrel
      obtain ⟨Ar_, cr, rfl⟩ := hown.form
      have hx := HX.out.1
      have hk := HK.out.1
      have rt := hk.top.call hb
      have c2 := rt.cell 0
      rw [HX.out.2] at c2
      change wr.cell? ⟨xa, 0, none⟩ = some (.slice A m cc) at c2
      obtain ⟨T, hT⟩ : ∃ T, T = outJ qq x K j := ⟨_, rfl⟩
      have hlen : T.length ≤ 1500 := by
        rw [hT]
        have h1 := outJ_len qq x K j
        have := HM.out
        omega
      rw [← hT] at hown ⊢
      obtain ⟨mm, hmm⟩ : ∃ mm, mm = T.length := ⟨_, rfl⟩
      obtain ⟨dn, hdn⟩ : ∃ dn, dn = dnJ qq K j := ⟨_, rfl⟩
      rw [← hdn]
      have HTT := Lib.hid (And.intro hT hmm)
      have HDN := Lib.hid hdn
      have HTL := Lib.hid hlen
      have HO := Lib.hid hown
      have HB := Lib.hid hb
      rw [← hmm]
      by_cases hlt : j < m
      · have hjl : j < K.length := by rw [← HM.out]; exact hlt
        obtain ⟨hjs, hks⟩ := hx.get hjl
        have hok := HK.out.2.1.ok _ (List.getElem_mem hjs)
        rw [hks] at hok
        have p0 := hok.p0
        have HDONE := Lib.hid (fun hd : dn = true => outJ_done (q := qq) (x := x) hjl (hdn ▸ hd))
        have HBEF := Lib.hid (fun (hd : dn = false) hq => outJ_bef (q := qq) (x := x) hjl (hdn ▸ hd) hq)
        have HPUT := Lib.hid (fun (hd : dn = false) hq => outJ_put (q := qq) (x := x) hjl (hdn ▸ hd) hq)
        have HQ : Hid (qq K[j] = decide (K[j].v.s < s ∨ (K[j].v.s = s ∧ K[j].v.p ≤ pp))) := by show _ = _; rw [HZ.out.1]; rfl
        have kfoot : ∀ k, k < w.heap.size → k ≠ xa → wr.heap[k]? = w.heap[k]? := fun k hkl hne => (hb.block k (Nat.lt_of_lt_of_le hkl hk.foot.size)).trans (hk.foot.keep k hkl hne)
        have hat : ∃ g', A = some ⟨g', 0, none⟩ ∧ EOn.At wr g' (j * 5) K[j] := by
          obtain ⟨-, g', e, -, hat⟩ := hx.on HX.out.2 hjl
          subst e
          obtain ⟨vs, r, _⟩ := hx.own.block (g := g') (by rw [HX.out.2]; rfl)
          exact ⟨g', rfl, hat.heap (kfoot g' r.lt (r.apart hx.top (by decide)))⟩
        obtain ⟨g', rfl, hat⟩ := hat
        obtain ⟨d0, d1, d2, d3, d4⟩ := on_at hat
        have j1 : (j : Int) < m := by omega
        have j0 : (0 : Int) ≤ j := by omega
        have hrt : xa < wr.heap.size := rt.lt
        have rq := hk.box.call hb
        have HY : Hid (K[j] = (⟨⟨K[j].v.s, K[j].v.p, K[j].v.f, K[j].v.n, K[j].v.t⟩, K[j].g, K[j].c⟩ : Rw)) := rfl
        generalize K[j].v.s = ys at *
        generalize K[j].v.p = yp at *
        generalize K[j].v.f = yf at *
        generalize K[j].v.n = yn at *
        generalize K[j].v.t = yt at *
        generalize K[j].g = yg at *
        generalize K[j].c = yc at *
        clear hx hk rt hT hmm hlen hown hb hjs hks hok kfoot hat hdn
        by_cases hd : dn = true
        · have HF : Hid (outJ qq x K (j + 1) = T ++ [⟨⟨ys, yp, yf, yn, yt⟩, yg, yc⟩] ∧ dnJ qq K (j + 1) = true) := by
            refine ⟨?_, (HDONE.out hd).2⟩
            rw [(HDONE.out hd).1, ← HTT.out.1, ← HY.out]
          clear HDONE HBEF HPUT
          subst hd
          obtain ⟨W1, hW1⟩ : ∃ W1, W1 = wr.alloc (.cells #[.int .i64 ys, .int .i64 yp, .int .i64 yf, .slice (some ⟨yg, 0, none⟩) 8 yc, .int .i64 yt] 53) := ⟨_, rfl⟩
          have b1 : Below wr.heap.size wr W1 := by rw [hW1]; exact below_new _ _
          obtain ⟨yb, hyb⟩ : ∃ yb, yb = wr.heap.size := ⟨_, rfl⟩
          have ry1 : Lrow W1 yb 53 [.int .i64 ys, .int .i64 yp, .int .i64 yf, .slice (some ⟨yg, 0, none⟩) 8 yc, .int .i64 yt] := by rw [hW1, hyb]; exact Lrow.new wr _ _
          have o1 := HO.out.call b1
          obtain ⟨A5, c5, W5, r5, o5, b5, -⟩ := app_one o1 (Nat.le_trans HB.out.size b1.size) (by have := HTL.out; omega) rfl (⟨⟨ys, yp, yf, yn, yt⟩, yg, yc⟩ : Rw)
          have r5' := r5
          rw [← HTT.out.2] at r5' o5
          dsimp only at r5'
          have y0 := ry1.cell 0
          have y1 := ry1.cell 1
          have y2 := ry1.cell 2
          have y3 := ry1.cell 3
          have y4 := ry1.cell 4
          have HO5 := Lib.hid o5
          have HB5 : Hid (Below W.heap.size W W5) := HB.out.trans ((b1.mono HB.out.size).trans b5)
          have HW1 := Lib.hid (And.intro hW1 hyb)
          clear o5 r5 b5 o1 ry1 hW1 hyb b1
          go_upto_region 15 with (fail)
          rw [← HW1.out.1, ← HW1.out.2]
          go_wp2_with (at_builtin; refine wpList_append_run rfl _ _ 46 rfl _ _ rfl rfl r5' ?_)
          go_roundw
          case rel => exact ⟨j + 1, by omega, by go_num, by rw [HF.out.2], by rw [HF.out.1]; exact HO5.out, HB5.out⟩
          case measure => simp [RowKit.intOf]; omega
        · have hd : dn = false := by simpa using hd
          by_cases e1 : ys = s
          · by_cases e2 : yp ≤ pp
            · have HF : Hid (outJ qq x K (j + 1) = T ++ [⟨⟨ys, yp, yf, yn, yt⟩, yg, yc⟩] ∧ dnJ qq K (j + 1) = false) := by
                have hq : qq K[j] = true := by rw [HQ.out]; exact decide_eq_true (Or.inr ⟨e1, e2⟩)
                refine ⟨?_, (HBEF.out hd hq).2⟩
                rw [(HBEF.out hd hq).1, ← HTT.out.1, ← HY.out]
              clear HDONE HBEF HPUT
              subst hd e1
              have f1 : ¬ (ys > ys) := by omega
              have f2 : ¬ (yp > (pp : Int)) := by omega
              obtain ⟨W1, hW1⟩ : ∃ W1, W1 = wr.alloc (.cells #[.int .i64 ys, .int .i64 yp, .int .i64 yf, .slice (some ⟨yg, 0, none⟩) 8 yc, .int .i64 yt] 53) := ⟨_, rfl⟩
              have b1 : Below wr.heap.size wr W1 := by rw [hW1]; exact below_new _ _
              obtain ⟨yb, hyb⟩ : ∃ yb, yb = wr.heap.size := ⟨_, rfl⟩
              have ry1 : Lrow W1 yb 53 [.int .i64 ys, .int .i64 yp, .int .i64 yf, .slice (some ⟨yg, 0, none⟩) 8 yc, .int .i64 yt] := by rw [hW1, hyb]; exact Lrow.new wr _ _
              have o1 := HO.out.call b1
              obtain ⟨A5, c5, W5, r5, o5, b5, -⟩ := app_one o1 (Nat.le_trans HB.out.size b1.size) (by have := HTL.out; omega) rfl (⟨⟨ys, yp, yf, yn, yt⟩, yg, yc⟩ : Rw)
              have r5' := r5
              rw [← HTT.out.2] at r5' o5
              dsimp only at r5'
              have y0 := ry1.cell 0
              have y1 := ry1.cell 1
              have y2 := ry1.cell 2
              have y3 := ry1.cell 3
              have y4 := ry1.cell 4
              have HO5 := Lib.hid o5
              have HB5 : Hid (Below W.heap.size W W5) := HB.out.trans ((b1.mono HB.out.size).trans b5)
              have HW1 := Lib.hid (And.intro hW1 hyb)
              clear o5 r5 b5 o1 ry1 hW1 hyb b1
              go_upto_region 15 with (fail)
              rw [← HW1.out.1, ← HW1.out.2]
              go_wp2_with (at_builtin; refine wpList_append_run rfl _ _ 46 rfl _ _ rfl rfl r5' ?_)
              go_roundw
              case rel => exact ⟨j + 1, by omega, by go_num, by rw [HF.out.2], by rw [HF.out.1]; exact HO5.out, HB5.out⟩
              case measure => simp [RowKit.intOf]; omega
            · have HF : Hid (outJ qq x K (j + 1) = T ++ [⟨⟨s, pp, ff, 0, Tn⟩, g, 8⟩] ++ [⟨⟨ys, yp, yf, yn, yt⟩, yg, yc⟩] ∧ dnJ qq K (j + 1) = true) := by
                have hq : qq K[j] = false := by rw [HQ.out]; exact decide_eq_false (by omega)
                refine ⟨?_, (HPUT.out hd hq).2⟩
                rw [(HPUT.out hd hq).1, ← HTT.out.1, ← HY.out, HZ.out.2]
              clear HDONE HBEF HPUT
              subst hd e1
              have f1 : ¬ (ys > ys) := by omega
              have f2 : yp > (pp : Int) := by omega
              obtain ⟨W1, hW1⟩ : ∃ W1, W1 = wr.alloc (.cells #[.int .i64 ys, .int .i64 yp, .int .i64 yf, .slice (some ⟨yg, 0, none⟩) 8 yc, .int .i64 yt] 53) := ⟨_, rfl⟩
              have b1 : Below wr.heap.size wr W1 := by rw [hW1]; exact below_new _ _
              obtain ⟨yb, hyb⟩ : ∃ yb, yb = wr.heap.size := ⟨_, rfl⟩
              have ry1 : Lrow W1 yb 53 [.int .i64 ys, .int .i64 yp, .int .i64 yf, .slice (some ⟨yg, 0, none⟩) 8 yc, .int .i64 yt] := by rw [hW1, hyb]; exact Lrow.new wr _ _
              have o1 := HO.out.call b1
              have hD1 := Nat.le_trans HB.out.size b1.size
              obtain ⟨A5, c5, W5, r5, o5, b5, k5⟩ := app_one o1 hD1 (by have := HTL.out; omega) rfl (⟨⟨ys, pp, ff, 0, Tn⟩, g, 8⟩ : Rw)
              have ry5 := (k5 yb ry1.lt (fun e => by
                obtain ⟨vs, r, _⟩ := HO.out.block e
                have := r.lt; omega)).trans ry1
              obtain ⟨A6, c6, W6, r6, o6, b6, -⟩ := app_one o5 (Nat.le_trans hD1 b5.size) (by have := HTL.out; simp only [List.length_append, List.length_cons, List.length_nil]; omega) (by simp) (⟨⟨ys, yp, yf, yn, yt⟩, yg, yc⟩ : Rw)
              have r5' := r5
              have r6' := r6
              rw [← HTT.out.2] at r5' r6' o6
              dsimp only at r5' r6'
              change Lrow W5 yb _ _ at ry5
              have y0 := ry5.cell 0
              have y1 := ry5.cell 1
              have y2 := ry5.cell 2
              have y3 := ry5.cell 3
              have y4 := ry5.cell 4
              have x0 := ry1.cell 0
              have x1 := ry1.cell 1
              have rq1 := (HK.out.1.box.call HB.out).call b1
              have q0 := rq1.cell 0
              have q1 := rq1.cell 1
              have q2 := rq1.cell 2
              have q3 := rq1.cell 3
              have q4 := rq1.cell 4
              have HO5 := Lib.hid o6
              have HB5 : Hid (Below W.heap.size W W6) := HB.out.trans ((b1.mono HB.out.size).trans (b5.trans b6))
              have HW1 := Lib.hid (And.intro hW1 hyb)
              clear o5 r5 b5 k5 o1 o6 r6 b6 ry1 ry5 rq1 hW1 hyb b1 hD1
              go_upto_region 15 with (fail)
              rw [← HW1.out.1, ← HW1.out.2]
              go_wp2_with (at_builtin; first | refine wpList_append_run rfl _ _ 46 rfl _ _ rfl rfl r5' ?_ | refine wpList_append_run rfl _ _ 46 rfl _ _ rfl rfl r6' ?_)
              go_roundw
              case rel => exact ⟨j + 1, by omega, by go_num, by rw [HF.out.2], by rw [HF.out.1]; exact HO5.out, HB5.out⟩
              case measure => simp [RowKit.intOf]; omega
          · by_cases e2 : ys < s
            · have HF : Hid (outJ qq x K (j + 1) = T ++ [⟨⟨ys, yp, yf, yn, yt⟩, yg, yc⟩] ∧ dnJ qq K (j + 1) = false) := by
                have hq : qq K[j] = true := by rw [HQ.out]; exact decide_eq_true (Or.inl e2)
                refine ⟨?_, (HBEF.out hd hq).2⟩
                rw [(HBEF.out hd hq).1, ← HTT.out.1, ← HY.out]
              clear HDONE HBEF HPUT
              subst hd
              have f1 : ¬ (ys > s) := by omega
              have f3 : (ys == s) = false := by simpa using e1
              obtain ⟨W1, hW1⟩ : ∃ W1, W1 = wr.alloc (.cells #[.int .i64 ys, .int .i64 yp, .int .i64 yf, .slice (some ⟨yg, 0, none⟩) 8 yc, .int .i64 yt] 53) := ⟨_, rfl⟩
              have b1 : Below wr.heap.size wr W1 := by rw [hW1]; exact below_new _ _
              obtain ⟨yb, hyb⟩ : ∃ yb, yb = wr.heap.size := ⟨_, rfl⟩
              have ry1 : Lrow W1 yb 53 [.int .i64 ys, .int .i64 yp, .int .i64 yf, .slice (some ⟨yg, 0, none⟩) 8 yc, .int .i64 yt] := by rw [hW1, hyb]; exact Lrow.new wr _ _
              have o1 := HO.out.call b1
              obtain ⟨A5, c5, W5, r5, o5, b5, -⟩ := app_one o1 (Nat.le_trans HB.out.size b1.size) (by have := HTL.out; omega) rfl (⟨⟨ys, yp, yf, yn, yt⟩, yg, yc⟩ : Rw)
              have r5' := r5
              rw [← HTT.out.2] at r5' o5
              dsimp only at r5'
              have y0 := ry1.cell 0
              have y1 := ry1.cell 1
              have y2 := ry1.cell 2
              have y3 := ry1.cell 3
              have y4 := ry1.cell 4
              have HO5 := Lib.hid o5
              have HB5 : Hid (Below W.heap.size W W5) := HB.out.trans ((b1.mono HB.out.size).trans b5)
              have HW1 := Lib.hid (And.intro hW1 hyb)
              clear o5 r5 b5 o1 ry1 hW1 hyb b1
              go_upto_region 15 with (fail)
              rw [← HW1.out.1, ← HW1.out.2]
              go_wp2_with (at_builtin; refine wpList_append_run rfl _ _ 46 rfl _ _ rfl rfl r5' ?_)
              go_roundw
              case rel => exact ⟨j + 1, by omega, by go_num, by rw [HF.out.2], by rw [HF.out.1]; exact HO5.out, HB5.out⟩
              case measure => simp [RowKit.intOf]; omega
            · have HF : Hid (outJ qq x K (j + 1) = T ++ [⟨⟨s, pp, ff, 0, Tn⟩, g, 8⟩] ++ [⟨⟨ys, yp, yf, yn, yt⟩, yg, yc⟩] ∧ dnJ qq K (j + 1) = true) := by
                have hq : qq K[j] = false := by rw [HQ.out]; exact decide_eq_false (by omega)
                refine ⟨?_, (HPUT.out hd hq).2⟩
                rw [(HPUT.out hd hq).1, ← HTT.out.1, ← HY.out, HZ.out.2]
              clear HDONE HBEF HPUT
              subst hd
              have f1 : ys > s := by omega
              have f3 : (ys == s) = false := by simpa using e1
              obtain ⟨W1, hW1⟩ : ∃ W1, W1 = wr.alloc (.cells #[.int .i64 ys, .int .i64 yp, .int .i64 yf, .slice (some ⟨yg, 0, none⟩) 8 yc, .int .i64 yt] 53) := ⟨_, rfl⟩
              have b1 : Below wr.heap.size wr W1 := by rw [hW1]; exact below_new _ _
              obtain ⟨yb, hyb⟩ : ∃ yb, yb = wr.heap.size := ⟨_, rfl⟩
              have ry1 : Lrow W1 yb 53 [.int .i64 ys, .int .i64 yp, .int .i64 yf, .slice (some ⟨yg, 0, none⟩) 8 yc, .int .i64 yt] := by rw [hW1, hyb]; exact Lrow.new wr _ _
              have o1 := HO.out.call b1
              have hD1 := Nat.le_trans HB.out.size b1.size
              obtain ⟨A5, c5, W5, r5, o5, b5, k5⟩ := app_one o1 hD1 (by have := HTL.out; omega) rfl (⟨⟨s, pp, ff, 0, Tn⟩, g, 8⟩ : Rw)
              have ry5 := (k5 yb ry1.lt (fun e => by
                obtain ⟨vs, r, _⟩ := HO.out.block e
                have := r.lt; omega)).trans ry1
              obtain ⟨A6, c6, W6, r6, o6, b6, -⟩ := app_one o5 (Nat.le_trans hD1 b5.size) (by have := HTL.out; simp only [List.length_append, List.length_cons, List.length_nil]; omega) (by simp) (⟨⟨ys, yp, yf, yn, yt⟩, yg, yc⟩ : Rw)
              have r5' := r5
              have r6' := r6
              rw [← HTT.out.2] at r5' r6' o6
              dsimp only at r5' r6'
              change Lrow W5 yb _ _ at ry5
              have y0 := ry5.cell 0
              have y1 := ry5.cell 1
              have y2 := ry5.cell 2
              have y3 := ry5.cell 3
              have y4 := ry5.cell 4
              have x0 := ry1.cell 0
              have x1 := ry1.cell 1
              have rq1 := (HK.out.1.box.call HB.out).call b1
              have q0 := rq1.cell 0
              have q1 := rq1.cell 1
              have q2 := rq1.cell 2
              have q3 := rq1.cell 3
              have q4 := rq1.cell 4
              have HO5 := Lib.hid o6
              have HB5 : Hid (Below W.heap.size W W6) := HB.out.trans ((b1.mono HB.out.size).trans (b5.trans b6))
              have HW1 := Lib.hid (And.intro hW1 hyb)
              clear o5 r5 b5 k5 o1 o6 r6 b6 ry1 ry5 rq1 hW1 hyb b1 hD1
              go_upto_region 15 with (fail)
              rw [← HW1.out.1, ← HW1.out.2]
              go_wp2_with (at_builtin; first | refine wpList_append_run rfl _ _ 46 rfl _ _ rfl rfl r5' ?_ | refine wpList_append_run rfl _ _ 46 rfl _ _ rfl rfl r6' ?_)
              go_roundw
              case rel => exact ⟨j + 1, by omega, by go_num, by rw [HF.out.2], by rw [HF.out.1]; exact HO5.out, HB5.out⟩
              case measure => simp [RowKit.intOf]; omega
      · obtain rfl : j = m := by omega
        have hend := outJ_end (q := qq) (x := x) (L := K) (j := j) (by have := HM.out; omega)
        rw [← hdn, ← hT] at hend
        have hfoot : Foot (fun k => k = xa) w wr := hk.foot.trans (Foot.of_below (X := fun _ => False) (hb.mono (Nat.le_refl _))) fun _ e _ => e.elim
        have HFIN : Hid (∀ wz K' Az nz cz, K' = insG qq x K → Below W.heap.size wr wz → EOn.Own W.heap.size wz (.slice Az nz cz) K' → wz.cell? ⟨xa, 0, none⟩ = some (.slice A j cc) ∧ wz.frozen? ⟨xa, 0, none⟩ = false ∧ DidR B w xa v K ⟨insR ⟨s, pp, ff, 0, S.T + 1⟩ S.L, S.T + 1⟩ (wz.setCell ⟨xa, 0, none⟩ (.slice Az nz cz))) := fun wz K' Az nz cz eK bz oz => by
          have hbz : Below W.heap.size W wz := hb.trans bz
          have hfz : Foot (fun k => k = xa) w wz := hk.foot.trans (Foot.of_below (X := fun _ => False) hbz) fun _ e _ => e.elim
          obtain ⟨b1, b2, hD⟩ := hx.anew (wr := wz) (T' := Tn) (v' := .slice Az nz cz) (K' := K') (S' := ⟨insR ⟨s, pp, ff, 0, S.T + 1⟩ S.L, S.T + 1⟩) hfz (hk.top.call hbz) (oz.base hk.foot.size) (fun y hy => by
            rw [eK, mem_insG] at hy
            rcases hy with rfl | hy
            · rw [HZ.out.2]
              exact ⟨⟨[], by rw [List.append_nil]; show Lrow wz g _ (bitsV 0); rw [bits0]; exact hk.row.call hbz⟩, Or.inr hk.gl⟩
            · obtain ⟨rest, r⟩ := hx.bl y hy
              exact ⟨⟨rest, (hfz.keep _ r.lt (r.apart hx.top (by decide))).trans r⟩, Or.inl hy⟩) (by
            rw [eK, HZ.out.1, insG_map, HZ.out.2, hx.is, HT.out]; rfl) (by rw [HT.out])
          rw [HX.out.2] at b2
          exact ⟨b2, b1, hD⟩
        have rq := hk.box.call hb
        have HEND := Lib.hid hend
        clear hend hx hk rt hT hmm hlen hown hb hdn hfoot
        by_cases hd : dn = true
        · obtain ⟨b1, b2, hD⟩ := HFIN.out wr T Ar_ mm cr (HEND.out.2 hd) (Below.refl _ _) (by rw [HTT.out.2]; exact HO.out)
          have HD := Lib.hid hD
          subst hd
          clear hD
          go_wp2_with fail
          go_ret
          exact ⟨rfl, HD.out⟩
        · have hd : dn = false := by simpa using hd
          have q0 := rq.cell 0
          have q1 := rq.cell 1
          have q2 := rq.cell 2
          have q3 := rq.cell 3
          have q4 := rq.cell 4
          obtain ⟨A5, c5, W5, r5, o5, b5, -⟩ := app_one HO.out HB.out.size (by have := HTL.out; omega) rfl (⟨⟨s, pp, ff, 0, Tn⟩, g, 8⟩ : Rw)
          have r5' := r5
          rw [← HTT.out.2] at r5' o5
          dsimp only at r5'
          obtain ⟨b1, b2, hD⟩ := HFIN.out W5 _ A5 (mm + 1) c5 (by rw [← HEND.out.1 hd, HZ.out.2]) b5 o5
          have HD := Lib.hid hD
          subst hd
          clear o5 r5 b5 hD rq
          go_wp2_with (at_builtin; refine wpList_append_run rfl _ _ 46 rfl _ _ rfl rfl r5' ?_)
          go_ret
          exact ⟨rfl, HD.out⟩
end
end Go.Proofs.Ytfalmjibpkkjaaa
