/- Areas: what an area has of a stretch (part). -/
import Derived.Test.YtnppnoabhpkmkaaGreatMg03
import Derived.Test.YtnppnoabhpkmkaaGreatMg02
import Derived.Deep.AppendLies
namespace Go.Proofs.YtnppnoabhpkmkaaGreat
open Go.RowKit
theorem max_run {P : Program} (a b : Int) (ats : Array TypeId) (ty : TypeId) (w : World) : (Builtin.max_ ats ty #[.int .i64 a, .int .i64 b]).run P w = .ok (.int .i64 (max a b)) w := by
  show Sem.run P (pure (Value.int .i64 (if b > a then b else a))) w = _
  rw [show (if b > a then b else a) = max a b by omega]; rfl
theorem min_run {P : Program} (a b : Int) (ats : Array TypeId) (ty : TypeId) (w : World) : (Builtin.min_ ats ty #[.int .i64 a, .int .i64 b]).run P w = .ok (.int .i64 (min a b)) w := by
  show Sem.run P (pure (Value.int .i64 (if b < a then b else a))) w = _
  rw [show (if b < a then b else a) = min a b by omega]; rfl
set_option maxRecDepth 100000 in
set_option maxHeartbeats 2000000 in
theorem part_is {x : Ar} (hx : ArS x) {u t : Int} (hu : 0 ≤ u) (hu4 : u ≤ 4096) (w : World) : Calls Tryz.prog 120 #[arV x, .int .i64 u, .int .i64 t] w fun e w' => e = .returned (arV (cutA u t x)) ∧ Below w.heap.size w w' := by
  obtain ⟨f, tt, h, p, o, z⟩ := x
  obtain ⟨b1, b2, b3, b4, b5⟩ := hx
  dsimp only at b1 b2 b3 b4 b5
  show Calls _ _ #[.agg #[.int .i64 f, .int .i64 tt, .int .i64 h, .int .i64 p, .int .i64 o, .int .i64 z], .int .i64 u, .int .i64 t] _ (fun e w' => e = .returned (.agg #[.int .i64 (max u f), .int .i64 (min t tt), .int .i64 h, .int .i64 p, .int .i64 o, .int .i64 (if shr h then z + (max u f - f) else z)]) ∧ _)
  have hmx := fun ats ty w => max_run (P := Tryz.prog) u f ats ty w
  have hmn := fun ats ty w => min_run (P := Tryz.prog) t tt ats ty w
  obtain ⟨U, hU⟩ : ∃ U, U = max u f := ⟨_, rfl⟩
  obtain ⟨T, hT⟩ : ∃ T, T = min t tt := ⟨_, rfl⟩
  rw [← hU, ← hT]
  rw [← hU] at hmx
  rw [← hT] at hmn
  have hof := fun w => ofObj_is h w
  have w1 : IntKind.i64.wrap (U - f) = U - f := IntWalk.i64_in _ (by omega)
  have w2 : IntKind.i64.wrap (z + (U - f)) = z + (U - f) := IntWalk.i64_in _ (by omega)
  clear hU hT b1 b2 b3 b4 b5 hu hu4
  by_cases hs : shr h
  · rw [if_pos hs]
    rw [decide_eq_true hs] at hof
    clear hs
    go_enter Tryz.func120, Tryz.ntmps120
    go_wp2_with fail
    go_region
    go_wp2_with (go_at_call 111; (with_reducible refine (hof _).mono ?_); rintro e w1 ⟨rfl, rfl⟩)
    refine bodyPost_ret (v := .agg #[.int .i64 U, .int .i64 T, .int .i64 h, .int .i64 p, .int .i64 o, .int .i64 (z + (U - f))]) (by simp [results, Tryz.results120, go_sem]) rfl ⟨rfl, ?_⟩
    repeat (first | exact Below.refl _ _ | refine Below.alloc ?_ (by simp) _ | refine Below.setCell ?_ (by simp) _ | refine Below.drew ?_)
  · rw [if_neg hs]
    rw [decide_eq_false hs] at hof
    clear hs
    go_enter Tryz.func120, Tryz.ntmps120
    go_wp2_with fail
    go_region
    go_wp2_with (go_at_call 111; (with_reducible refine (hof _).mono ?_); rintro e w1 ⟨rfl, rfl⟩)
    refine bodyPost_ret (v := .agg #[.int .i64 U, .int .i64 T, .int .i64 h, .int .i64 p, .int .i64 o, .int .i64 z]) (by simp [results, Tryz.results120, go_sem]) rfl ⟨rfl, ?_⟩
    repeat (first | exact Below.refl _ _ | refine Below.alloc ?_ (by simp) _ | refine Below.setCell ?_ (by simp) _ | refine Below.drew ?_)
end Go.Proofs.YtnppnoabhpkmkaaGreat
/- The reference's Pieces. -/
namespace Go.Proofs.YtnppnoabhpkmkaaGreat
open Go.RowKit
/-- Areas that a call told. -/
def ToldA (l : List Ar) (w : World) (e : Ending) (w' : World) : Prop := ∃ A c, e = .returned (.slice A l.length c) ∧ EAr.Own w.heap.size w' (.slice A l.length c) l ∧ Below w.heap.size w w'
theorem wpList_append_run {P : Program} {w : World} {ops : Array Oper} {rest : List Oper} {o : Oper} {a : Act} {Q : Exit → Act → World → Prop} (hgd : o.guard = none) (d s : Operand) (t : TypeId)
    (ho : o.op = .call { callee := .builtin .append, args := #[d, s], argTypes := #[t, t] }) (v u : Value) (hd : a.eval d = v) (hs : a.eval s = u) {v' : Value} {w' : World}
    (hr : (Builtin.append_ #[t, t] o.type #[v, u]).run P w = .ok v' w') (h : wpList P ops Q rest (a.put o.dst v') w') : wpList P ops Q (o :: rest) a w := by
  refine wpList_plain hgd fun K' hK' => ?_
  unfold Oper.wp execOp
  simp only [ho, resolve, invoke, builtin, Sem.run_bind, Sem.run_pure, Result.andThen_ok, List.map_toArray, List.map_cons, List.map_nil, hd, hs, hr]
  exact hK' _ _ h
theorem ar_app {W wr : World} {Ar_ : Option Addr} {m cr : Nat} {R : List Ar} (h : EAr.Own W.heap.size wr (.slice Ar_ m cr) R) (hb : Below W.heap.size W wr) (hl : R.length ≤ 90000) (x : Ar) : ∃ A5 c5 W5,
    (Builtin.append_ #[60, 60] 60 #[.slice Ar_ m cr, .slice (some ⟨wr.heap.size, 0, none⟩) 1 1]).run Tryz.prog (wr.alloc (.cells #[.int .i64 x.f, .int .i64 x.t, .int .i64 x.h, .int .i64 x.p, .int .i64 x.o, .int .i64 x.x] 93)) = .ok (.slice A5 (m + 1) c5) W5 ∧
    EAr.Own W.heap.size W5 (.slice A5 (m + 1) c5) (R ++ [x]) ∧ Below W.heap.size W W5 := by
  obtain ⟨A5, c5, W5, r5, o5, g5, -⟩ := h.app1 hb.size x hl #[.int .i64 x.f, .int .i64 x.t, .int .i64 x.h, .int .i64 x.p, .int .i64 x.o, .int .i64 x.x] rfl
  have hm : R.length = m := by
    obtain ⟨_, _, e⟩ := h.form
    injection e with _ e _
    exact e.symm
  rw [hm] at r5 o5
  refine ⟨A5, c5, W5, r5 _ rfl, o5, Below.grown hb g5 hb.size (fun k e => ?_)⟩
  obtain ⟨vs, r, hlo⟩ := h.block e
  exact hlo
theorem setTo_get (L : List Ar) (t : Int) (h : 0 < L.length) : setTo L t = L.set (L.length - 1) { L[L.length - 1] with t := t } := by
  obtain ⟨M, a, rfl⟩ : ∃ M a, L = M ++ [a] := ⟨L.dropLast, L.getLast (by intro e; subst e; simp at h), (List.dropLast_concat_getLast _).symm⟩
  rw [setTo_snoc]
  have e1 : (M ++ [a]).length - 1 = M.length := by simp
  rw [List.set_append_right _ _ (by omega)]
  simp
theorem setTo_at {L : List Ar} {k : Nat} (t : Int) (h : L.length = k + 1) : setTo L t = L.set k { L[k] with t := t } := by
  have e : L.length - 1 = k := by omega
  subst e
  exact setTo_get L t (by omega)
section
variable {w w' : World} {B xa : Nat} {v : Value} {P : Int → Pg}
theorem pcs_snoc (P : Int → Pg) (at_ : Int) (k : Nat) : pcs P at_ (k + 1) = if (P (at_ + k)).h = 0 then pcs P at_ k
    else if 0 < k ∧ (P (at_ + k - 1)).h ≠ 0 ∧ nxt (P (at_ + k - 1)) (P (at_ + k)) = true then setTo (pcs P at_ k) (at_ + k + 1)
    else pcs P at_ k ++ [newA (P (at_ + k)) (at_ + k)] := rfl
set_option maxRecDepth 100000 in
set_option maxHeartbeats 8000000 in
theorem pieces_is (h : Px B w xa v P) {a n : Nat} (han : a + n ≤ 4096) : Calls Tryz.prog 77 #[.pointer (some ⟨xa, 0, none⟩), .int .i64 a, .int .i64 n] w (ToldA (pcs P a n) w) := by
  obtain ⟨g, c, rfl, hBg, hgl, hat⟩ := h.form
  have hc0 := h.c0
  have hxl := h.top.lt
  have HOK := Lib.hid h.ok
  have HPC := Lib.hid (fun k => pcs_is h.ok.ok (a : Int) k)
  have HF : Hid (∀ w', Below w.heap.size w w' → w'.cell? ⟨xa, 0, none⟩ = some (.slice (some ⟨g, 0, none⟩) 4096 c) ∧ ∀ i : Nat, i < 4096 → w'.cell? ⟨g, i * 4, none⟩ = some (.int .i64 (P i).h) ∧ w'.cell? ⟨g, i * 4 + 1, none⟩ = some (.int .i64 (P i).p) ∧ w'.cell? ⟨g, i * 4 + 2, none⟩ = some (.int .i64 (P i).o) ∧ w'.cell? ⟨g, i * 4 + 3, none⟩ = some (.int .i64 (P i).x)) := fun w' hb' =>
    ⟨(hb'.cell (p := ⟨xa, 0, none⟩) hxl).trans hc0, fun i hi => pg_at ((hat i hi).heap (hb'.block g hgl))⟩
  clear h hat hc0
  have ha4 : (a : Int) ≤ 4096 := by omega
  have hn4 : (n : Int) ≤ 4096 := by omega
  have han4 : (a : Int) + n ≤ 4096 := by omega
  go_enter Tryz.func77, Tryz.ntmps77
  go_wp2
  go_loopw [7, 8] (fun r i wr => ∃ (j : Nat), j ≤ n ∧ i = .int .i64 ((a + j : Nat) : Int) ∧ EAr.Own w.heap.size wr r (pcs P a j) ∧ Below w.heap.size w wr) (fun _ i _ => a + n - (RowKit.intOf i).toNat)
  case atStart => exact ⟨0, Nat.zero_le _, rfl, Enc.Own.nil (E := EAr) _ w, Below.refl _ _⟩
  case round =>
    obtain ⟨j, hj, rfl, hcs, hb⟩ := hrel
    obtain ⟨Ar_, cr, rfl⟩ := hcs.form
    by_cases hlt : j < n
    · obtain ⟨q, hq⟩ : ∃ q : Nat, q = a + j := ⟨_, rfl⟩
      rw [← hq]
      have hq4 : q < 4096 := by omega
      obtain ⟨k0, kk⟩ := HF.out wr hb
      obtain ⟨k1, k2, k3, k4⟩ := kk q hq4
      obtain ⟨p, hp⟩ : ∃ p, p = P q := ⟨_, rfl⟩
      rw [← hp] at k1 k2 k3 k4
      have hsn := pcs_snoc P a j
      rw [show (a : Int) + (j : Int) = (q : Int) by omega, ← hp] at hsn
      obtain ⟨ph, pp, po, px⟩ := p
      dsimp only at k1 k2 k3 k4
      obtain ⟨R, hR⟩ : ∃ R, R = pcs P a j := ⟨_, rfl⟩
      have hpc := HPC.out j
      rw [← hR] at hcs hsn hpc ⊢
      obtain ⟨m, hm⟩ : ∃ m, m = R.length := ⟨_, rfl⟩
      have hm4 : m ≤ 4096 := by have := hpc.len; omega
      have hm4' : (m : Int) ≤ 4096 := by omega
      have hcm : EAr.Own w.heap.size wr (.slice Ar_ m cr) R := by rw [hm]; exact hcs
      rw [← hm]
      obtain ⟨b, hbb⟩ : ∃ b, b = wr.heap.size := ⟨_, rfl⟩
      obtain ⟨W1, hW1⟩ : ∃ W1, W1 = wr.alloc (.cells #[.int .i64 ph, .int .i64 pp, .int .i64 po, .int .i64 px] 45) := ⟨_, rfl⟩
      have hrow : Lrow W1 b 45 [.int .i64 ph, .int .i64 pp, .int .i64 po, .int .i64 px] := by rw [hW1, hbb]; exact Lrow.new wr _ _
      have hb1 : Below wr.heap.size wr W1 := by rw [hW1]; exact below_new _ _
      have HB1 : Hid (Below w.heap.size w W1) := hb.trans (hb1.mono hb.size)
      have HC1 : Hid (EAr.Own w.heap.size W1 (.slice Ar_ m cr) R) := hcm.call hb1
      have HRW := Lib.hid hrow
      have HW := Lib.hid (And.intro hW1 hbb)
      have HSN := Lib.hid hsn
      have HPJ := Lib.hid hpc
      have HQ := Lib.hid hq
      have HP := Lib.hid hp
      have HM := Lib.hid hm
      have HR := Lib.hid hR
      have hqa : (q : Int) < (a : Int) + n := by omega
      have hq0 : (0 : Int) ≤ q := by omega
      have hq4' : (q : Int) < 4096 := by omega
      have hRl : R.length ≤ 90000 := by omega
      clear hsn hpc hcs hcm hb hW1 hbb hrow hb1 hq hp hm hR kk hj
      by_cases hp0 : ph = 0
      · subst hp0
        have HF2 : Hid (pcs P a (j + 1) = R) := by
          have := HSN.out
          rw [if_pos rfl] at this
          exact this
        go_upto_region 6 with (fail)
        rw [← HW.out.1, ← HW.out.2]
        have z0 := HRW.out.cell 0
        go_wp2_with fail
        go_roundw
        case rel => exact ⟨j + 1, by omega, congrArg (Value.int .i64) (by have := HQ.out; omega), by rw [HF2.out, HM.out]; rw [← HM.out]; exact HC1.out, HB1.out⟩
        case measure => simp [RowKit.intOf]; omega
      · have hp0' : (ph == 0) = false := by simpa using hp0
        go_upto_region 6 with (fail)
        rw [← HW.out.1, ← HW.out.2]
        have z0 := HRW.out.cell 0
        obtain ⟨x0, xx⟩ := HF.out W1 HB1.out
        clear k0 k1 k2 k3 k4
        by_cases hj0 : j = 0
        · have hd0 : ¬ (a : Int) < q := by have := HQ.out; omega
          have hd1 : decide ((a : Int) < q) = false := by simp only [decide_eq_false_iff_not]; omega
          have hd2 : ¬ a < q := by omega
          have hd3 : decide (a < q) = false := by simp only [decide_eq_false_iff_not]; omega
          clear xx
          go_wp2_with fail
          go_quiet (fail)
          obtain ⟨wz, hwz⟩ : ∃ wz, wz = W1.drewN nq := ⟨_, rfl⟩
          rw [← hwz]
          have hrz : Lrow wz b 45 [.int .i64 ph, .int .i64 pp, .int .i64 po, .int .i64 px] := by rw [hwz]; exact HRW.out.drewN _
          have z0 := hrz.cell 0
          have z1 := hrz.cell 1
          have z2 := hrz.cell 2
          have z3 := hrz.cell 3
          have hbz : Below w.heap.size w wz := by rw [hwz]; exact below_dN HB1.out _
          have hcz : EAr.Own w.heap.size wz (.slice Ar_ m cr) R := by rw [hwz]; exact HC1.out.drewN _
          clear hrz hwz
          have HF2 : Hid (pcs P a (j + 1) = R ++ [newA ⟨ph, pp, po, px⟩ q]) := by
            have := HSN.out
            rw [if_neg (show ¬ (⟨ph, pp, po, px⟩ : Pg).h = 0 from hp0), if_neg (fun h => absurd h.1 (by omega))] at this
            exact this
          have HBZ : Hid (Below w.heap.size w wz) := hbz
          have HCZ : Hid (EAr.Own w.heap.size wz (.slice Ar_ m cr) R) := hcz
          obtain ⟨A5, c5, W5, r5, o5, hb5⟩ := ar_app HCZ.out HBZ.out hRl (newA ⟨ph, pp, po, px⟩ q)
          change (Builtin.append_ _ _ _).run Tryz.prog (wz.alloc (.cells #[.int .i64 q, .int .i64 ((q : Int) + 1), .int .i64 ph, .int .i64 pp, .int .i64 po, .int .i64 px] 93)) = _ at r5
          have HO5 := Lib.hid o5
          have HB5 := Lib.hid hb5
          clear o5 hb5
          go_wp2_with (at_builtin; refine wpList_append_run rfl _ _ 60 rfl _ _ rfl rfl r5 ?_)
          go_roundw
          case rel => exact ⟨j + 1, by omega, congrArg (Value.int .i64) (by have := HQ.out; omega), by rw [HF2.out]; exact HO5.out, HB5.out⟩
          case measure => simp [RowKit.intOf]; omega
        · obtain ⟨q1, hq1⟩ : ∃ q1 : Nat, q = q1 + 1 := ⟨q - 1, by have := HQ.out; omega⟩
          obtain ⟨y1, y2, y3, y4⟩ := xx q1 (by omega)
          have hsm := HOK.out.sm q1
          have HPQ : Hid ((a : Int) + j - 1 = (q1 : Int)) := by have := HQ.out; show _ = _; omega
          obtain ⟨pv, hpv⟩ : ∃ pv, pv = P q1 := ⟨_, rfl⟩
          rw [← hpv] at y1 y2 y3 y4 hsm
          have HPV := Lib.hid hpv
          have HSN2 := HSN.out
          rw [show ((q : Int) - 1) = (q1 : Int) by omega, ← hpv] at HSN2
          have HSN := Lib.hid HSN2
          obtain ⟨vh, vp, vo, vx⟩ := pv
          dsimp only at y1 y2 y3 y4 hsm
          have hd0 : (a : Int) < q := by have := HQ.out; omega
          have hd2 : a < q := by omega
          have hw1 : IntKind.i64.wrap ((q : Int) - 1) = (q1 : Int) := by rw [IntKind.wrap_i64]; omega
          have h10 : (0 : Int) ≤ q1 := by omega
          have h14 : (q1 : Int) < 4096 := by omega
          have HPI := Lib.hid hq1
          have hj1 : 0 < j := by omega
          clear xx hpv hq1 HSN2 hj0
          by_cases hv0 : vh = 0
          · subst hv0
            go_wp2_with fail
            go_quiet (fail)
            obtain ⟨wz, hwz⟩ : ∃ wz, wz = W1.drewN nq := ⟨_, rfl⟩
            rw [← hwz]
            have hrz : Lrow wz b 45 [.int .i64 ph, .int .i64 pp, .int .i64 po, .int .i64 px] := by rw [hwz]; exact HRW.out.drewN _
            have z0 := hrz.cell 0
            have z1 := hrz.cell 1
            have z2 := hrz.cell 2
            have z3 := hrz.cell 3
            have hbz : Below w.heap.size w wz := by rw [hwz]; exact below_dN HB1.out _
            have hcz : EAr.Own w.heap.size wz (.slice Ar_ m cr) R := by rw [hwz]; exact HC1.out.drewN _
            clear hrz hwz
            have HF2 : Hid (pcs P a (j + 1) = R ++ [newA ⟨ph, pp, po, px⟩ q]) := by
              have := HSN.out
              rw [if_neg (show ¬ (⟨ph, pp, po, px⟩ : Pg).h = 0 from hp0), if_neg (fun h => absurd rfl h.2.1)] at this
              exact this
            have HBZ : Hid (Below w.heap.size w wz) := hbz
            have HCZ : Hid (EAr.Own w.heap.size wz (.slice Ar_ m cr) R) := hcz
            obtain ⟨A5, c5, W5, r5, o5, hb5⟩ := ar_app HCZ.out HBZ.out hRl (newA ⟨ph, pp, po, px⟩ q)
            change (Builtin.append_ _ _ _).run Tryz.prog (wz.alloc (.cells #[.int .i64 q, .int .i64 ((q : Int) + 1), .int .i64 ph, .int .i64 pp, .int .i64 po, .int .i64 px] 93)) = _ at r5
            have HO5 := Lib.hid o5
            have HB5 := Lib.hid hb5
            clear o5 hb5
            go_wp2_with (at_builtin; refine wpList_append_run rfl _ _ 60 rfl _ _ rfl rfl r5 ?_)
            go_roundw
            case rel => exact ⟨j + 1, by omega, congrArg (Value.int .i64) (by have := HQ.out; omega), by rw [HF2.out]; exact HO5.out, HB5.out⟩
            case measure => simp [RowKit.intOf]; omega
          · have hv0' : (vh == 0) = false := by simpa using hv0
            have hv0'' : (vh != 0) = true := by simpa using hv0
            obtain ⟨t, ht⟩ : ∃ t, t = nxt ⟨vh, vp, vo, vx⟩ ⟨ph, pp, po, px⟩ := ⟨_, rfl⟩
            have hnx := fun w => next_is (a := ⟨vh, vp, vo, vx⟩) (b := ⟨ph, pp, po, px⟩) (by dsimp only; omega) (by dsimp only; omega) w
            rw [← ht] at hnx
            have HT := Lib.hid ht
            have hs : W1.drew.cell? ⟨xa, 0, none⟩ = some (.slice (some ⟨g, 0, none⟩) 4096 c) ∧ (W1.drew.cell? ⟨g, q1 * 4, none⟩ = some (.int .i64 vh) ∧ W1.drew.cell? ⟨g, q1 * 4 + 1, none⟩ = some (.int .i64 vp) ∧ W1.drew.cell? ⟨g, q1 * 4 + 2, none⟩ = some (.int .i64 vo) ∧ W1.drew.cell? ⟨g, q1 * 4 + 3, none⟩ = some (.int .i64 vx)) ∧ (W1.drew.cell? ⟨b, 0, none⟩ = some (.int .i64 ph) ∧ W1.drew.cell? ⟨b, 1, none⟩ = some (.int .i64 pp) ∧ W1.drew.cell? ⟨b, 2, none⟩ = some (.int .i64 po) ∧ W1.drew.cell? ⟨b, 3, none⟩ = some (.int .i64 px)) := ⟨x0, ⟨y1, y2, y3, y4⟩, ⟨HRW.out.cell 0, HRW.out.cell 1, HRW.out.cell 2, HRW.out.cell 3⟩⟩
            have HKP : Hid (∀ w6, Below W1.heap.size W1.drew w6 → w6.cell? ⟨xa, 0, none⟩ = some (.slice (some ⟨g, 0, none⟩) 4096 c) ∧ (w6.cell? ⟨g, q1 * 4, none⟩ = some (.int .i64 vh) ∧ w6.cell? ⟨g, q1 * 4 + 1, none⟩ = some (.int .i64 vp) ∧ w6.cell? ⟨g, q1 * 4 + 2, none⟩ = some (.int .i64 vo) ∧ w6.cell? ⟨g, q1 * 4 + 3, none⟩ = some (.int .i64 vx)) ∧ (w6.cell? ⟨b, 0, none⟩ = some (.int .i64 ph) ∧ w6.cell? ⟨b, 1, none⟩ = some (.int .i64 pp) ∧ w6.cell? ⟨b, 2, none⟩ = some (.int .i64 po) ∧ w6.cell? ⟨b, 3, none⟩ = some (.int .i64 px))) := fun w6 h6 => by
              have h7 : Below W1.heap.size W1 w6 := Below.trans (below_dN (Below.refl _ _) 1) h6
              obtain ⟨u0, uu⟩ := HF.out w6 (HB1.out.trans (h7.mono HB1.out.size))
              have u := uu q1 (by omega)
              rw [← HPV.out] at u
              have hr := HRW.out.call h7
              exact ⟨u0, u, ⟨hr.cell 0, hr.cell 1, hr.cell 2, hr.cell 3⟩⟩
            clear ht x0 y1 y2 y3 y4 hsm
            cases t
            · go_wp2_with fail
              go_region_held3 (fun v => v.cell? ⟨xa, 0, none⟩ = some (.slice (some ⟨g, 0, none⟩) 4096 c) ∧ (v.cell? ⟨g, q1 * 4, none⟩ = some (.int .i64 vh) ∧ v.cell? ⟨g, q1 * 4 + 1, none⟩ = some (.int .i64 vp) ∧ v.cell? ⟨g, q1 * 4 + 2, none⟩ = some (.int .i64 vo) ∧ v.cell? ⟨g, q1 * 4 + 3, none⟩ = some (.int .i64 vx)) ∧ (v.cell? ⟨b, 0, none⟩ = some (.int .i64 ph) ∧ v.cell? ⟨b, 1, none⟩ = some (.int .i64 pp) ∧ v.cell? ⟨b, 2, none⟩ = some (.int .i64 po) ∧ v.cell? ⟨b, 3, none⟩ = some (.int .i64 px)))
                (first | exact hs | exact hs6)
                (first | (go_at_call 107; refine (hnx _).mono ?_; rintro e w6 ⟨rfl, hb6⟩; have hs6 := HKP.out w6 hb6))
              have hb7 : Below W1.heap.size W1 w6 := Below.trans (below_dN (Below.refl _ _) 1) hb6
              obtain ⟨u0, ⟨u1, u2, u3, u4⟩, ⟨z0, z1, z2, z3⟩⟩ := hs6
              clear u0 u1 u2 u3 u4
              have HF2 : Hid (pcs P a (j + 1) = R ++ [newA ⟨ph, pp, po, px⟩ q]) := by
                have := HSN.out
                rw [if_neg (show ¬ (⟨ph, pp, po, px⟩ : Pg).h = 0 from hp0), if_neg (fun h => by have := h.2.2; rw [← HT.out] at this; cases this)] at this
                exact this
              have HBZ : Hid (Below w.heap.size w w6) := HB1.out.trans (hb7.mono HB1.out.size)
              have HCZ : Hid (EAr.Own w.heap.size w6 (.slice Ar_ m cr) R) := HC1.out.call hb7
              obtain ⟨A5, c5, W5, r5, o5, hb5⟩ := ar_app HCZ.out HBZ.out hRl (newA ⟨ph, pp, po, px⟩ q)
              change (Builtin.append_ _ _ _).run Tryz.prog (w6.alloc (.cells #[.int .i64 q, .int .i64 ((q : Int) + 1), .int .i64 ph, .int .i64 pp, .int .i64 po, .int .i64 px] 93)) = _ at r5
              have HO5 := Lib.hid o5
              have HB5 := Lib.hid hb5
              clear o5 hb5
              go_wp2_with (at_builtin; refine wpList_append_run rfl _ _ 60 rfl _ _ rfl rfl r5 ?_)
              go_roundw
              case rel => exact ⟨j + 1, by omega, congrArg (Value.int .i64) (by have := HQ.out; omega), by rw [HF2.out]; exact HO5.out, HB5.out⟩
              case measure => simp [RowKit.intOf]; omega
            · have hlas := HPJ.out.las hj1 (by rw [HPQ.out, ← HPV.out]; exact hv0)
              have hm1 : ∃ m1, m = m1 + 1 := by
                obtain ⟨M, x, e, _⟩ := hlas
                refine ⟨M.length, ?_⟩
                rw [HM.out, e, List.length_append]; rfl
              obtain ⟨m1, rfl⟩ := hm1
              obtain ⟨g2, rfl, hg2, hg2l, -, -⟩ := HC1.out.some_ (by have := HM.out; omega)
              have hm1l : m1 < R.length := by have := HM.out; omega
              have m10 : (0 : Int) ≤ m1 := by omega
              have hk1 : IntKind.i64.wrap (((m1 + 1 : Nat) : Int) - 1) = (m1 : Int) := by rw [IntKind.wrap_i64]; omega
              clear hlas
              go_wp2_with fail
              go_region_held3 (fun v => v.cell? ⟨xa, 0, none⟩ = some (.slice (some ⟨g, 0, none⟩) 4096 c) ∧ (v.cell? ⟨g, q1 * 4, none⟩ = some (.int .i64 vh) ∧ v.cell? ⟨g, q1 * 4 + 1, none⟩ = some (.int .i64 vp) ∧ v.cell? ⟨g, q1 * 4 + 2, none⟩ = some (.int .i64 vo) ∧ v.cell? ⟨g, q1 * 4 + 3, none⟩ = some (.int .i64 vx)) ∧ (v.cell? ⟨b, 0, none⟩ = some (.int .i64 ph) ∧ v.cell? ⟨b, 1, none⟩ = some (.int .i64 pp) ∧ v.cell? ⟨b, 2, none⟩ = some (.int .i64 po) ∧ v.cell? ⟨b, 3, none⟩ = some (.int .i64 px)))
                (first | exact hs | exact hs6)
                (first | (go_at_call 107; refine (hnx _).mono ?_; rintro e w6 ⟨rfl, hb6⟩; have hs6 := HKP.out w6 hb6))
              have hb7 : Below W1.heap.size W1 w6 := Below.trans (below_dN (Below.refl _ _) 1) hb6
              obtain ⟨u0, ⟨u1, u2, u3, u4⟩, ⟨z0, z1, z2, z3⟩⟩ := hs6
              clear u0 u1 u2 u3 u4
              have hown := HC1.out.call hb7
              obtain ⟨g3, e3, -, -, -, hat3⟩ := hown.some_ (by omega)
              have e3' : g3 = g2 := by injection e3 with e3; injection e3 with e3; exact e3.symm
              have hc3 := hat3 m1 hm1l 1 (by decide)
              rw [e3'] at hc3
              change w6.cell? ⟨g2, m1 * 6 + 1, none⟩ = some (.int .i64 R[m1].t) at hc3
              obtain ⟨hfz, hput⟩ := hown.put hm1l (q := 1) (by decide) (u := .int .i64 ((q : Int) + 1)) (x := { R[m1] with t := (q : Int) + 1 }) rfl rfl
              change EAr.Own _ (w6.setCell ⟨g2, m1 * 6 + 1, none⟩ _) _ _ at hput
              have hfz1 := hfz (m1 * 6 + 1)
              obtain ⟨rt, hrt⟩ : ∃ rt, rt = R[m1].t := ⟨_, rfl⟩
              rw [← hrt] at hc3
              have HF2 : Hid (pcs P a (j + 1) = R.set m1 { R[m1] with t := (q : Int) + 1 }) := by
                have := HSN.out
                rw [if_neg (show ¬ (⟨ph, pp, po, px⟩ : Pg).h = 0 from hp0), if_pos ⟨hj1, hv0, HT.out.symm⟩, setTo_at _ HM.out.symm] at this
                exact this
              have HO5 := Lib.hid hput
              have HB5 : Hid (Below w.heap.size w (w6.setCell ⟨g2, m1 * 6 + 1, none⟩ (.int .i64 ((q : Int) + 1)))) := (HB1.out.trans (hb7.mono HB1.out.size)).setCell hg2 _
              clear hown e3 e3' hat3 hput hfz hrt hb6 hb7
              go_wp2_with fail
              go_roundw
              case rel => exact ⟨j + 1, by omega, congrArg (Value.int .i64) (by have := HQ.out; omega), by rw [HF2.out]; exact HO5.out, HB5.out⟩
              case measure => simp [RowKit.intOf]; omega
    · obtain rfl : j = n := by omega
      have hlt' : ¬ ((a + j : Nat) : Int) < (a : Int) + j := by omega
      have HO := Lib.hid hcs
      have HB := Lib.hid hb
      clear hcs hb
      go_wp2
      go_ret
      exact ⟨Ar_, cr, rfl, HO.out, HB.out⟩
end
end Go.Proofs.YtnppnoabhpkmkaaGreat
