/- Of which piece is taken. -/
import Derived.Test.YtklhcgekagimkaaGreatMg20
namespace Go.Proofs.YtklhcgekagimkaaGreat
variable {Xc : Nat → Prop}
open Go.RowKit

/-- The kind that is asked i-th where its own has no piece. -/
def nxt (kd i : Nat) : Nat := [2, 1, 2, 0, 0, 1].getD (2 * kd + i) 0
theorem nxt_le (kd i : Nat) : nxt kd i ≤ 2 := by
  unfold nxt
  rcases Nat.lt_or_ge (2 * kd + i) 6 with h | h
  · have : 2 * kd + i = 0 ∨ 2 * kd + i = 1 ∨ 2 * kd + i = 2 ∨ 2 * kd + i = 3 ∨ 2 * kd + i = 4 ∨ 2 * kd + i = 5 := by omega
    rcases this with e | e | e | e | e | e <;> rw [e] <;> decide
  · rw [List.getD_eq_getElem?_getD, List.getElem?_eq_none (by simpa using h)]; simp
theorem nx_row0 (W : World) : (Instr.index 150 (.agg #[.int .i64 2, .int .i64 1, .int .i64 2, .int .i64 0, .int .i64 0, .int .i64 1]) (.int .i64 0)).run Tryz.prog W = .ok (.agg #[.int .i64 2, .int .i64 1]) W := by kernel_rfl
theorem nx_row1 (W : World) : (Instr.index 150 (.agg #[.int .i64 2, .int .i64 1, .int .i64 2, .int .i64 0, .int .i64 0, .int .i64 1]) (.int .i64 1)).run Tryz.prog W = .ok (.agg #[.int .i64 2, .int .i64 0]) W := by kernel_rfl
theorem nx_row2 (W : World) : (Instr.index 150 (.agg #[.int .i64 2, .int .i64 1, .int .i64 2, .int .i64 0, .int .i64 0, .int .i64 1]) (.int .i64 2)).run Tryz.prog W = .ok (.agg #[.int .i64 0, .int .i64 1]) W := by kernel_rfl
theorem nx_row (j : Nat) (hj : j < 3) (W : World) : (Instr.index 150 (.agg #[.int .i64 2, .int .i64 1, .int .i64 2, .int .i64 0, .int .i64 0, .int .i64 1]) (.int .i64 j)).run Tryz.prog W = .ok (.agg #[.int .i64 (nxt j 0 : Nat), .int .i64 (nxt j 1 : Nat)]) W := by
  have h : j = 0 ∨ j = 1 ∨ j = 2 := by omega
  rcases h with rfl | rfl | rfl
  · exact nx_row0 W
  · exact nx_row1 W
  · exact nx_row2 W
theorem nx_at (x y : Int) (W : World) : (Instr.index 149 (.agg #[.int .i64 x, .int .i64 y]) (.int .i64 0)).run Tryz.prog W = .ok (.int .i64 x) W ∧ (Instr.index 149 (.agg #[.int .i64 x, .int .i64 y]) (.int .i64 1)).run Tryz.prog W = .ok (.int .i64 y) W := ⟨by kernel_rfl, by kernel_rfl⟩
set_option maxRecDepth 100000 in
theorem next_any {kd i : Nat} (hk : kd ≤ 2) (hi : i ≤ 1) (w : World) : Calls Tryz.prog 92 #[.int .i64 kd, .int .i64 i] w fun e w' => e = .returned (.int .i64 (nxt kd i : Nat)) ∧ w' = w := by
  have h2 : i = 0 ∨ i = 1 := by omega
  have r0 := fun W => nx_row kd (by omega) W
  have q0 := fun x y W => (nx_at x y W).1
  have q1 := fun x y W => (nx_at x y W).2
  rcases h2 with rfl | rfl
  all_goals
    generalize ((nxt kd 0 : Nat) : Int) = z0 at r0 ⊢
    generalize ((nxt kd 1 : Nat) : Int) = z1 at r0 ⊢
    go_enter Tryz.func92, Tryz.ntmps92
    go_wp2
    go_ret
    exact ⟨rfl, rfl⟩
/-- The piece of which is taken, of pieces by kinds: the least of its own kind, else the greatest of the first other one that has one. -/
def chs (M : Nat → List (Nat × Nat)) (kd : Nat) : Option (Nat × Nat) :=
  match bstB false (M kd) with
  | some x => some x
  | none => match bstB true (M (nxt kd 0)) with
    | some x => some x
    | none => bstB true (M (nxt kd 1))
def chV : Option (Nat × Nat) → Value
  | some x => .agg #[.int .i64 x.1, .int .i64 x.2]
  | none => .agg #[.int .i64 0, .int .i64 0]
theorem bstB_nil {great : Bool} : bstB great [] = none := rfl
theorem bst_some {great : Bool} : ∀ {l : List (Nat × Nat)}, 0 < l.length → ∃ x, bstB great l = some x := by
  intro l h
  induction l using rev_ind with
  | h0 => simp at h
  | h1 l x _ =>
    rw [bstB_snoc]
    unfold bst1
    cases bstB great l with
    | none => exact ⟨x, rfl⟩
    | some y => simp only; split <;> exact ⟨_, rfl⟩
theorem chs_other {M : Nat → List (Nat × Nat)} {kd i : Nat} {x : Nat × Nat} (h0 : bstB false (M kd) = none) (hi : i < 2) (hn : ∀ j, j < i → bstB true (M (nxt kd j)) = none) (hx : bstB true (M (nxt kd i)) = some x) : chs M kd = some x := by
  unfold chs
  rw [h0]
  have h : i = 0 ∨ i = 1 := by omega
  rcases h with rfl | rfl
  · simp only [hx]
  · simp only [hn 0 (by omega), hx]
theorem chs_none {M : Nat → List (Nat × Nat)} {kd : Nat} (h0 : bstB false (M kd) = none) (hn : ∀ j, j < 2 → bstB true (M (nxt kd j)) = none) : chs M kd = none := by
  unfold chs
  rw [h0]
  simp only [hn 0 (by omega), hn 1 (by omega)]
section
variable {w : World} {k p o ob kb lb : Nat} {V : Nat → Value} {M : Nat → List (Nat × Nat)}
theorem row_of (h : PutX w k p o ob kb lb V M) {i : Nat} (hi : i ≤ 3) : ∃ A c, w.cell? ⟨p, i, none⟩ = some (.slice A (M i).length c) ∧ BlkRow w A (M i) := by
  obtain ⟨A, c, hv⟩ := own_form (h.own i hi)
  have ho := h.own i hi
  rw [hv] at ho
  obtain ⟨_, hr, _⟩ := own_row ho
  refine ⟨A, c, ?_, hr⟩
  rw [h.top.cell]
  rcases four hi with rfl | rfl | rfl | rfl <;> simp [hv]
set_option maxHeartbeats 1000000 in
set_option maxRecDepth 100000 in
theorem choose_any (h : PutX w k p o ob kb lb V M) (hM : ∀ i, i ≤ 3 → (M i).length ≤ 1024) {kd : Nat} (hk : kd ≤ 2) :
    Calls Tryz.prog 91 #[.pointer (some ⟨p, 0, none⟩), .int .i64 kd, .func (.func 92) #[.int .i64 kd] #[]] w fun e w' => e = .returned (.tuple #[chV (chs M kd), .bool (chs M kd).isSome]) ∧ Below w.heap.size w w' := by
  obtain ⟨W, hW⟩ : ∃ W, W = w.alloc (.cells #[.int .i64 0, .int .i64 0] 92) := ⟨_, rfl⟩
  obtain ⟨q, hq⟩ : ∃ q, q = w.heap.size := ⟨_, rfl⟩
  have hB : Below w.heap.size w W := by rw [hW]; exact (Below.refl _ _).alloc (Nat.le_refl _) _
  have hqr : Lrow W q 92 [.int .i64 0, .int .i64 0] := by rw [hW, hq]; exact Lrow.new w _ _
  have hp := h.top.lt
  have hpn : ¬ p = w.heap.size := by omega
  have k0 : (0 : Int) ≤ kd := by omega
  have k4 : (kd : Int) < 4 := by omega
  obtain ⟨A, c, hc, hrow⟩ := row_of h (i := kd) (by omega)
  have HP := Lib.hid (h.call hB)
  have HB := Lib.hid hB
  have HQR := Lib.hid hqr
  have HW := Lib.hid hW
  have HQ := Lib.hid hq
  have HM := Lib.hid hM
  have hWS : W.heap.size = q + 1 := by rw [hW, hq]; simp
  have HWS := Lib.hid hWS
  by_cases hm : 0 < (M kd).length
  · have hMF := MinFunc_any (c := c) (hrow.below hB) (by have := hM kd (by omega); omega) hm
    obtain ⟨m, em⟩ : ∃ m, m = (M kd).length := ⟨_, rfl⟩
    rw [← em] at hc hm hMF
    have HMF := Lib.hid hMF
    clear hMF em hW hq hB hqr h hM hrow hWS
    go_enter Tryz.func91, Tryz.ntmps91
    go_wp2_with fail
    rw [← HW.out, ← HQ.out]
    refine HMF.out.mono ?_
    rintro e w2 ⟨x, hx, rfl, hb2⟩
    have HC : Hid (chs M kd = some x) := by show _ = _; unfold chs; rw [hx]
    have hq2 := HQR.out.call hb2
    have HB2 := Lib.hid (HB.out.trans (hb2.mono HB.out.size))
    clear hb2 hx hc hpn hp
    have k3 : Lrow ((w2.setCell ⟨q, 0, none⟩ (.int .i64 x.1)).setCell ⟨q, 1, none⟩ (.int .i64 x.2)) q 92 [.int .i64 x.1, .int .i64 x.2] := (hq2.set_ 0 _).set_ 1 _
    have HB3 : Hid (Below w.heap.size w ((w2.setCell ⟨q, 0, none⟩ (.int .i64 x.1)).setCell ⟨q, 1, none⟩ (.int .i64 x.2))) := (HB2.out.setCell (p := ⟨q, 0, none⟩) (by show w.heap.size ≤ q; rw [HQ.out]; exact Nat.le_refl _) _).setCell (p := ⟨q, 1, none⟩) (by show w.heap.size ≤ q; rw [HQ.out]; exact Nat.le_refl _) _
    have K3 := Lib.hid k3
    have e0 := hq2.cell 0
    have e1 := hq2.cell 1
    have f0 := hq2.frozen 0
    have f1 := hq2.frozen 1
    clear hq2 k3
    go_wp2
    have k0 := K3.out.cell 0
    have k1 := K3.out.cell 1
    clear e0 e1 f0 f1
    generalize (w2.setCell ⟨q, 0, none⟩ (.int .i64 x.1)).setCell ⟨q, 1, none⟩ (.int .i64 x.2) = w9 at HB3 k0 k1 ⊢
    exact bodyPost_ret (v := .tuple #[.agg #[.int .i64 x.1, .int .i64 x.2], .bool true]) (by simp [results, Tryz.results91, go_sem, *]) rfl ⟨by rw [HC.out]; rfl, HB3.out⟩
  · have hm0 : (M kd).length = 0 := by omega
    have HN0 : Hid (bstB false (M kd) = none) := by
      show _ = _
      rw [List.length_eq_zero_iff.1 hm0]; rfl
    rw [hm0] at hc
    clear hm0 hW hq hB hqr h hM hrow hWS hm
    go_enter Tryz.func91, Tryz.ntmps91
    go_wp2_with fail
    rw [← HW.out, ← HQ.out]
    clear hc hpn hp
    go_loopw [23] (fun t wr => ∃ i qn : Nat, i ≤ 2 ∧ t = .int .i64 i ∧ wr = W.drewN qn ∧ ∀ j, j < i → bstB true (M (nxt kd j)) = none) (fun t _ => 2 - (intOf t).toNat)
    case atStart => exact ⟨0, 0, by omega, rfl, rfl, fun j hj => by omega⟩
    case round =>
      obtain ⟨i, qn, hi, rfl, rfl, hno⟩ := hrel
      have HNO := Lib.hid hno
      clear hno
      by_cases hlt : i < 2
      · have hNX := fun W => next_any hk (show i ≤ 1 by omega) W
        have hn2 := nxt_le kd i
        obtain ⟨A', c', hc', hrow'⟩ := row_of HP.out (i := nxt kd i) (by omega)
        obtain ⟨Wd, hWd⟩ : ∃ Wd, Wd = W.drewN qn := ⟨_, rfl⟩
        have hbd : Below W.heap.size W Wd := by rw [hWd]; exact below_dN (Below.refl _ _) qn
        have hcd : Wd.cell? ⟨p, nxt kd i, none⟩ = some (.slice A' (M (nxt kd i)).length c') := by rw [hWd]; exact hc'
        have hMi := HM.out (nxt kd i) (by omega)
        have HBD := Lib.hid hbd
        have HRW := Lib.hid (hrow'.below hbd)
        have HQD := Lib.hid (HQR.out.call hbd)
        rw [← hWd]
        have HWD := Lib.hid hWd
        clear hWd hbd hc' hrow'
        obtain ⟨nk, hnk⟩ : ∃ nk, nk = nxt kd i := ⟨_, rfl⟩
        rw [← hnk] at hNX hn2 hcd hMi HRW
        have HNK := Lib.hid hnk
        clear hnk
        have n0 : (0 : Int) ≤ nk := by omega
        have n4 : (nk : Int) < 4 := by omega
        by_cases hm : 0 < (M nk).length
        · have hMF := fun qd => MaxFunc_any (w := Wd.drewN qd) (c := c') (HRW.out.below (below_dN (Below.refl _ _) qd)) (by omega) hm
          obtain ⟨m, em⟩ : ∃ m, m = (M nk).length := ⟨_, rfl⟩
          rw [← em] at hcd hm hMF
          have HMF := Lib.hid hMF
          clear hMF em hMi
          go_wp2_with fail
          go_quiet ((go_at_call 92; exact Calls.quiet_of_same (hNX _)))
          go_wp2_with fail
          refine (HMF.out nq).mono ?_
          rintro e w2 ⟨x, hx, rfl, hb2⟩
          have HC : Hid (chs M kd = some x) := chs_other HN0.out hlt HNO.out (by rw [← HNK.out]; exact hx)
          have hq2 := (HQD.out.drewN nq).call hb2
          have HB2 : Hid (Below w.heap.size w w2) := HB.out.trans ((HBD.out.mono HB.out.size).trans ((below_dN (Below.refl _ _) nq).trans (hb2.mono (Nat.le_trans HB.out.size HBD.out.size))))
          clear hb2 hx hcd
          have k3 : Lrow ((w2.setCell ⟨q, 0, none⟩ (.int .i64 x.1)).setCell ⟨q, 1, none⟩ (.int .i64 x.2)) q 92 [.int .i64 x.1, .int .i64 x.2] := (hq2.set_ 0 _).set_ 1 _
          have HB3 : Hid (Below w.heap.size w ((w2.setCell ⟨q, 0, none⟩ (.int .i64 x.1)).setCell ⟨q, 1, none⟩ (.int .i64 x.2))) := (HB2.out.setCell (p := ⟨q, 0, none⟩) (by show w.heap.size ≤ q; rw [HQ.out]; exact Nat.le_refl _) _).setCell (p := ⟨q, 1, none⟩) (by show w.heap.size ≤ q; rw [HQ.out]; exact Nat.le_refl _) _
          have K3 := Lib.hid k3
          have e0 := hq2.cell 0
          have e1 := hq2.cell 1
          have f0 := hq2.frozen 0
          have f1 := hq2.frozen 1
          clear hq2 k3
          go_wp2
          have k0 := K3.out.cell 0
          have k1 := K3.out.cell 1
          clear e0 e1 f0 f1
          generalize (w2.setCell ⟨q, 0, none⟩ (.int .i64 x.1)).setCell ⟨q, 1, none⟩ (.int .i64 x.2) = w9 at HB3 k0 k1 ⊢
          exact bodyPost_ret (v := .tuple #[.agg #[.int .i64 x.1, .int .i64 x.2], .bool true]) (by simp [results, Tryz.results91, go_sem, *]) rfl ⟨by rw [HC.out]; rfl, HB3.out⟩
        · have hm0 : (M nk).length = 0 := by omega
          have HNI : Hid (bstB true (M (nxt kd i)) = none) := by
            show _ = _
            rw [← HNK.out, List.length_eq_zero_iff.1 hm0]; rfl
          rw [hm0] at hcd
          clear hm0 hm hMi
          go_wp2_with fail
          go_quiet ((go_at_call 92; exact Calls.quiet_of_same (hNX _)))
          clear hcd
          go_wp2
          go_roundw
          case rel => exact ⟨i + 1, qn + nq, by omega, by go_num, by rw [HWD.out, drewN_add], fun j hj => by
              rcases Nat.lt_or_ge j i with g | g
              · exact HNO.out j g
              · obtain rfl : j = i := by omega
                exact HNI.out⟩
          case measure => simp [intOf]; omega
      · obtain rfl : i = 2 := by omega
        have HC : Hid (chs M kd = none) := chs_none HN0.out HNO.out
        obtain ⟨Wd, hWd⟩ : ∃ Wd, Wd = W.drewN qn := ⟨_, rfl⟩
        have hq2 : Lrow Wd q 92 [.int .i64 0, .int .i64 0] := by rw [hWd]; exact HQR.out.drewN qn
        have HB2 : Hid (Below w.heap.size w Wd) := by
          show Below _ _ _
          rw [hWd]; exact below_dN HB.out qn
        rw [← hWd]
        clear hWd hlt
        have k3 : Lrow ((Wd.setCell ⟨q, 0, none⟩ (.int .i64 0)).setCell ⟨q, 1, none⟩ (.int .i64 0)) q 92 [.int .i64 0, .int .i64 0] := (hq2.set_ 0 _).set_ 1 _
        have HB3 : Hid (Below w.heap.size w ((Wd.setCell ⟨q, 0, none⟩ (.int .i64 0)).setCell ⟨q, 1, none⟩ (.int .i64 0))) := (HB2.out.setCell (p := ⟨q, 0, none⟩) (by show w.heap.size ≤ q; rw [HQ.out]; exact Nat.le_refl _) _).setCell (p := ⟨q, 1, none⟩) (by show w.heap.size ≤ q; rw [HQ.out]; exact Nat.le_refl _) _
        have K3 := Lib.hid k3
        have e0 := hq2.cell 0
        have e1 := hq2.cell 1
        have f0 := hq2.frozen 0
        have f1 := hq2.frozen 1
        clear hq2 k3
        go_wp2
        have k0 := K3.out.cell 0
        have k1 := K3.out.cell 1
        clear e0 e1 f0 f1
        generalize (Wd.setCell ⟨q, 0, none⟩ (.int .i64 0)).setCell ⟨q, 1, none⟩ (.int .i64 0) = w9 at HB3 k0 k1 ⊢
        exact bodyPost_ret (v := .tuple #[.agg #[.int .i64 0, .int .i64 0], .bool false]) (by simp [results, Tryz.results91, go_sem, *]) rfl ⟨by rw [HC.out]; rfl, HB3.out⟩
end
end Go.Proofs.YtklhcgekagimkaaGreat
