/- The reference of objects: Drop. -/
import Derived.Test.YtnpacdbkmpchnaaO4
namespace Go.Proofs.Ytnpacdbkmpchnaa
open Go.RowKit
section
variable {w w' : World} {B xa : Nat} {vh vl : Value} {H : List Int} {L : List Og}
/-- What a call with numbers and an error comes to. -/
def DidT (B : Nat) (w : World) (xa : Nat) (vh vl : Value) (H : List Int) (L : List Og) (R : List Int) (r : Int) (e : Ending) (w' : World) : Prop :=
  ∃ A c, e = .returned (.tuple #[.slice A R.length c, .int .i64 r]) ∧ EI.Own w.heap.size w' (.slice A R.length c) R ∧ DidR B w xa vh vl H L w'
theorem outL_zero (i : Int) (L : List Og) : outL (L.take 0) i = [] := rfl
set_option maxRecDepth 100000 in
set_option maxHeartbeats 4000000 in
theorem drop_x (h : Rx B w xa vh vl H L) (i : Int) (hb : ∀ j, 0 ≤ H.getD j 0 ∧ H.getD j 0 ≤ 100000) : Calls Try.prog 34 #[.pointer (some ⟨xa, 0, none⟩), .int .i64 i] w (DidT B w xa vh vl (drH H i) (drL H L i) (drT H L i) (hoE H i)) := by
  have his := is_x h i
  by_cases hi : isB H i = true
  · rw [hi] at his
    have hi' := hi
    unfold isB at hi'
    simp only [Bool.and_eq_true, decide_eq_true_eq] at hi'
    obtain ⟨⟨h1, h2⟩, _⟩ := hi'
    obtain ⟨j, rfl⟩ : ∃ j : Nat, i = j := ⟨i.toNat, by omega⟩
    rw [show hoE H j = 0 from if_pos hi, show drH H j = H.set j (H.getD j 0 - 1) from (if_pos hi).trans (by rw [Int.toNat_natCast])]
    have hlb : lstB H j = decide (H.getD j 0 - 1 ≤ 0) := by unfold lstB; rw [hi, Int.toNat_natCast]; rfl
    have hj : j < H.length := by omega
    obtain ⟨A, c, hv⟩ := h.hel.form
    have hd := h.drewN 1
    obtain ⟨-, g, rfl, -, d0⟩ := hd.held hv hj
    obtain ⟨f0, -, hR⟩ := hd.put1 hv hj (H.getD j 0 - 1)
    have hgx : Foot (MineX xa vh vl) w ((w.drewN 1).setCell ⟨g, j, none⟩ (.int .i64 (H.getD j 0 - 1))) := (Foot.of_below (X := MineX xa vh vl) (below_dN (Below.refl w.heap.size w) 1)).trans (Foot.grown (X := MineX xa vh vl) (grown_set _ g j _) (Or.inr (Or.inl (by rw [hv]; rfl)))) (fun _ e _ => e)
    obtain ⟨-, g', hg', -, d1⟩ := hR.held hv (j := j) (by rw [List.length_set]; exact hj)
    injection hg' with hg'
    injection hg' with hg'
    subst hg'
    rw [show (H.set j (H.getD j 0 - 1)).getD j 0 = H.getD j 0 - 1 by rw [List.getD_eq_getElem?_getD, List.getElem?_set_self hj]; rfl] at d1
    have c0 := hd.c0
    have c0' := h.c0
    have c4 := hR.c0
    rw [hv] at c0 c0' c4
    have hbj := hb j
    have hlj : (j : Int) < (H.length : Int) := by omega
    obtain ⟨x, hx⟩ : ∃ x, x = H.getD j 0 := ⟨_, rfl⟩
    rw [← hx] at d0 d1 hbj hR hlb hgx c4 ⊢
    change w.drew.cell? _ = _ at d0 c0
    change w.drew.frozen? _ = _ at f0
    change (w.drew.setCell _ _).cell? _ = _ at d1 c4
    change Rx B (w.drew.setCell _ _) _ _ _ _ _ at hR
    change Foot _ w (w.drew.setCell _ _) at hgx
    have s1 : IntKind.i64.wrap (x - 1) = x - 1 := IntWalk.i64_in _ (by omega)
    have j0 : (0 : Int) ≤ j := by omega
    have HR := Lib.hid hR
    have HF := Lib.hid hgx
    have hwl : w.heap.size ≤ w.drew.heap.size := Nat.le_refl _
    generalize H.length = n at c0 c0' c4 hlj
    obtain ⟨H', hH'⟩ : ∃ H', H' = H.set j (x - 1) := ⟨_, rfl⟩
    rw [← hH'] at HR ⊢
    by_cases hp : x - 1 ≤ 0
    · have HT : Hid (drL H L j = outL L j ∧ drT H L j = frs L j) := by
        refine ⟨?_, ?_⟩
        · unfold drL; rw [hlb, decide_eq_true hp, if_pos rfl]
        · unfold drT; rw [hlb, decide_eq_true hp, if_pos rfl]
      rw [HT.out.1, HT.out.2]
      have hp' : ¬ 0 < x - 1 := by omega
      obtain ⟨Al, cl, hvl⟩ := h.ons.form
      have HVL := Lib.hid hvl
      have hll := h.ll
      obtain ⟨nl, hnl⟩ : ∃ nl, nl = L.length := ⟨_, rfl⟩
      have HNL := Lib.hid hnl
      have n9 : (nl : Int) ≤ 1000 := by omega
      clear h hi h1 h2 hj hd hv hb hbj hR hlb hgx hx hH' hvl hnl hll
      go_enter Try.func34, Try.ntmps34
      go_wp2_with (go_at_call 38; (with_reducible refine his.mono ?_); rintro e w1 ⟨rfl, rfl⟩)
      go_still_tail 14, (by kernel_rfl)
      clear c0' his
      change wpList _ _ _ _ _ w.drew
      generalize w.drew = w3 at c0 c4 d0 d1 f0 HR HF hwl ⊢
      obtain ⟨w4, hw4⟩ : ∃ w4, w4 = w3.setCell ⟨g, j, none⟩ (.int .i64 (x - 1)) := ⟨_, rfl⟩
      rw [← hw4] at HR HF
      have HW4 := Lib.hid hw4
      have hfr := frames_x HR.out (j : Int)
      rw [hw4] at hfr
      clear hw4
      go_wp2_with fail
      refine hfr.mono ?_
      rw [← HW4.out]
      rintro e w5 ⟨A5, c5, rfl, ho5, hb5⟩
      have HR5 := Lib.hid (HR.out.call hb5)
      have HO5 := Lib.hid ho5
      have HB5 := Lib.hid hb5
      have hxl := HR5.out.top.lt
      have k1 := HR5.out.c1
      rw [HVL.out, ← HNL.out] at k1
      obtain ⟨ll, hlen⟩ : ∃ ll, ll = (frs L j).length := ⟨_, rfl⟩
      have HLEN := Lib.hid hlen
      rw [← hlen]
      clear hfr ho5 hb5 c0 c4 d0 d1 f0 hlen
      go_wp2_with fail
      go_loopw [7, 8] (fun r k wr => ∃ q : Nat, q ≤ nl ∧ k = .int .i64 q ∧ EOg.Own w5.heap.size wr r (outL (L.take q) j) ∧ Below w5.heap.size w5 wr) (fun _ k _ => nl - (RowKit.intOf k).toNat)
      case atStart => exact ⟨0, Nat.zero_le _, rfl, ⟨rfl, Or.inl ⟨rfl, rfl⟩⟩, Below.refl _ _⟩
      case round =>
        obtain ⟨q, hq, rfl, hown, hbw⟩ := hrel
        obtain ⟨Ar_, cr, rfl⟩ := hown.form
        have kw : wr.cell? ⟨xa, 1, none⟩ = some (.slice Al nl cl) := (hbw.cell (p := ⟨xa, 1, none⟩) hxl).trans k1
        have HB := Lib.hid hbw
        by_cases hlt : q < nl
        · have hql : q < L.length := by rw [← HNL.out]; exact hlt
          have HS := Lib.hid (outL_snoc L (j : Int) hql)
          obtain ⟨-, g1, rfl, -, hat⟩ := (HR5.out.call hbw).on HVL.out hql
          obtain ⟨e0, e1, e2⟩ := og_at hat
          obtain ⟨y, hy⟩ : ∃ y, y = L[q] := ⟨_, rfl⟩
          rw [← hy] at e0 e1 e2 HS
          have hol := outL_len (L.take q) (j : Int)
          rw [List.length_take] at hol
          obtain ⟨R, hR⟩ : ∃ R, R = outL (L.take q) j := ⟨_, rfl⟩
          rw [← hR] at hown HS hol ⊢
          obtain ⟨m, hm⟩ : ∃ m, m = R.length := ⟨_, rfl⟩
          obtain ⟨yi, yp, yf⟩ := y
          dsimp only at e0 e1 e2
          obtain ⟨A6, c6, W6, r6, o6, g6, -⟩ := hown.app1 hbw.size ⟨yi, yp, yf⟩ (by omega) #[.int .i64 yi, .int .i64 yp, .int .i64 yf] rfl
          have r6' := r6 _ rfl
          have HB6 : Hid (Below w5.heap.size w5 W6) := Below.grown hbw g6 hbw.size (fun k e => by
            obtain ⟨vs, r, hlo⟩ := hown.block e
            exact hlo)
          rw [← hm] at r6' o6 ⊢
          change (Builtin.append_ #[30, 30] 30 _).run Try.prog (wr.alloc (.cells #[.int .i64 yi, .int .i64 yp, .int .i64 yf] 70)) = _ at r6'
          have HO6 := Lib.hid o6
          have HM := Lib.hid hm
          have HO := Lib.hid hown
          have q0 : (0 : Int) ≤ q := by omega
          have q1 : (q : Int) < nl := by omega
          clear hown hbw hat hy hol hR hm r6 o6 g6
          by_cases he : yi = j
          · have HF2 : Hid (outL (L.take (q + 1)) j = R) := by show _ = _; rw [HS.out]; exact if_pos he
            have hne : (yi != (j : Int)) = false := by simpa using he
            clear he r6'
            go_wp2_with fail
            go_roundw
            case rel => exact ⟨q + 1, by omega, by go_num, by rw [HF2.out, HM.out]; exact HO.out, HB.out⟩
            case measure => simp [RowKit.intOf]; omega
          · have HF2 : Hid (outL (L.take (q + 1)) j = R ++ [⟨yi, yp, yf⟩]) := by show _ = _; rw [HS.out]; exact if_neg he
            have hne : (yi != (j : Int)) = true := by simpa using he
            clear he
            go_wp2_with (at_builtin; refine wpList_append_run rfl _ _ 30 rfl _ _ rfl rfl r6' ?_)
            go_roundw
            case rel => exact ⟨q + 1, by omega, by go_num, by rw [HF2.out]; exact HO6.out, HB6.out⟩
            case measure => simp [RowKit.intOf]; omega
        · obtain rfl : q = nl := by omega
          rw [List.take_of_length_le (by rw [← HNL.out]; exact Nat.le_refl _)] at hown ⊢
          obtain ⟨s1', f1, hR7, hD7⟩ := HR5.out.setL2 hbw hown (Nat.le_trans (outL_len L j) HR5.out.ll)
          have HEND : Hid (DidT B w xa vh vl H' (outL L j) (frs L j) 0 (.returned (.tuple #[.slice A5 ll c5, .int .i64 0])) (wr.setCell ⟨xa, 1, none⟩ (.slice Ar_ (outL L j).length cr))) := by
            refine ⟨A5, c5, by rw [← HLEN.out], ?_, ?_⟩
            · have ho := (HO5.out.call hbw).base (show w.heap.size ≤ w4.heap.size from HF.out.size)
              refine ho.heap fun k e => ?_
              obtain ⟨vs, r, _⟩ := ho.block e
              exact Below.heap_setCell wr _ _ k (r.apart (HR5.out.call hbw).top (by decide))
            · obtain ⟨a1, a2, a3, a4, a5⟩ := hD7
              refine ⟨a1, a2, a3, (HF.out.trans (Foot.of_below (X := MineX xa vh vl) HB5.out) (fun _ e _ => e)).trans a4 (fun _ e _ => e), fun k e => (a5 k e).imp id fun e => ?_⟩
              have := HF.out.size
              have := HB5.out.size
              omega
          rw [HVL.out, ← HNL.out] at s1'
          clear hown hbw hR7 hD7
          go_wp2_with fail
          go_ret2
          exact HEND.out
    · have HT : Hid (drL H L j = L ∧ drT H L j = []) := by
        refine ⟨?_, ?_⟩
        · unfold drL; rw [hlb, decide_eq_false hp, if_neg (by decide)]
        · unfold drT; rw [hlb, decide_eq_false hp, if_neg (by decide)]
      rw [HT.out.1, HT.out.2]
      have hp' : 0 < x - 1 := by omega
      have HEND : Hid (DidT B w xa vh vl H' L [] 0 (.returned (.tuple #[.slice none 0 0, .int .i64 0])) (w.drew.setCell ⟨g, j, none⟩ (.int .i64 (x - 1)))) :=
        ⟨none, 0, rfl, ⟨rfl, Or.inl ⟨rfl, rfl⟩⟩, vh, vl, HR.out, HF.out, fun _ e => Or.inl e⟩
      clear h hi h1 h2 hj hd hv hb hbj hR hlb hgx hx hH' HR HF hp
      go_enter Try.func34, Try.ntmps34
      go_wp2_with (go_at_call 38; (with_reducible refine his.mono ?_); rintro e w1 ⟨rfl, rfl⟩)
      go_still_tail 14, (by kernel_rfl)
      clear c0' his
      change wpList _ _ _ _ _ w.drew
      generalize w.drew = w3 at c0 c4 d0 d1 f0 HEND hwl ⊢
      go_wp2
      go_ret2
      exact HEND.out
  · have hi' : isB H i = false := by simpa using hi
    rw [hi'] at his
    have hlb : lstB H i = false := by unfold lstB; rw [hi']; rfl
    rw [show hoE H i = 6 from if_neg hi, show drH H i = H from if_neg hi, show drL H L i = L by unfold drL; rw [hlb]; rfl, show drT H L i = [] by unfold drT; rw [hlb]; rfl]
    have HD := Lib.hid (h.did (Below.refl w.heap.size w))
    clear h hi hi' hb hlb
    go_enter Try.func34, Try.ntmps34
    go_wp2_with (go_at_call 38; (with_reducible refine his.mono ?_); rintro e w1 ⟨rfl, rfl⟩)
    go_ret2
    exact ⟨none, 0, rfl, ⟨rfl, Or.inl ⟨rfl, rfl⟩⟩, HD.out⟩
end
end Go.Proofs.Ytnpacdbkmpchnaa
