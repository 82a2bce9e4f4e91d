/- The reference of reservations: Break. -/
import Derived.Test.YtfalmjibpkkjaaaA4
namespace Go.Proofs.Ytfalmjibpkkjaaa
open Go.RowKit
section
variable {w w' : World} {B xa : Nat} {v : Value} {K : List Rw} {S S' : Rs} {n : Nat} {s p : Int}
theorem erase_next {α : Type} {L : List α} {j k : Nat} (hj : j < L.length) : (L.take (j + 1)).eraseIdx k = if j = k then (L.take j).eraseIdx k else (L.take j).eraseIdx k ++ [L[j]] := by
  rw [List.take_succ_eq_append_getElem hj]
  have hl : (L.take j).length = j := by rw [List.length_take]; omega
  rcases Nat.lt_trichotomy k j with h | h | h
  · rw [if_neg (by omega), List.eraseIdx_append_of_lt_length (by rw [hl]; exact h)]
  · subst h
    rw [if_pos rfl, List.eraseIdx_of_length_le (show (L.take k).length ≤ k by omega), List.eraseIdx_append_of_length_le (show (L.take k).length ≤ k by omega), hl, Nat.sub_self]
    simp
  · rw [if_neg (by omega), List.eraseIdx_append_of_length_le (by rw [hl]; omega), List.eraseIdx_of_length_le (by simp only [List.length_cons, List.length_nil, hl]; omega), List.eraseIdx_of_length_le (by rw [hl]; omega)]
theorem map_erase {α β : Type} (f : α → β) (L : List α) (i : Nat) : (L.eraseIdx i).map f = (L.map f).eraseIdx i := by
  rw [List.eraseIdx_eq_take_drop_succ, List.eraseIdx_eq_take_drop_succ, List.map_append, List.map_take, List.map_drop]
theorem filter_erase (hb : Bnd n S) {i : Nat} (hi : i = ixP S.L s p) (hl : i < S.L.length) : S.L.eraseIdx i = S.L.filter fun x => !hitP s p x := by
  have h0 := (ix_hit hi hl).1
  have e : S.L = S.L.take i ++ S.L[i] :: S.L.drop (i + 1) := by rw [← List.drop_eq_getElem_cons hl, List.take_append_drop]
  have only : ∀ (j : Nat) (hj : j < S.L.length), j ≠ i → hitP s p S.L[j] = false := fun j hj hne => by
    unfold hitP at h0 ⊢
    simp only [decide_eq_true_eq] at h0
    refine decide_eq_false fun hh => ?_
    have hk : upR S.L[i] S.L[j] ∨ upR S.L[j] S.L[i] := by
      rcases Nat.lt_or_ge i j with c | c
      · exact Or.inl (List.pairwise_iff_getElem.1 hb.up i j hl hj c)
      · exact Or.inr (List.pairwise_iff_getElem.1 hb.up j i hj hl (by omega))
    unfold upR at hk
    omega
  have f1 : (S.L.take i).filter (fun x => !hitP s p x) = S.L.take i := by
    rw [List.filter_eq_self]
    intro x hx
    obtain ⟨j, hj, rfl⟩ := List.getElem_of_mem hx
    have hj' : j < i := by rw [List.length_take] at hj; omega
    rw [List.getElem_take, only j (by omega) (by omega)]; rfl
  have f2 : (S.L.drop (i + 1)).filter (fun x => !hitP s p x) = S.L.drop (i + 1) := by
    rw [List.filter_eq_self]
    intro x hx
    obtain ⟨j, hj, rfl⟩ := List.getElem_of_mem hx
    have hj' : i + 1 + j < S.L.length := by rw [List.length_drop] at hj; omega
    rw [List.getElem_drop, only _ hj' (by omega)]; rfl
  rw [List.eraseIdx_eq_take_drop_succ]
  conv => rhs; rw [e, List.filter_append, List.filter_cons_of_neg (by rw [h0]; decide), f1, f2]
set_option maxRecDepth 100000 in
set_option maxHeartbeats 2000000 in
theorem break_x (h : Rx B w xa v K S) (hb : Bnd n S) (hn : n ≤ 900) (s p : Int) : Calls Try.prog 20 #[.pointer (some ⟨xa, 0, none⟩), .int .i64 s, .int .i64 p] w fun e w' => ∃ A c, e = .returned (.tuple #[.slice A (brV S s p).length c, .int .i64 (brE S s p)]) ∧ EI.Own w.heap.size w' (.slice A (brV S s p).length c) (brV S s p) ∧ DidR B w xa v K (brS S s p) w' := by
  have ha := at_x h hb (by omega) s p
  by_cases hl : ixP S.L s p < S.L.length
  · obtain ⟨i, hi⟩ : ∃ i, i = ixP S.L s p := ⟨_, rfl⟩
    rw [atI_yes hl, ← hi] at ha
    rw [← hi] at hl
    obtain ⟨hk, hkv⟩ := h.at_ hl
    obtain ⟨A, c, hv⟩ := h.own.form
    obtain ⟨m, hm⟩ : ∃ m, m = K.length := ⟨_, rfl⟩
    rw [← hm] at hv
    obtain ⟨-, gl, rfl, -, hat⟩ := h.on hv hk
    have c0 := h.c0
    rw [hv] at c0
    obtain ⟨d0, d1, d2, d3, d4⟩ := on_at hat
    have ok := hb.ok _ (List.getElem_mem hl)
    obtain ⟨rest0, ry⟩ := h.bl _ (List.getElem_mem hk)
    have hop := open_x (c := K[i].c) (sv := K[i].v.s) (pv := K[i].v.p) (fv := K[i].v.f) (tv := K[i].v.t) (nn := K[i].v.n) (fun j hj => h.mark (List.getElem_mem hk) (by rw [hkv]; exact ok.nl) hj) ry.lt (by rw [hkv]; exact ok.f0) (by rw [hkv]; exact ok.f1)
    have i1 : (i : Int) < (m : Int) := by omega
    have i0 : (0 : Int) ≤ i := by omega
    have m9 : (m : Int) ≤ 1000 := by have := hb.ln; have := h.len; omega
    have eP := (ix_hit hi hl).2
    have HE : Hid (brV S s p = opN K[i].v.n K[i].v.f ∧ brE S s p = 0 ∧ (K.eraseIdx i).map Rw.v = (brS S s p).L ∧ (brS S s p).T = S.T) := by
      refine ⟨by unfold brV; rw [eP, hkv]; rfl, by unfold brE; rw [eP], ?_, rfl⟩
      show _ = S.L.filter _
      rw [← filter_erase hb hi hl, ← h.is, map_erase]
    have HX := Lib.hid (And.intro h hv)
    have HM := Lib.hid hm
    have HRL : Hid ((opN K[i].v.n K[i].v.f).length ≤ 8) := opN_len _ _
    obtain ⟨R, hR⟩ : ∃ R, R = opN K[i].v.n K[i].v.f := ⟨_, rfl⟩
    rw [← hR] at hop HE HRL
    generalize K[i].v.s = xs at *
    generalize K[i].v.p = xp at *
    generalize K[i].v.f = xf at *
    generalize K[i].v.n = xn at *
    generalize K[i].v.t = xt at *
    generalize K[i].g = gy at *
    generalize K[i].c = cy at *
    clear h hb hn hi hv hat hm hkv hk hl ok eP hR ry
    go_enter Try.func20, Try.ntmps20
    go_wp2_with (go_at_call 24; (with_reducible refine ha.mono ?_); rintro e w1 ⟨rfl, rfl⟩)
    refine hop.mono ?_
    rintro e w1 ⟨Ao, co, rfl, ho1, hb1⟩
    obtain ⟨r, hr⟩ : ∃ r, r = R.length := ⟨_, rfl⟩
    rw [← hr]
    have HR := Lib.hid hr
    have HO := Lib.hid ho1
    have HB1 := Lib.hid hb1
    have c1 := (HX.out.1.call hb1).c0
    rw [HX.out.2] at c1
    clear hop ho1 hb1 d0 d1 d2 d3 d4 c0 hr
    go_wp2_with fail
    go_loopw [10, 11] (fun o k wr => ∃ j : Nat, j ≤ m ∧ k = .int .i64 j ∧ EOn.Own w1.heap.size wr o ((K.take j).eraseIdx i) ∧ Below w1.heap.size w1 wr) (fun _ k _ => m - (RowKit.intOf k).toNat)
    case atStart => exact ⟨0, Nat.zero_le _, rfl, (by rw [List.take_zero, List.eraseIdx_nil]; exact Enc.Own.nil _ _), Below.refl _ _⟩
    case round =>
      obtain ⟨j, hj, rfl, hown, hb⟩ := hrel
      obtain ⟨Ar_, cr, rfl⟩ := hown.form
      have hx := (HX.out.1.call HB1.out).call hb
      have c2 := hx.c0
      rw [HX.out.2] at c2
      obtain ⟨T, hT⟩ : ∃ T, T = (K.take j).eraseIdx i := ⟨_, rfl⟩
      have hlen : T.length ≤ 1000 := by
        rw [hT]
        have h1 := List.length_eraseIdx_le (K.take j) i
        have h2 : (K.take j).length ≤ j := by rw [List.length_take]; omega
        omega
      rw [← hT] at hown ⊢
      obtain ⟨mm, hmm⟩ : ∃ mm, mm = T.length := ⟨_, rfl⟩
      have HTT := Lib.hid (And.intro hT hmm)
      have HOW := Lib.hid hown
      have HB := Lib.hid hb
      rw [← hmm]
      by_cases hlt : j < m
      · have hjl : j < K.length := by rw [← HM.out]; exact hlt
        obtain ⟨-, gl', e, -, hat⟩ := hx.on HX.out.2 hjl
        injection e with e; injection e with e; subst e
        obtain ⟨d0, d1, d2, d3, d4⟩ := on_at hat
        have HNX := Lib.hid (erase_next (k := i) hjl)
        have j1 : (j : Int) < m := by omega
        have j0 : (0 : Int) ≤ j := by omega
        clear hx hown hb hT hmm hat
        by_cases e : j = i
        · have e1 : ((j : Int) == (i : Int)) = true := by simp [e]
          have e2 : ((j : Int) != (i : Int)) = false := by simp [e]
          have HF : Hid ((K.take (j + 1)).eraseIdx i = T) := by show _ = _; rw [HNX.out, if_pos e, ← HTT.out.1]
          have e4 : (j : Int) = (i : Int) := by omega
          go_wp2_with fail
          go_roundw
          case rel => exact ⟨j + 1, by omega, by first | go_num | (rw [← e4]; go_num), by rw [HF.out, HTT.out.2]; exact HOW.out, HB.out⟩
          case measure => simp [RowKit.intOf]; omega
        · have e1 : ((j : Int) == (i : Int)) = false := by simpa using (by omega : ¬ (j : Int) = i)
          have e2 : ((j : Int) != (i : Int)) = true := by simpa using (by omega : ¬ (j : Int) = i)
          have e3 : ¬ (j : Int) = (i : Int) := by omega
          have HF : Hid ((K.take (j + 1)).eraseIdx i = T ++ [K[j]]) := by show _ = _; rw [HNX.out, if_neg e, ← HTT.out.1]
          obtain ⟨A5, c5, W5, r5, o5, g5, -⟩ := HOW.out.app1 HB.out.size K[j] (by omega) _ rfl
          have r5' := r5 _ rfl
          rw [← HTT.out.2] at r5' o5
          change (Builtin.append_ #[46, 46] 46 _).run Try.prog (wr.alloc (.cells #[.int .i64 K[j].v.s, .int .i64 K[j].v.p, .int .i64 K[j].v.f, .slice (some ⟨K[j].g, 0, none⟩) 8 K[j].c, .int .i64 K[j].v.t] 53)) = _ at r5'
          have HO5 := Lib.hid o5
          have HB5 : Hid (Below w1.heap.size w1 W5) := Below.grown HB.out g5 HB.out.size (fun k e => by
            obtain ⟨vs, r, hlo⟩ := HOW.out.block e
            exact hlo)
          generalize K[j].v.s = ys at *
          generalize K[j].v.p = yp at *
          generalize K[j].v.f = yf at *
          generalize K[j].v.t = yt at *
          generalize K[j].g = yg at *
          generalize K[j].c = yc at *
          clear o5 g5 r5 hlen
          go_wp2_with (at_builtin; refine wpList_append_run rfl _ _ 46 rfl _ _ rfl rfl r5' ?_)
          go_roundw
          case rel => exact ⟨j + 1, by omega, by go_num, by rw [HF.out]; exact HO5.out, HB5.out⟩
          case measure => simp [RowKit.intOf]; omega
      · obtain rfl : j = m := by omega
        have hTe : T = K.eraseIdx i := by rw [hT, List.take_of_length_le (by rw [← HM.out]; exact Nat.le_refl _)]
        have hw1 : Below w.heap.size w wr := HB1.out.trans (hb.mono HB1.out.size)
        obtain ⟨b1, b2, hD⟩ := HX.out.1.anew (wr := wr) (v' := .slice Ar_ T.length cr) (K' := T) (S' := brS S s p) (Foot.of_below hw1) hx.top (hown.base HB1.out.size) (fun y hy => by
          have hyK : y ∈ K := by rw [hTe] at hy; exact List.mem_of_mem_eraseIdx hy
          obtain ⟨rest, r⟩ := hx.bl y hyK
          exact ⟨⟨rest, r⟩, Or.inl hyK⟩) (by rw [hTe]; exact HE.out.2.2.1) rfl
        rw [← hmm] at hD
        have HD := Lib.hid hD
        have HO2 : Hid (EI.Own w.heap.size (wr.setCell ⟨xa, 0, none⟩ (.slice Ar_ mm cr)) (.slice Ao R.length co) R) := by
          refine (HO.out.call hb).heap fun g e => ?_
          obtain ⟨vs, r, hlo⟩ := (HO.out.call hb).block e
          exact Below.heap_setCell wr _ _ g (by have := HX.out.1.top.lt; show g ≠ xa; omega)
        clear hx hown hb hT hmm hD hTe hw1 hlen
        go_wp2_with fail
        go_ret2
        refine ⟨Ao, co, ?_, ?_, HD.out⟩
        · rw [HE.out.1, HE.out.2.1, ← HR.out]; rfl
        · rw [HE.out.1]; exact HO2.out
  · obtain ⟨e1, e2⟩ := atI_no hl
    rw [e1] at ha
    have HE : Hid (brV S s p = [] ∧ brE S s p = 6 ∧ brS S s p = S) := ⟨by unfold brV; rw [e2], by unfold brE; rw [e2], brS_no e2⟩
    have HD := Lib.hid (h.did (Below.refl w.heap.size w))
    clear h hb hn hl e1 e2
    go_enter Try.func20, Try.ntmps20
    go_wp2_with (go_at_call 24; (with_reducible refine ha.mono ?_); rintro e w1 ⟨rfl, rfl⟩)
    go_ret2
    exact ⟨none, 0, by rw [HE.out.1, HE.out.2.1]; rfl, by rw [HE.out.1]; exact Enc.Own.nil _ _, by rw [HE.out.2.2]; exact HD.out⟩
end
end Go.Proofs.Ytfalmjibpkkjaaa
