/- The reference of memory: Spare, what is given. -/
import Derived.Test.YtklhcgekagimkaaGreatMg33
import Derived.BigQuiet
namespace Go.Proofs.YtklhcgekagimkaaGreat
open Go.RowKit
section
variable {w w' : World} {B n mk : Nat} {r : Rn} {v v' : Value} {M : Me} {F' : List Bool} {S' : List Nat}
/-- Frames and sections have been turned. -/
theorem RmX.kinT (h : RmX B w r v n mk M) (hR : RefK w' r.z r.p r.y r.h n F' S') (hf : Foot (fun q => q = r.h ∨ q = r.y) w w') : RmX B w' r v n mk ⟨F', S', M.I, M.W⟩ := by
  obtain ⟨us, hh⟩ : ∃ us, Lrow w r.h 3 us := by obtain ⟨t, h3⟩ := h.kin.row; exact ⟨_, h3⟩
  have kp : ∀ q {t : TypeId} {vs : List Value}, Lrow w q t vs → t ≠ 3 → t ≠ 4 → w'.heap[q]? = w.heap[q]? := fun q t vs hr h1 h2 => hf.keep q hr.lt fun e => by
    rcases e with e | e
    · exact row_ne hr hh h1 e
    · exact row_ne hr h.kin.ref.row h2 e
  refine ⟨(kp _ h.top (by decide) (by decide)).trans h.top, hR, ⟨h.ram.len, h.ram.m8, h.ram.lo, h.ram.hi, h.ram.words, (kp _ (show Lrow w r.c _ _ from h.ram.top) (by decide) (by decide)).trans h.ram.top, (kp _ (show Lrow w r.d _ _ from h.ram.row) (by decide) (by decide)).trans h.ram.row, h.ram.ne⟩, h.own.heap fun q e => ?_, h.nh, h.lx, h.lz, h.lp, h.ly, h.lh, h.lc, h.ld⟩
  obtain ⟨vs, h1, _⟩ := h.vrow e
  refine hf.keep q h1.lt fun e' => ?_
  rcases e' with e' | e'
  · exact h.nh (by rw [e, e'])
  · exact row_ne h1 h.kin.ref.row (by decide) e'
/-- States have been turned in their row. -/
theorem RmX.isT {I' : List Int} {g : Nat} (h : RmX B w r v n mk M) (hv : v.ownBlock = some g) (ho : EI.Own B w' v I') (hg : w.grownBy w' (some g)) : RmX B w' r v n mk ⟨M.F, M.S, I', M.W⟩ := by
  obtain ⟨us, hh, _⟩ := h.vrow hv
  have kp : ∀ q {t : TypeId} {vs : List Value}, Lrow w q t vs → t ≠ 3 → w'.heap[q]? = w.heap[q]? := fun q t vs hr h1 => hg.block q hr.lt fun e => row_ne hr hh h1 (by injection e)
  obtain ⟨c, _, h2⟩ := h.kin.top
  obtain ⟨t, h3⟩ := h.kin.row
  refine ⟨(kp _ h.top (by decide)).trans h.top, h.kin.keepAll (kp _ h2 (by decide)) (kp _ h.kin.ref.top (by decide)) (kp _ h.kin.ref.row (by decide)) ?_, ⟨h.ram.len, h.ram.m8, h.ram.lo, h.ram.hi, h.ram.words, (kp _ (show Lrow w r.c _ _ from h.ram.top) (by decide)).trans h.ram.top, (kp _ (show Lrow w r.d _ _ from h.ram.row) (by decide)).trans h.ram.row, h.ram.ne⟩, ho, h.nh, h.lx, h.lz, h.lp, h.ly, h.lh, h.lc, h.ld⟩
  exact hg.block _ h3.lt fun e => h.nh (by rw [hv]; injection e with e; rw [e])
theorem RmX.form (h : RmX B w r v n mk M) (hl : M.I.length = n) (n1 : 0 < n) : ∃ g c, v = .slice (some ⟨g, 0, none⟩) n c ∧ v.ownBlock = some g := by
  obtain ⟨A, c, rfl⟩ := h.own.form
  obtain ⟨g, rest, rfl, hr, -⟩ := EI_row h.own (by omega)
  refine ⟨g, c, by rw [hl], ?_⟩
  simp [Value.ownBlock]
/-- How the states read. -/
theorem RmX.at_ {g c : Nat} (h : RmX B w r (.slice (some ⟨g, 0, none⟩) n c) n mk M) (hl : M.I.length = n) {j : Nat} (hj : j < n) : w.cell? ⟨g, j, none⟩ = some (.int .i64 (M.I[j]'(by omega))) := by
  have ho := h.own
  rw [show (Value.slice (some ⟨g, 0, none⟩) n c) = .slice (some ⟨g, 0, none⟩) M.I.length c by rw [hl]] at ho
  obtain ⟨g', rest, e, hr, -⟩ := EI_row ho (by omega)
  injection e with e
  injection e with e
  subst e
  rw [hr.cell, List.getElem?_append_left (by rw [List.length_map]; omega), List.getElem?_map, List.getElem?_eq_getElem (by omega)]; rfl
set_option maxHeartbeats 2000000 in
set_option maxRecDepth 100000 in
theorem rspare_any (h : RmX B w r v n mk M) (ok : MeOk n M) (hk : mk ≤ n) : Calls Tryz.prog 19 #[.pointer (some ⟨r.x, 0, none⟩)] w fun e w' => e = .returned (.int .i64 (spN M mk : Nat)) ∧ Below w.heap.size w w' := by
  have hF : ∀ j, Calls Tryz.prog 21 #[.pointer (some ⟨r.p, 0, none⟩)] (w.drewN j) fun e w' => e = .returned (.int .i64 (M.F.count true : Nat)) ∧ w' = w.drewN j := fun j => (refFree_any (h.drewN j).kin.ref).mono fun _ _ h => ⟨h.1, h.2.symm⟩
  have hO : ∀ j, Calls Tryz.prog 45 #[.pointer (some ⟨r.z, 0, none⟩), .int .i64 3] (w.drewN j) fun e w' => e = .returned (.int .i64 (frO M.F M.S 3 : Nat)) ∧ w' = w.drewN j := fun j => (refFreeOf_any (h.drewN j).kin 3).mono fun _ _ h => ⟨h.1, h.2.symm⟩
  have c0 := h.c0
  have z0 := h.kin.c0
  have c3 : ∀ j, (w.drewN j).cell? ⟨r.x, 3, none⟩ = some (.int .i64 mk) := fun j => (h.drewN j).c3
  have hs : spN M mk = M.F.count true - frO M.F M.S 3 - mk := by rw [fr_spare M ok.kin]; rfl
  have ht : frO M.F M.S 3 ≤ M.F.count true := by rw [fr_four M.F ok.kin]; omega
  have hc : M.F.count true ≤ 1024 := Nat.le_trans List.count_le_length (by rw [ok.f]; exact ok.hi)
  have m1 : mk ≤ 1024 := Nat.le_trans hk ok.hi
  rw [hs]
  generalize M.F.count true = c at *
  generalize frO M.F M.S 3 = t at *
  have hw : IntKind.i64.wrap ((c : Int) - (t : Int)) = (c : Int) - (t : Int) := IntWalk.i64_in _ (by omega)
  have hw2 : IntKind.i64.wrap ((c : Int) - (t : Int) - (mk : Int)) = (c : Int) - (t : Int) - (mk : Int) := IntWalk.i64_in _ (by omega)
  have HC := Lib.hid (And.intro ht hc)
  have HF := Lib.hid (And.intro hF hO)
  clear h ok hk hs hF hO ht hc
  go_enter Tryz.func19, Tryz.ntmps19
  go_wp2_with fail
  go_quiet ((first
    | (go_at_call 21; exact Calls.quiet_of_same (HF.out.1 _))
    | (go_at_call 45; exact Calls.quiet_of_same (HF.out.2 _))))
  have HB : Hid (Below w.heap.size w (w.drewN nq)) := below_drewN w nq
  have d3 := c3 nq
  generalize w.drewN nq = w1 at *
  clear c3 c0 z0
  by_cases hlt : (c : Int) - t < mk
  · have HE : Hid (((c - t - mk : Nat) : Int) = 0) := by show _ = _; have := HC.out; omega
    go_wp2_with fail
    go_ret
    exact ⟨ret_int HE.out.symm, HB.out⟩
  · have HE : Hid (((c - t - mk : Nat) : Int) = (c : Int) - t - mk) := by show _ = _; have := HC.out; omega
    go_wp2_with fail
    go_ret
    exact ⟨ret_int HE.out.symm, HB.out⟩
set_option maxHeartbeats 4000000 in
set_option maxRecDepth 100000 in
theorem rgiven_any (h : RmX B w r v n mk M) (hl : M.I.length = n) (n0 : 0 < n) (n1 : n ≤ 1024) {f k : Nat} (k8 : k ≤ 8) (hr : f + 2 ^ k ≤ n) (x : Int) : Calls Tryz.prog 80 #[.pointer (some ⟨r.x, 0, none⟩), .int .i64 f, .int .i64 k, .int .i64 x] w fun e w' =>
    e = .returned (.tuple #[]) ∧ RmX B w' r v n mk ⟨M.F, M.S, putF M.I f (2 ^ k) x, if x = 0 then M.W else zeL M.W f ((2 ^ k : Nat) : Int)⟩ ∧ Foot (MineR r v) w w' := by
  obtain ⟨g, c, rfl, hvb⟩ := h.form hl n0
  obtain ⟨K, hK⟩ : ∃ K : Nat, K = 2 ^ k := ⟨_, rfl⟩
  have K1 : 1 ≤ K := by rw [hK]; exact two_pos k
  have K2 : K ≤ 256 := by rw [hK]; exact Nat.pow_le_pow_right (by omega : 0 < 2) k8
  have hrK : f + K ≤ n := by rw [hK]; exact hr
  have hS : ∀ W, Calls Tryz.prog 33 #[.int .i64 k] W fun e w' => e = .returned (.int .i64 K) ∧ W = w' := fun W => by
    have := size_any k8 W
    rw [← hK] at this
    exact this
  rw [← hK]
  obtain ⟨WW, hWW⟩ : ∃ WW, WW = if x = 0 then M.W else zeL M.W f ((K : Nat) : Int) := ⟨_, rfl⟩
  rw [← hWW]
  have HX := Lib.hid (And.intro h (And.intro hl hvb))
  have HWW := Lib.hid hWW
  clear h hl hr hK k8 hWW
  go_enter Tryz.func80, Tryz.ntmps80
  go_wp2_with fail
  go_loopw [8] (fun i wr => ∃ j : Nat, j ≤ K ∧ i = .int .i64 j ∧ RmX B wr r (.slice (some ⟨g, 0, none⟩) n c) n mk ⟨M.F, M.S, putF M.I f j x, M.W⟩ ∧ Foot (MineR r (.slice (some ⟨g, 0, none⟩) n c)) w wr) (fun i _ => K - (RowKit.intOf i).toNat)
  case atStart => exact ⟨0, Nat.zero_le _, rfl, by rw [put_zero]; exact HX.out.1, Foot.refl _ _⟩
  case round =>
    obtain ⟨j, hj, rfl, hm, hft⟩ := hrel
    have hSr := hS wr
    by_cases hlt : j < K
    · obtain ⟨z, hz⟩ : ∃ z, z = f + j := ⟨_, rfl⟩
      have hzl : z < (putF M.I f j x).length := by rw [put_len (by rw [HX.out.2.1]; omega), HX.out.2.1]; omega
      have hpl : (putF M.I f j x).length = n := by rw [put_len (by rw [HX.out.2.1]; omega)]; exact HX.out.2.1
      have c2 := hm.c2
      have d0 := hm.at_ hpl (j := z) (by omega)
      have ho := hm.own.put (j := z) (q := 0) hzl (by decide) (u := .int .i64 x) (x := x) rfl rfl
      rw [show z * EI.sz + 0 = z from Nat.mul_one z] at ho
      have y0 := ho.1 z
      have hset : (putF M.I f j x).set z x = putF M.I f (j + 1) x := by rw [hz]; exact put_next (by rw [HX.out.2.1]; omega) x
      rw [hset] at ho
      have HN : Hid (RmX B (wr.setCell ⟨g, z, none⟩ (.int .i64 x)) r (.slice (some ⟨g, 0, none⟩) n c) n mk ⟨M.F, M.S, putF M.I f (j + 1) x, M.W⟩ ∧ Foot (MineR r (.slice (some ⟨g, 0, none⟩) n c)) w (wr.setCell ⟨g, z, none⟩ (.int .i64 x))) := by
        have hg := grown_set wr g z (.int .i64 x)
        exact ⟨hm.isT HX.out.2.2 ho.2 hg, hft.trans (Foot.grown hg (Or.inr (Or.inr (Or.inr (Or.inr (Or.inr (Or.inr (Or.inr HX.out.2.2)))))))) fun _ e _ => e⟩
      generalize (putF M.I f j x)[z]'_ = y at d0
      have hw2 : IntKind.i64.wrap ((f : Int) + (j : Int)) = (z : Int) := by rw [IntWalk.i64_in _ (by omega)]; omega
      have hw3 : IntKind.i64.wrap ((j : Int) + 1) = (j : Int) + 1 := IntWalk.i64_in _ (by omega)
      have j1 : (j : Int) < (K : Int) := by omega
      have z1 : (z : Int) < n := by omega
      have z0 : (0 : Int) ≤ z := by omega
      have HJ := Lib.hid hlt
      clear hj hm hft hzl hpl ho hset hz hlt
      go_wp2_with (go_at_call 33; (with_reducible refine hSr.mono ?_); rintro e w1 ⟨rfl, rfl⟩)
      go_roundw
      case rel => exact ⟨j + 1, HJ.out, by go_num, HN.out.1, HN.out.2⟩
      case measure => simp [RowKit.intOf]; have := HJ.out; omega
    · obtain rfl : j = K := by omega
      by_cases hx : x = 0
      · have HE : Hid (WW = M.W) := by show _ = _; rw [HWW.out, if_pos hx]
        have hx' : (x == 0) = true := by simpa using hx
        have HN := Lib.hid (And.intro hm hft)
        clear hm hft hj hlt hx
        go_wp2_with (go_at_call 33; (with_reducible refine hSr.mono ?_); rintro e w1 ⟨rfl, rfl⟩)
        go_end0
        exact ⟨rfl, by rw [HE.out]; exact HN.out.1, HN.out.2⟩
      · have HE : Hid (WW = zeL M.W f (j : Int)) := by show _ = _; rw [HWW.out, if_neg hx]
        have hx' : (x == 0) = false := by simpa using hx
        have S0 : (wr.drewN 1).cell? ⟨r.x, 1, none⟩ = some (.pointer (some ⟨r.c, 0, none⟩)) := (hm.drewN 1).c1
        have hS1 := hS (wr.drewN 1)
        have hZ := refZero_any (hm.drewN 1).ram f (j : Int) (by omega)
        have HN := Lib.hid (And.intro hm hft)
        clear hm hft hj hlt hx
        go_wp2_with (go_at_call 33; (with_reducible refine hSr.mono ?_); rintro e w1 ⟨rfl, rfl⟩)
        go_region_held3 (fun v => v.cell? ⟨r.x, 1, none⟩ = some (.pointer (some ⟨r.c, 0, none⟩)))
          (first | exact S0 | exact S4)
          (first | (go_at_call 33; refine hS1.mono ?_; rintro e v4 ⟨rfl, rfl⟩) | (go_at_call 103; refine hZ.mono ?_; rintro e w4 ⟨rfl, hr4, hg4⟩; have h4 := (HN.out.1.drewN 1).ramT hr4 hg4; have S4 := h4.c1))
        all_goals
          have HD := Lib.hid (And.intro h4 ((HN.out.2.drewN 1).trans (Foot.grown (X := MineR r (.slice (some ⟨g, 0, none⟩) n c)) hg4 (Or.inr (Or.inr (Or.inr (Or.inr (Or.inr (Or.inr (Or.inl rfl)))))))) fun _ e _ => e))
          clear h4 hr4 hg4 S4 S0 hZ hS1
          go_wp2_with fail
          go_end0
          exact ⟨rfl, by rw [HE.out]; exact HD.out.1, HD.out.2⟩
end
end Go.Proofs.YtklhcgekagimkaaGreat
/- The reference of memory: Block, At, Drop. -/
namespace Go.Proofs.YtklhcgekagimkaaGreat
open Go.RowKit
section
variable {w w' : World} {B n mk : Nat} {r : Rn} {v v' : Value} {M : Me}
theorem took_foot {w1 w2 : World} {h y : Nat} (b1 : Below w.heap.size w w1) (g1 : w1.grownBy w2 (some h)) (g2 : w2.grownBy w' (some y)) : Foot (fun q => q = h ∨ q = y) w w' :=
  ((Foot.of_below b1).trans (Foot.grown (X := fun q => q = h ∨ q = y) g1 (Or.inl rfl)) fun _ e _ => e).trans (Foot.grown (X := fun q => q = h ∨ q = y) g2 (Or.inr rfl)) fun _ e _ => e
theorem foot_hy (hf : Foot (fun q => q = r.h ∨ q = r.y) w w') : Foot (MineR r v) w w' := hf.mono fun q e => by
  rcases e with e | e
  · exact Or.inr (Or.inr (Or.inr (Or.inr (Or.inl e))))
  · exact Or.inr (Or.inr (Or.inr (Or.inl e)))
theorem foot_y (hg : w.grownBy w' (some r.y)) : Foot (MineR r v) w w' := Foot.grown hg (Or.inr (Or.inr (Or.inr (Or.inl rfl))))
theorem RDid.first {M' : Me} {w1 : World} (hf : Foot (MineR r v) w w1) (h : RDid B r v n mk M' w1 w') : RDid B r v n mk M' w w' := by
  obtain ⟨v2, h1, h2, h3⟩ := h
  refine ⟨v2, h1, hf.trans h2 fun _ e _ => e, ?_⟩
  rcases h3 with e | ⟨q, e, hq⟩
  · exact Or.inl e
  · exact Or.inr ⟨q, e, Nat.le_trans hf.size hq⟩
set_option maxHeartbeats 4000000 in
set_option maxRecDepth 100000 in
theorem rblock_bad (r : Rn) (w : World) {o kd x : Int} (hb : okB o kd = false ∨ isU x = false) : Calls Tryz.prog 54 #[.pointer (some ⟨r.x, 0, none⟩), .int .i64 o, .int .i64 kd, .int .i64 x] w fun e w' => e = .returned (.tuple #[.int .i64 0, .int .i64 2]) ∧ w = w' := by
  rcases (show o < 0 ∨ (¬ o < 0 ∧ 8 < o) ∨ (¬ o < 0 ∧ ¬ 8 < o ∧ kd < 0) ∨ (¬ o < 0 ∧ ¬ 8 < o ∧ ¬ kd < 0 ∧ 2 < kd) ∨ (¬ o < 0 ∧ ¬ 8 < o ∧ ¬ kd < 0 ∧ ¬ 2 < kd ∧ x < 1) ∨ (¬ o < 0 ∧ ¬ 8 < o ∧ ¬ kd < 0 ∧ ¬ 2 < kd ∧ ¬ x < 1 ∧ 5 < x) by
    rcases hb with hb | hb
    · unfold okB at hb; have := of_decide_eq_false hb; omega
    · unfold isU at hb; have := of_decide_eq_false hb; omega) with c1 | ⟨c1, c2⟩ | ⟨c1, c2, c3⟩ | ⟨c1, c2, c3, c4⟩ | ⟨c1, c2, c3, c4, c5⟩ | ⟨c1, c2, c3, c4, c5, c6⟩
  all_goals
    clear hb
    go_enter Tryz.func54, Tryz.ntmps54
    go_wp2_with fail
    go_ret2
    exact ⟨rfl, rfl⟩
set_option maxHeartbeats 4000000 in
set_option maxRecDepth 100000 in
theorem rblock_few (h : RmX B w r v n mk M) (ok : MeOk n M) (hk : mk ≤ n) {k c : Nat} (k8 : k ≤ 8) (c2 : c ≤ 2) {x : Int} (hx : isU x = true) (hc : spN M mk < 2 ^ k) : Calls Tryz.prog 54 #[.pointer (some ⟨r.x, 0, none⟩), .int .i64 k, .int .i64 c, .int .i64 x] w fun e w' => e = .returned (.tuple #[.int .i64 0, .int .i64 8]) ∧ Below w.heap.size w w' := by
  have hx' := isU_iff.1 hx
  have hS := rspare_any h ok hk
  obtain ⟨s, hs⟩ : ∃ s, s = spN M mk := ⟨_, rfl⟩
  rw [← hs] at hS hc
  obtain ⟨K, hK⟩ : ∃ K : Nat, K = 2 ^ k := ⟨_, rfl⟩
  have hZ : ∀ W, Calls Tryz.prog 33 #[.int .i64 k] W fun e w' => e = .returned (.int .i64 K) ∧ W = w' := fun W => by
    have := size_any k8 W
    rw [← hK] at this
    exact this
  rw [← hK] at hc
  have t1 : ¬ (k : Int) < 0 := by omega
  have t2 : ¬ (8 : Int) < k := by omega
  have t3 : ¬ (c : Int) < 0 := by omega
  have t4 : ¬ (2 : Int) < c := by omega
  have t5 : ¬ x < 1 := by omega
  have t6 : ¬ 5 < x := by omega
  have hlt : (s : Int) < (K : Int) := by omega
  clear h ok hk k8 c2 hx hx' hs hK hc
  go_enter Tryz.func54, Tryz.ntmps54
  go_wp2_with fail
  refine hS.mono ?_
  rintro e w1 ⟨rfl, hb1⟩
  have HB := Lib.hid hb1
  have hZ1 := hZ w1
  clear hb1 hS hZ
  go_wp2_with (go_at_call 33; (with_reducible refine hZ1.mono ?_); rintro e w2 ⟨rfl, rfl⟩)
  go_ret2
  exact ⟨rfl, HB.out⟩
set_option maxHeartbeats 4000000 in
set_option maxRecDepth 100000 in
theorem rblock_none (h : RmX B w r v n mk M) (ok : MeOk n M) (hk : mk ≤ n) {k c : Nat} (k8 : k ≤ 8) (c2 : c ≤ 2) {x : Int} (hx : isU x = true) (hc : ¬ spN M mk < 2 ^ k) {E V : Int} (hE : E ≠ 0) (he : ktV M.F M.S k c = V ∧ ktE M.F M.S k c = E ∧ ktF M.F M.S k c = M.F ∧ ktS M.F M.S k c = M.S) : Calls Tryz.prog 54 #[.pointer (some ⟨r.x, 0, none⟩), .int .i64 k, .int .i64 c, .int .i64 x] w fun e w' => e = .returned (.tuple #[.int .i64 V, .int .i64 E]) ∧ RDid B r v n mk M w w' := by
  have hx' := isU_iff.1 hx
  have hS := rspare_any h ok hk
  obtain ⟨s, hs⟩ : ∃ s, s = spN M mk := ⟨_, rfl⟩
  rw [← hs] at hS hc
  obtain ⟨K, hK⟩ : ∃ K : Nat, K = 2 ^ k := ⟨_, rfl⟩
  have hZ : ∀ W, Calls Tryz.prog 33 #[.int .i64 k] W fun e w' => e = .returned (.int .i64 K) ∧ W = w' := fun W => by
    have := size_any k8 W
    rw [← hK] at this
    exact this
  rw [← hK] at hc
  have t1 : ¬ (k : Int) < 0 := by omega
  have t2 : ¬ (8 : Int) < k := by omega
  have t3 : ¬ (c : Int) < 0 := by omega
  have t4 : ¬ (2 : Int) < c := by omega
  have t5 : ¬ x < 1 := by omega
  have t6 : ¬ 5 < x := by omega
  have hlt : ¬ (s : Int) < (K : Int) := by omega
  have n1 := ok.hi
  have hE' : (E == 0) = false := by simpa using hE
  have HE := Lib.hid he
  clear ok hk k8 c2 hx hx' hs hK hc he hE
  go_enter Tryz.func54, Tryz.ntmps54
  go_wp2_with fail
  refine hS.mono ?_
  rintro e w1 ⟨rfl, hb1⟩
  have HM := Lib.hid (h.call hb1)
  have c0 := HM.out.c0
  have hT := refKTake_any HM.out.kin n1 k c
  rw [HE.out.1, HE.out.2.1, HE.out.2.2.1, HE.out.2.2.2] at hT
  have hZ1 := hZ w1
  have HB := Lib.hid hb1
  clear hb1 hS hZ h
  go_wp2_with (go_at_call 33; (with_reducible refine hZ1.mono ?_); rintro e w2 ⟨rfl, rfl⟩)
  refine hT.mono ?_
  rintro e w3 ⟨rfl, hR3, v1, v2, q1, q2, q3⟩
  have hf3 := took_foot q1 q2 q3
  have hM3 := HM.out.kinT hR3 hf3
  have HF3 : Hid (Foot (MineR r v) w w3) := (Foot.of_below HB.out).trans (foot_hy hf3) fun _ e _ => e
  clear hR3 q1 q2 q3 hf3 c0 hT
  have HD : Hid (RDid B r v n mk M w w3) := ⟨v, hM3, HF3.out, Or.inl rfl⟩
  clear hM3
  go_wp2_with fail
  go_ret2
  exact ⟨rfl, HD.out⟩
set_option maxHeartbeats 4000000 in
set_option maxRecDepth 100000 in
theorem rblock_ok (h : RmX B w r v n mk M) (ok : MeOk n M) (hk : mk ≤ n) {k c : Nat} (k8 : k ≤ 8) (c2 : c ≤ 2) {x : Int} (hx : isU x = true) (hc : ¬ spN M mk < 2 ^ k) {f : Nat} {F' : List Bool} {S' : List Nat} (hr : f + 2 ^ k ≤ n) (he : ktV M.F M.S k c = f ∧ ktE M.F M.S k c = 0 ∧ ktF M.F M.S k c = F' ∧ ktS M.F M.S k c = S') : Calls Tryz.prog 54 #[.pointer (some ⟨r.x, 0, none⟩), .int .i64 k, .int .i64 c, .int .i64 x] w fun e w' => e = .returned (.tuple #[.int .i64 f, .int .i64 0]) ∧ RDid B r v n mk (gvM M F' S' f k x) w w' := by
  have hx' := isU_iff.1 hx
  have hS := rspare_any h ok hk
  obtain ⟨s, hs⟩ : ∃ s, s = spN M mk := ⟨_, rfl⟩
  rw [← hs] at hS hc
  obtain ⟨K, hK⟩ : ∃ K : Nat, K = 2 ^ k := ⟨_, rfl⟩
  have hZ : ∀ W, Calls Tryz.prog 33 #[.int .i64 k] W fun e w' => e = .returned (.int .i64 K) ∧ W = w' := fun W => by
    have := size_any k8 W
    rw [← hK] at this
    exact this
  rw [← hK] at hc
  have t1 : ¬ (k : Int) < 0 := by omega
  have t2 : ¬ (8 : Int) < k := by omega
  have t3 : ¬ (c : Int) < 0 := by omega
  have t4 : ¬ (2 : Int) < c := by omega
  have t5 : ¬ x < 1 := by omega
  have t6 : ¬ 5 < x := by omega
  have hlt : ¬ (s : Int) < (K : Int) := by omega
  have n1 := ok.hi
  have HE := Lib.hid he
  have HQ := Lib.hid (And.intro ok (And.intro k8 (And.intro hr hx')))
  clear ok hk k8 c2 hx hx' hs hK hc he hr
  go_enter Tryz.func54, Tryz.ntmps54
  go_wp2_with fail
  refine hS.mono ?_
  rintro e w1 ⟨rfl, hb1⟩
  have HM := Lib.hid (h.call hb1)
  have c0 := HM.out.c0
  have hT := refKTake_any HM.out.kin n1 k c
  rw [HE.out.1, HE.out.2.1, HE.out.2.2.1, HE.out.2.2.2] at hT
  have hZ1 := hZ w1
  have HB := Lib.hid hb1
  clear hb1 hS hZ h
  go_wp2_with (go_at_call 33; (with_reducible refine hZ1.mono ?_); rintro e w2 ⟨rfl, rfl⟩)
  refine hT.mono ?_
  rintro e w3 ⟨rfl, hR3, v1, v2, q1, q2, q3⟩
  have hf3 := took_foot q1 q2 q3
  have hM3 := HM.out.kinT hR3 hf3
  have HF3 : Hid (Foot (MineR r v) w w3) := (Foot.of_below HB.out).trans (foot_hy hf3) fun _ e _ => e
  clear hR3 q1 q2 q3 hf3 c0 hT
  have hG := rgiven_any hM3 HQ.out.1.i (by have := HQ.out.1.n8; omega) n1 HQ.out.2.1 HQ.out.2.2.1 x
  rw [if_neg (by have := HQ.out.2.2.2; omega)] at hG
  clear hM3
  go_wp2_with fail
  refine hG.mono ?_
  rintro e w4 ⟨rfl, hM4, hf4⟩
  have HD : Hid (RDid B r v n mk (gvM M F' S' f k x) w w4) := ⟨v, hM4, HF3.out.trans hf4 (fun _ e _ => e), Or.inl rfl⟩
  clear hM4 hf4 hG
  go_wp2_with fail
  go_ret2
  exact ⟨rfl, HD.out⟩
theorem kt_val {F : List Bool} {S : List Nat} {o kd : Int} (h : ktE F S o kd ≠ 0) : ktV F S o kd = 0 := (kt_no h).1
theorem rblock_any (h : RmX B w r v n mk M) (ok : MeOk n M) (hk : mk ≤ n) (o kd x : Int) : Calls Tryz.prog 54 #[.pointer (some ⟨r.x, 0, none⟩), .int .i64 o, .int .i64 kd, .int .i64 x] w fun e w' => e = .returned (.tuple #[.int .i64 (blV M mk o kd x), .int .i64 (blE M mk o kd x)]) ∧ RDid B r v n mk (blM M mk o kd x) w w' := by
  by_cases hb : okB o kd = false ∨ isU x = false
  · have he : blE M mk o kd x = 2 := by unfold blE; rw [if_pos hb]
    have hv : blV M mk o kd x = 0 := by unfold blV; rw [he, if_neg (by decide)]
    have hm : blM M mk o kd x = M := by unfold blM; rw [he, if_neg (by decide)]
    rw [he, hv, hm]
    refine (rblock_bad r w hb).mono ?_
    rintro e w' ⟨rfl, rfl⟩
    exact ⟨rfl, RDid.same h (Below.refl _ _)⟩
  · have hx : isU x = true := by cases c : isU x; exact absurd (Or.inr c) hb; rfl
    have ho : okB o kd = true := by cases c : okB o kd; exact absurd (Or.inl c) hb; rfl
    have ho' := of_decide_eq_true ho
    obtain ⟨k, rfl⟩ : ∃ k : Nat, o = k := ⟨o.toNat, by omega⟩
    obtain ⟨c, rfl⟩ : ∃ c : Nat, kd = c := ⟨kd.toNat, by omega⟩
    by_cases hc : spN M mk < 2 ^ k
    · have he : blE M mk k c x = 8 := by unfold blE; rw [if_neg hb, Int.toNat_natCast, if_pos (by omega)]
      have hv : blV M mk k c x = 0 := by unfold blV; rw [he, if_neg (by decide)]
      have hm : blM M mk k c x = M := by unfold blM; rw [he, if_neg (by decide)]
      rw [he, hv, hm]
      refine (rblock_few h ok hk (by omega) (by omega) hx hc).mono ?_
      rintro e w' ⟨rfl, hb⟩
      exact ⟨rfl, RDid.same h hb⟩
    · have he : blE M mk k c x = ktE M.F M.S k c := by unfold blE; rw [if_neg hb, Int.toNat_natCast, if_neg (by omega)]
      by_cases hE : ktE M.F M.S k c = 0
      · obtain ⟨k', f, c', q1, q2, q3, q4, hv, hr, hq, hF⟩ := kt_ok hE
        obtain rfl : k = k' := by omega
        obtain rfl : c = c' := by omega
        have hv2 : blV M mk k c x = f := by unfold blV; rw [he, if_pos hE, hv]
        have hm : blM M mk k c x = gvM M (ktF M.F M.S k c) (ktS M.F M.S k c) f k x := by unfold blM; rw [he, if_pos hE, hv, Int.toNat_natCast, Int.toNat_natCast]
        rw [he, hE, hv2, hm]
        exact rblock_ok h ok hk q3 q4 hx hc (by rw [← ok.f]; exact hr) ⟨hv, hE, rfl, rfl⟩
      · obtain ⟨n1, n2, n3⟩ := kt_no hE
        have hv2 : blV M mk k c x = 0 := by unfold blV; rw [he, if_neg hE]
        have hm : blM M mk k c x = M := by unfold blM; rw [he, if_neg hE]
        rw [he, hv2, hm]
        exact rblock_none h ok hk (by omega) (by omega) hx hc hE ⟨n1, rfl, n2, n3⟩
set_option maxHeartbeats 4000000 in
set_option maxRecDepth 100000 in
theorem rat_no (h : RmX B w r v n mk M) {f o : Int} (hf : Fits f) {x : Int} (hx : isU x = true) {E : Int} (hE : E ≠ 0) (he : chE M.F f o false = E ∧ chL M.F f o false = M.F) : Calls Tryz.prog 55 #[.pointer (some ⟨r.x, 0, none⟩), .int .i64 f, .int .i64 o, .int .i64 x] w fun e w' => e = .returned (.int .i64 E) ∧ RDid B r v n mk M w w' := by
  have hx' := isU_iff.1 hx
  have t5 : ¬ x < 1 := by omega
  have t6 : ¬ 5 < x := by omega
  have hT := refChange_any h.kin.ref f o hf.1 hf.2 false
  rw [he.1, he.2] at hT
  have c0 := h.c0
  have z0 := h.kin.c0
  have H := Lib.hid h
  have hE' : (E == 0) = false := by simpa using hE
  clear h hf he hE hx hx'
  go_enter Tryz.func55, Tryz.ntmps55
  go_wp2_with fail
  refine hT.mono ?_
  rintro e w3 ⟨rfl, hR3, hg3⟩
  have HD : Hid (RDid B r v n mk M w w3) := ⟨v, H.out.frmT (H.out.kin.refGrown hg3 hR3) hg3, foot_y hg3, Or.inl rfl⟩
  clear hR3 hg3 hT c0 z0
  go_wp2_with fail
  go_ret
  exact ⟨rfl, HD.out⟩
set_option maxHeartbeats 4000000 in
set_option maxRecDepth 100000 in
theorem rat_ok (h : RmX B w r v n mk M) (ok : MeOk n M) {f k : Nat} (k8 : k ≤ 8) (hr : f + 2 ^ k ≤ n) {x : Int} (hx : isU x = true) {F' : List Bool} (he : chE M.F f k false = 0 ∧ chL M.F f k false = F') : Calls Tryz.prog 55 #[.pointer (some ⟨r.x, 0, none⟩), .int .i64 f, .int .i64 k, .int .i64 x] w fun e w' => e = .returned (.int .i64 0) ∧ RDid B r v n mk (gvM M F' M.S f k x) w w' := by
  have hx' := isU_iff.1 hx
  have t5 : ¬ x < 1 := by omega
  have t6 : ¬ 5 < x := by omega
  have hT := refChange_any h.kin.ref f k (by omega) (by have := ok.hi; have := Nat.le_trans (Nat.le_add_right f (2 ^ k)) hr; omega) false
  rw [he.1, he.2] at hT
  have c0 := h.c0
  have z0 := h.kin.c0
  have H := Lib.hid (And.intro h ok)
  have HQ := Lib.hid (And.intro k8 (And.intro hr hx'))
  clear h ok he k8 hr hx hx'
  go_enter Tryz.func55, Tryz.ntmps55
  go_wp2_with fail
  refine hT.mono ?_
  rintro e w3 ⟨rfl, hR3, hg3⟩
  have hM3 := H.out.1.frmT (H.out.1.kin.refGrown hg3 hR3) hg3
  have HF3 : Hid (Foot (MineR r v) w w3) := foot_y hg3
  have hG := rgiven_any hM3 H.out.2.i (by have := H.out.2.n8; omega) H.out.2.hi HQ.out.1 HQ.out.2.1 x
  rw [if_neg (by have := HQ.out.2.2; omega)] at hG
  clear hR3 hg3 hT c0 z0 hM3
  go_wp2_with fail
  refine hG.mono ?_
  rintro e w4 ⟨rfl, hM4, hf4⟩
  have HD : Hid (RDid B r v n mk (gvM M F' M.S f k x) w w4) := ⟨v, hM4, HF3.out.trans hf4 (fun _ e _ => e), Or.inl rfl⟩
  clear hM4 hf4 hG
  go_wp2_with fail
  go_ret
  exact ⟨rfl, HD.out⟩
set_option maxHeartbeats 4000000 in
set_option maxRecDepth 100000 in
theorem rdrop_no (h : RmX B w r v n mk M) {f o : Int} (hf : Fits f) {E : Int} (hE : E ≠ 0) (he : chE M.F f o true = E ∧ chL M.F f o true = M.F) : Calls Tryz.prog 56 #[.pointer (some ⟨r.x, 0, none⟩), .int .i64 f, .int .i64 o] w fun e w' => e = .returned (.int .i64 E) ∧ RDid B r v n mk M w w' := by
  have hT := refChange_any h.kin.ref f o hf.1 hf.2 true
  rw [he.1, he.2] at hT
  have c0 := h.c0
  have z0 := h.kin.c0
  have H := Lib.hid h
  have hE' : (E == 0) = false := by simpa using hE
  clear h hf he hE
  go_enter Tryz.func56, Tryz.ntmps56
  go_wp2_with fail
  refine hT.mono ?_
  rintro e w3 ⟨rfl, hR3, hg3⟩
  have HD : Hid (RDid B r v n mk M w w3) := ⟨v, H.out.frmT (H.out.kin.refGrown hg3 hR3) hg3, foot_y hg3, Or.inl rfl⟩
  clear hR3 hg3 hT c0 z0
  go_wp2_with fail
  go_ret
  exact ⟨rfl, HD.out⟩
set_option maxHeartbeats 4000000 in
set_option maxRecDepth 100000 in
theorem rdrop_ok (h : RmX B w r v n mk M) (ok : MeOk n M) {f k : Nat} (k8 : k ≤ 8) (hr : f + 2 ^ k ≤ n) {F' : List Bool} (he : chE M.F f k true = 0 ∧ chL M.F f k true = F') : Calls Tryz.prog 56 #[.pointer (some ⟨r.x, 0, none⟩), .int .i64 f, .int .i64 k] w fun e w' => e = .returned (.int .i64 0) ∧ RDid B r v n mk ⟨F', M.S, putF M.I f (2 ^ k) 0, M.W⟩ w w' := by
  have hT := refChange_any h.kin.ref f k (by omega) (by have := ok.hi; have := Nat.le_trans (Nat.le_add_right f (2 ^ k)) hr; omega) true
  rw [he.1, he.2] at hT
  have c0 := h.c0
  have z0 := h.kin.c0
  have H := Lib.hid (And.intro h ok)
  have HQ := Lib.hid (And.intro k8 hr)
  clear h ok he k8 hr
  go_enter Tryz.func56, Tryz.ntmps56
  go_wp2_with fail
  refine hT.mono ?_
  rintro e w3 ⟨rfl, hR3, hg3⟩
  have hM3 := H.out.1.frmT (H.out.1.kin.refGrown hg3 hR3) hg3
  have HF3 : Hid (Foot (MineR r v) w w3) := foot_y hg3
  have hG := rgiven_any hM3 H.out.2.i (by have := H.out.2.n8; omega) H.out.2.hi HQ.out.1 HQ.out.2 0
  rw [if_pos rfl] at hG
  clear hR3 hg3 hT c0 z0 hM3
  go_wp2_with fail
  refine hG.mono ?_
  rintro e w4 ⟨rfl, hM4, hf4⟩
  have HD : Hid (RDid B r v n mk ⟨F', M.S, putF M.I f (2 ^ k) 0, M.W⟩ w w4) := ⟨v, hM4, HF3.out.trans hf4 (fun _ e _ => e), Or.inl rfl⟩
  clear hM4 hf4 hG
  go_wp2_with fail
  go_ret
  exact ⟨rfl, HD.out⟩
set_option maxHeartbeats 4000000 in
set_option maxRecDepth 100000 in
theorem rat_bad (r : Rn) (w : World) (f o : Int) {x : Int} (hx : isU x = false) : Calls Tryz.prog 55 #[.pointer (some ⟨r.x, 0, none⟩), .int .i64 f, .int .i64 o, .int .i64 x] w fun e w' => e = .returned (.int .i64 2) ∧ w = w' := by
  rcases (show x < 1 ∨ (¬ x < 1 ∧ 5 < x) by unfold isU at hx; have := of_decide_eq_false hx; omega) with c1 | ⟨c1, c2⟩
  all_goals
    clear hx
    go_enter Tryz.func55, Tryz.ntmps55
    go_wp2_with fail
    go_ret
    exact ⟨rfl, rfl⟩
theorem rat_any (h : RmX B w r v n mk M) (ok : MeOk n M) {f : Int} (hf : Fits f) (o x : Int) : Calls Tryz.prog 55 #[.pointer (some ⟨r.x, 0, none⟩), .int .i64 f, .int .i64 o, .int .i64 x] w fun e w' => e = .returned (.int .i64 (atE M f o x)) ∧ RDid B r v n mk (atM M f o x) w w' := by
  cases hx : isU x
  · have he : atE M f o x = 2 := by unfold atE; rw [if_pos hx]
    have hm : atM M f o x = M := by unfold atM; rw [he, if_neg (by decide)]
    rw [he, hm]
    refine (rat_bad r w f o hx).mono ?_
    rintro e w' ⟨rfl, rfl⟩
    exact ⟨rfl, RDid.same h (Below.refl _ _)⟩
  · have he : atE M f o x = chE M.F f o false := by unfold atE; rw [hx, if_neg (by decide)]
    by_cases hE : chE M.F f o false = 0
    · obtain ⟨a, k, rfl, rfl, k8, al, hr, hq, hc⟩ := chE_ok hE
      have hm : atM M a k x = gvM M (chL M.F a k false) M.S a k x := by unfold atM; rw [he, if_pos hE, Int.toNat_natCast, Int.toNat_natCast]
      rw [he, hE, hm]
      exact rat_ok h ok k8 (by rw [← ok.f]; exact hr) hx ⟨hE, rfl⟩
    · have hm : atM M f o x = M := by unfold atM; rw [he, if_neg hE]
      rw [he, hm]
      exact rat_no h hf hx hE ⟨rfl, ch_no hE⟩
theorem rdrop_any (h : RmX B w r v n mk M) (ok : MeOk n M) {f : Int} (hf : Fits f) (o : Int) : Calls Tryz.prog 56 #[.pointer (some ⟨r.x, 0, none⟩), .int .i64 f, .int .i64 o] w fun e w' => e = .returned (.int .i64 (drE M f o)) ∧ RDid B r v n mk (drM M f o) w w' := by
  by_cases hE : chE M.F f o true = 0
  · obtain ⟨a, k, rfl, rfl, k8, al, hr, hq, hc⟩ := chE_ok hE
    have hm : drM M a k = ⟨chL M.F a k true, M.S, putF M.I a (2 ^ k) 0, M.W⟩ := by unfold drM drE; rw [if_pos hE, Int.toNat_natCast, Int.toNat_natCast]
    rw [show drE M a k = 0 from hE, hm]
    exact rdrop_ok h ok k8 (by rw [← ok.f]; exact hr) ⟨hE, rfl⟩
  · have hm : drM M f o = M := by unfold drM drE; rw [if_neg hE]
    rw [hm]
    exact rdrop_no h hf hE ⟨rfl, ch_no hE⟩
end
end Go.Proofs.YtklhcgekagimkaaGreat
