/- Areas: pieces, covers, whether one is great; what becomes of the object. -/
import Derived.Test.YtodepfgfgphkbaaW9
namespace Go.Proofs.Ytodepfgfgphkbaa
open Go.RowKit
section
variable {B c xa : Nat} {w w' : World} {A : Option Addr} {l : List Ar} {P Q : Int → Pg}
/-- A list and an error, nothing changed. -/
def ToldE (er : Int) (R : List Ar) (w : World) (e : Ending) (w' : World) : Prop := ∃ A c, e = .returned (.tuple #[.slice A R.length c, .int .i64 er]) ∧ EAr.Own w.heap.size w' (.slice A R.length c) R ∧ Below w.heap.size w w'
theorem own_nil (B : Nat) (w : World) : EAr.Own B w (.slice none 0 0) [] := ⟨rfl, Or.inl ⟨rfl, rfl⟩⟩
theorem pieces_no (xa : Nat) (w : World) {a n : Int} (ha : Fits a) (hn : Fits n) (hr : rtI a n 0 ≠ 0) : Calls Try.prog 19 #[.pointer (some ⟨xa, 0, none⟩), .int .i64 a, .int .i64 n] w (ToldE (rtI a n 0) [] w) := by
  have hwr := fun w => wrong_pr xa ha hn w
  obtain ⟨er, her⟩ : ∃ er, er = rtI a n 0 := ⟨_, rfl⟩
  rw [← her] at hwr hr ⊢
  have h0 : (er != 0) = true := by simpa using hr
  clear her ha hn
  go_enter Try.func19, Try.ntmps19
  go_wp2_with (go_at_call 37; (with_reducible refine (hwr _).mono ?_); rintro e w1 ⟨rfl, rfl⟩)
  go_ret2
  exact ⟨none, 0, rfl, own_nil _ _, Below.refl _ _⟩
theorem pieces_ok (h : AtX B w xa A c l P) {a n : Nat} (hr : rtI a n 0 = 0) : Calls Try.prog 19 #[.pointer (some ⟨xa, 0, none⟩), .int .i64 a, .int .i64 n] w (ToldE 0 (pcs P a n) w) := by
  obtain ⟨h1, h2, h3⟩ := rt_in hr
  have hwr := fun w => wrong_pr xa (a := a) (n := n) ⟨by omega, by omega⟩ ⟨by omega, by omega⟩ w
  rw [hr] at hwr
  have hp := pieces_pr h.own (fun x hx => h.wh.bound hx) h.len (a := a) (n := n) (by omega)
  rw [h.wh.pieces (by omega)] at hp
  have c0 := h.c0
  generalize pcs P a n = R at hp ⊢
  generalize l.length = m at hp c0
  clear h hr h1 h2 h3
  go_enter Try.func19, Try.ntmps19
  go_wp2_with (go_at_call 37; (with_reducible refine (hwr _).mono ?_); rintro e w1 ⟨rfl, rfl⟩)
  refine hp.mono ?_
  rintro e w1 ⟨A', c', rfl, ho, hb⟩
  have HO := Lib.hid ho
  have HB := Lib.hid hb
  clear hp ho hb
  go_wp2_with fail
  go_ret2
  exact ⟨A', c', rfl, HO.out, HB.out⟩
theorem sum_take (R : List Ar) {j : Nat} (h : j < R.length) : sumL (R.take (j + 1)) = sumL (R.take j) + (R[j].t - R[j].f) := by
  rw [List.take_succ_eq_append_getElem h, sumL_append]
  show _ + (R[j].t - R[j].f + 0) = _
  omega
set_option maxRecDepth 100000 in
set_option maxHeartbeats 1000000 in
theorem covers_ok (h : AtX B w xa A c l P) {a n : Nat} (hr : rtI a n 0 = 0) : Calls Try.prog 23 #[.pointer (some ⟨xa, 0, none⟩), .int .i64 a, .int .i64 n] w fun e w' => e = .returned (.bool (covB P a n)) ∧ Below w.heap.size w w' := by
  obtain ⟨h1, h2, h3⟩ := rt_in hr
  have hp := pieces_ok h hr
  have HC : Hid (decide ((n : Int) - sumL (pcs P a n) = 0) = covB P a n) := cov_sum h.wh.ok a n
  have HS : Hid (∀ x ∈ pcs P a n, ArS x) := fun x hx => (pcs_bound h.wh.ok a n hx).1
  have hl4 : (pcs P a n).length ≤ 4096 := Nat.le_trans (pcs_is h.wh.ok.ok a n).len (by omega)
  obtain ⟨R, hR⟩ : ∃ R, R = pcs P a n := ⟨_, rfl⟩
  rw [← hR] at hp HC HS hl4
  obtain ⟨m, hm⟩ : ∃ m, m = R.length := ⟨_, rfl⟩
  unfold ToldE at hp
  rw [← hm] at hp hl4
  have HM := Lib.hid hm
  have n4 : (n : Int) ≤ 4096 := by omega
  clear h hr h1 h2 h3 hR hm
  go_enter Try.func23, Try.ntmps23
  go_wp2_with fail
  refine hp.mono ?_
  rintro e w1 ⟨A', c', rfl, ho, hb⟩
  have HO := Lib.hid (LsD.of (D := w1.heap.size) (l := R) (by rw [HM.out] at ho; exact ho) (Nat.le_refl _))
  have HB := Lib.hid hb
  clear hp ho hb
  go_wp2_with fail
  go_loopw [2, 22] (fun s i wr => ∃ (j : Nat) (k : Int), j ≤ m ∧ s = .int .i64 k ∧ i = .int .i64 j ∧ k = (n : Int) - sumL (R.take j) ∧ k ≤ 4096 ∧ -4096 * (j : Int) ≤ k ∧ Below w1.heap.size w1 wr) (fun _ i _ => m - (RowKit.intOf i).toNat)
  case atStart => exact ⟨0, n, Nat.zero_le _, rfl, rfl, by show (n : Int) = n - 0; omega, n4, by omega, Below.refl _ _⟩
  case round =>
    obtain ⟨j, k, hj, rfl, rfl, hk, hk4, hkl, hwr⟩ := hrel
    by_cases hlt : j < m
    · have hjl : j < R.length := by rw [← HM.out]; exact hlt
      obtain ⟨g, eA, hg, hat⟩ := HO.out.below hwr (by omega)
      subst eA
      obtain ⟨d0, d1, d2, d3, d4, d5⟩ := ar_at (hat j hjl)
      obtain ⟨x, hx⟩ : ∃ x, x = R[j] := ⟨_, rfl⟩
      have hs : ArS x := by rw [hx]; exact HS.out _ (List.getElem_mem hjl)
      have HN := Lib.hid (sum_take R hjl)
      rw [← hx] at d0 d1 d2 d3 d4 d5 HN
      obtain ⟨f, t, hh, p, o, z⟩ := x
      obtain ⟨s1, s2, s3, _, _⟩ := hs
      dsimp only at d0 d1 d2 d3 d4 d5 s1 s2 s3
      have j0 : (0 : Int) ≤ j := by omega
      have j1 : (j : Int) < m := by omega
      have w1 : IntKind.i64.wrap (t - f) = t - f := IntWalk.i64_in _ (by omega)
      have w2 : IntKind.i64.wrap (k - (t - f)) = k - (t - f) := IntWalk.i64_in _ (by omega)
      have HW := Lib.hid (hwr.trans ((below_new wr (.cells #[.int .i64 f, .int .i64 t, .int .i64 hh, .int .i64 p, .int .i64 o, .int .i64 z] 33)).mono hwr.size))
      have HK := Lib.hid (And.intro hk (And.intro hk4 (And.intro hkl (And.intro s1 (And.intro s2 s3)))))
      clear hat hg hx hwr hk hk4 hkl s1 s2 s3
      go_wp2_with fail
      go_roundw
      case rel => exact ⟨j + 1, k - (t - f), by omega, rfl, by go_num, by have := HN.out; have := HK.out.1; dsimp only at *; omega, by have := HK.out; omega, by have := HK.out; omega, HW.out⟩
      case measure => simp [RowKit.intOf]; omega
    · obtain rfl : j = m := by omega
      have HK : Hid (decide (k = 0) = covB P a n) := by
        show _ = _
        rw [← HC.out, hk, List.take_of_length_le (by rw [← HM.out]; exact Nat.le_refl _)]
      have HW := Lib.hid (HB.out.trans (hwr.mono HB.out.size))
      clear hk hk4 hkl hwr
      go_wp2_with fail
      go_ret
      exact ⟨ret_bool (by rw [← HK.out]; first | rfl | (trace_state; simp)), HW.out⟩
/-- Which is the first that is great. -/
theorem index_ok {D : Nat} {R : List Ar} (h : LsD D w A R) (hD : D ≤ w.heap.size) (hl : R.length ≤ 100000) : Calls Try.prog 62 #[.slice A R.length c, .func (.func 48) #[] #[]] w fun e w' => ∃ r : Int, e = .returned (.int .i64 r) ∧ decide (0 ≤ r) = (R.any fun x => decide (1 < szO x.h)) ∧ Below w.heap.size w w' := by
  obtain ⟨m, hm⟩ : ∃ m, m = R.length := ⟨_, rfl⟩
  rw [← hm] at hl ⊢
  have HO := Lib.hid h
  have HM := Lib.hid hm
  clear h hm
  go_enter Try.func62, Try.ntmps62
  go_wp2_with fail
  go_loopw [8] (fun i wr => ∃ j : Nat, j ≤ m ∧ i = .int .i64 j ∧ ((R.take j).any fun x => decide (1 < szO x.h)) = false ∧ Below w.heap.size w wr) (fun i _ => m - (RowKit.intOf i).toNat)
  case atStart => exact ⟨0, Nat.zero_le _, rfl, rfl, Below.refl _ _⟩
  case round =>
    obtain ⟨j, hj, rfl, hk, hwr⟩ := hrel
    by_cases hlt : j < m
    · have hjl : j < R.length := by rw [← HM.out]; exact hlt
      obtain ⟨g, eA, hg, hat⟩ := HO.out.below (hwr.mono hD) (by omega)
      subst eA
      obtain ⟨d0, d1, d2, d3, d4, d5⟩ := ar_at (hat j hjl)
      have HT : Hid (R.take (j + 1) = R.take j ++ [R[j]]) := List.take_succ_eq_append_getElem hjl
      have HD : Hid (R = R.take j ++ R[j] :: R.drop (j + 1)) := by show _ = _; rw [← List.drop_eq_getElem_cons hjl, List.take_append_drop]
      obtain ⟨x, hx⟩ : ∃ x, x = R[j] := ⟨_, rfl⟩
      rw [← hx] at d0 d1 d2 d3 d4 d5 HT HD
      have hgr := fun w => isGreat_is x w
      obtain ⟨b, hb⟩ : ∃ b, b = decide (1 < szO x.h) := ⟨_, rfl⟩
      rw [← hb] at hgr
      have HBB := Lib.hid hb
      obtain ⟨f, t, hh, p, o, z⟩ := x
      dsimp only at d0 d1 d2 d3 d4 d5
      change ∀ w, Calls Try.prog _ #[.agg #[.int .i64 f, .int .i64 t, .int .i64 hh, .int .i64 p, .int .i64 o, .int .i64 z]] w (fun e w' => e = .returned (.bool b) ∧ Below w.heap.size w w') at hgr
      have j0 : (0 : Int) ≤ j := by omega
      have j1 : (j : Int) < m := by omega
      have HW := Lib.hid hwr
      have HK := Lib.hid hk
      clear hat hg hx hwr hk hb
      cases b
      · go_wp2_with (go_at_call 48; refine (hgr _).mono ?_; rintro e w1 ⟨rfl, hb1⟩)
        go_roundw
        case rel =>
          refine ⟨j + 1, by omega, by go_num, ?_, HW.out.trans (hb1.mono HW.out.size)⟩
          rw [HT.out, List.any_append, HK.out]
          simp only [List.any_cons, List.any_nil, Bool.or_false, Bool.false_or]
          exact HBB.out.symm
        case measure => simp [RowKit.intOf]; omega
      · go_wp2_with (go_at_call 48; refine (hgr _).mono ?_; rintro e w1 ⟨rfl, hb1⟩)
        go_ret
        refine ⟨j, rfl, ?_, HW.out.trans (hb1.mono HW.out.size)⟩
        rw [HD.out, List.any_append, List.any_cons, ← HBB.out, decide_eq_true j0]
        simp
    · obtain rfl : j = m := by omega
      rw [List.take_of_length_le (by rw [← HM.out]; exact Nat.le_refl _)] at hk
      have HK := Lib.hid hk
      have HW := Lib.hid hwr
      clear hk hwr
      go_wp2_with fail
      go_ret
      exact ⟨-1, rfl, by rw [HK.out]; rfl, HW.out⟩
theorem great_ok {D : Nat} {R : List Ar} (h : LsD D w A R) (hD : D ≤ w.heap.size) (hl : R.length ≤ 100000) : Calls Try.prog 36 #[.slice A R.length c] w fun e w' => e = .returned (.bool (R.any fun x => decide (1 < szO x.h))) ∧ Below w.heap.size w w' := by
  have hi := index_ok (c := c) h hD hl
  have hc : Calls Try.prog 47 #[.slice A R.length c, .func (.func 48) #[] #[]] w fun e w' => e = .returned (.bool (R.any fun x => decide (1 < szO x.h))) ∧ Below w.heap.size w w' := by
    generalize (R.any fun x => decide (1 < szO x.h)) = b at hi ⊢
    generalize R.length = m at hi ⊢
    clear h hl hD
    go_enter Try.func47, Try.ntmps47
    go_wp2_with fail
    refine hi.mono ?_
    rintro e w1 ⟨r, rfl, hr, hb⟩
    have HR := Lib.hid hr
    clear hi hr
    go_wp2_with fail
    go_ret
    exact ⟨ret_bool (by rw [← HR.out]), hb⟩
  clear hi h hl hD
  go_enter Try.func36, Try.ntmps36
  go_wp2_with fail
  refine hc.mono ?_
  rintro e w1 ⟨rfl, hb⟩
  clear hc
  go_wp2_with fail
  go_ret
  exact ⟨rfl, hb⟩
/-- What a call has done to the object. -/
def DidA (B : Nat) (w : World) (xa : Nat) (Q : Int → Pg) (w' : World) : Prop := (∃ A c l, AtX B w' xa A c l Q) ∧ Foot (fun k => k = xa) w w'
theorem DidA.pre {W : World} (h : Below W.heap.size W w) (d : DidA B w xa Q w') : DidA B W xa Q w' := ⟨d.1, (Foot.of_below (X := fun k => k = xa) h).trans d.2 (fun _ hb _ => hb)⟩
theorem become_pr (h : AtX B w xa A c l P) {D : Nat} {A' : Option Addr} {c' : Nat} {R : List Ar} (ho : EAr.Own D w (.slice A' R.length c') R) (hD : B ≤ D) (hQ : Whole Q R) :
    Calls Try.prog 32 #[.pointer (some ⟨xa, 0, none⟩), .slice A' R.length c'] w fun e w' => e = .returned (.int .i64 (if fullB Q = true then 13 else 0)) ∧ DidA B w xa (if fullB Q = true then P else Q) w' := by
  have hfull : fullB Q = decide (64 < R.length) := by unfold fullB; rw [hQ.all]
  rw [hfull]
  have c0 := h.c0
  have fz := h.top.frozen 0
  have hset := h.top.set_ 0 (.slice A' R.length c')
  have HY : Hid (DidA B w xa Q (w.setCell ⟨xa, 0, none⟩ (.slice A' R.length c'))) := by
    refine ⟨⟨A', c', R, ⟨hset, ?_, hQ, h.lo, by have := h.lw; simpa [World.setCell] using this⟩⟩, Foot.grown (X := fun k => k = xa) (grown_set w xa 0 _) rfl⟩
    refine (ho.base hD).heap fun g e => ?_
    obtain ⟨vs, r, _⟩ := ho.block e
    exact Below.heap_setCell w _ _ g (r.apart h.top (by decide))
  have HN : Hid (DidA B w xa P w) := ⟨⟨A, c, l, h⟩, Foot.refl _ _⟩
  generalize R.length = m at c0 HY ⊢
  clear hfull hset h ho hQ
  by_cases hm : 64 < m
  · have hm' : (64 : Int) < m := by omega
    rw [decide_eq_true hm, if_pos rfl, if_pos rfl]
    go_enter Try.func32, Try.ntmps32
    go_wp2_with fail
    go_ret
    exact ⟨rfl, HN.out⟩
  · have hm' : ¬ (64 : Int) < m := by omega
    rw [decide_eq_false hm, if_neg (by decide), if_neg (by decide)]
    go_enter Try.func32, Try.ntmps32
    go_wp2_with fail
    go_ret
    exact ⟨rfl, HY.out⟩
end
end Go.Proofs.Ytodepfgfgphkbaa
