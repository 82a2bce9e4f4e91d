/- Areas: pieces, covers, whether one is great; what becomes of the object. -/
import Derived.Test.YtnppnoabhpkmkaaGreatMg07
namespace Go.Proofs.YtnppnoabhpkmkaaGreat
open Go.RowKit
section
variable {B c xa : Nat} {w w' : World} {A : Option Addr} {l : List Ar} {P Q : Int → Pg}
/-- A list and an error, nothing changed. -/
def ToldE (er : Int) (R : List Ar) (w : World) (e : Ending) (w' : World) : Prop := ∃ A c, e = .returned (.tuple #[.slice A R.length c, .int .i64 er]) ∧ EAr.Own w.heap.size w' (.slice A R.length c) R ∧ Below w.heap.size w w'
theorem own_nil (B : Nat) (w : World) : EAr.Own B w (.slice none 0 0) [] := ⟨rfl, Or.inl ⟨rfl, rfl⟩⟩
theorem pieces_no (xa : Nat) (w : World) {a n : Int} (ha : Fits a) (hn : Fits n) (hr : rtI a n 0 ≠ 0) : Calls Tryz.prog 91 #[.pointer (some ⟨xa, 0, none⟩), .int .i64 a, .int .i64 n] w (ToldE (rtI a n 0) [] w) := by
  have hwr := fun w => wrong_pr xa ha hn w
  obtain ⟨er, her⟩ : ∃ er, er = rtI a n 0 := ⟨_, rfl⟩
  rw [← her] at hwr hr ⊢
  have h0 : (er != 0) = true := by simpa using hr
  clear her ha hn
  go_enter Tryz.func91, Tryz.ntmps91
  go_wp2_with (go_at_call 101; (with_reducible refine (hwr _).mono ?_); rintro e w1 ⟨rfl, rfl⟩)
  go_ret2
  exact ⟨none, 0, rfl, own_nil _ _, Below.refl _ _⟩
theorem pieces_ok (h : AtX B w xa A c l P) {a n : Nat} (hr : rtI a n 0 = 0) : Calls Tryz.prog 91 #[.pointer (some ⟨xa, 0, none⟩), .int .i64 a, .int .i64 n] w (ToldE 0 (pcs P a n) w) := by
  obtain ⟨h1, h2, h3⟩ := rt_in hr
  have hwr := fun w => wrong_pr xa (a := a) (n := n) ⟨by omega, by omega⟩ ⟨by omega, by omega⟩ w
  rw [hr] at hwr
  have hp := pieces_pr h.own (fun x hx => h.wh.bound hx) h.len (a := a) (n := n) (by omega)
  rw [h.wh.pieces (by omega)] at hp
  have c0 := h.c0
  generalize pcs P a n = R at hp ⊢
  generalize l.length = m at hp c0
  clear h hr h1 h2 h3
  go_enter Tryz.func91, Tryz.ntmps91
  go_wp2_with (go_at_call 101; (with_reducible refine (hwr _).mono ?_); rintro e w1 ⟨rfl, rfl⟩)
  refine hp.mono ?_
  rintro e w1 ⟨A', c', rfl, ho, hb⟩
  have HO := Lib.hid ho
  have HB := Lib.hid hb
  clear hp ho hb
  go_wp2_with fail
  go_ret2
  exact ⟨A', c', rfl, HO.out, HB.out⟩
theorem sum_take (R : List Ar) {j : Nat} (h : j < R.length) : sumL (R.take (j + 1)) = sumL (R.take j) + (R[j].t - R[j].f) := by
  rw [List.take_succ_eq_append_getElem h, sumL_append]
  show _ + (R[j].t - R[j].f + 0) = _
  omega
set_option maxRecDepth 100000 in
set_option maxHeartbeats 1000000 in
theorem covers_ok (h : AtX B w xa A c l P) {a n : Nat} (hr : rtI a n 0 = 0) : Calls Tryz.prog 72 #[.pointer (some ⟨xa, 0, none⟩), .int .i64 a, .int .i64 n] w fun e w' => e = .returned (.bool (covB P a n)) ∧ Below w.heap.size w w' := by
  obtain ⟨h1, h2, h3⟩ := rt_in hr
  have hp := pieces_ok h hr
  have HC : Hid (decide ((n : Int) - sumL (pcs P a n) = 0) = covB P a n) := cov_sum h.wh.ok a n
  have HS : Hid (∀ x ∈ pcs P a n, ArS x) := fun x hx => (pcs_bound h.wh.ok a n hx).1
  have hl4 : (pcs P a n).length ≤ 4096 := Nat.le_trans (pcs_is h.wh.ok.ok a n).len (by omega)
  obtain ⟨R, hR⟩ : ∃ R, R = pcs P a n := ⟨_, rfl⟩
  rw [← hR] at hp HC HS hl4
  obtain ⟨m, hm⟩ : ∃ m, m = R.length := ⟨_, rfl⟩
  unfold ToldE at hp
  rw [← hm] at hp hl4
  have HM := Lib.hid hm
  have n4 : (n : Int) ≤ 4096 := by omega
  clear h hr h1 h2 h3 hR hm
  go_enter Tryz.func72, Tryz.ntmps72
  go_wp2_with fail
  refine hp.mono ?_
  rintro e w1 ⟨A', c', rfl, ho, hb⟩
  have HO := Lib.hid (LsD.of (D := w1.heap.size) (l := R) (by rw [HM.out] at ho; exact ho) (Nat.le_refl _))
  have HB := Lib.hid hb
  clear hp ho hb
  go_wp2_with fail
  go_loopw [2, 22] (fun s i wr => ∃ (j : Nat) (k : Int), j ≤ m ∧ s = .int .i64 k ∧ i = .int .i64 j ∧ k = (n : Int) - sumL (R.take j) ∧ k ≤ 4096 ∧ -4096 * (j : Int) ≤ k ∧ Below w1.heap.size w1 wr) (fun _ i _ => m - (RowKit.intOf i).toNat)
  case atStart => exact ⟨0, n, Nat.zero_le _, rfl, rfl, by show (n : Int) = n - 0; omega, n4, by omega, Below.refl _ _⟩
  case round =>
    obtain ⟨j, k, hj, rfl, rfl, hk, hk4, hkl, hwr⟩ := hrel
    by_cases hlt : j < m
    · have hjl : j < R.length := by rw [← HM.out]; exact hlt
      obtain ⟨g, eA, hg, hat⟩ := HO.out.below hwr (by omega)
      subst eA
      obtain ⟨d0, d1, d2, d3, d4, d5⟩ := ar_at (hat j hjl)
      obtain ⟨x, hx⟩ : ∃ x, x = R[j] := ⟨_, rfl⟩
      have hs : ArS x := by rw [hx]; exact HS.out _ (List.getElem_mem hjl)
      have HN := Lib.hid (sum_take R hjl)
      rw [← hx] at d0 d1 d2 d3 d4 d5 HN
      obtain ⟨f, t, hh, p, o, z⟩ := x
      obtain ⟨s1, s2, s3, _, _⟩ := hs
      dsimp only at d0 d1 d2 d3 d4 d5 s1 s2 s3
      have j0 : (0 : Int) ≤ j := by omega
      have j1 : (j : Int) < m := by omega
      have w1 : IntKind.i64.wrap (t - f) = t - f := IntWalk.i64_in _ (by omega)
      have w2 : IntKind.i64.wrap (k - (t - f)) = k - (t - f) := IntWalk.i64_in _ (by omega)
      have HW := Lib.hid (hwr.trans ((below_new wr (.cells #[.int .i64 f, .int .i64 t, .int .i64 hh, .int .i64 p, .int .i64 o, .int .i64 z] 93)).mono hwr.size))
      have HK := Lib.hid (And.intro hk (And.intro hk4 (And.intro hkl (And.intro s1 (And.intro s2 s3)))))
      clear hat hg hx hwr hk hk4 hkl s1 s2 s3
      go_wp2_with fail
      go_roundw
      case rel => exact ⟨j + 1, k - (t - f), by omega, rfl, by go_num, by have := HN.out; have := HK.out.1; dsimp only at *; omega, by have := HK.out; omega, by have := HK.out; omega, HW.out⟩
      case measure => simp [RowKit.intOf]; omega
    · obtain rfl : j = m := by omega
      have HK : Hid (decide (k = 0) = covB P a n) := by
        show _ = _
        rw [← HC.out, hk, List.take_of_length_le (by rw [← HM.out]; exact Nat.le_refl _)]
      have HW := Lib.hid (HB.out.trans (hwr.mono HB.out.size))
      clear hk hk4 hkl hwr
      go_wp2_with fail
      go_ret
      exact ⟨ret_bool (by rw [← HK.out]; first | rfl | (trace_state; simp)), HW.out⟩
/-- Which is the first that is great. -/
theorem index_ok {D : Nat} {R : List Ar} (h : LsD D w A R) (hD : D ≤ w.heap.size) (hl : R.length ≤ 100000) : Calls Tryz.prog 113 #[.slice A R.length c, .func (.func 114) #[] #[]] w fun e w' => ∃ r : Int, e = .returned (.int .i64 r) ∧ decide (0 ≤ r) = (R.any fun x => decide (1 < szO x.h)) ∧ Below w.heap.size w w' := by
  obtain ⟨m, hm⟩ : ∃ m, m = R.length := ⟨_, rfl⟩
  rw [← hm] at hl ⊢
  have HO := Lib.hid h
  have HM := Lib.hid hm
  clear h hm
  go_enter Tryz.func113, Tryz.ntmps113
  go_wp2_with fail
  go_loopw [8] (fun i wr => ∃ j : Nat, j ≤ m ∧ i = .int .i64 j ∧ ((R.take j).any fun x => decide (1 < szO x.h)) = false ∧ Below w.heap.size w wr) (fun i _ => m - (RowKit.intOf i).toNat)
  case atStart => exact ⟨0, Nat.zero_le _, rfl, rfl, Below.refl _ _⟩
  case round =>
    obtain ⟨j, hj, rfl, hk, hwr⟩ := hrel
    by_cases hlt : j < m
    · have hjl : j < R.length := by rw [← HM.out]; exact hlt
      obtain ⟨g, eA, hg, hat⟩ := HO.out.below (hwr.mono hD) (by omega)
      subst eA
      obtain ⟨d0, d1, d2, d3, d4, d5⟩ := ar_at (hat j hjl)
      have HT : Hid (R.take (j + 1) = R.take j ++ [R[j]]) := List.take_succ_eq_append_getElem hjl
      have HD : Hid (R = R.take j ++ R[j] :: R.drop (j + 1)) := by show _ = _; rw [← List.drop_eq_getElem_cons hjl, List.take_append_drop]
      obtain ⟨x, hx⟩ : ∃ x, x = R[j] := ⟨_, rfl⟩
      rw [← hx] at d0 d1 d2 d3 d4 d5 HT HD
      have hgr := fun w => isGreat_is x w
      obtain ⟨b, hb⟩ : ∃ b, b = decide (1 < szO x.h) := ⟨_, rfl⟩
      rw [← hb] at hgr
      have HBB := Lib.hid hb
      obtain ⟨f, t, hh, p, o, z⟩ := x
      dsimp only at d0 d1 d2 d3 d4 d5
      change ∀ w, Calls Tryz.prog _ #[.agg #[.int .i64 f, .int .i64 t, .int .i64 hh, .int .i64 p, .int .i64 o, .int .i64 z]] w (fun e w' => e = .returned (.bool b) ∧ Below w.heap.size w w') at hgr
      have j0 : (0 : Int) ≤ j := by omega
      have j1 : (j : Int) < m := by omega
      have HW := Lib.hid hwr
      have HK := Lib.hid hk
      clear hat hg hx hwr hk hb
      cases b
      · go_wp2_with (go_at_call 114; refine (hgr _).mono ?_; rintro e w1 ⟨rfl, hb1⟩)
        go_roundw
        case rel =>
          refine ⟨j + 1, by omega, by go_num, ?_, HW.out.trans (hb1.mono HW.out.size)⟩
          rw [HT.out, List.any_append, HK.out]
          simp only [List.any_cons, List.any_nil, Bool.or_false, Bool.false_or]
          exact HBB.out.symm
        case measure => simp [RowKit.intOf]; omega
      · go_wp2_with (go_at_call 114; refine (hgr _).mono ?_; rintro e w1 ⟨rfl, hb1⟩)
        go_ret
        refine ⟨j, rfl, ?_, HW.out.trans (hb1.mono HW.out.size)⟩
        rw [HD.out, List.any_append, List.any_cons, ← HBB.out, decide_eq_true j0]
        simp
    · obtain rfl : j = m := by omega
      rw [List.take_of_length_le (by rw [← HM.out]; exact Nat.le_refl _)] at hk
      have HK := Lib.hid hk
      have HW := Lib.hid hwr
      clear hk hwr
      go_wp2_with fail
      go_ret
      exact ⟨-1, rfl, by rw [HK.out]; rfl, HW.out⟩
theorem great_ok {D : Nat} {R : List Ar} (h : LsD D w A R) (hD : D ≤ w.heap.size) (hl : R.length ≤ 100000) : Calls Tryz.prog 99 #[.slice A R.length c] w fun e w' => e = .returned (.bool (R.any fun x => decide (1 < szO x.h))) ∧ Below w.heap.size w w' := by
  have hi := index_ok (c := c) h hD hl
  have hc : Calls Tryz.prog 96 #[.slice A R.length c, .func (.func 114) #[] #[]] w fun e w' => e = .returned (.bool (R.any fun x => decide (1 < szO x.h))) ∧ Below w.heap.size w w' := by
    generalize (R.any fun x => decide (1 < szO x.h)) = b at hi ⊢
    generalize R.length = m at hi ⊢
    clear h hl hD
    go_enter Tryz.func96, Tryz.ntmps96
    go_wp2_with fail
    refine hi.mono ?_
    rintro e w1 ⟨r, rfl, hr, hb⟩
    have HR := Lib.hid hr
    clear hi hr
    go_wp2_with fail
    go_ret
    exact ⟨ret_bool (by rw [← HR.out]), hb⟩
  clear hi h hl hD
  go_enter Tryz.func99, Tryz.ntmps99
  go_wp2_with fail
  refine hc.mono ?_
  rintro e w1 ⟨rfl, hb⟩
  clear hc
  go_wp2_with fail
  go_ret
  exact ⟨rfl, hb⟩
/-- What a call has done to the object. -/
def DidA (B : Nat) (w : World) (xa : Nat) (Q : Int → Pg) (w' : World) : Prop := (∃ A c l, AtX B w' xa A c l Q) ∧ Foot (fun k => k = xa) w w'
theorem DidA.pre {W : World} (h : Below W.heap.size W w) (d : DidA B w xa Q w') : DidA B W xa Q w' := ⟨d.1, (Foot.of_below (X := fun k => k = xa) h).trans d.2 (fun _ hb _ => hb)⟩
theorem become_pr (h : AtX B w xa A c l P) {D : Nat} {A' : Option Addr} {c' : Nat} {R : List Ar} (ho : EAr.Own D w (.slice A' R.length c') R) (hD : B ≤ D) (hQ : Whole Q R) :
    Calls Tryz.prog 89 #[.pointer (some ⟨xa, 0, none⟩), .slice A' R.length c'] w fun e w' => e = .returned (.int .i64 (if fullB Q = true then 13 else 0)) ∧ DidA B w xa (if fullB Q = true then P else Q) w' := by
  have hfull : fullB Q = decide (64 < R.length) := by unfold fullB; rw [hQ.all]
  rw [hfull]
  have c0 := h.c0
  have fz := h.top.frozen 0
  have hset := h.top.set_ 0 (.slice A' R.length c')
  have HY : Hid (DidA B w xa Q (w.setCell ⟨xa, 0, none⟩ (.slice A' R.length c'))) := by
    refine ⟨⟨A', c', R, ⟨hset, ?_, hQ, h.lo, by have := h.lw; simpa [World.setCell] using this⟩⟩, Foot.grown (X := fun k => k = xa) (grown_set w xa 0 _) rfl⟩
    refine (ho.base hD).heap fun g e => ?_
    obtain ⟨vs, r, _⟩ := ho.block e
    exact Below.heap_setCell w _ _ g (r.apart h.top (by decide))
  have HN : Hid (DidA B w xa P w) := ⟨⟨A, c, l, h⟩, Foot.refl _ _⟩
  generalize R.length = m at c0 HY ⊢
  clear hfull hset h ho hQ
  by_cases hm : 64 < m
  · have hm' : (64 : Int) < m := by omega
    rw [decide_eq_true hm, if_pos rfl, if_pos rfl]
    go_enter Tryz.func89, Tryz.ntmps89
    go_wp2_with fail
    go_ret
    exact ⟨rfl, HN.out⟩
  · have hm' : ¬ (64 : Int) < m := by omega
    rw [decide_eq_false hm, if_neg (by decide), if_neg (by decide)]
    go_enter Tryz.func89, Tryz.ntmps89
    go_wp2_with fail
    go_ret
    exact ⟨rfl, HY.out⟩
end
end Go.Proofs.YtnppnoabhpkmkaaGreat
/- Areas: New, Map, Unmap. -/
namespace Go.Proofs.YtnppnoabhpkmkaaGreat
open Go.RowKit
section
variable {B c xa : Nat} {w w' : World} {A : Option Addr} {l : List Ar} {P Q : Int → Pg}
/-- No pages. -/
theorem nil_whole : Whole (fun _ => zP) [] := ⟨trivial, fun _ => rfl, ⟨fun _ => zP_ok, fun _ _ => rfl, fun _ => by show (0 : Int) ≤ 0 ∧ (0 : Int) ≤ 4096; omega⟩⟩
def NewedA (w : World) (e : Ending) (w' : World) : Prop := ∃ xa, e = .returned (.pointer (some ⟨xa, 0, none⟩)) ∧ AtX w.heap.size w' xa none 0 [] (fun _ => zP) ∧ Below w.heap.size w w'
theorem new_pr (w : World) : Calls Tryz.prog 64 #[] w (NewedA w) := by
  have HE : Hid (NewedA w (.returned (.pointer (some ⟨w.heap.size, 0, none⟩))) (w.alloc (.cells #[.slice none 0 0] 106))) :=
    ⟨w.heap.size, rfl, ⟨Lrow.new w _ _, own_nil _ _, nil_whole, Nat.le_refl _, by simp⟩, below_new _ _⟩
  go_enter Tryz.func64, Tryz.ntmps64
  go_wp2_with fail
  go_ret
  exact HE.out
/-- What Map comes to. -/
def DidM (B : Nat) (w : World) (xa : Nat) (P Q : Int → Pg) (er : Int) (e : Ending) (w' : World) : Prop := e = .returned (.int .i64 er) ∧ DidA B w xa (if er = 0 then Q else P) w'
theorem AtX.did (h : AtX B w xa A c l P) (hb : Below w.heap.size w w') : DidA B w xa P w' := ⟨⟨A, c, l, h.call hb⟩, Foot.of_below hb⟩
theorem DidM.no {er : Int} (h0 : er ≠ 0) (h : AtX B w xa A c l P) (hb : Below w.heap.size w w') : DidM B w xa P Q er (.returned (.int .i64 er)) w' := by
  refine ⟨rfl, ?_⟩
  rw [if_neg h0]
  exact h.did hb
set_option maxRecDepth 100000 in
set_option maxHeartbeats 1000000 in
theorem map_pr (h : AtX B w xa A c l P) {a n how p o : Int} (ha : Fits a) (hn : Fits n) : Calls Tryz.prog 66 #[.pointer (some ⟨xa, 0, none⟩), .int .i64 a, .int .i64 n, .int .i64 how, .int .i64 p, .int .i64 o] w (DidM B w xa P (mapP P a n how p o) (mapE P a n how p o)) := by
  have hmb := fun w => mayBe_is how p o w
  have hor := fun w => order_is how w
  by_cases hA : mapA how p o = true
  · rw [show mapE P a n how p o = 2 by unfold mapE; rw [if_pos hA]]
    rw [hA] at hmb
    have HN := Lib.hid (fun w' hb => DidM.no (w := w) (w' := w') (er := 2) (by decide) (Q := mapP P a n how p o) h hb)
    clear h hA ha hn
    go_enter Tryz.func66, Tryz.ntmps66
    go_wp2_with (go_at_call 86; (with_reducible refine (hmb _).mono ?_); rintro e w1 ⟨rfl, rfl⟩)
    go_ret
    exact HN.out _ (Below.refl _ _)
  · have hA' : mapA how p o = false := by simpa using hA
    rw [hA'] at hmb
    obtain ⟨ko, hko⟩ : ∃ ko, ko = ordO how := ⟨_, rfl⟩
    rw [← hko] at hor
    have hri := fun w => right_any a n ko ha.1 ha.2 hn.1 hn.2 w
    obtain ⟨er, her⟩ : ∃ er, er = rtI a n ko := ⟨_, rfl⟩
    rw [← her] at hri
    by_cases h0 : er = 0
    · have hr : rtI a n (ordO how) = 0 := by rw [← hko, ← her]; exact h0
      have hE : mapE P a n how p o = if usedB P a n.toNat = true then 7 else if fullB (mapP P a n how p o) = true then 13 else 0 := by unfold mapE; rw [if_neg hA, if_neg (by rw [hr]; decide)]
      obtain ⟨h1, h2, h3⟩ := rt_in hr
      subst h0
      obtain ⟨a, rfl⟩ : ∃ k : Nat, a = k := ⟨a.toNat, by omega⟩
      obtain ⟨n, rfl⟩ : ∃ k : Nat, n = k := ⟨n.toNat, by omega⟩
      rw [Int.toNat_natCast] at hE
      have hh : how ≠ 0 := fun e => by
        unfold mapA at hA'
        rw [e] at hA'
        simp at hA'
      have hpi := pieces_pr h.own (fun x hx => h.wh.bound hx) h.len (a := a) (n := n) (by omega)
      rw [h.wh.pieces (by omega)] at hpi
      have hus := pcs_none h.wh.ok a n
      obtain ⟨m, hm⟩ : ∃ m, m = (pcs P a n).length := ⟨_, rfl⟩
      unfold ToldL at hpi
      rw [← hm] at hpi hus
      have c0 := h.c0
      by_cases hu : usedB P a n = true
      · rw [if_pos hu] at hE
        rw [hE]
        rw [hu] at hus
        have hm0 : 0 < m := of_decide_eq_true hus
        have hm1 : (0 : Int) < m := by omega
        have HN := Lib.hid (fun w' hb => DidM.no (w := w) (w' := w') (er := 7) (by decide) (Q := mapP P a n how p o) h hb)
        generalize l.length = k at hpi c0
        clear h hA hA' hko her ha hn hr hE h1 h2 h3 hh hus hm hu hm0
        go_enter Tryz.func66, Tryz.ntmps66
        go_wp2_with (first | (go_at_call 86; (with_reducible refine (hmb _).mono ?_); rintro e w1 ⟨rfl, rfl⟩) | (go_at_call 87; (with_reducible refine (hor _).mono ?_); rintro e w1 ⟨rfl, rfl⟩) | (go_at_call 71; (with_reducible refine (hri _).mono ?_); rintro e w1 ⟨rfl, rfl⟩))
        refine hpi.mono ?_
        rintro e w1 ⟨A', c', rfl, ho, hb⟩
        clear hpi ho
        have HB := Lib.hid hb
        clear hb
        go_wp2_with fail
        go_ret
        exact HN.out _ HB.out
      · rw [if_neg hu] at hE
        rw [hE]
        rw [show usedB P a n = false by simpa using hu] at hus
        have hm0 : m = 0 := by have := of_decide_eq_false hus; omega
        subst hm0
        obtain ⟨er, her2⟩ : ∃ er : Int, er = if fullB (mapP P a n how p o) = true then 13 else 0 := ⟨_, rfl⟩
        rw [← her2]
        have hsm : IntKind.i64.wrap ((a : Int) + n) = (a : Int) + n := IntWalk.i64_in _ (by omega)
        have H2 : Hid (∀ w1, Below w.heap.size w w1 → Calls Tryz.prog 90 #[.slice A l.length c, .int .i64 a, .int .i64 n, .slice (some ⟨w1.heap.size, 0, none⟩) 1 1] (w1.alloc (.cells #[.int .i64 a, .int .i64 ((a : Int) + n), .int .i64 how, .int .i64 p, .int .i64 o, .int .i64 0] 93)) (ToldL (allA (mapP P a n how p o)) (w1.alloc (.cells #[.int .i64 a, .int .i64 ((a : Int) + n), .int .i64 how, .int .i64 p, .int .i64 o, .int .i64 0] 93)))) := fun w1 hb1 => by
          have h1' := (h.call hb1).call (below_new w1 (.cells #[.int .i64 a, .int .i64 ((a : Int) + n), .int .i64 how, .int .i64 p, .int .i64 o, .int .i64 0] 93))
          have hr := Lrow.new w1 93 [.int .i64 a, .int .i64 ((a : Int) + n), .int .i64 how, .int .i64 p, .int .i64 o, .int .i64 0]
          have := laid_pr h1'.own (fun x hx => h.wh.bound hx) h.len (Ao := some ⟨w1.heap.size, 0, none⟩) (co := 1) (o := [⟨a, (a : Int) + n, how, p, o, 0⟩]) (fun _ => ⟨w1.heap.size, rfl, hr.lt, fun j hj => by
            obtain rfl : j = 0 := by simp at hj; omega
            intro i hi
            rw [Nat.zero_mul, Nat.zero_add, hr.cell]
            rfl⟩) (fun x hx => by
              rw [List.mem_singleton] at hx
              rw [hx]
              exact ⟨by show (0 : Int) ≤ a; omega, by show (a : Int) < a + n; omega, h3, by show (0 : Int) ≤ 0; omega, by show (0 : Int) ≤ 4096; omega⟩) (by simp) (a := a) (n := n) (by omega)
          rw [h.wh.map hh h1 h2 h3] at this
          exact this
        have HQ : Hid (Whole (mapP P a n how p o) (allA (mapP P a n how p o))) := whole_all (h.wh.ok.map hh (by omega) h3)
        have HX := Lib.hid h
        have HE := Lib.hid her2
        obtain ⟨k, hk⟩ : ∃ k, k = l.length := ⟨_, rfl⟩
        have HK := Lib.hid hk
        rw [← hk] at hpi c0
        obtain ⟨R, hR⟩ : ∃ R, R = allA (mapP P a n how p o) := ⟨_, rfl⟩
        clear h hA hA' hko her ha hn hr hE h1 h2 h3 hh hus hm hu her2 hk
        go_enter Tryz.func66, Tryz.ntmps66
        go_wp2_with (first | (go_at_call 86; (with_reducible refine (hmb _).mono ?_); rintro e w1 ⟨rfl, rfl⟩) | (go_at_call 87; (with_reducible refine (hor _).mono ?_); rintro e w1 ⟨rfl, rfl⟩) | (go_at_call 71; (with_reducible refine (hri _).mono ?_); rintro e w1 ⟨rfl, rfl⟩))
        refine hpi.mono ?_
        rintro e w1 ⟨A', c', rfl, ho, hb⟩
        clear hpi ho
        have h2 := H2.out w1 hb
        rw [← HK.out, ← hR] at h2
        have c1 : w1.cell? ⟨xa, 0, none⟩ = some (.slice A k c) := by rw [HK.out]; exact (HX.out.call hb).c0
        have HB := Lib.hid (hb.trans ((below_new w1 (.cells #[.int .i64 a, .int .i64 ((a : Int) + n), .int .i64 how, .int .i64 p, .int .i64 o, .int .i64 0] 93)).mono hb.size))
        have HBS := Lib.hid hb.size
        clear hb c0
        go_wp2_with fail
        refine h2.mono ?_
        rintro e w3 ⟨A3, c3, rfl, ho3, hb3⟩
        have hb3' := HB.out.trans (hb3.mono HB.out.size)
        have hbe := become_pr (HX.out.call hb3') ho3 (Nat.le_trans HX.out.lw HB.out.size) (by rw [hR]; exact HQ.out)
        rw [← HE.out] at hbe
        have HB3 := Lib.hid hb3'
        generalize R.length = r at hbe
        clear h2 ho3 hb3 hb3'
        go_wp2_with fail
        refine hbe.mono ?_
        rintro e w4 ⟨rfl, hd⟩
        have HD := Lib.hid (hd.pre HB3.out)
        clear hbe hd
        go_wp2_with fail
        go_ret
        refine ⟨rfl, ?_⟩
        have hd := HD.out
        by_cases e0 : fullB (mapP P a n how p o) = true
        · rw [if_pos e0] at hd
          rw [if_neg (by rw [HE.out, if_pos e0]; decide)]
          exact hd
        · rw [if_neg e0] at hd
          rw [if_pos (by rw [HE.out, if_neg e0])]
          exact hd
    · have hE : mapE P a n how p o = er := by unfold mapE; rw [if_neg hA, ← hko, ← her, if_pos h0]
      rw [hE]
      have h0' : (er != 0) = true := by simpa using h0
      have HN := Lib.hid (fun w' hb => DidM.no (w := w) (w' := w') (er := er) h0 (Q := mapP P a n how p o) h hb)
      clear h hA hA' hko her ha hn hE
      go_enter Tryz.func66, Tryz.ntmps66
      go_wp2_with (first | (go_at_call 86; (with_reducible refine (hmb _).mono ?_); rintro e w1 ⟨rfl, rfl⟩) | (go_at_call 87; (with_reducible refine (hor _).mono ?_); rintro e w1 ⟨rfl, rfl⟩) | (go_at_call 71; (with_reducible refine (hri _).mono ?_); rintro e w1 ⟨rfl, rfl⟩))
      go_ret
      exact HN.out _ (Below.refl _ _)
/-- What a call with a list and an error comes to. -/
def ToldQ (B : Nat) (w : World) (xa : Nat) (P Q : Int → Pg) (er : Int) (R : List Ar) (e : Ending) (w' : World) : Prop :=
  ∃ A c, e = .returned (.tuple #[.slice A (if er = 0 then R else []).length c, .int .i64 er]) ∧ EAr.Own w.heap.size w' (.slice A (if er = 0 then R else []).length c) (if er = 0 then R else []) ∧ DidA B w xa (if er = 0 then Q else P) w'
theorem ToldQ.no {er : Int} (h0 : er ≠ 0) {R : List Ar} (h : DidA B w xa P w') : ToldQ B w xa P Q er R (.returned (.tuple #[.slice none 0 0, .int .i64 er])) w' := by
  refine ⟨none, 0, ?_⟩
  rw [if_neg h0, if_neg h0]
  exact ⟨rfl, own_nil _ _, h⟩
theorem ToldQ.yes {A : Option Addr} {c : Nat} {R : List Ar} (ho : EAr.Own w.heap.size w' (.slice A R.length c) R) (h : DidA B w xa Q w') : ToldQ B w xa P Q 0 R (.returned (.tuple #[.slice A R.length c, .int .i64 0])) w' := by
  refine ⟨A, c, ?_⟩
  rw [if_pos rfl, if_pos rfl]
  exact ⟨rfl, ho, h⟩
/-- A list that was told stays behind what becomes of the object. -/
theorem ls_foot {D : Nat} {v : Value} {R : List Ar} {u : List Value} (ho : EAr.Own D w v R) (hf : Foot (fun k => k = xa) w w') (hx : Lrow w xa 106 u) : EAr.Own D w' v R :=
  ho.heap fun g e => by
    obtain ⟨vs, r, _⟩ := ho.block e
    exact hf.keep g r.lt (r.apart hx (by decide))
set_option maxRecDepth 100000 in
set_option maxHeartbeats 1000000 in
theorem unmap_pr (h : AtX B w xa A c l P) {a n : Int} (ha : Fits a) (hn : Fits n) : Calls Tryz.prog 67 #[.pointer (some ⟨xa, 0, none⟩), .int .i64 a, .int .i64 n] w (ToldQ B w xa P (unP P a n) (unE P a n) (pcs P a n.toNat)) := by
  obtain ⟨er, her⟩ : ∃ er, er = rtI a n 0 := ⟨_, rfl⟩
  by_cases h0 : er = 0
  · have hr : rtI a n 0 = 0 := her.symm.trans h0
    obtain ⟨h1, h2, h3⟩ := rt_in hr
    obtain ⟨a, rfl⟩ : ∃ k : Nat, a = k := ⟨a.toNat, by omega⟩
    obtain ⟨n, rfl⟩ : ∃ k : Nat, n = k := ⟨n.toNat, by omega⟩
    rw [show ((n : Int)).toNat = n from Int.toNat_natCast n]
    have hpi := pieces_ok h hr
    have HCU : Hid (∀ w1, Below w.heap.size w w1 → Calls Tryz.prog 73 #[.pointer (some ⟨xa, 0, none⟩), .int .i64 a, .int .i64 n] w1 fun e w' => e = .returned (.bool (cutsB P a n)) ∧ Below w1.heap.size w1 w') := fun w1 hb => cuts_pr (h.call hb) hr
    obtain ⟨m, hm⟩ : ∃ m, m = (pcs P a n).length := ⟨_, rfl⟩
    unfold ToldE at hpi
    rw [← hm] at hpi
    have HM := Lib.hid hm
    have HX := Lib.hid h
    obtain ⟨k, hk⟩ : ∃ k, k = l.length := ⟨_, rfl⟩
    have HK := Lib.hid hk
    by_cases hc : cutsB P a n = true
    · have hE : unE P a n = 2 := by unfold unE; rw [if_neg (by rw [hr]; decide), if_pos hc]
      rw [hE]
      rw [hc] at HCU
      clear h ha hn her h0 hr h1 h2 h3 hm hc hE hk
      go_enter Tryz.func67, Tryz.ntmps67
      go_wp2_with fail
      refine hpi.mono ?_
      rintro e w1 ⟨A', c', rfl, ho, hb⟩
      have hcu := HCU.out w1 hb
      have HB := Lib.hid hb
      clear hpi ho hb
      go_wp2_with fail
      refine hcu.mono ?_
      rintro e w2 ⟨rfl, hb2⟩
      have HB2 := Lib.hid (HB.out.trans (hb2.mono HB.out.size))
      clear hcu hb2
      go_wp2_with fail
      go_ret2
      exact ToldQ.no (by decide) (HX.out.did HB2.out)
    · have hE : unE P a n = if fullB (unP P a n) = true then 13 else 0 := by unfold unE; rw [if_neg (by rw [hr]; decide), if_neg hc]
      obtain ⟨er2, her2⟩ : ∃ er : Int, er = if fullB (unP P a n) = true then 13 else 0 := ⟨_, rfl⟩
      rw [hE, ← her2]
      have HE := Lib.hid her2
      rw [show cutsB P a n = false by simpa using hc] at HCU
      obtain ⟨R, hR⟩ : ∃ R, R = allA (unP P a n) := ⟨_, rfl⟩
      have HQ : Hid (Whole (unP P a n) R) := by show Whole _ _; rw [hR]; exact whole_all (h.wh.ok.un a n)
      have HLA : Hid (∀ w1, Below w.heap.size w w1 → Calls Tryz.prog 90 #[.slice A k c, .int .i64 a, .int .i64 n, .slice none 0 0] w1 (ToldL R w1)) := fun w1 hb => by
        have := laid_pr (h.call hb).own (fun x hx => h.wh.bound hx) h.len (Ao := none) (co := 0) (o := []) (fun h => by cases h) (fun x hx => by cases hx) (by simp) (a := a) (n := n) (by omega)
        rw [h.wh.un h1 h2, ← hR, ← hk] at this
        exact this
      clear h ha hn her h0 hr h1 h2 h3 hm hc hE hk her2 hR
      go_enter Tryz.func67, Tryz.ntmps67
      go_wp2_with fail
      refine hpi.mono ?_
      rintro e w1 ⟨A', c', rfl, ho, hb⟩
      have hcu := HCU.out w1 hb
      have HB := Lib.hid hb
      have HO := Lib.hid ho
      clear hpi ho hb
      go_wp2_with fail
      refine hcu.mono ?_
      rintro e w2 ⟨rfl, hb2⟩
      have HB2 := Lib.hid (HB.out.trans (hb2.mono HB.out.size))
      have HO2 := Lib.hid (HO.out.call hb2)
      have c2 : w2.cell? ⟨xa, 0, none⟩ = some (.slice A k c) := by rw [HK.out]; exact (HX.out.call HB2.out).c0
      have hla := HLA.out w2 HB2.out
      clear hcu hb2
      go_wp2_with fail
      refine hla.mono ?_
      rintro e w3 ⟨A3, c3, rfl, ho3, hb3⟩
      have HB3 := Lib.hid (HB2.out.trans (hb3.mono HB2.out.size))
      have HO3 := Lib.hid (HO2.out.call hb3)
      have hx3 := HX.out.call HB3.out
      have hbe := become_pr hx3 ho3 (Nat.le_trans HX.out.lw HB2.out.size) HQ.out
      rw [← HE.out] at hbe
      generalize R.length = r at hbe
      have HT3 := Lib.hid hx3.top
      clear hla ho3 hb3 hx3 c2
      go_wp2_with fail
      refine hbe.mono ?_
      rintro e w4 ⟨rfl, hd⟩
      have HO4 := Lib.hid (ls_foot HO3.out hd.2 HT3.out)
      have HD := Lib.hid (hd.pre HB3.out)
      clear hbe hd
      by_cases e0 : fullB (unP P a n) = true
      · obtain rfl : er2 = 13 := by rw [HE.out, if_pos e0]
        have hd := HD.out
        rw [if_pos e0] at hd
        have HDD := Lib.hid hd
        clear hd e0
        go_wp2_with fail
        go_ret2
        exact ToldQ.no (by decide) HDD.out
      · obtain rfl : er2 = 0 := by rw [HE.out, if_neg e0]
        have hd := HD.out
        rw [if_neg e0] at hd
        have HDD := Lib.hid hd
        clear hd e0
        go_wp2_with fail
        go_ret2
        have ho := HO4.out
        rw [HM.out] at ho ⊢
        exact ToldQ.yes ho HDD.out
  · have hE : unE P a n = er := by unfold unE; rw [← her, if_pos h0]
    rw [hE]
    have hpi := pieces_no xa w ha hn (by rw [← her]; exact h0)
    rw [← her] at hpi
    have h0' : (er != 0) = true := by simpa using h0
    have HX := Lib.hid h
    clear h ha hn her hE
    go_enter Tryz.func67, Tryz.ntmps67
    go_wp2_with fail
    refine hpi.mono ?_
    rintro e w1 ⟨A', c', rfl, ho, hb⟩
    have HB := Lib.hid hb
    clear hpi ho hb
    go_wp2_with fail
    go_ret2
    exact ToldQ.no h0 (HX.out.did HB.out)
end
end Go.Proofs.YtnppnoabhpkmkaaGreat
