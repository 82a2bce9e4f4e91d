/- A call of both. -/
import Derived.Test.YtodepfgfgphkbaaY5
import Derived.Test.YtodepfgfgphkbaaV6
namespace Go.Proofs.Ytodepfgfgphkbaa
open Go.RowKit
/-- What a call of both comes to. -/
def DidB (B : Nat) (w : World) (s x : Nat) (Q : Int → Pg) (e : Ending) (w' : World) : Prop := e = .returned (.bool true) ∧ St B w' s x Q ∧ Below B w w'
section
variable {w w' : World} {B s x : Nat} {P Q : Int → Pg}

set_option maxHeartbeats 2000000 in
set_option maxRecDepth 100000 in
theorem do_map (h : St B w s x P) {l : Ac} (hl : IsAc l) (hk : l.k = 0 ∨ l.k = 1 ∨ l.k = 2) : Calls Try.prog 22 #[.pointer (some ⟨s, 0, none⟩), .pointer (some ⟨x, 0, none⟩), .agg #[.int .i64 l.k, .int .i64 l.a, .int .i64 l.n, .int .i64 l.g, .int .i64 l.p, .int .i64 l.o, .int .i64 l.t]] w (DidB B w s x (doP P l)) := by
  obtain ⟨W0, hW0⟩ : ∃ W0, W0 = w.alloc (.cells #[.int .i64 l.k, .int .i64 l.a, .int .i64 l.n, .int .i64 l.g, .int .i64 l.p, .int .i64 l.o, .int .i64 l.t] 36) := ⟨_, rfl⟩
  obtain ⟨q, hq⟩ : ∃ q, q = w.heap.size := ⟨_, rfl⟩
  have g0 : Below w.heap.size w W0 := by rw [hW0]; exact below_new _ _
  have rs : Lrow W0 q 36 (acCells l) := by rw [hW0, hq]; exact Lrow.new w _ (acCells l)
  have HST := Lib.hid (h.call g0)
  have HB0 : Hid (Below B w W0) := g0.mono h.lw
  have HRS := Lib.hid rs
  have HW := Lib.hid (And.intro hW0 hq)
  have HF := Lib.hid hl
  have HD : Hid (doP P l = if mapE P l.a l.n l.g l.p l.o = 0 then mapP P l.a l.n l.g l.p l.o else P) := by show _ = _; unfold doP; rw [if_pos hk]
  clear hW0 hq g0 rs h hl
  obtain ⟨K, A0, N0, G, Pt, O, T⟩ := l
  dsimp only [acCells] at HRS HW HD HF
  dsimp only at hk
  rcases hk with rfl | rfl | rfl
  all_goals
    go_enter Try.func22, Try.ntmps22
    go_upto_region 1 with (fail)
    rw [← HW.out.1, ← HW.out.2]
    have e0 := HRS.out.cell 0
    have HS0 : W0.drew.cell? ⟨q, 1, none⟩ = some (.int .i64 A0) ∧ W0.drew.cell? ⟨q, 2, none⟩ = some (.int .i64 N0) ∧ W0.drew.cell? ⟨q, 3, none⟩ = some (.int .i64 G) ∧ W0.drew.cell? ⟨q, 4, none⟩ = some (.int .i64 Pt) ∧ W0.drew.cell? ⟨q, 5, none⟩ = some (.int .i64 O) := ⟨HRS.out.cell 1, HRS.out.cell 2, HRS.out.cell 3, HRS.out.cell 4, HRS.out.cell 5⟩
    have hst0 := HST.out.call (below_dN (Below.refl _ _) 1)
    obtain ⟨⟨Ap, cp, lp, hap⟩, vx, hpx⟩ := hst0
    have hmp := map_pr hap (a := A0) (n := N0) (how := G) (p := Pt) (o := O) HF.out.a HF.out.n
    have hrs := HRS.out.drewN 1
    go_wp2_with fail
    go_region_held3 (fun v => v.cell? ⟨q, 1, none⟩ = some (.int .i64 A0) ∧ v.cell? ⟨q, 2, none⟩ = some (.int .i64 N0) ∧ v.cell? ⟨q, 3, none⟩ = some (.int .i64 G) ∧ v.cell? ⟨q, 4, none⟩ = some (.int .i64 Pt) ∧ v.cell? ⟨q, 5, none⟩ = some (.int .i64 O))
      (first | exact HS0 | exact HS1 | exact HS2)
      (first | (go_at_call 15; refine hmp.mono ?_; rintro e w1 ⟨rfl, hd1⟩; obtain ⟨hT1, ⟨v1, hR1⟩, hb1, hk1⟩ := St.half ⟨⟨Ap, cp, lp, hap⟩, vx, hpx⟩ hd1; have r1 := hk1 hrs (by decide); have HS1 : w1.cell? ⟨q, 1, none⟩ = some (.int .i64 A0) ∧ w1.cell? ⟨q, 2, none⟩ = some (.int .i64 N0) ∧ w1.cell? ⟨q, 3, none⟩ = some (.int .i64 G) ∧ w1.cell? ⟨q, 4, none⟩ = some (.int .i64 Pt) ∧ w1.cell? ⟨q, 5, none⟩ = some (.int .i64 O) := ⟨r1.cell 1, r1.cell 2, r1.cell 3, r1.cell 4, r1.cell 5⟩) | (go_at_call 38; refine (map_is hR1 (how := G) (p := Pt) (o := O) HF.out.a HF.out.n).mono ?_; rintro e w2 ⟨rfl, hd2⟩; obtain ⟨hst, hb2, hk2⟩ := St.whole hT1 ⟨v1, hR1⟩ hd2; have r2 := hk2 r1 (by decide); have HS2 : w2.cell? ⟨q, 1, none⟩ = some (.int .i64 A0) ∧ w2.cell? ⟨q, 2, none⟩ = some (.int .i64 N0) ∧ w2.cell? ⟨q, 3, none⟩ = some (.int .i64 G) ∧ w2.cell? ⟨q, 4, none⟩ = some (.int .i64 Pt) ∧ w2.cell? ⟨q, 5, none⟩ = some (.int .i64 O) := ⟨r2.cell 1, r2.cell 2, r2.cell 3, r2.cell 4, r2.cell 5⟩))
    all_goals
      go_wp2
      go_ret
      exact ⟨ret_bool (by simp), by rw [HD.out]; exact hst, HB0.out.trans (Below.trans (below_dN (Below.refl _ _) 1) (Below.trans hb1 hb2))⟩

set_option maxHeartbeats 2000000 in
set_option maxRecDepth 100000 in
theorem do_un (h : St B w s x P) {l : Ac} (hl : IsAc l) (hk : l.k = 3) : Calls Try.prog 22 #[.pointer (some ⟨s, 0, none⟩), .pointer (some ⟨x, 0, none⟩), .agg #[.int .i64 l.k, .int .i64 l.a, .int .i64 l.n, .int .i64 l.g, .int .i64 l.p, .int .i64 l.o, .int .i64 l.t]] w (DidB B w s x (doP P l)) := by
  obtain ⟨W0, hW0⟩ : ∃ W0, W0 = w.alloc (.cells #[.int .i64 l.k, .int .i64 l.a, .int .i64 l.n, .int .i64 l.g, .int .i64 l.p, .int .i64 l.o, .int .i64 l.t] 36) := ⟨_, rfl⟩
  obtain ⟨q, hq⟩ : ∃ q, q = w.heap.size := ⟨_, rfl⟩
  have g0 : Below w.heap.size w W0 := by rw [hW0]; exact below_new _ _
  have rs : Lrow W0 q 36 (acCells l) := by rw [hW0, hq]; exact Lrow.new w _ (acCells l)
  have HST := Lib.hid (h.call g0)
  have HB0 : Hid (Below B w W0) := g0.mono h.lw
  have HRS := Lib.hid rs
  have HW := Lib.hid (And.intro hW0 hq)
  have HF := Lib.hid hl
  have HD : Hid (doP P l = if unE P l.a l.n = 0 then unP P l.a l.n else P) := by show _ = _; unfold doP; rw [if_neg (by omega), if_pos hk]
  clear hW0 hq g0 rs h hl
  obtain ⟨K, A0, N0, G, Pt, O, T⟩ := l
  dsimp only [acCells] at HRS HW HD HF
  dsimp only at hk
  subst hk
  go_enter Try.func22, Try.ntmps22
  go_upto_region 1 with (fail)
  rw [← HW.out.1, ← HW.out.2]
  have e0 := HRS.out.cell 0
  have e1 := HRS.out.cell 1
  have e2 := HRS.out.cell 2
  obtain ⟨⟨Ap, cp, lp, hap⟩, vx, hpx⟩ := HST.out
  have hmp := unmap_pr hap (a := A0) (n := N0) HF.out.a HF.out.n
  obtain ⟨er, her⟩ : ∃ er, er = unE P A0 N0 := ⟨_, rfl⟩
  have hl5 := told_len (P := P) hpx.ok (a := A0) (n := N0) (er := er) (fun e => unE_rt (by rw [← her]; exact e))
  unfold ToldQ at hmp
  rw [← her] at hmp HD
  obtain ⟨L, hL⟩ : ∃ L, L = if er = 0 then pcs P A0 N0.toNat else [] := ⟨_, rfl⟩
  rw [← hL] at hmp hl5
  have HER := Lib.hid her
  have HLL := Lib.hid hL
  clear her hL
  go_wp2_with fail
  refine hmp.mono ?_
  rintro e w1 ⟨A1, c1, rfl, ho1, hd1⟩
  obtain ⟨hT1, ⟨v1, hR1⟩, hb1, hk1⟩ := St.half ⟨⟨Ap, cp, lp, hap⟩, vx, hpx⟩ hd1
  have r1 := hk1 HRS.out (by decide)
  have hrf := unmap_is hR1 (a := A0) (n := N0) HF.out.a HF.out.n
  unfold ToldP at hrf
  rw [← HER.out, ← HLL.out] at hrf
  have e1 := r1.cell 1
  have e2 := r1.cell 2
  have HT1 := Lib.hid hT1
  have HR1 := Lib.hid hR1
  have HO1 := Lib.hid ho1
  have HB1 := Lib.hid hb1
  clear hmp hap hpx hd1 hk1 hT1 hR1 ho1 hb1 r1
  go_wp2_with fail
  refine hrf.mono ?_
  rintro e w2 ⟨A2, c2, rfl, ho2, hd2⟩
  obtain ⟨hst, hb2, -⟩ := St.whole HT1.out ⟨v1, HR1.out⟩ hd2
  have hsm := sameA_any (c := c1) (c' := c2) (own_ref HO1.out HR1.out hd2).ls ho2.ls hl5 hl5
  rw [decide_eq_true (rfl : L = L)] at hsm
  have HST2 := Lib.hid hst
  have HB2 := Lib.hid (HB1.out.trans hb2)
  generalize L.length = r at hsm
  clear hrf ho2 hd2 hst hb2
  go_wp2_with fail
  refine hsm.mono ?_
  rintro e w3 ⟨rfl, hb3⟩
  have HST3 := Lib.hid (HST2.out.call hb3)
  have HB3 := Lib.hid (HB2.out.trans (hb3.mono HST2.out.lw))
  clear hsm hb3
  go_wp2_with fail
  go_ret
  exact ⟨ret_bool (by simp), by rw [HD.out]; exact HST3.out, HB0.out.trans HB3.out⟩

set_option maxHeartbeats 2000000 in
set_option maxRecDepth 100000 in
theorem do_pr (h : St B w s x P) {l : Ac} (hl : IsAc l) (hk : l.k = 4) : Calls Try.prog 22 #[.pointer (some ⟨s, 0, none⟩), .pointer (some ⟨x, 0, none⟩), .agg #[.int .i64 l.k, .int .i64 l.a, .int .i64 l.n, .int .i64 l.g, .int .i64 l.p, .int .i64 l.o, .int .i64 l.t]] w (DidB B w s x (doP P l)) := by
  obtain ⟨W0, hW0⟩ : ∃ W0, W0 = w.alloc (.cells #[.int .i64 l.k, .int .i64 l.a, .int .i64 l.n, .int .i64 l.g, .int .i64 l.p, .int .i64 l.o, .int .i64 l.t] 36) := ⟨_, rfl⟩
  obtain ⟨q, hq⟩ : ∃ q, q = w.heap.size := ⟨_, rfl⟩
  have g0 : Below w.heap.size w W0 := by rw [hW0]; exact below_new _ _
  have rs : Lrow W0 q 36 (acCells l) := by rw [hW0, hq]; exact Lrow.new w _ (acCells l)
  have HST := Lib.hid (h.call g0)
  have HB0 : Hid (Below B w W0) := g0.mono h.lw
  have HRS := Lib.hid rs
  have HW := Lib.hid (And.intro hW0 hq)
  have HF := Lib.hid hl
  have HD : Hid (doP P l = if prE P l.a l.n l.p = 0 then prP P l.a l.n l.p else P) := by show _ = _; unfold doP; rw [if_neg (by omega), if_neg (by omega), if_pos hk]
  clear hW0 hq g0 rs h hl
  obtain ⟨K, A0, N0, G, Pt, O, T⟩ := l
  dsimp only [acCells] at HRS HW HD HF
  dsimp only at hk
  subst hk
  go_enter Try.func22, Try.ntmps22
  go_upto_region 1 with (fail)
  rw [← HW.out.1, ← HW.out.2]
  have e0 := HRS.out.cell 0
  have e1 := HRS.out.cell 1
  have e2 := HRS.out.cell 2
  have e4 := HRS.out.cell 4
  obtain ⟨⟨Ap, cp, lp, hap⟩, vx, hpx⟩ := HST.out
  have hmp := protect_pr hap (a := A0) (n := N0) (p := Pt) HF.out.a HF.out.n
  obtain ⟨er, her⟩ : ∃ er, er = prE P A0 N0 Pt := ⟨_, rfl⟩
  have hl5 := told_len (P := P) hpx.ok (a := A0) (n := N0) (er := er) (fun e => prE_rt (by rw [← her]; exact e))
  unfold ToldQ at hmp
  rw [← her] at hmp HD
  obtain ⟨L, hL⟩ : ∃ L, L = if er = 0 then pcs P A0 N0.toNat else [] := ⟨_, rfl⟩
  rw [← hL] at hmp hl5
  have HER := Lib.hid her
  have HLL := Lib.hid hL
  clear her hL
  go_wp2_with fail
  refine hmp.mono ?_
  rintro e w1 ⟨A1, c1, rfl, ho1, hd1⟩
  obtain ⟨hT1, ⟨v1, hR1⟩, hb1, hk1⟩ := St.half ⟨⟨Ap, cp, lp, hap⟩, vx, hpx⟩ hd1
  have r1 := hk1 HRS.out (by decide)
  have hrf := protect_is hR1 (a := A0) (n := N0) (p := Pt) HF.out.a HF.out.n
  unfold ToldP at hrf
  rw [← HER.out, ← HLL.out] at hrf
  have e1 := r1.cell 1
  have e2 := r1.cell 2
  have e4 := r1.cell 4
  have HT1 := Lib.hid hT1
  have HR1 := Lib.hid hR1
  have HO1 := Lib.hid ho1
  have HB1 := Lib.hid hb1
  clear hmp hap hpx hd1 hk1 hT1 hR1 ho1 hb1 r1
  go_wp2_with fail
  refine hrf.mono ?_
  rintro e w2 ⟨A2, c2, rfl, ho2, hd2⟩
  obtain ⟨hst, hb2, -⟩ := St.whole HT1.out ⟨v1, HR1.out⟩ hd2
  have hsm := sameA_any (c := c1) (c' := c2) (own_ref HO1.out HR1.out hd2).ls ho2.ls hl5 hl5
  rw [decide_eq_true (rfl : L = L)] at hsm
  have HST2 := Lib.hid hst
  have HB2 := Lib.hid (HB1.out.trans hb2)
  generalize L.length = r at hsm
  clear hrf ho2 hd2 hst hb2
  go_wp2_with fail
  refine hsm.mono ?_
  rintro e w3 ⟨rfl, hb3⟩
  have HST3 := Lib.hid (HST2.out.call hb3)
  have HB3 := Lib.hid (HB2.out.trans (hb3.mono HST2.out.lw))
  clear hsm hb3
  go_wp2_with fail
  go_ret
  exact ⟨ret_bool (by simp), by rw [HD.out]; exact HST3.out, HB0.out.trans HB3.out⟩

set_option maxHeartbeats 2000000 in
set_option maxRecDepth 100000 in
theorem do_mv (h : St B w s x P) {l : Ac} (hl : IsAc l) (hk : ¬ (l.k = 0 ∨ l.k = 1 ∨ l.k = 2)) (hk3 : ¬ l.k = 3) (hk4 : ¬ l.k = 4) : Calls Try.prog 22 #[.pointer (some ⟨s, 0, none⟩), .pointer (some ⟨x, 0, none⟩), .agg #[.int .i64 l.k, .int .i64 l.a, .int .i64 l.n, .int .i64 l.g, .int .i64 l.p, .int .i64 l.o, .int .i64 l.t]] w (DidB B w s x (doP P l)) := by
  obtain ⟨W0, hW0⟩ : ∃ W0, W0 = w.alloc (.cells #[.int .i64 l.k, .int .i64 l.a, .int .i64 l.n, .int .i64 l.g, .int .i64 l.p, .int .i64 l.o, .int .i64 l.t] 36) := ⟨_, rfl⟩
  obtain ⟨q, hq⟩ : ∃ q, q = w.heap.size := ⟨_, rfl⟩
  have g0 : Below w.heap.size w W0 := by rw [hW0]; exact below_new _ _
  have rs : Lrow W0 q 36 (acCells l) := by rw [hW0, hq]; exact Lrow.new w _ (acCells l)
  have HST := Lib.hid (h.call g0)
  have HB0 : Hid (Below B w W0) := g0.mono h.lw
  have HRS := Lib.hid rs
  have HW := Lib.hid (And.intro hW0 hq)
  have HF := Lib.hid hl
  have HD : Hid (doP P l = if mvE P l.a l.n l.t = 0 then mvP P l.a l.n l.t else P) := by show _ = _; unfold doP; rw [if_neg hk, if_neg hk3, if_neg hk4]
  clear hW0 hq g0 rs h hl
  obtain ⟨K, A0, N0, G, Pt, O, T⟩ := l
  dsimp only [acCells] at HRS HW HD HF
  dsimp only at hk hk3 hk4
  have k0 : (K == 0) = false := by simpa using (by omega : ¬ K = 0)
  have k1 : (K == 1) = false := by simpa using (by omega : ¬ K = 1)
  have k2 : (K == 2) = false := by simpa using (by omega : ¬ K = 2)
  have k3 : (K == 3) = false := by simpa using hk3
  have k4 : (K == 4) = false := by simpa using hk4
  clear hk hk3 hk4
  go_enter Try.func22, Try.ntmps22
  go_upto_region 1 with (fail)
  rw [← HW.out.1, ← HW.out.2]
  have e0 := HRS.out.cell 0
  have e1 := HRS.out.cell 1
  have e2 := HRS.out.cell 2
  have e6 := HRS.out.cell 6
  obtain ⟨⟨Ap, cp, lp, hap⟩, vx, hpx⟩ := HST.out
  have hmp := move_pr hap (a := A0) (n := N0) (t := T) HF.out.a HF.out.n HF.out.t
  obtain ⟨er, her⟩ : ∃ er, er = mvE P A0 N0 T := ⟨_, rfl⟩
  have hl5 := told_len (P := P) hpx.ok (a := A0) (n := N0) (er := er) (fun e => mvE_rt (by rw [← her]; exact e))
  unfold ToldQ at hmp
  rw [← her] at hmp HD
  obtain ⟨L, hL⟩ : ∃ L, L = if er = 0 then pcs P A0 N0.toNat else [] := ⟨_, rfl⟩
  rw [← hL] at hmp hl5
  have HER := Lib.hid her
  have HLL := Lib.hid hL
  clear her hL
  go_wp2_with fail
  refine hmp.mono ?_
  rintro e w1 ⟨A1, c1, rfl, ho1, hd1⟩
  obtain ⟨hT1, ⟨v1, hR1⟩, hb1, hk1⟩ := St.half ⟨⟨Ap, cp, lp, hap⟩, vx, hpx⟩ hd1
  have r1 := hk1 HRS.out (by decide)
  have hrf := move_is hR1 (a := A0) (n := N0) (t := T) HF.out.a HF.out.n HF.out.t
  unfold ToldP at hrf
  rw [← HER.out, ← HLL.out] at hrf
  have e1 := r1.cell 1
  have e2 := r1.cell 2
  have e6 := r1.cell 6
  have HT1 := Lib.hid hT1
  have HR1 := Lib.hid hR1
  have HO1 := Lib.hid ho1
  have HB1 := Lib.hid hb1
  clear hmp hap hpx hd1 hk1 hT1 hR1 ho1 hb1 r1
  go_wp2_with fail
  refine hrf.mono ?_
  rintro e w2 ⟨A2, c2, rfl, ho2, hd2⟩
  obtain ⟨hst, hb2, -⟩ := St.whole HT1.out ⟨v1, HR1.out⟩ hd2
  have hsm := sameA_any (c := c1) (c' := c2) (own_ref HO1.out HR1.out hd2).ls ho2.ls hl5 hl5
  rw [decide_eq_true (rfl : L = L)] at hsm
  have HST2 := Lib.hid hst
  have HB2 := Lib.hid (HB1.out.trans hb2)
  generalize L.length = r at hsm
  clear hrf ho2 hd2 hst hb2
  go_wp2_with fail
  refine hsm.mono ?_
  rintro e w3 ⟨rfl, hb3⟩
  have HST3 := Lib.hid (HST2.out.call hb3)
  have HB3 := Lib.hid (HB2.out.trans (hb3.mono HST2.out.lw))
  clear hsm hb3
  go_wp2_with fail
  go_ret
  exact ⟨ret_bool (by simp), by rw [HD.out]; exact HST3.out, HB0.out.trans HB3.out⟩

theorem do_any (h : St B w s x P) {l : Ac} (hl : IsAc l) : Calls Try.prog 22 #[.pointer (some ⟨s, 0, none⟩), .pointer (some ⟨x, 0, none⟩), .agg #[.int .i64 l.k, .int .i64 l.a, .int .i64 l.n, .int .i64 l.g, .int .i64 l.p, .int .i64 l.o, .int .i64 l.t]] w (DidB B w s x (doP P l)) := by
  by_cases h1 : l.k = 0 ∨ l.k = 1 ∨ l.k = 2
  · exact do_map h hl h1
  · by_cases h3 : l.k = 3
    · exact do_un h hl h3
    · by_cases h4 : l.k = 4
      · exact do_pr h hl h4
      · exact do_mv h hl h1 h3 h4
end
end Go.Proofs.Ytodepfgfgphkbaa
