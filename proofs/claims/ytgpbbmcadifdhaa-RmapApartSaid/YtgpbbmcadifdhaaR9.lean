/- Add. -/
import Derived.Test.YtgpbbmcadifdhaaR8
namespace Go.Proofs.Ytgpbbmcadifdhaa
open Go.RowKit

theorem adE_range {L : List On} {f : Int} {s : It} (h : ¬ (okF f ∧ okS s)) : adE L f s = 3 ∧ adL L f s = L := by
  have e : adE L f s = 3 := by unfold adE; rw [if_pos h]
  exact ⟨e, by unfold adL; rw [e, if_neg (by decide)]⟩
theorem adE_exist {L : List On} {f : Int} {s : It} (h : okF f ∧ okS s) (k : (f, s) ∈ L) : adE L f s = 7 ∧ adL L f s = L := by
  have e : adE L f s = 7 := by unfold adE; rw [if_neg (by simpa using h), if_pos k]
  exact ⟨e, by unfold adL; rw [e, if_neg (by decide)]⟩
theorem adE_ok {L : List On} {f : Int} {s : It} (h : okF f ∧ okS s) (k : (f, s) ∉ L) : adE L f s = 0 ∧ adL L f s = ins L (f, s) := by
  have e : adE L f s = 0 := by unfold adE; rw [if_neg (by simpa using h), if_neg k]
  exact ⟨e, by unfold adL; rw [e, if_pos rfl]⟩
section
variable {B : Nat} {w : World} {T : Rm} {L : List On} {f x y : Int}
theorem add_range (h : RmIs B w T L) (hn : ¬ (okF f ∧ okS (x, y))) :
    Calls Try.prog 9 #[.pointer (some ⟨T.s, 0, none⟩), .int .i64 f, .agg #[.int .i64 x, .int .i64 y]] w (Changed B T 3 L w) := by
  have hX := h.alloc (.cells #[.int .i64 x, .int .i64 y] 27)
  have hW := below_new w (.cells #[.int .i64 x, .int .i64 y] 27)
  have H : Hid (∀ w', Below w.heap.size w w' → Changed B T 3 L w (.returned (.int .i64 3)) w') := fun w' hb => ⟨rfl, T, h.same hb⟩
  have HB := Lib.hid hW
  by_cases h1 : okF f
  · have hd : decide (okF f) = true := by simpa using h1
    have hd2 : decide (okS (x, y)) = false := by simpa using fun k => hn ⟨h1, k⟩
    clear hX h hn h1 hW
    go_enter Try.func9, Try.ntmps9
    go_wp2_with (first | (go_at_call 22; refine (isFrame_any _ _).mono ?_; rintro e w1 ⟨rfl, rfl⟩; rw [hd]) | (go_at_call 23; refine (isSpot_any _ _ _).mono ?_; rintro e w1 ⟨rfl, hb1⟩; rw [hd2]))
    go_ret
    exact H.out _ (HB.out.trans (hb1.mono HB.out.size))
  · have hd : decide (okF f) = false := by simpa using h1
    clear hX h hn h1 hW
    go_enter Try.func9, Try.ntmps9
    go_wp2_with (go_at_call 22; refine (isFrame_any _ _).mono ?_; rintro e w1 ⟨rfl, rfl⟩; rw [hd])
    go_ret
    exact H.out _ HB.out
set_option maxHeartbeats 1000000 in
theorem add_exist (h : RmIs B w T L) (hL : L.length ≤ 200) (h1 : okF f) (h2 : okS (x, y)) (h3 : (f, (x, y)) ∈ L) :
    Calls Try.prog 9 #[.pointer (some ⟨T.s, 0, none⟩), .int .i64 f, .agg #[.int .i64 x, .int .i64 y]] w (Changed B T 7 L w) := by
  have hX := h.alloc (.cells #[.int .i64 x, .int .i64 y] 27)
  obtain ⟨W, hW⟩ : ∃ W, W = w.alloc (.cells #[.int .i64 x, .int .i64 y] 27) := ⟨_, rfl⟩
  have hb : Lrow W w.heap.size 27 [.int .i64 x, .int .i64 y] := by rw [hW]; exact Lrow.new w _ _
  have hWB : Below w.heap.size w W := by rw [hW]; exact below_new _ _
  rw [← hW] at hX
  have H : Hid (∀ w', Below w.heap.size w w' → Changed B T 7 L w (.returned (.int .i64 7)) w') := fun w' hb => ⟨rfl, T, h.same hb⟩
  have hd : decide (okF f) = true := by simpa using h1
  have hd2 : decide (okS (x, y)) = true := by simpa using h2
  have hd3 : decide ((x, y) ∈ sps L f) = true := by simpa using mem_sps.2 h3
  have hff := okF_fits h1
  have HX := Lib.hid hX
  have HW := Lib.hid hW
  have HB := Lib.hid hb
  have HWB := Lib.hid hWB
  have c0 := hb.cell 0
  have c1 := hb.cell 1
  clear h h1 h2 h3 hX hb hWB
  go_enter Try.func9, Try.ntmps9
  go_upto_region 1 with (fail)
  rw [← HW.out]
  clear hW
  go_wp2_with (first | (go_at_call 22; refine (isFrame_any _ _).mono ?_; rintro e w1 ⟨rfl, rfl⟩; rw [hd]) | (go_at_call 23; refine (isSpot_any _ _ _).mono ?_; rintro e w1 ⟨rfl, hb1⟩; rw [hd2]; have d0 := (HB.out.call hb1).cell 0; have d1 := (HB.out.call hb1).cell 1) | (go_at_call 24; refine (place_any (HX.out.call hb1) hL hff).mono ?_; rintro e w2 ⟨rfl, hb2⟩; rw [hd3]))
  go_ret
  exact H.out _ (HWB.out.trans ((hb1.trans (hb2.mono hb1.size)).mono HWB.out.size))
theorem at_insI {l : List It} (h : Up l) {s : It} (hs : s ∉ l) : l.take (cutS s l) ++ s :: l.drop (cutS s l) = insI l s := (insI_cut h hs).symm
set_option maxRecDepth 100000 in
set_option maxHeartbeats 2000000 in
theorem add_ok (h : RmIs B w T L) (hB : B ≤ w.heap.size) (hL : L.length ≤ 200) (h1 : okF f) (h2 : okS (x, y)) (hx : Fits x) (h3 : (f, (x, y)) ∉ L) :
    Calls Try.prog 9 #[.pointer (some ⟨T.s, 0, none⟩), .int .i64 f, .agg #[.int .i64 x, .int .i64 y]] w (Changed B T 0 (ins L (f, (x, y))) w) := by
  have hX := h.alloc (.cells #[.int .i64 x, .int .i64 y] 27)
  obtain ⟨W, hW⟩ : ∃ W, W = w.alloc (.cells #[.int .i64 x, .int .i64 y] 27) := ⟨_, rfl⟩
  have hb : Lrow W w.heap.size 27 [.int .i64 x, .int .i64 y] := by rw [hW]; exact Lrow.new w _ _
  have hWB : Below w.heap.size w W := by rw [hW]; exact below_new _ _
  rw [← hW] at hX
  have hd : decide (okF f) = true := by simpa using h1
  have hd2 : decide (okS (x, y)) = true := by simpa using h2
  have hd3 : decide ((x, y) ∈ sps L f) = false := by simpa using fun k => h3 (mem_sps.1 k)
  have hff := okF_fits h1
  have HX := Lib.hid hX
  have HW := Lib.hid hW
  have HB := Lib.hid hb
  have HBB := Lib.hid hB
  have HWB := Lib.hid hWB
  have c0 := hb.cell 0
  have c1 := hb.cell 1
  have HN := Lib.hid (h.good.ins h1 h2 hx h3)
  have HU := Lib.hid h.good.up
  have HR0 := Lib.hid h
  have HM := Lib.hid h3
  clear h h1 h2 h3 hX hb hWB hB
  go_enter Try.func9, Try.ntmps9
  go_upto_region 1 with (fail)
  rw [← HW.out]
  clear hW
  go_wp2_with (first | (go_at_call 22; refine (isFrame_any _ _).mono ?_; rintro e w1 ⟨rfl, rfl⟩; rw [hd]) | (go_at_call 23; refine (isSpot_any _ _ _).mono ?_; rintro e w1 ⟨rfl, hb1⟩; rw [hd2]; have d0 := (HB.out.call hb1).cell 0; have d1 := (HB.out.call hb1).cell 1) | (go_at_call 24; refine (place_any (HX.out.call hb1) hL hff).mono ?_; rintro e w2 ⟨rfl, hb2⟩; rw [hd3]))
  have hb12 := hb1.trans (hb2.mono hb1.size)
  have hX := (HX.out.call hb12).drewN 1
  have hb := (HB.out.call hb12).drewN 1
  have hWw : Below w.heap.size w (w2.drewN 1) := below_dN (HWB.out.trans (hb12.mono HWB.out.size)) 1
  obtain ⟨i, hi⟩ : ∃ i, i = cutS (x, y) (sps L f) := ⟨_, rfl⟩
  rw [← hi]
  obtain ⟨V, hV⟩ : ∃ V, V = (w2.alloc (.cells #[.int .i64 x, .int .i64 y] 27)).drew := ⟨_, rfl⟩
  have hXV : RmIs B V T L := by rw [hV]; exact ((HX.out.call hb12).alloc _).drewN 1
  have hbV : Lrow V w.heap.size 27 [.int .i64 x, .int .i64 y] := by rw [hV]; exact (Lrow.alloc (w := w2) hb _).drewN 1
  have hnV : Lrow V w2.heap.size 27 [.int .i64 x, .int .i64 y] := by rw [hV]; exact (Lrow.new w2 _ _).drewN 1
  have hVw : Below w.heap.size w V := by rw [hV]; exact below_dN (Below.alloc (w := w2) ⟨hWw.os, hWw.tape, hWw.output, hWw.size, hWw.block⟩ hWw.size _) 1
  have hins := insert_any (hXV.row f hff) (Nat.le_trans HBB.out hVw.size) hnV (fun b e => by
    obtain ⟨vs, r, _⟩ := own_block (hX.row f hff) e
    have := r.lt
    have e2 : (w2.drewN 1).heap.size = w2.heap.size := rfl
    omega) (by rw [hi]; exact cut_le _ _ : i ≤ (sps L f).length) (spsl hL f)
  rw [hi, at_insI (sps_up HU.out f) (fun k => HM.out (mem_sps.1 k)), ← hi] at hins
  have hput : ∀ w3 v, V.grownBy w3 (T.row f).ownBlock → ∃ w4, (Instr.mapUpdate 49 (.map (some T.b)) (.int .i64 f) v).run Try.prog w3 = .ok () w4 ∧ w3.grownBy w4 (some T.b) ∧ MapV w4 T.b (L.length + 1) (updV T.M f (some v)) := fun w3 v hg =>
    (hXV.map.heap (hg.block _ hXV.map.lt (fun e => by
      obtain ⟨vs, r, _⟩ := own_block (hXV.row f hff) e.symm
      exact hXV.map.apart r rfl))).put (by omega) v hff
  have hend : Hid (∀ w3 w4 v, Sp B w3 v (insI (sps L f) (x, y)) → V.grownBy w3 (T.row f).ownBlock → (v.ownBlock = (T.row f).ownBlock ∨ ∃ g, v.ownBlock = some g ∧ V.heap.size ≤ g) → w3.grownBy w4 (some T.b) → MapV w4 T.b (L.length + 1) (updV T.M f (some v)) →
      Changed B T 0 (ins L (f, (x, y))) w (.returned (.int .i64 0)) w4) := fun w3 w4 v k1 k2 k3 k4 k5 =>
    ⟨rfl, _, (hXV.turn HN.out hff (fun g e => by rw [sps_ins, if_neg e]) (by rw [sps_ins, if_pos rfl]; unfold insI; simp) (by rw [sps_ins, if_pos rfl]; exact k1) k2 k3 k5 k4).pre hVw⟩
  have nb : w.heap.size ≠ T.b := Nat.ne_of_gt HR0.out.map.lt
  have n1 : some T.s ≠ (T.row f).ownBlock := fun e => by
    obtain ⟨vs, r, _⟩ := own_block (hXV.row f hff) e.symm
    exact hXV.top.apart r (by decide) rfl
  have n2 : some w.heap.size ≠ (T.row f).ownBlock := fun e => by
    obtain ⟨vs, r, _⟩ := own_block (HR0.out.row f hff) e.symm
    have := r.lt; omega
  have hk : ∀ w3, V.grownBy w3 (T.row f).ownBlock → w3.cell? ⟨T.s, 0, none⟩ = some (.map (some T.b)) ∧ (w3.cell? ⟨w.heap.size, 0, none⟩ = some (.int .i64 x) ∧ w3.cell? ⟨w.heap.size, 1, none⟩ = some (.int .i64 y)) := fun w3 hg =>
    ⟨(hXV.top.grown hg n1).cell 0, ⟨(hbV.grown hg n2).cell 0, (hbV.grown hg n2).cell 1⟩⟩
  have hk2 : ∀ w3 w4, V.grownBy w3 (T.row f).ownBlock → w3.grownBy w4 (some T.b) → w4.cell? ⟨T.s, 0, none⟩ = some (.map (some T.b)) ∧ (w4.cell? ⟨w.heap.size, 0, none⟩ = some (.int .i64 x) ∧ w4.cell? ⟨w.heap.size, 1, none⟩ = some (.int .i64 y)) := fun w3 w4 hg hg4 =>
    have m1 : some T.s ≠ some T.b := fun e => hXV.sb (by injection e)
    have m2 : some w.heap.size ≠ some T.b := fun e => nb (by injection e)
    ⟨((hXV.top.grown hg n1).grown hg4 m1).cell 0, ⟨((hbV.grown hg n2).grown hg4 m2).cell 0, ((hbV.grown hg n2).grown hg4 m2).cell 1⟩⟩
  have hs : w2.drew.cell? ⟨T.s, 0, none⟩ = some (.map (some T.b)) ∧ (w2.drew.cell? ⟨w.heap.size, 0, none⟩ = some (.int .i64 x) ∧ w2.drew.cell? ⟨w.heap.size, 1, none⟩ = some (.int .i64 y)) := ⟨hX.c0, ⟨hb.cell 0, hb.cell 1⟩⟩
  have hl1 : (Instr.lookup 49 (.map (some T.b)) (.int .i64 f) false).run Try.prog w2.drew = .ok (T.row f) w2.drew := hX.look hff
  have hs2 : V.cell? ⟨T.s, 0, none⟩ = some (.map (some T.b)) ∧ (V.cell? ⟨w.heap.size, 0, none⟩ = some (.int .i64 x) ∧ V.cell? ⟨w.heap.size, 1, none⟩ = some (.int .i64 y)) := hk V (World.grownBy.refl V _)
  have hl2 : (Instr.lookup 49 (.map (some T.b)) (.int .i64 f) false).run Try.prog V = .ok (T.row f) V := hXV.look hff
  obtain ⟨u, hu⟩ : ∃ u, u = T.row f := ⟨_, rfl⟩
  have hfo := own_form (hX.row f hff)
  rw [← hu] at hins hput hend hk hk2 hl1 hl2 hfo
  obtain ⟨A, c, rfl⟩ := hfo
  rw [hV] at hins hput hend hk hk2 hs2 hl2
  clear hu hX hb hXV hbV hnV hVw hV hi hb12 hWw c0 c1 d0 d1 hd3 hb1 hb2 n1 n2 nb
  go_region_held3 (fun v => v.cell? ⟨T.s, 0, none⟩ = some (.map (some T.b)) ∧ (v.cell? ⟨w.heap.size, 0, none⟩ = some (.int .i64 x) ∧ v.cell? ⟨w.heap.size, 1, none⟩ = some (.int .i64 y)))
    (first | exact hs | exact hs2 | exact hk3 | exact hk4)
    (first | (go_at_call 25; refine hins.mono ?_; rintro e w3 ⟨v3, rfl, hsp3, hg3, hv3⟩; have hk3 := hk _ hg3; obtain ⟨A3, c3, rfl⟩ := own_form hsp3; obtain ⟨w4, hr4, hg4, hm4⟩ := hput _ (.slice A3 (insI (sps L f) (x, y)).length c3) hg3; have hk4 := hk2 _ _ hg3 hg4))
  all_goals
    go_wp2
    go_ret
    exact hend.out _ _ _ hsp3 hg3 hv3 hg4 hm4
theorem add_any (h : RmIs B w T L) (hB : B ≤ w.heap.size) (hL : L.length ≤ 200) (hx : Fits x) :
    Calls Try.prog 9 #[.pointer (some ⟨T.s, 0, none⟩), .int .i64 f, .agg #[.int .i64 x, .int .i64 y]] w (Changed B T (adE L f (x, y)) (adL L f (x, y)) w) := by
  by_cases h1 : okF f ∧ okS (x, y)
  · by_cases h3 : (f, (x, y)) ∈ L
    · rw [(adE_exist h1 h3).1, (adE_exist h1 h3).2]; exact add_exist h hL h1.1 h1.2 h3
    · rw [(adE_ok h1 h3).1, (adE_ok h1 h3).2]; exact add_ok h hB hL h1.1 h1.2 hx h3
  · rw [(adE_range h1).1, (adE_range h1).2]; exact add_range h h1
end
end Go.Proofs.Ytgpbbmcadifdhaa
