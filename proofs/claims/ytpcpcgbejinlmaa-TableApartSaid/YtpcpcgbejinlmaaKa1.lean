/- Package table: TableApart, walked. -/
import Derived.Test.YtpcpcgbejinlmaaMg49
namespace Go.Proofs.Ytpcpcgbejinlmaa
open Go.RowKit
set_option maxRecDepth 100000 in
set_option maxHeartbeats 16000000 in
theorem apart_walk0 (A : Option Addr) (n c : Nat) (l : Ac) (hl : IsAc l) (hb : bits .and .i64 l.r 1 = 0) (w : World) (hA : Acs w w.heap.size A n) : Calls Try.prog 5 #[.slice A n c, .agg (acCells l).toArray] w fun e w' => e = .returned (.bool true) ∧ Below w.heap.size w w' := by
  obtain ⟨q, hq⟩ : ∃ q, q = w.heap.size := ⟨_, rfl⟩
  obtain ⟨W0, hW0⟩ : ∃ W0, W0 = w.alloc (.cells (acCells l).toArray 52) := ⟨_, rfl⟩
  have g0 : Below w.heap.size w W0 := by rw [hW0]; exact below_new w _ (acCells l)
  have rs : Row W0 q 52 (acCells l) := by rw [hW0, hq]; exact Row.new w _ (acCells l)
  have hA0 : Acs W0 W0.heap.size A n := fun hn => by
    obtain ⟨p, e, hlt, hc⟩ := (hA.below g0) hn
    exact ⟨p, e, Nat.lt_of_lt_of_le hlt g0.size, hc⟩
  have HA := Lib.hid hA0
  have HG := Lib.hid (And.intro g0 rs)
  have HW := Lib.hid (And.intro hW0 hq)
  have HL := Lib.hid hl
  have hmade := made_run 10 (by omega) W0
  clear hA hA0 hW0 hq g0 rs hl
  unfold acCells at HW ⊢
  go_enter Try.func5, Try.ntmps5
  go_upto_region 1 with (fail)
  rw [← HW.out.1, ← HW.out.2]
  go_wp2_with fail
  refine hmade.mono ?_
  rintro e w1 ⟨k, rfl, ⟨hk, -⟩, v, lf, hlw⟩
  have HN := Lib.hid hk
  have HR1 : Hid (Run W0 w1 k 0) := Lib.hid ⟨_, _, _, _, _, _, _, _, hlw⟩
  have hak := awake_any w1
  clear hmade hlw hk
  go_wp2_with fail
  refine hak.mono ?_
  rintro e w2 ⟨rfl, hb2⟩
  have HR2 := Lib.hid (HR1.out.call hb2)
  have hpl := play_run HR2.out (by omega) HN.out A n c HA.out
  clear hak hb2 HR1
  go_wp2_with fail
  refine hpl.mono ?_
  rintro e w3 ⟨⟨bb, rfl⟩, hr3⟩
  obtain ⟨v, ws, L, v0, L0, v1, L1, lf, h3⟩ := hr3
  have H3 := Lib.hid h3
  have R3 : Hid (Row w3 q 52 (acCells l)) := HG.out.2.below h3.below HG.out.2.lt
  have c1 : w3.cell? ⟨q, 1, none⟩ = some (.int .i64 l.r) := R3.out.cell 1
  clear hpl h3 HR2
  go_upto_region 6 with (fail)
  clear hb
  have hs0 : (fun v => v.cell? ⟨k.g, 0, none⟩ = some (.pointer (some ⟨k.s.x, 0, none⟩)) ∧ v.cell? ⟨k.g, 3, none⟩ = some (.int .i64 k.r0) ∧ v.cell? ⟨k.g, 4, none⟩ = some (.int .i64 k.r1)) w3.drew := ⟨H3.out.row.cell 0, H3.out.row.cell 3, H3.out.row.cell 4⟩
  refine wp_region_held_drew (S := (fun v => v.cell? ⟨k.g, 0, none⟩ = some (.pointer (some ⟨k.s.x, 0, none⟩)) ∧ v.cell? ⟨k.g, 3, none⟩ = some (.int .i64 k.r0) ∧ v.cell? ⟨k.g, 4, none⟩ = some (.int .i64 k.r1))) (by kernel_rfl) hs0 (fun hHeld => ?_)
  have H4 : Hid (Lw W0 w3.drew k v ws L v0 L0 v1 L1 lf (0 + 1600)) := Lib.hid (H3.out.call (drewN_b (Below.refl _ _) 1))
  have R4 : Hid (Row w3.drew q 52 (acCells l)) := R3.out
  have hm1 := H4.out.leaves HN.out false
  generalize w3.drew = w4 at hHeld hs0 H4 R4 hm1 ⊢
  clear c1 H3 R3
  have wr1 : IntKind.i64.wrap 1 = 1 := by decide
  have wr0 : IntKind.i64.wrap 0 = 0 := by decide
  refine tkY 0 (at_lit rfl) (v := ?_) (Or.inl ⟨by rfl, ?_⟩) ?_
  rotate_left
  focus (intro _ h; (try dsimp only at h); go_simp; (try with_reducible rfl); done)
  (try simp only [Act.put, sAr, sZe, sSu])
  refine tkY 1 (at_lit rfl) (v := ?_) (Or.inl ⟨by rfl, ?_⟩) ?_
  rotate_left
  focus (intro _ h; (try dsimp only at h); go_simp; (try with_reducible rfl); done)
  (try simp only [Act.put, sAr, sZe, sSu])
  refine tkY 2 (at_lit rfl) (v := ?_) (Or.inl ⟨by rfl, ?_⟩) ?_
  rotate_left
  focus (intro _ h; (try dsimp only at h); go_simp; (try with_reducible rfl); done)
  (try simp only [Act.put, sAr, sZe, sSu])
  refine tkY 3 (at_lit rfl) (v := ?_) (Or.inl ⟨by rfl, ?_⟩) ?_
  rotate_left
  focus (intro _ h; (try dsimp only at h); go_simp; (try with_reducible rfl); done)
  (try simp only [Act.put, sAr, sZe, sSu])
  refine tkY 4 (at_lit rfl) (v := ?_) (Or.inl ⟨by rfl, ?_⟩) ?_
  rotate_left
  focus (intro _ h; (try dsimp only at h); go_simp; (try with_reducible rfl); done)
  (try simp only [Act.put, sAr, sZe, sSu])
  refine tkY 5 (at_lit rfl) (v := ?_) (Or.inl ⟨by rfl, ?_⟩) ?_
  rotate_left
  focus (intro _ h; (try dsimp only at h); go_simp; (try with_reducible rfl); done)
  (try simp only [Act.put, sAr, sZe, sSu])
  refine tkY 6 (at_lit rfl) (v := ?_) (Or.inl ⟨by rfl, ?_⟩) ?_
  rotate_left
  focus (intro _ h; (try dsimp only at h); go_simp; (try with_reducible rfl); done)
  (try simp only [Act.put, sAr, sZe, sSu])
  refine tkY 7 (at_lit rfl) (v := ?_) (Or.inl ⟨by rfl, ?_⟩) ?_
  rotate_left
  focus (intro _ h; (try dsimp only at h); go_simp; (try with_reducible rfl); done)
  (try simp only [Act.put, sAr, sZe, sSu])
  refine tkY 8 (at_lit rfl) (v := ?_) (Or.inl ⟨by rfl, ?_⟩) ?_
  rotate_left
  focus (intro _ h; (try dsimp only at h); go_simp; (try with_reducible rfl); done)
  (try simp only [Act.put, sAr, sZe, sSu])
  refine tkY 9 (at_lit rfl) (v := ?_) (Or.inl ⟨by rfl, ?_⟩) ?_
  rotate_left
  focus (intro _ h; (try dsimp only at h); go_simp; (try with_reducible rfl); done)
  (try simp only [Act.put, sAr, sZe, sSu])
  refine tkY 11 (at_lit rfl) (v := ?_) (Or.inl ⟨by rfl, ?_⟩) ?_
  rotate_left
  focus (intro _ h; (try dsimp only at h); go_simp; (try with_reducible rfl); done)
  (try simp only [Act.put, sAr, sZe, sSu])
  refine tkY 12 (at_lit rfl) (v := ?_) (Or.inl ⟨by rfl, ?_⟩) ?_
  rotate_left
  focus (intro _ h; (try dsimp only at h); go_simp; (try with_reducible rfl); done)
  (try simp only [Act.put, sAr, sZe, sSu])
  refine tkY 13 (at_lit rfl) (v := ?_) (Or.inl ⟨by rfl, ?_⟩) ?_
  rotate_left
  focus (intro _ h; (try dsimp only at h); go_simp; (try with_reducible rfl); done)
  (try simp only [Act.put, sAr, sZe, sSu])
  refine tkY 14 (at_lit rfl) (v := ?_) (Or.inl ⟨by rfl, ?_⟩) ?_
  rotate_left
  focus (intro _ h; (try dsimp only at h); go_simp; (try with_reducible rfl); done)
  (try simp only [Act.put, sAr, sZe, sSu])
  refine tkY 15 (at_lit rfl) (v := ?_) (Or.inl ⟨by rfl, ?_⟩) ?_
  rotate_left
  focus (intro _ h; (try dsimp only at h); go_simp; (try with_reducible rfl); done)
  (try simp only [Act.put, sAr, sZe, sSu])
  refine tkY 16 (at_lit rfl) (v := ?_) (Or.inl ⟨by rfl, ?_⟩) ?_
  rotate_left
  focus (intro _ h; (try dsimp only at h); go_simp; (try with_reducible rfl); done)
  (try simp only [Act.put, sAr, sZe, sSu])
  refine tkY 17 (at_lit rfl) (v := ?_) (Or.inl ⟨by rfl, ?_⟩) ?_
  rotate_left
  focus (intro _ h; (try dsimp only at h); go_simp; (try with_reducible rfl); done)
  (try simp only [Act.put, sAr, sZe, sSu])
  refine tkY 18 (at_lit rfl) (v := ?_) (Or.inl ⟨by rfl, ?_⟩) ?_
  rotate_left
  focus (intro _ h; (try dsimp only at h); go_simp; (try with_reducible rfl); done)
  (try simp only [Act.put, sAr, sZe, sSu])
  refine tkY 19 (at_lit rfl) (v := ?_) (Or.inl ⟨by rfl, ?_⟩) ?_
  rotate_left
  focus (intro _ h; (try dsimp only at h); go_simp; (try with_reducible rfl); done)
  (try simp only [Act.put, sAr, sZe, sSu])
  refine tkY 20 (at_lit rfl) (v := ?_) (Or.inl ⟨by rfl, ?_⟩) ?_
  rotate_left
  focus (intro _ h; (try dsimp only at h); go_simp; (try with_reducible rfl); done)
  (try simp only [Act.put, sAr, sZe, sSu])
  refine tkY 21 (at_lit rfl) (v := ?_) (Or.inl ⟨by rfl, ?_⟩) ?_
  rotate_left
  focus (intro _ h; (try dsimp only at h); go_simp; (try with_reducible rfl); done)
  (try simp only [Act.put, sAr, sZe, sSu])
  refine wpAnyH_ready (rs := [10]) (by kernel_rfl) (by simp) ?_
  refine AllReadyH.cons (o := _) (at_lit rfl) (fun K hK => ?_) AllReadyH.nil
  go_simp
  go_at_call 14
  refine hm1.mono ?_
  rintro e w5 ⟨A1, c1', rfl, m1, b5⟩
  have H5 := Lib.hid (H4.out.call b5)
  have R5 := Lib.hid (R4.out.below b5 R4.out.lt)
  have M5 := Lib.hid m1
  have hs5 : (fun v => v.cell? ⟨k.g, 0, none⟩ = some (.pointer (some ⟨k.s.x, 0, none⟩)) ∧ v.cell? ⟨k.g, 3, none⟩ = some (.int .i64 k.r0) ∧ v.cell? ⟨k.g, 4, none⟩ = some (.int .i64 k.r1)) w5 := ⟨H5.out.row.cell 0, H5.out.row.cell 3, H5.out.row.cell 4⟩
  have hm2 := H5.out.leaves HN.out true
  clear hm1 m1 b5 H4 R4
  go_wp2_with fail
  refine hK.out _ _ ?_ (fun hHeld => ?_)
  focus exact hs5
  clear hK K
  (try simp only [Act.put, sAr, sZe, sSu])
  refine wpAnyH_ready (rs := [22]) (by kernel_rfl) (by simp) ?_
  refine AllReadyH.cons (o := _) (at_lit rfl) (fun K hK => ?_) AllReadyH.nil
  go_simp
  go_at_call 14
  refine hm2.mono ?_
  rintro e w6 ⟨A2, c2', rfl, m2, b6⟩
  have H6 := Lib.hid (H5.out.call b6)
  have R6 := Lib.hid (R5.out.below b6 R5.out.lt)
  have M6 := Lib.hid (M5.out.call b6)
  have O6 := Lib.hid m2
  have hs6 : (fun v => v.cell? ⟨k.g, 0, none⟩ = some (.pointer (some ⟨k.s.x, 0, none⟩)) ∧ v.cell? ⟨k.g, 3, none⟩ = some (.int .i64 k.r0) ∧ v.cell? ⟨k.g, 4, none⟩ = some (.int .i64 k.r1)) w6 := ⟨H6.out.row.cell 0, H6.out.row.cell 3, H6.out.row.cell 4⟩
  clear hm2 m2 b6 H5 R5 M5 hs5
  go_wp2_with fail
  refine hK.out _ _ ?_ (fun hHeld => ?_)
  focus exact hs6
  clear hK K
  (try simp only [Act.put, sAr, sZe, sSu])
  refine tkY 23 (at_lit rfl) (v := ?_) (Or.inl ⟨by rfl, ?_⟩) ?_
  rotate_left
  focus (intro _ h; (try dsimp only at h); go_simp; (try with_reducible rfl); done)
  (try simp only [Act.put, sAr, sZe, sSu])
  refine tkY 24 (at_lit rfl) (v := ?_) (Or.inl ⟨by rfl, ?_⟩) ?_
  rotate_left
  focus (intro _ h; (try dsimp only at h); go_simp; (try with_reducible rfl); done)
  (try simp only [Act.put, sAr, sZe, sSu])
  refine wpAnyH_done (by kernel_rfl) ?_ _
  clear hs6
  obtain ⟨Ab, cb, hvb⟩ := own_form H6.out.tab.bag.row
  subst hvb
  obtain ⟨Nb, hNb⟩ : ∃ Nb, Nb = L.length := ⟨_, rfl⟩
  have HNB := Lib.hid hNb
  have g2 : w6.cell? ⟨k.g, 2, none⟩ = some (.pointer (some ⟨k.s.y, 0, none⟩)) := H6.out.row.cell 2
  have y0 : w6.cell? ⟨k.s.y, 0, none⟩ = some (.slice Ab Nb cb) := by rw [hNb]; exact H6.out.tab.bag.top.cell 0
  have a0 : w6.cell? ⟨q, 0, none⟩ = some (.int .i64 l.kd) := R6.out.cell 0
  clear hNb
  go_upto_block 0 with (fail)
  clear g2 y0 a0
  go_cut [10] from 57 to 142 (fun s10 wx => ∃ (er : Int) (v' : Value) (ws' L' : List Int), s10 = .int .i64 er ∧ (Lw W0 wx k v' ws' L' v0 L0 v1 L1 lf (0 + 1600) ∧ lvR k ws' true = lvR k ws true ∧ (er ≠ 0 → ws' = ws ∧ L' = L)) ∧ Ms wx w4.heap.size (.slice A1 (lvR k ws false).length c1') (lvR k ws false) ∧ Ms wx w5.heap.size (.slice A2 (lvR k ws true).length c2') (lvR k ws true))
  case first =>
    have e : ∀ n : Int, (l.kd == n) = decide (l.kd = n) := fun n => by
      by_cases c : l.kd = n
      · rw [decide_eq_true c]; simpa using c
      · rw [decide_eq_false c]; simpa using c
    by_cases c3 : l.kd = 3
    · have d3 : (l.kd == 3) = true := by rw [e]; exact decide_eq_true c3
      clear c3 e
      go_upto_region 12 with (fail)
      have hs6 : (fun v => v.cell? ⟨k.g, 0, none⟩ = some (.pointer (some ⟨k.s.x, 0, none⟩)) ∧ v.cell? ⟨k.g, 3, none⟩ = some (.int .i64 k.r0) ∧ v.cell? ⟨q, 2, none⟩ = some (.int .i64 l.pg) ∧ v.cell? ⟨q, 3, none⟩ = some (.int .i64 l.o)) w6.drew := ⟨H6.out.row.cell 0, H6.out.row.cell 3, R6.out.cell 2, R6.out.cell 3⟩
      refine wp_region_noPanic ?_
      refine wp_region_held_drew (S := (fun v => v.cell? ⟨k.g, 0, none⟩ = some (.pointer (some ⟨k.s.x, 0, none⟩)) ∧ v.cell? ⟨k.g, 3, none⟩ = some (.int .i64 k.r0) ∧ v.cell? ⟨q, 2, none⟩ = some (.int .i64 l.pg) ∧ v.cell? ⟨q, 3, none⟩ = some (.int .i64 l.o))) (by kernel_rfl) hs6 (fun hHeld => ?_)
      have H7 : Hid (Lw W0 w6.drew k (.slice Ab L.length cb) ws L v0 L0 v1 L1 lf (0 + 1600)) := Lib.hid (H6.out.call (drewN_b (Below.refl _ _) 1))
      have R7 : Hid (Row w6.drew q 52 (acCells l)) := R6.out
      have M7 : Hid (Ms w6.drew w4.heap.size (.slice A1 (lvR k ws false).length c1') (lvR k ws false)) := Lib.hid (M6.out.call (drewN_b (Below.refl _ _) 1))
      have O7 : Hid (Ms w6.drew w5.heap.size (.slice A2 (lvR k ws true).length c2') (lvR k ws true)) := Lib.hid (O6.out.call (drewN_b (Below.refl _ _) 1))
      generalize w6.drew = w7 at hHeld hs6 H7 R7 M7 O7 ⊢
      refine tkY 0 (at_lit rfl) (v := ?_) (Or.inl ⟨by rfl, ?_⟩) ?_
      rotate_left
      focus (intro _ h; (try dsimp only at h); go_simp; (try with_reducible rfl); done)
      (try simp only [Act.put, sAr, sZe, sSu])
      refine tkY 1 (at_lit rfl) (v := ?_) (Or.inl ⟨by rfl, ?_⟩) ?_
      rotate_left
      focus (intro _ h; (try dsimp only at h); go_simp; (try with_reducible rfl); done)
      (try simp only [Act.put, sAr, sZe, sSu])
      refine tkY 2 (at_lit rfl) (v := ?_) (Or.inl ⟨by rfl, ?_⟩) ?_
      rotate_left
      focus (intro _ h; (try dsimp only at h); go_simp; (try with_reducible rfl); done)
      (try simp only [Act.put, sAr, sZe, sSu])
      refine tkY 3 (at_lit rfl) (v := ?_) (Or.inl ⟨by rfl, ?_⟩) ?_
      rotate_left
      focus (intro _ h; (try dsimp only at h); go_simp; (try with_reducible rfl); done)
      (try simp only [Act.put, sAr, sZe, sSu])
      refine tkY 4 (at_lit rfl) (v := ?_) (Or.inl ⟨by rfl, ?_⟩) ?_
      rotate_left
      focus (intro _ h; (try dsimp only at h); go_simp; (try with_reducible rfl); done)
      (try simp only [Act.put, sAr, sZe, sSu])
      refine tkY 5 (at_lit rfl) (v := ?_) (Or.inl ⟨by rfl, ?_⟩) ?_
      rotate_left
      focus (intro _ h; (try dsimp only at h); go_simp; (try with_reducible rfl); done)
      (try simp only [Act.put, sAr, sZe, sSu])
      refine tkY 6 (at_lit rfl) (v := ?_) (Or.inl ⟨by rfl, ?_⟩) ?_
      rotate_left
      focus (intro _ h; (try dsimp only at h); go_simp; (try with_reducible rfl); done)
      (try simp only [Act.put, sAr, sZe, sSu])
      refine tkY 7 (at_lit rfl) (v := ?_) (Or.inl ⟨by rfl, ?_⟩) ?_
      rotate_left
      focus (intro _ h; (try dsimp only at h); go_simp; (try with_reducible rfl); done)
      (try simp only [Act.put, sAr, sZe, sSu])
      refine tkY 8 (at_lit rfl) (v := ?_) (Or.inl ⟨by rfl, ?_⟩) ?_
      rotate_left
      focus (intro _ h; (try dsimp only at h); go_simp; (try with_reducible rfl); done)
      (try simp only [Act.put, sAr, sZe, sSu])
      refine tkY 9 (at_lit rfl) (v := ?_) (Or.inl ⟨by rfl, ?_⟩) ?_
      rotate_left
      focus (intro _ h; (try dsimp only at h); go_simp; (try with_reducible rfl); done)
      (try simp only [Act.put, sAr, sZe, sSu])
      refine tkY 10 (at_lit rfl) (v := ?_) (Or.inl ⟨by rfl, ?_⟩) ?_
      rotate_left
      focus (intro _ h; (try dsimp only at h); go_simp; (try with_reducible rfl); done)
      (try simp only [Act.put, sAr, sZe, sSu])
      refine tkY 11 (at_lit rfl) (v := ?_) (Or.inl ⟨by rfl, ?_⟩) ?_
      rotate_left
      focus (intro _ h; (try dsimp only at h); go_simp; (try with_reducible rfl); done)
      (try simp only [Act.put, sAr, sZe, sSu])
      refine tkY 12 (at_lit rfl) (v := ?_) (Or.inl ⟨by rfl, ?_⟩) ?_
      rotate_left
      focus (intro _ h; (try dsimp only at h); go_simp; (try with_reducible rfl); done)
      (try simp only [Act.put, sAr, sZe, sSu])
      refine tkY 13 (at_lit rfl) (v := ?_) (Or.inl ⟨by rfl, ?_⟩) ?_
      rotate_left
      focus (intro _ h; (try dsimp only at h); go_simp; (try with_reducible rfl); done)
      (try simp only [Act.put, sAr, sZe, sSu])
      refine wpAnyH_ready (rs := [14]) (by kernel_rfl) (by simp) ?_
      refine AllReadyH.cons (o := _) (at_lit rfl) (fun K hK => ?_) AllReadyH.nil
      go_simp
      go_at_call 15
      refine ((lw_unmap H7.out HN.out.n false (HN.out.fits false) l.pg l.o HL.out.2.2.1).mono ?_)
      rintro e w8 ⟨f_, b0_, b1_, b7_, b9_, b5_, b6_, er, rfl, v8, ws8, L8, h8, hst, her, hm⟩
      have H8 := Lib.hid h8
      have R8 := Lib.hid (H7.out.tab.row hm R7.out (by decide) (by decide) (by decide))
      have HX := Lib.hid (And.intro (Stp.other false hst) (And.intro her (And.intro (M7.out.mv H7.out.tab hm) (O7.out.mv H7.out.tab hm))))
      clear h8 hst her hm
      go_wp2_with fail
      refine hK.out _ _ ?_ (fun hHeld => ?_)
      focus exact ⟨H8.out.row.cell 0, H8.out.row.cell 3, R8.out.cell 2, R8.out.cell 3⟩
      clear hK K
      (try simp only [Act.put, sAr, sZe, sSu])
      refine tkY 15 (at_lit rfl) (v := ?_) (Or.inl ⟨by rfl, ?_⟩) ?_
      rotate_left
      focus (intro _ h; (try dsimp only at h); go_simp; (try with_reducible rfl); done)
      (try simp only [Act.put, sAr, sZe, sSu])
      refine tkY 16 (at_lit rfl) (v := ?_) (Or.inl ⟨by rfl, ?_⟩) ?_
      rotate_left
      focus (intro _ h; (try dsimp only at h); go_simp; (try with_reducible rfl); done)
      (try simp only [Act.put, sAr, sZe, sSu])
      refine tkY 17 (at_lit rfl) (v := ?_) (Or.inl ⟨by rfl, ?_⟩) ?_
      rotate_left
      focus (intro _ h; (try dsimp only at h); go_simp; (try with_reducible rfl); done)
      (try simp only [Act.put, sAr, sZe, sSu])
      refine tkY 18 (at_lit rfl) (v := ?_) (Or.inl ⟨by rfl, ?_⟩) ?_
      rotate_left
      focus (intro _ h; (try dsimp only at h); go_simp; (try with_reducible rfl); done)
      (try simp only [Act.put, sAr, sZe, sSu])
      refine wpAnyH_done (by kernel_rfl) ?_ _
      refine NoPanic.normal ?_
      go_wp2_with fail
      go_meet
      exact ⟨er, v8, ws8, L8, rfl, ⟨H8.out, HX.out.1, HX.out.2.1⟩, HX.out.2.2.1, HX.out.2.2.2⟩
    · have d3 : (l.kd == 3) = false := by rw [e]; exact decide_eq_false c3
      by_cases c4 : l.kd = 4
      · have d4 : (l.kd == 4) = true := by rw [e]; exact decide_eq_true c4
        clear c3 c4 e
        go_upto_region 14 with (fail)
        have hs6 : (fun v => v.cell? ⟨k.g, 0, none⟩ = some (.pointer (some ⟨k.s.x, 0, none⟩)) ∧ v.cell? ⟨k.g, 3, none⟩ = some (.int .i64 k.r0) ∧ v.cell? ⟨q, 2, none⟩ = some (.int .i64 l.pg) ∧ v.cell? ⟨q, 3, none⟩ = some (.int .i64 l.o) ∧ v.cell? ⟨q, 5, none⟩ = some (.int .i64 l.f) ∧ v.cell? ⟨q, 6, none⟩ = some (.bool l.p) ∧ v.cell? ⟨q, 7, none⟩ = some (.bool l.w) ∧ v.cell? ⟨q, 8, none⟩ = some (.bool l.h) ∧ v.cell? ⟨q, 9, none⟩ = some (.bool l.k) ∧ v.cell? ⟨q, 10, none⟩ = some (.bool l.u) ∧ v.cell? ⟨q, 11, none⟩ = some (.bool l.d)) w6.drew := ⟨H6.out.row.cell 0, H6.out.row.cell 3, R6.out.cell 2, R6.out.cell 3, R6.out.cell 5, R6.out.cell 6, R6.out.cell 7, R6.out.cell 8, R6.out.cell 9, R6.out.cell 10, R6.out.cell 11⟩
        refine wp_region_noPanic ?_
        refine wp_region_held_drew (S := (fun v => v.cell? ⟨k.g, 0, none⟩ = some (.pointer (some ⟨k.s.x, 0, none⟩)) ∧ v.cell? ⟨k.g, 3, none⟩ = some (.int .i64 k.r0) ∧ v.cell? ⟨q, 2, none⟩ = some (.int .i64 l.pg) ∧ v.cell? ⟨q, 3, none⟩ = some (.int .i64 l.o) ∧ v.cell? ⟨q, 5, none⟩ = some (.int .i64 l.f) ∧ v.cell? ⟨q, 6, none⟩ = some (.bool l.p) ∧ v.cell? ⟨q, 7, none⟩ = some (.bool l.w) ∧ v.cell? ⟨q, 8, none⟩ = some (.bool l.h) ∧ v.cell? ⟨q, 9, none⟩ = some (.bool l.k) ∧ v.cell? ⟨q, 10, none⟩ = some (.bool l.u) ∧ v.cell? ⟨q, 11, none⟩ = some (.bool l.d))) (by kernel_rfl) hs6 (fun hHeld => ?_)
        have H7 : Hid (Lw W0 w6.drew k (.slice Ab L.length cb) ws L v0 L0 v1 L1 lf (0 + 1600)) := Lib.hid (H6.out.call (drewN_b (Below.refl _ _) 1))
        have R7 : Hid (Row w6.drew q 52 (acCells l)) := R6.out
        have M7 : Hid (Ms w6.drew w4.heap.size (.slice A1 (lvR k ws false).length c1') (lvR k ws false)) := Lib.hid (M6.out.call (drewN_b (Below.refl _ _) 1))
        have O7 : Hid (Ms w6.drew w5.heap.size (.slice A2 (lvR k ws true).length c2') (lvR k ws true)) := Lib.hid (O6.out.call (drewN_b (Below.refl _ _) 1))
        generalize w6.drew = w7 at hHeld hs6 H7 R7 M7 O7 ⊢
        refine tkY 0 (at_lit rfl) (v := ?_) (Or.inl ⟨by rfl, ?_⟩) ?_
        rotate_left
        focus (intro _ h; (try dsimp only at h); go_simp; (try with_reducible rfl); done)
        (try simp only [Act.put, sAr, sZe, sSu])
        refine tkY 1 (at_lit rfl) (v := ?_) (Or.inl ⟨by rfl, ?_⟩) ?_
        rotate_left
        focus (intro _ h; (try dsimp only at h); go_simp; (try with_reducible rfl); done)
        (try simp only [Act.put, sAr, sZe, sSu])
        refine tkY 2 (at_lit rfl) (v := ?_) (Or.inl ⟨by rfl, ?_⟩) ?_
        rotate_left
        focus (intro _ h; (try dsimp only at h); go_simp; (try with_reducible rfl); done)
        (try simp only [Act.put, sAr, sZe, sSu])
        refine tkY 3 (at_lit rfl) (v := ?_) (Or.inl ⟨by rfl, ?_⟩) ?_
        rotate_left
        focus (intro _ h; (try dsimp only at h); go_simp; (try with_reducible rfl); done)
        (try simp only [Act.put, sAr, sZe, sSu])
        refine tkY 4 (at_lit rfl) (v := ?_) (Or.inl ⟨by rfl, ?_⟩) ?_
        rotate_left
        focus (intro _ h; (try dsimp only at h); go_simp; (try with_reducible rfl); done)
        (try simp only [Act.put, sAr, sZe, sSu])
        refine tkY 5 (at_lit rfl) (v := ?_) (Or.inl ⟨by rfl, ?_⟩) ?_
        rotate_left
        focus (intro _ h; (try dsimp only at h); go_simp; (try with_reducible rfl); done)
        (try simp only [Act.put, sAr, sZe, sSu])
        refine tkY 6 (at_lit rfl) (v := ?_) (Or.inl ⟨by rfl, ?_⟩) ?_
        rotate_left
        focus (intro _ h; (try dsimp only at h); go_simp; (try with_reducible rfl); done)
        (try simp only [Act.put, sAr, sZe, sSu])
        refine tkY 7 (at_lit rfl) (v := ?_) (Or.inl ⟨by rfl, ?_⟩) ?_
        rotate_left
        focus (intro _ h; (try dsimp only at h); go_simp; (try with_reducible rfl); done)
        (try simp only [Act.put, sAr, sZe, sSu])
        refine tkY 8 (at_lit rfl) (v := ?_) (Or.inl ⟨by rfl, ?_⟩) ?_
        rotate_left
        focus (intro _ h; (try dsimp only at h); go_simp; (try with_reducible rfl); done)
        (try simp only [Act.put, sAr, sZe, sSu])
        refine tkY 9 (at_lit rfl) (v := ?_) (Or.inl ⟨by rfl, ?_⟩) ?_
        rotate_left
        focus (intro _ h; (try dsimp only at h); go_simp; (try with_reducible rfl); done)
        (try simp only [Act.put, sAr, sZe, sSu])
        refine tkY 10 (at_lit rfl) (v := ?_) (Or.inl ⟨by rfl, ?_⟩) ?_
        rotate_left
        focus (intro _ h; (try dsimp only at h); go_simp; (try with_reducible rfl); done)
        (try simp only [Act.put, sAr, sZe, sSu])
        refine tkY 11 (at_lit rfl) (v := ?_) (Or.inl ⟨by rfl, ?_⟩) ?_
        rotate_left
        focus (intro _ h; (try dsimp only at h); go_simp; (try with_reducible rfl); done)
        (try simp only [Act.put, sAr, sZe, sSu])
        refine tkY 12 (at_lit rfl) (v := ?_) (Or.inl ⟨by rfl, ?_⟩) ?_
        rotate_left
        focus (intro _ h; (try dsimp only at h); go_simp; (try with_reducible rfl); done)
        (try simp only [Act.put, sAr, sZe, sSu])
        refine tkY 13 (at_lit rfl) (v := ?_) (Or.inl ⟨by rfl, ?_⟩) ?_
        rotate_left
        focus (intro _ h; (try dsimp only at h); go_simp; (try with_reducible rfl); done)
        (try simp only [Act.put, sAr, sZe, sSu])
        refine tkY 14 (at_lit rfl) (v := ?_) (Or.inl ⟨by rfl, ?_⟩) ?_
        rotate_left
        focus (intro _ h; (try dsimp only at h); go_simp; (try with_reducible rfl); done)
        (try simp only [Act.put, sAr, sZe, sSu])
        refine tkY 15 (at_lit rfl) (v := ?_) (Or.inl ⟨by rfl, ?_⟩) ?_
        rotate_left
        focus (intro _ h; (try dsimp only at h); go_simp; (try with_reducible rfl); done)
        (try simp only [Act.put, sAr, sZe, sSu])
        refine wpAnyH_ready (rs := [16]) (by kernel_rfl) (by simp) ?_
        refine AllReadyH.cons (o := _) (at_lit rfl) (fun K hK => ?_) AllReadyH.nil
        go_simp
        go_at_call 16
        refine ((lw_set H7.out false (HN.out.fits false) l.pg l.o l.f l.p l.w l.h l.k l.u l.d HL.out.2.2.1 HL.out.2.2.2.2.2).mono ?_)
        rintro e w8 ⟨er, rfl, v8, ws8, L8, h8, hst, her, hm⟩
        have H8 := Lib.hid h8
        have R8 := Lib.hid (H7.out.tab.row hm R7.out (by decide) (by decide) (by decide))
        have HX := Lib.hid (And.intro (Stp.other false hst) (And.intro her (And.intro (M7.out.mv H7.out.tab hm) (O7.out.mv H7.out.tab hm))))
        clear h8 hst her hm
        go_wp2_with fail
        refine hK.out _ _ ?_ (fun hHeld => ?_)
        focus exact ⟨H8.out.row.cell 0, H8.out.row.cell 3, R8.out.cell 2, R8.out.cell 3, R8.out.cell 5, R8.out.cell 6, R8.out.cell 7, R8.out.cell 8, R8.out.cell 9, R8.out.cell 10, R8.out.cell 11⟩
        clear hK K
        (try simp only [Act.put, sAr, sZe, sSu])
        refine tkY 17 (at_lit rfl) (v := ?_) (Or.inl ⟨by rfl, ?_⟩) ?_
        rotate_left
        focus (intro _ h; (try dsimp only at h); go_simp; (try with_reducible rfl); done)
        (try simp only [Act.put, sAr, sZe, sSu])
        refine wpAnyH_done (by kernel_rfl) ?_ _
        refine NoPanic.normal ?_
        go_wp2_with fail
        go_meet
        exact ⟨er, v8, ws8, L8, rfl, ⟨H8.out, HX.out.1, HX.out.2.1⟩, HX.out.2.2.1, HX.out.2.2.2⟩
      · have d4 : (l.kd == 4) = false := by rw [e]; exact decide_eq_false c4
        by_cases c5 : l.kd = 5
        · have d5 : (l.kd == 5) = true := by rw [e]; exact decide_eq_true c5
          clear c3 c4 c5 e
          go_upto_region 16 with (fail)
          have hs6 : (fun v => v.cell? ⟨k.g, 0, none⟩ = some (.pointer (some ⟨k.s.x, 0, none⟩)) ∧ v.cell? ⟨k.g, 3, none⟩ = some (.int .i64 k.r0) ∧ v.cell? ⟨q, 2, none⟩ = some (.int .i64 l.pg)) w6.drew := ⟨H6.out.row.cell 0, H6.out.row.cell 3, R6.out.cell 2⟩
          refine wp_region_noPanic ?_
          refine wp_region_held_drew (S := (fun v => v.cell? ⟨k.g, 0, none⟩ = some (.pointer (some ⟨k.s.x, 0, none⟩)) ∧ v.cell? ⟨k.g, 3, none⟩ = some (.int .i64 k.r0) ∧ v.cell? ⟨q, 2, none⟩ = some (.int .i64 l.pg))) (by kernel_rfl) hs6 (fun hHeld => ?_)
          have H7 : Hid (Lw W0 w6.drew k (.slice Ab L.length cb) ws L v0 L0 v1 L1 lf (0 + 1600)) := Lib.hid (H6.out.call (drewN_b (Below.refl _ _) 1))
          have R7 : Hid (Row w6.drew q 52 (acCells l)) := R6.out
          have M7 : Hid (Ms w6.drew w4.heap.size (.slice A1 (lvR k ws false).length c1') (lvR k ws false)) := Lib.hid (M6.out.call (drewN_b (Below.refl _ _) 1))
          have O7 : Hid (Ms w6.drew w5.heap.size (.slice A2 (lvR k ws true).length c2') (lvR k ws true)) := Lib.hid (O6.out.call (drewN_b (Below.refl _ _) 1))
          generalize w6.drew = w7 at hHeld hs6 H7 R7 M7 O7 ⊢
          refine tkY 0 (at_lit rfl) (v := ?_) (Or.inl ⟨by rfl, ?_⟩) ?_
          rotate_left
          focus (intro _ h; (try dsimp only at h); go_simp; (try with_reducible rfl); done)
          (try simp only [Act.put, sAr, sZe, sSu])
          refine tkY 1 (at_lit rfl) (v := ?_) (Or.inl ⟨by rfl, ?_⟩) ?_
          rotate_left
          focus (intro _ h; (try dsimp only at h); go_simp; (try with_reducible rfl); done)
          (try simp only [Act.put, sAr, sZe, sSu])
          refine tkY 2 (at_lit rfl) (v := ?_) (Or.inl ⟨by rfl, ?_⟩) ?_
          rotate_left
          focus (intro _ h; (try dsimp only at h); go_simp; (try with_reducible rfl); done)
          (try simp only [Act.put, sAr, sZe, sSu])
          refine tkY 3 (at_lit rfl) (v := ?_) (Or.inl ⟨by rfl, ?_⟩) ?_
          rotate_left
          focus (intro _ h; (try dsimp only at h); go_simp; (try with_reducible rfl); done)
          (try simp only [Act.put, sAr, sZe, sSu])
          refine tkY 4 (at_lit rfl) (v := ?_) (Or.inl ⟨by rfl, ?_⟩) ?_
          rotate_left
          focus (intro _ h; (try dsimp only at h); go_simp; (try with_reducible rfl); done)
          (try simp only [Act.put, sAr, sZe, sSu])
          refine tkY 5 (at_lit rfl) (v := ?_) (Or.inl ⟨by rfl, ?_⟩) ?_
          rotate_left
          focus (intro _ h; (try dsimp only at h); go_simp; (try with_reducible rfl); done)
          (try simp only [Act.put, sAr, sZe, sSu])
          refine tkY 6 (at_lit rfl) (v := ?_) (Or.inl ⟨by rfl, ?_⟩) ?_
          rotate_left
          focus (intro _ h; (try dsimp only at h); go_simp; (try with_reducible rfl); done)
          (try simp only [Act.put, sAr, sZe, sSu])
          refine tkY 7 (at_lit rfl) (v := ?_) (Or.inl ⟨by rfl, ?_⟩) ?_
          rotate_left
          focus (intro _ h; (try dsimp only at h); go_simp; (try with_reducible rfl); done)
          (try simp only [Act.put, sAr, sZe, sSu])
          refine tkY 8 (at_lit rfl) (v := ?_) (Or.inl ⟨by rfl, ?_⟩) ?_
          rotate_left
          focus (intro _ h; (try dsimp only at h); go_simp; (try with_reducible rfl); done)
          (try simp only [Act.put, sAr, sZe, sSu])
          refine tkY 9 (at_lit rfl) (v := ?_) (Or.inl ⟨by rfl, ?_⟩) ?_
          rotate_left
          focus (intro _ h; (try dsimp only at h); go_simp; (try with_reducible rfl); done)
          (try simp only [Act.put, sAr, sZe, sSu])
          refine tkY 10 (at_lit rfl) (v := ?_) (Or.inl ⟨by rfl, ?_⟩) ?_
          rotate_left
          focus (intro _ h; (try dsimp only at h); go_simp; (try with_reducible rfl); done)
          (try simp only [Act.put, sAr, sZe, sSu])
          refine tkY 11 (at_lit rfl) (v := ?_) (Or.inl ⟨by rfl, ?_⟩) ?_
          rotate_left
          focus (intro _ h; (try dsimp only at h); go_simp; (try with_reducible rfl); done)
          (try simp only [Act.put, sAr, sZe, sSu])
          refine wpAnyH_ready (rs := [12]) (by kernel_rfl) (by simp) ?_
          refine AllReadyH.cons (o := _) (at_lit rfl) (fun K hK => ?_) AllReadyH.nil
          go_simp
          go_at_call 10
          refine ((lw_split H7.out HN.out.n false (HN.out.fits false) l.pg).mono ?_)
          rintro e w8 ⟨er, rfl, v8, ws8, L8, h8, hst, her, hm⟩
          have H8 := Lib.hid h8
          have R8 := Lib.hid (H7.out.tab.row hm R7.out (by decide) (by decide) (by decide))
          have HX := Lib.hid (And.intro (Stp.other false hst) (And.intro her (And.intro (M7.out.mv H7.out.tab hm) (O7.out.mv H7.out.tab hm))))
          clear h8 hst her hm
          go_wp2_with fail
          refine hK.out _ _ ?_ (fun hHeld => ?_)
          focus exact ⟨H8.out.row.cell 0, H8.out.row.cell 3, R8.out.cell 2⟩
          clear hK K
          (try simp only [Act.put, sAr, sZe, sSu])
          refine tkY 13 (at_lit rfl) (v := ?_) (Or.inl ⟨by rfl, ?_⟩) ?_
          rotate_left
          focus (intro _ h; (try dsimp only at h); go_simp; (try with_reducible rfl); done)
          (try simp only [Act.put, sAr, sZe, sSu])
          refine wpAnyH_done (by kernel_rfl) ?_ _
          refine NoPanic.normal ?_
          go_wp2_with fail
          go_meet
          exact ⟨er, v8, ws8, L8, rfl, ⟨H8.out, HX.out.1, HX.out.2.1⟩, HX.out.2.2.1, HX.out.2.2.2⟩
        · have d5 : (l.kd == 5) = false := by rw [e]; exact decide_eq_false c5
          by_cases c6 : l.kd = 6
          · have d6 : (l.kd == 6) = true := by rw [e]; exact decide_eq_true c6
            clear c3 c4 c5 c6 e
            go_upto_region 18 with (fail)
            have hs6 : (fun v => v.cell? ⟨k.g, 0, none⟩ = some (.pointer (some ⟨k.s.x, 0, none⟩)) ∧ v.cell? ⟨k.g, 3, none⟩ = some (.int .i64 k.r0) ∧ v.cell? ⟨q, 2, none⟩ = some (.int .i64 l.pg)) w6.drew := ⟨H6.out.row.cell 0, H6.out.row.cell 3, R6.out.cell 2⟩
            refine wp_region_noPanic ?_
            refine wp_region_held_drew (S := (fun v => v.cell? ⟨k.g, 0, none⟩ = some (.pointer (some ⟨k.s.x, 0, none⟩)) ∧ v.cell? ⟨k.g, 3, none⟩ = some (.int .i64 k.r0) ∧ v.cell? ⟨q, 2, none⟩ = some (.int .i64 l.pg))) (by kernel_rfl) hs6 (fun hHeld => ?_)
            have H7 : Hid (Lw W0 w6.drew k (.slice Ab L.length cb) ws L v0 L0 v1 L1 lf (0 + 1600)) := Lib.hid (H6.out.call (drewN_b (Below.refl _ _) 1))
            have R7 : Hid (Row w6.drew q 52 (acCells l)) := R6.out
            have M7 : Hid (Ms w6.drew w4.heap.size (.slice A1 (lvR k ws false).length c1') (lvR k ws false)) := Lib.hid (M6.out.call (drewN_b (Below.refl _ _) 1))
            have O7 : Hid (Ms w6.drew w5.heap.size (.slice A2 (lvR k ws true).length c2') (lvR k ws true)) := Lib.hid (O6.out.call (drewN_b (Below.refl _ _) 1))
            generalize w6.drew = w7 at hHeld hs6 H7 R7 M7 O7 ⊢
            refine tkY 0 (at_lit rfl) (v := ?_) (Or.inl ⟨by rfl, ?_⟩) ?_
            rotate_left
            focus (intro _ h; (try dsimp only at h); go_simp; (try with_reducible rfl); done)
            (try simp only [Act.put, sAr, sZe, sSu])
            refine tkY 1 (at_lit rfl) (v := ?_) (Or.inl ⟨by rfl, ?_⟩) ?_
            rotate_left
            focus (intro _ h; (try dsimp only at h); go_simp; (try with_reducible rfl); done)
            (try simp only [Act.put, sAr, sZe, sSu])
            refine tkY 2 (at_lit rfl) (v := ?_) (Or.inl ⟨by rfl, ?_⟩) ?_
            rotate_left
            focus (intro _ h; (try dsimp only at h); go_simp; (try with_reducible rfl); done)
            (try simp only [Act.put, sAr, sZe, sSu])
            refine tkY 3 (at_lit rfl) (v := ?_) (Or.inl ⟨by rfl, ?_⟩) ?_
            rotate_left
            focus (intro _ h; (try dsimp only at h); go_simp; (try with_reducible rfl); done)
            (try simp only [Act.put, sAr, sZe, sSu])
            refine tkY 4 (at_lit rfl) (v := ?_) (Or.inl ⟨by rfl, ?_⟩) ?_
            rotate_left
            focus (intro _ h; (try dsimp only at h); go_simp; (try with_reducible rfl); done)
            (try simp only [Act.put, sAr, sZe, sSu])
            refine tkY 5 (at_lit rfl) (v := ?_) (Or.inl ⟨by rfl, ?_⟩) ?_
            rotate_left
            focus (intro _ h; (try dsimp only at h); go_simp; (try with_reducible rfl); done)
            (try simp only [Act.put, sAr, sZe, sSu])
            refine tkY 6 (at_lit rfl) (v := ?_) (Or.inl ⟨by rfl, ?_⟩) ?_
            rotate_left
            focus (intro _ h; (try dsimp only at h); go_simp; (try with_reducible rfl); done)
            (try simp only [Act.put, sAr, sZe, sSu])
            refine tkY 7 (at_lit rfl) (v := ?_) (Or.inl ⟨by rfl, ?_⟩) ?_
            rotate_left
            focus (intro _ h; (try dsimp only at h); go_simp; (try with_reducible rfl); done)
            (try simp only [Act.put, sAr, sZe, sSu])
            refine tkY 8 (at_lit rfl) (v := ?_) (Or.inl ⟨by rfl, ?_⟩) ?_
            rotate_left
            focus (intro _ h; (try dsimp only at h); go_simp; (try with_reducible rfl); done)
            (try simp only [Act.put, sAr, sZe, sSu])
            refine tkY 9 (at_lit rfl) (v := ?_) (Or.inl ⟨by rfl, ?_⟩) ?_
            rotate_left
            focus (intro _ h; (try dsimp only at h); go_simp; (try with_reducible rfl); done)
            (try simp only [Act.put, sAr, sZe, sSu])
            refine tkY 10 (at_lit rfl) (v := ?_) (Or.inl ⟨by rfl, ?_⟩) ?_
            rotate_left
            focus (intro _ h; (try dsimp only at h); go_simp; (try with_reducible rfl); done)
            (try simp only [Act.put, sAr, sZe, sSu])
            refine tkY 11 (at_lit rfl) (v := ?_) (Or.inl ⟨by rfl, ?_⟩) ?_
            rotate_left
            focus (intro _ h; (try dsimp only at h); go_simp; (try with_reducible rfl); done)
            (try simp only [Act.put, sAr, sZe, sSu])
            refine wpAnyH_ready (rs := [12]) (by kernel_rfl) (by simp) ?_
            refine AllReadyH.cons (o := _) (at_lit rfl) (fun K hK => ?_) AllReadyH.nil
            go_simp
            go_at_call 11
            refine ((lw_merge H7.out HN.out.n false (HN.out.fits false) l.pg HL.out.2.2.1).mono ?_)
            rintro e w8 ⟨er, rfl, v8, ws8, L8, h8, hst, her, hm⟩
            have H8 := Lib.hid h8
            have R8 := Lib.hid (H7.out.tab.row hm R7.out (by decide) (by decide) (by decide))
            have HX := Lib.hid (And.intro (Stp.other false hst) (And.intro her (And.intro (M7.out.mv H7.out.tab hm) (O7.out.mv H7.out.tab hm))))
            clear h8 hst her hm
            go_wp2_with fail
            refine hK.out _ _ ?_ (fun hHeld => ?_)
            focus exact ⟨H8.out.row.cell 0, H8.out.row.cell 3, R8.out.cell 2⟩
            clear hK K
            (try simp only [Act.put, sAr, sZe, sSu])
            refine tkY 13 (at_lit rfl) (v := ?_) (Or.inl ⟨by rfl, ?_⟩) ?_
            rotate_left
            focus (intro _ h; (try dsimp only at h); go_simp; (try with_reducible rfl); done)
            (try simp only [Act.put, sAr, sZe, sSu])
            refine wpAnyH_done (by kernel_rfl) ?_ _
            refine NoPanic.normal ?_
            go_wp2_with fail
            go_meet
            exact ⟨er, v8, ws8, L8, rfl, ⟨H8.out, HX.out.1, HX.out.2.1⟩, HX.out.2.2.1, HX.out.2.2.2⟩
          · have d6 : (l.kd == 6) = false := by rw [e]; exact decide_eq_false c6
            clear c3 c4 c5 c6 e
            go_upto_region 10 with (fail)
            have hs6 : (fun v => v.cell? ⟨k.g, 0, none⟩ = some (.pointer (some ⟨k.s.x, 0, none⟩)) ∧ v.cell? ⟨k.g, 3, none⟩ = some (.int .i64 k.r0) ∧ v.cell? ⟨q, 2, none⟩ = some (.int .i64 l.pg) ∧ v.cell? ⟨q, 3, none⟩ = some (.int .i64 l.o) ∧ v.cell? ⟨q, 5, none⟩ = some (.int .i64 l.f) ∧ v.cell? ⟨q, 6, none⟩ = some (.bool l.p) ∧ v.cell? ⟨q, 7, none⟩ = some (.bool l.w) ∧ v.cell? ⟨q, 8, none⟩ = some (.bool l.h) ∧ v.cell? ⟨q, 9, none⟩ = some (.bool l.k) ∧ v.cell? ⟨q, 10, none⟩ = some (.bool l.u) ∧ v.cell? ⟨q, 11, none⟩ = some (.bool l.d)) w6.drew := ⟨H6.out.row.cell 0, H6.out.row.cell 3, R6.out.cell 2, R6.out.cell 3, R6.out.cell 5, R6.out.cell 6, R6.out.cell 7, R6.out.cell 8, R6.out.cell 9, R6.out.cell 10, R6.out.cell 11⟩
            refine wp_region_noPanic ?_
            refine wp_region_held_drew (S := (fun v => v.cell? ⟨k.g, 0, none⟩ = some (.pointer (some ⟨k.s.x, 0, none⟩)) ∧ v.cell? ⟨k.g, 3, none⟩ = some (.int .i64 k.r0) ∧ v.cell? ⟨q, 2, none⟩ = some (.int .i64 l.pg) ∧ v.cell? ⟨q, 3, none⟩ = some (.int .i64 l.o) ∧ v.cell? ⟨q, 5, none⟩ = some (.int .i64 l.f) ∧ v.cell? ⟨q, 6, none⟩ = some (.bool l.p) ∧ v.cell? ⟨q, 7, none⟩ = some (.bool l.w) ∧ v.cell? ⟨q, 8, none⟩ = some (.bool l.h) ∧ v.cell? ⟨q, 9, none⟩ = some (.bool l.k) ∧ v.cell? ⟨q, 10, none⟩ = some (.bool l.u) ∧ v.cell? ⟨q, 11, none⟩ = some (.bool l.d))) (by kernel_rfl) hs6 (fun hHeld => ?_)
            have H7 : Hid (Lw W0 w6.drew k (.slice Ab L.length cb) ws L v0 L0 v1 L1 lf (0 + 1600)) := Lib.hid (H6.out.call (drewN_b (Below.refl _ _) 1))
            have R7 : Hid (Row w6.drew q 52 (acCells l)) := R6.out
            have M7 : Hid (Ms w6.drew w4.heap.size (.slice A1 (lvR k ws false).length c1') (lvR k ws false)) := Lib.hid (M6.out.call (drewN_b (Below.refl _ _) 1))
            have O7 : Hid (Ms w6.drew w5.heap.size (.slice A2 (lvR k ws true).length c2') (lvR k ws true)) := Lib.hid (O6.out.call (drewN_b (Below.refl _ _) 1))
            generalize w6.drew = w7 at hHeld hs6 H7 R7 M7 O7 ⊢
            refine tkY 0 (at_lit rfl) (v := ?_) (Or.inl ⟨by rfl, ?_⟩) ?_
            rotate_left
            focus (intro _ h; (try dsimp only at h); go_simp; (try with_reducible rfl); done)
            (try simp only [Act.put, sAr, sZe, sSu])
            refine tkY 1 (at_lit rfl) (v := ?_) (Or.inl ⟨by rfl, ?_⟩) ?_
            rotate_left
            focus (intro _ h; (try dsimp only at h); go_simp; (try with_reducible rfl); done)
            (try simp only [Act.put, sAr, sZe, sSu])
            refine tkY 2 (at_lit rfl) (v := ?_) (Or.inl ⟨by rfl, ?_⟩) ?_
            rotate_left
            focus (intro _ h; (try dsimp only at h); go_simp; (try with_reducible rfl); done)
            (try simp only [Act.put, sAr, sZe, sSu])
            refine tkY 3 (at_lit rfl) (v := ?_) (Or.inl ⟨by rfl, ?_⟩) ?_
            rotate_left
            focus (intro _ h; (try dsimp only at h); go_simp; (try with_reducible rfl); done)
            (try simp only [Act.put, sAr, sZe, sSu])
            refine tkY 4 (at_lit rfl) (v := ?_) (Or.inl ⟨by rfl, ?_⟩) ?_
            rotate_left
            focus (intro _ h; (try dsimp only at h); go_simp; (try with_reducible rfl); done)
            (try simp only [Act.put, sAr, sZe, sSu])
            refine tkY 5 (at_lit rfl) (v := ?_) (Or.inl ⟨by rfl, ?_⟩) ?_
            rotate_left
            focus (intro _ h; (try dsimp only at h); go_simp; (try with_reducible rfl); done)
            (try simp only [Act.put, sAr, sZe, sSu])
            refine tkY 6 (at_lit rfl) (v := ?_) (Or.inl ⟨by rfl, ?_⟩) ?_
            rotate_left
            focus (intro _ h; (try dsimp only at h); go_simp; (try with_reducible rfl); done)
            (try simp only [Act.put, sAr, sZe, sSu])
            refine tkY 7 (at_lit rfl) (v := ?_) (Or.inl ⟨by rfl, ?_⟩) ?_
            rotate_left
            focus (intro _ h; (try dsimp only at h); go_simp; (try with_reducible rfl); done)
            (try simp only [Act.put, sAr, sZe, sSu])
            refine tkY 8 (at_lit rfl) (v := ?_) (Or.inl ⟨by rfl, ?_⟩) ?_
            rotate_left
            focus (intro _ h; (try dsimp only at h); go_simp; (try with_reducible rfl); done)
            (try simp only [Act.put, sAr, sZe, sSu])
            refine tkY 9 (at_lit rfl) (v := ?_) (Or.inl ⟨by rfl, ?_⟩) ?_
            rotate_left
            focus (intro _ h; (try dsimp only at h); go_simp; (try with_reducible rfl); done)
            (try simp only [Act.put, sAr, sZe, sSu])
            refine tkY 10 (at_lit rfl) (v := ?_) (Or.inl ⟨by rfl, ?_⟩) ?_
            rotate_left
            focus (intro _ h; (try dsimp only at h); go_simp; (try with_reducible rfl); done)
            (try simp only [Act.put, sAr, sZe, sSu])
            refine tkY 11 (at_lit rfl) (v := ?_) (Or.inl ⟨by rfl, ?_⟩) ?_
            rotate_left
            focus (intro _ h; (try dsimp only at h); go_simp; (try with_reducible rfl); done)
            (try simp only [Act.put, sAr, sZe, sSu])
            refine tkY 12 (at_lit rfl) (v := ?_) (Or.inl ⟨by rfl, ?_⟩) ?_
            rotate_left
            focus (intro _ h; (try dsimp only at h); go_simp; (try with_reducible rfl); done)
            (try simp only [Act.put, sAr, sZe, sSu])
            refine tkY 13 (at_lit rfl) (v := ?_) (Or.inl ⟨by rfl, ?_⟩) ?_
            rotate_left
            focus (intro _ h; (try dsimp only at h); go_simp; (try with_reducible rfl); done)
            (try simp only [Act.put, sAr, sZe, sSu])
            refine tkY 14 (at_lit rfl) (v := ?_) (Or.inl ⟨by rfl, ?_⟩) ?_
            rotate_left
            focus (intro _ h; (try dsimp only at h); go_simp; (try with_reducible rfl); done)
            (try simp only [Act.put, sAr, sZe, sSu])
            refine tkY 15 (at_lit rfl) (v := ?_) (Or.inl ⟨by rfl, ?_⟩) ?_
            rotate_left
            focus (intro _ h; (try dsimp only at h); go_simp; (try with_reducible rfl); done)
            (try simp only [Act.put, sAr, sZe, sSu])
            refine wpAnyH_ready (rs := [16]) (by kernel_rfl) (by simp) ?_
            refine AllReadyH.cons (o := _) (at_lit rfl) (fun K hK => ?_) AllReadyH.nil
            go_simp
            go_at_call 17
            refine ((lw_map H7.out HN.out.n false (HN.out.fits false) l.pg l.o l.f l.p l.w l.h l.k l.u l.d HL.out.2.2.1 HL.out.2.2.2.2.2).mono ?_)
            rintro e w8 ⟨er, rfl, v8, ws8, L8, h8, hst, her, hm⟩
            have H8 := Lib.hid h8
            have R8 := Lib.hid (H7.out.tab.row hm R7.out (by decide) (by decide) (by decide))
            have HX := Lib.hid (And.intro (Stp.other false hst) (And.intro her (And.intro (M7.out.mv H7.out.tab hm) (O7.out.mv H7.out.tab hm))))
            clear h8 hst her hm
            go_wp2_with fail
            refine hK.out _ _ ?_ (fun hHeld => ?_)
            focus exact ⟨H8.out.row.cell 0, H8.out.row.cell 3, R8.out.cell 2, R8.out.cell 3, R8.out.cell 5, R8.out.cell 6, R8.out.cell 7, R8.out.cell 8, R8.out.cell 9, R8.out.cell 10, R8.out.cell 11⟩
            clear hK K
            (try simp only [Act.put, sAr, sZe, sSu])
            refine tkY 17 (at_lit rfl) (v := ?_) (Or.inl ⟨by rfl, ?_⟩) ?_
            rotate_left
            focus (intro _ h; (try dsimp only at h); go_simp; (try with_reducible rfl); done)
            (try simp only [Act.put, sAr, sZe, sSu])
            refine wpAnyH_done (by kernel_rfl) ?_ _
            refine NoPanic.normal ?_
            go_wp2_with fail
            go_meet
            exact ⟨er, v8, ws8, L8, rfl, ⟨H8.out, HX.out.1, HX.out.2.1⟩, HX.out.2.2.1, HX.out.2.2.2⟩
  case rest =>
    clear H6 R6 M6 O6
    obtain ⟨er, v', ws', L', rfl, ⟨h7, hoth, her⟩, m7, o7⟩ := hcut
    have H7 := Lib.hid h7
    have M7 := Lib.hid m7
    have O7 := Lib.hid o7
    have HOT := Lib.hid hoth
    have HER := Lib.hid her
    clear h7 m7 o7 hoth her
    go_upto_region 19 with (fail)
    have hs7 : (fun v => v.cell? ⟨k.g, 0, none⟩ = some (.pointer (some ⟨k.s.x, 0, none⟩)) ∧ v.cell? ⟨k.g, 3, none⟩ = some (.int .i64 k.r0) ∧ v.cell? ⟨k.g, 4, none⟩ = some (.int .i64 k.r1)) wc.drew := ⟨H7.out.row.cell 0, H7.out.row.cell 3, H7.out.row.cell 4⟩
    refine wp_region_held_drew (S := (fun v => v.cell? ⟨k.g, 0, none⟩ = some (.pointer (some ⟨k.s.x, 0, none⟩)) ∧ v.cell? ⟨k.g, 3, none⟩ = some (.int .i64 k.r0) ∧ v.cell? ⟨k.g, 4, none⟩ = some (.int .i64 k.r1))) (by kernel_rfl) hs7 (fun hHeld => ?_)
    have H8 : Hid (Lw W0 wc.drew k v' ws' L' v0 L0 v1 L1 lf (0 + 1600)) := Lib.hid (H7.out.call (drewN_b (Below.refl _ _) 1))
    have M8 : Hid (Ms wc.drew w4.heap.size (.slice A1 (lvR k ws false).length c1') (lvR k ws false)) := Lib.hid (M7.out.call (drewN_b (Below.refl _ _) 1))
    have O8 : Hid (Ms wc.drew w5.heap.size (.slice A2 (lvR k ws true).length c2') (lvR k ws true)) := Lib.hid (O7.out.call (drewN_b (Below.refl _ _) 1))
    have hm3 := H8.out.leaves HN.out true
    rw [HOT.out] at hm3
    generalize wc.drew = w8 at hHeld hs7 H8 M8 O8 hm3 ⊢
    clear H7 M7 O7
    refine tkY 0 (at_lit rfl) (v := ?_) (Or.inl ⟨by rfl, ?_⟩) ?_
    rotate_left
    focus (intro _ h; (try dsimp only at h); go_simp; (try with_reducible rfl); done)
    (try simp only [Act.put, sAr, sZe, sSu])
    refine tkY 1 (at_lit rfl) (v := ?_) (Or.inl ⟨by rfl, ?_⟩) ?_
    rotate_left
    focus (intro _ h; (try dsimp only at h); go_simp; (try with_reducible rfl); done)
    (try simp only [Act.put, sAr, sZe, sSu])
    refine tkY 2 (at_lit rfl) (v := ?_) (Or.inl ⟨by rfl, ?_⟩) ?_
    rotate_left
    focus (intro _ h; (try dsimp only at h); go_simp; (try with_reducible rfl); done)
    (try simp only [Act.put, sAr, sZe, sSu])
    refine tkY 3 (at_lit rfl) (v := ?_) (Or.inl ⟨by rfl, ?_⟩) ?_
    rotate_left
    focus (intro _ h; (try dsimp only at h); go_simp; (try with_reducible rfl); done)
    (try simp only [Act.put, sAr, sZe, sSu])
    refine tkY 4 (at_lit rfl) (v := ?_) (Or.inl ⟨by rfl, ?_⟩) ?_
    rotate_left
    focus (intro _ h; (try dsimp only at h); go_simp; (try with_reducible rfl); done)
    (try simp only [Act.put, sAr, sZe, sSu])
    refine tkY 5 (at_lit rfl) (v := ?_) (Or.inl ⟨by rfl, ?_⟩) ?_
    rotate_left
    focus (intro _ h; (try dsimp only at h); go_simp; (try with_reducible rfl); done)
    (try simp only [Act.put, sAr, sZe, sSu])
    refine tkY 6 (at_lit rfl) (v := ?_) (Or.inl ⟨by rfl, ?_⟩) ?_
    rotate_left
    focus (intro _ h; (try dsimp only at h); go_simp; (try with_reducible rfl); done)
    (try simp only [Act.put, sAr, sZe, sSu])
    refine tkY 7 (at_lit rfl) (v := ?_) (Or.inl ⟨by rfl, ?_⟩) ?_
    rotate_left
    focus (intro _ h; (try dsimp only at h); go_simp; (try with_reducible rfl); done)
    (try simp only [Act.put, sAr, sZe, sSu])
    refine tkY 8 (at_lit rfl) (v := ?_) (Or.inl ⟨by rfl, ?_⟩) ?_
    rotate_left
    focus (intro _ h; (try dsimp only at h); go_simp; (try with_reducible rfl); done)
    (try simp only [Act.put, sAr, sZe, sSu])
    refine tkY 9 (at_lit rfl) (v := ?_) (Or.inl ⟨by rfl, ?_⟩) ?_
    rotate_left
    focus (intro _ h; (try dsimp only at h); go_simp; (try with_reducible rfl); done)
    (try simp only [Act.put, sAr, sZe, sSu])
    refine tkY 10 (at_lit rfl) (v := ?_) (Or.inl ⟨by rfl, ?_⟩) ?_
    rotate_left
    focus (intro _ h; (try dsimp only at h); go_simp; (try with_reducible rfl); done)
    (try simp only [Act.put, sAr, sZe, sSu])
    refine tkY 11 (at_lit rfl) (v := ?_) (Or.inl ⟨by rfl, ?_⟩) ?_
    rotate_left
    focus (intro _ h; (try dsimp only at h); go_simp; (try with_reducible rfl); done)
    (try simp only [Act.put, sAr, sZe, sSu])
    refine wpAnyH_ready (rs := [12]) (by kernel_rfl) (by simp) ?_
    refine AllReadyH.cons (o := _) (at_lit rfl) (fun K hK => ?_) AllReadyH.nil
    go_simp
    go_at_call 14
    refine hm3.mono ?_
    rintro e w9 ⟨A3, c3', rfl, m9, b9⟩
    have H9 := Lib.hid (H8.out.call b9)
    have M9 := Lib.hid (M8.out.call b9)
    have hsm := same8_any (O8.out.call b9) m9 (lvR_len _ _ _)
    have hs9 : (fun v => v.cell? ⟨k.g, 0, none⟩ = some (.pointer (some ⟨k.s.x, 0, none⟩)) ∧ v.cell? ⟨k.g, 3, none⟩ = some (.int .i64 k.r0) ∧ v.cell? ⟨k.g, 4, none⟩ = some (.int .i64 k.r1)) w9 := ⟨H9.out.row.cell 0, H9.out.row.cell 3, H9.out.row.cell 4⟩
    clear hm3 m9 b9 H8 M8 O8 hs7
    go_wp2_with fail
    refine hK.out _ _ ?_ (fun hHeld => ?_)
    focus exact hs9
    clear hK K
    (try simp only [Act.put, sAr, sZe, sSu])
    refine wpAnyH_ready (rs := [13]) (by kernel_rfl) (by simp) ?_
    refine AllReadyH.cons (o := _) (at_lit rfl) (fun K hK => ?_) AllReadyH.nil
    go_simp
    go_at_call 18
    refine hsm.mono ?_
    rintro e w10 ⟨rfl, n10, rfl⟩
    have H10 := Lib.hid (H9.out.call (drewN_b (Below.refl _ _) n10))
    have M10 := Lib.hid (M9.out.call (drewN_b (Below.refl _ _) n10))
    generalize w9.drewN n10 = w10 at H10 M10 ⊢
    have hs10 : (fun v => v.cell? ⟨k.g, 0, none⟩ = some (.pointer (some ⟨k.s.x, 0, none⟩)) ∧ v.cell? ⟨k.g, 3, none⟩ = some (.int .i64 k.r0) ∧ v.cell? ⟨k.g, 4, none⟩ = some (.int .i64 k.r1)) w10 := ⟨H10.out.row.cell 0, H10.out.row.cell 3, H10.out.row.cell 4⟩
    clear hsm H9 M9 hs9 hHeld
    go_wp2_with fail
    refine hK.out _ _ ?_ (fun hHeld => ?_)
    focus exact hs10
    clear hK K
    (try simp only [Act.put, sAr, sZe, sSu])
    refine tkY 14 (at_lit rfl) (v := ?_) (Or.inl ⟨by rfl, ?_⟩) ?_
    rotate_left
    focus (intro _ h; (try dsimp only at h); go_simp; (try with_reducible rfl); done)
    (try simp only [Act.put, sAr, sZe, sSu])
    refine wpAnyH_done (by kernel_rfl) ?_ _
    clear hs10 hHeld
    by_cases hz : er = 0
    · subst hz
      go_upto_region 21 with (fail)
      refine wp_region_held_drew (S := (fun _ => True)) (by kernel_rfl) trivial (fun hHeld => ?_)
      have H11 : Hid (Lw W0 w10.drew k v' ws' L' v0 L0 v1 L1 lf (0 + 1600)) := Lib.hid (H10.out.call (drewN_b (Below.refl _ _) 1))
      generalize w10.drew = w11 at hHeld H11 ⊢
      refine tkY 0 (at_lit rfl) (v := ?_) (Or.inl ⟨by rfl, ?_⟩) ?_
      rotate_left
      focus (intro _ h; (try dsimp only at h); go_simp; (try with_reducible rfl); done)
      (try simp only [Act.put, sAr, sZe, sSu])
      refine tkY 1 (at_lit rfl) (v := ?_) (Or.inl ⟨by rfl, ?_⟩) ?_
      rotate_left
      focus (intro _ h; (try dsimp only at h); go_simp; (try with_reducible rfl); done)
      (try simp only [Act.put, sAr, sZe, sSu])
      refine tkY 2 (at_lit rfl) (v := ?_) (Or.inl ⟨by rfl, ?_⟩) ?_
      rotate_left
      focus (intro _ h; (try dsimp only at h); go_simp; (try with_reducible rfl); done)
      (try simp only [Act.put, sAr, sZe, sSu])
      refine tkY 3 (at_lit rfl) (v := undef) (Or.inr ⟨by rfl, rfl⟩) ?_
      (try simp only [Act.put, sAr, sZe, sSu])
      refine tkY 4 (at_lit rfl) (v := undef) (Or.inr ⟨by rfl, rfl⟩) ?_
      (try simp only [Act.put, sAr, sZe, sSu])
      refine tkY 5 (at_lit rfl) (v := undef) (Or.inr ⟨by rfl, rfl⟩) ?_
      (try simp only [Act.put, sAr, sZe, sSu])
      refine tkY 6 (at_lit rfl) (v := undef) (Or.inr ⟨by rfl, rfl⟩) ?_
      (try simp only [Act.put, sAr, sZe, sSu])
      refine tkY 7 (at_lit rfl) (v := undef) (Or.inr ⟨by rfl, rfl⟩) ?_
      (try simp only [Act.put, sAr, sZe, sSu])
      refine tkY 8 (at_lit rfl) (v := undef) (Or.inr ⟨by rfl, rfl⟩) ?_
      (try simp only [Act.put, sAr, sZe, sSu])
      refine tkY 9 (at_lit rfl) (v := undef) (Or.inr ⟨by rfl, rfl⟩) ?_
      (try simp only [Act.put, sAr, sZe, sSu])
      refine tkY 10 (at_lit rfl) (v := undef) (Or.inr ⟨by rfl, rfl⟩) ?_
      (try simp only [Act.put, sAr, sZe, sSu])
      refine tkY 11 (at_lit rfl) (v := undef) (Or.inr ⟨by rfl, rfl⟩) ?_
      (try simp only [Act.put, sAr, sZe, sSu])
      refine tkY 12 (at_lit rfl) (v := undef) (Or.inr ⟨by rfl, rfl⟩) ?_
      (try simp only [Act.put, sAr, sZe, sSu])
      refine tkY 13 (at_lit rfl) (v := undef) (Or.inr ⟨by rfl, rfl⟩) ?_
      (try simp only [Act.put, sAr, sZe, sSu])
      refine tkY 14 (at_lit rfl) (v := undef) (Or.inr ⟨by rfl, rfl⟩) ?_
      (try simp only [Act.put, sAr, sZe, sSu])
      refine tkY 15 (at_lit rfl) (v := undef) (Or.inr ⟨by rfl, rfl⟩) ?_
      (try simp only [Act.put, sAr, sZe, sSu])
      refine tkY 16 (at_lit rfl) (v := undef) (Or.inr ⟨by rfl, rfl⟩) ?_
      (try simp only [Act.put, sAr, sZe, sSu])
      refine tkY 17 (at_lit rfl) (v := undef) (Or.inr ⟨by rfl, rfl⟩) ?_
      (try simp only [Act.put, sAr, sZe, sSu])
      refine tkY 18 (at_lit rfl) (v := undef) (Or.inr ⟨by rfl, rfl⟩) ?_
      (try simp only [Act.put, sAr, sZe, sSu])
      refine tkY 19 (at_lit rfl) (v := undef) (Or.inr ⟨by rfl, rfl⟩) ?_
      (try simp only [Act.put, sAr, sZe, sSu])
      refine tkY 20 (at_lit rfl) (v := undef) (Or.inr ⟨by rfl, rfl⟩) ?_
      (try simp only [Act.put, sAr, sZe, sSu])
      refine tkY 21 (at_lit rfl) (v := undef) (Or.inr ⟨by rfl, rfl⟩) ?_
      (try simp only [Act.put, sAr, sZe, sSu])
      refine tkY 22 (at_lit rfl) (v := undef) (Or.inr ⟨by rfl, rfl⟩) ?_
      (try simp only [Act.put, sAr, sZe, sSu])
      refine tkY 23 (at_lit rfl) (v := undef) (Or.inr ⟨by rfl, rfl⟩) ?_
      (try simp only [Act.put, sAr, sZe, sSu])
      refine tkY 24 (at_lit rfl) (v := undef) (Or.inr ⟨by rfl, rfl⟩) ?_
      (try simp only [Act.put, sAr, sZe, sSu])
      refine tkY 25 (at_lit rfl) (v := undef) (Or.inr ⟨by rfl, rfl⟩) ?_
      (try simp only [Act.put, sAr, sZe, sSu])
      refine tkY 26 (at_lit rfl) (v := undef) (Or.inr ⟨by rfl, rfl⟩) ?_
      (try simp only [Act.put, sAr, sZe, sSu])
      refine tkY 27 (at_lit rfl) (v := undef) (Or.inr ⟨by rfl, rfl⟩) ?_
      (try simp only [Act.put, sAr, sZe, sSu])
      refine tkY 28 (at_lit rfl) (v := ?_) (Or.inl ⟨by rfl, ?_⟩) ?_
      rotate_left
      focus (intro _ h; (try dsimp only at h); go_simp; (try with_reducible rfl); done)
      (try simp only [Act.put, sAr, sZe, sSu])
      refine tkY 29 (at_lit rfl) (v := ?_) (Or.inl ⟨by rfl, ?_⟩) ?_
      rotate_left
      focus (intro _ h; (try dsimp only at h); go_simp; (try with_reducible rfl); done)
      (try simp only [Act.put, sAr, sZe, sSu])
      refine wpAnyH_done (by kernel_rfl) ?_ _
      go_wp2_with fail
      go_ret
      exact ⟨rfl, HG.out.1.trans (H11.out.below.mono HG.out.1.size)⟩
    · have hzb : (er == 0) = false := by simpa using hz
      obtain ⟨rfl, rfl⟩ := HER.out hz
      clear hz
      go_upto_region 21 with (fail)
      obtain ⟨Ad, cd, hvd⟩ := own_form H10.out.tab.bag.row
      subst hvd
      have hs11 : (fun v => (v.cell? ⟨k.g, 0, none⟩ = some (.pointer (some ⟨k.s.x, 0, none⟩)) ∧ v.cell? ⟨k.g, 3, none⟩ = some (.int .i64 k.r0) ∧ v.cell? ⟨k.g, 4, none⟩ = some (.int .i64 k.r1)) ∧ v.cell? ⟨k.g, 2, none⟩ = some (.pointer (some ⟨k.s.y, 0, none⟩)) ∧ v.cell? ⟨k.s.y, 0, none⟩ = some (.slice Ad Nb cd)) w10.drew := ⟨⟨H10.out.row.cell 0, H10.out.row.cell 3, H10.out.row.cell 4⟩, H10.out.row.cell 2, by rw [HNB.out]; exact H10.out.tab.bag.top.cell 0⟩
      refine wp_region_held_drew (S := (fun v => (v.cell? ⟨k.g, 0, none⟩ = some (.pointer (some ⟨k.s.x, 0, none⟩)) ∧ v.cell? ⟨k.g, 3, none⟩ = some (.int .i64 k.r0) ∧ v.cell? ⟨k.g, 4, none⟩ = some (.int .i64 k.r1)) ∧ v.cell? ⟨k.g, 2, none⟩ = some (.pointer (some ⟨k.s.y, 0, none⟩)) ∧ v.cell? ⟨k.s.y, 0, none⟩ = some (.slice Ad Nb cd))) (by kernel_rfl) hs11 (fun hHeld => ?_)
      have H11 := Lib.hid (H10.out.call (drewN_b (Below.refl _ _) 1))
      have M11 := Lib.hid (M10.out.call (drewN_b (Below.refl _ _) 1))
      have H11 : Hid (Lw W0 w10.drew k _ _ _ v0 L0 v1 L1 lf (0 + 1600)) := H11
      have M11 : Hid (Ms w10.drew _ _ _) := M11
      have hm4 := H11.out.leaves HN.out false
      generalize w10.drew = w11 at hHeld hs11 H11 M11 hm4 ⊢
      clear H10 M10
      refine tkY 0 (at_lit rfl) (v := ?_) (Or.inl ⟨by rfl, ?_⟩) ?_
      rotate_left
      focus (intro _ h; (try dsimp only at h); go_simp; (try with_reducible rfl); done)
      (try simp only [Act.put, sAr, sZe, sSu])
      refine tkY 1 (at_lit rfl) (v := ?_) (Or.inl ⟨by rfl, ?_⟩) ?_
      rotate_left
      focus (intro _ h; (try dsimp only at h); go_simp; (try with_reducible rfl); done)
      (try simp only [Act.put, sAr, sZe, sSu])
      refine tkY 2 (at_lit rfl) (v := ?_) (Or.inl ⟨by rfl, ?_⟩) ?_
      rotate_left
      focus (intro _ h; (try dsimp only at h); go_simp; (try with_reducible rfl); done)
      (try simp only [Act.put, sAr, sZe, sSu])
      refine tkY 3 (at_lit rfl) (v := ?_) (Or.inl ⟨by rfl, ?_⟩) ?_
      rotate_left
      focus (intro _ h; (try dsimp only at h); go_simp; (try with_reducible rfl); done)
      (try simp only [Act.put, sAr, sZe, sSu])
      refine tkY 4 (at_lit rfl) (v := ?_) (Or.inl ⟨by rfl, ?_⟩) ?_
      rotate_left
      focus (intro _ h; (try dsimp only at h); go_simp; (try with_reducible rfl); done)
      (try simp only [Act.put, sAr, sZe, sSu])
      refine tkY 5 (at_lit rfl) (v := ?_) (Or.inl ⟨by rfl, ?_⟩) ?_
      rotate_left
      focus (intro _ h; (try dsimp only at h); go_simp; (try with_reducible rfl); done)
      (try simp only [Act.put, sAr, sZe, sSu])
      refine tkY 6 (at_lit rfl) (v := ?_) (Or.inl ⟨by rfl, ?_⟩) ?_
      rotate_left
      focus (intro _ h; (try dsimp only at h); go_simp; (try with_reducible rfl); done)
      (try simp only [Act.put, sAr, sZe, sSu])
      refine tkY 7 (at_lit rfl) (v := ?_) (Or.inl ⟨by rfl, ?_⟩) ?_
      rotate_left
      focus (intro _ h; (try dsimp only at h); go_simp; (try with_reducible rfl); done)
      (try simp only [Act.put, sAr, sZe, sSu])
      refine tkY 8 (at_lit rfl) (v := ?_) (Or.inl ⟨by rfl, ?_⟩) ?_
      rotate_left
      focus (intro _ h; (try dsimp only at h); go_simp; (try with_reducible rfl); done)
      (try simp only [Act.put, sAr, sZe, sSu])
      refine tkY 9 (at_lit rfl) (v := ?_) (Or.inl ⟨by rfl, ?_⟩) ?_
      rotate_left
      focus (intro _ h; (try dsimp only at h); go_simp; (try with_reducible rfl); done)
      (try simp only [Act.put, sAr, sZe, sSu])
      refine tkY 10 (at_lit rfl) (v := ?_) (Or.inl ⟨by rfl, ?_⟩) ?_
      rotate_left
      focus (intro _ h; (try dsimp only at h); go_simp; (try with_reducible rfl); done)
      (try simp only [Act.put, sAr, sZe, sSu])
      refine tkY 11 (at_lit rfl) (v := ?_) (Or.inl ⟨by rfl, ?_⟩) ?_
      rotate_left
      focus (intro _ h; (try dsimp only at h); go_simp; (try with_reducible rfl); done)
      (try simp only [Act.put, sAr, sZe, sSu])
      refine tkY 12 (at_lit rfl) (v := ?_) (Or.inl ⟨by rfl, ?_⟩) ?_
      rotate_left
      focus (intro _ h; (try dsimp only at h); go_simp; (try with_reducible rfl); done)
      (try simp only [Act.put, sAr, sZe, sSu])
      refine tkY 13 (at_lit rfl) (v := ?_) (Or.inl ⟨by rfl, ?_⟩) ?_
      rotate_left
      focus (intro _ h; (try dsimp only at h); go_simp; (try with_reducible rfl); done)
      (try simp only [Act.put, sAr, sZe, sSu])
      refine wpAnyH_ready (rs := [14]) (by kernel_rfl) (by simp) ?_
      refine AllReadyH.cons (o := _) (at_lit rfl) (fun K hK => ?_) AllReadyH.nil
      go_simp
      go_at_call 14
      refine hm4.mono ?_
      rintro e w12 ⟨A4, c4', rfl, m12, b12⟩
      have H12 := Lib.hid (H11.out.call b12)
      have hsm := same8_any (M11.out.call b12) m12 (lvR_len _ _ _)
      have hs12 : (fun v => (v.cell? ⟨k.g, 0, none⟩ = some (.pointer (some ⟨k.s.x, 0, none⟩)) ∧ v.cell? ⟨k.g, 3, none⟩ = some (.int .i64 k.r0) ∧ v.cell? ⟨k.g, 4, none⟩ = some (.int .i64 k.r1)) ∧ v.cell? ⟨k.g, 2, none⟩ = some (.pointer (some ⟨k.s.y, 0, none⟩)) ∧ v.cell? ⟨k.s.y, 0, none⟩ = some (.slice Ad Nb cd)) w12 := ⟨⟨H12.out.row.cell 0, H12.out.row.cell 3, H12.out.row.cell 4⟩, H12.out.row.cell 2, by rw [HNB.out]; exact H12.out.tab.bag.top.cell 0⟩
      clear hm4 m12 b12 H11 M11 hs11
      go_wp2_with fail
      refine hK.out _ _ ?_ (fun hHeld => ?_)
      focus exact hs12
      clear hK K
      (try simp only [Act.put, sAr, sZe, sSu])
      refine wpAnyH_ready (rs := [15]) (by kernel_rfl) (by simp) ?_
      refine AllReadyH.cons (o := _) (at_lit rfl) (fun K hK => ?_) AllReadyH.nil
      go_simp
      go_at_call 18
      refine hsm.mono ?_
      rintro e w13 ⟨rfl, n13, rfl⟩
      have H13 := Lib.hid (H12.out.call (drewN_b (Below.refl _ _) n13))
      generalize w12.drewN n13 = w13 at H13 ⊢
      have hs13 : (fun v => (v.cell? ⟨k.g, 0, none⟩ = some (.pointer (some ⟨k.s.x, 0, none⟩)) ∧ v.cell? ⟨k.g, 3, none⟩ = some (.int .i64 k.r0) ∧ v.cell? ⟨k.g, 4, none⟩ = some (.int .i64 k.r1)) ∧ v.cell? ⟨k.g, 2, none⟩ = some (.pointer (some ⟨k.s.y, 0, none⟩)) ∧ v.cell? ⟨k.s.y, 0, none⟩ = some (.slice Ad Nb cd)) w13 := ⟨⟨H13.out.row.cell 0, H13.out.row.cell 3, H13.out.row.cell 4⟩, H13.out.row.cell 2, by rw [HNB.out]; exact H13.out.tab.bag.top.cell 0⟩
      clear hsm H12 hs12 hHeld
      go_wp2_with fail
      refine hK.out _ _ ?_ (fun hHeld => ?_)
      focus exact hs13
      clear hK K
      (try simp only [Act.put, sAr, sZe, sSu])
      refine tkY 16 (at_lit rfl) (v := ?_) (Or.inl ⟨by rfl, ?_⟩) ?_
      rotate_left
      focus (intro _ h; (try dsimp only at h); go_simp; (try with_reducible rfl); done)
      (try simp only [Act.put, sAr, sZe, sSu])
      refine tkY 17 (at_lit rfl) (v := ?_) (Or.inl ⟨by rfl, ?_⟩) ?_
      rotate_left
      focus (intro _ h; (try dsimp only at h); go_simp; (try with_reducible rfl); done)
      (try simp only [Act.put, sAr, sZe, sSu])
      refine tkY 18 (at_lit rfl) (v := ?_) (Or.inl ⟨by rfl, ?_⟩) ?_
      rotate_left
      focus (intro _ h; (try dsimp only at h); go_simp; (try with_reducible rfl); done)
      (try simp only [Act.put, sAr, sZe, sSu])
      refine tkY 19 (at_lit rfl) (v := ?_) (Or.inl ⟨by rfl, ?_⟩) ?_
      rotate_left
      focus (intro _ h; (try dsimp only at h); go_simp; (try with_reducible rfl); done)
      (try simp only [Act.put, sAr, sZe, sSu])
      refine tkY 20 (at_lit rfl) (v := ?_) (Or.inl ⟨by rfl, ?_⟩) ?_
      rotate_left
      focus (intro _ h; (try dsimp only at h); go_simp; (try with_reducible rfl); done)
      (try simp only [Act.put, sAr, sZe, sSu])
      refine tkY 21 (at_lit rfl) (v := ?_) (Or.inl ⟨by rfl, ?_⟩) ?_
      rotate_left
      focus (intro _ h; (try dsimp only at h); go_simp; (try with_reducible rfl); done)
      (try simp only [Act.put, sAr, sZe, sSu])
      refine tkY 22 (at_lit rfl) (v := ?_) (Or.inl ⟨by rfl, ?_⟩) ?_
      rotate_left
      focus (intro _ h; (try dsimp only at h); go_simp; (try with_reducible rfl); done)
      (try simp only [Act.put, sAr, sZe, sSu])
      refine tkY 23 (at_lit rfl) (v := ?_) (Or.inl ⟨by rfl, ?_⟩) ?_
      rotate_left
      focus (intro _ h; (try dsimp only at h); go_simp; (try with_reducible rfl); done)
      (try simp only [Act.put, sAr, sZe, sSu])
      refine tkY 24 (at_lit rfl) (v := ?_) (Or.inl ⟨by rfl, ?_⟩) ?_
      rotate_left
      focus (intro _ h; (try dsimp only at h); go_simp; (try with_reducible rfl); done)
      (try simp only [Act.put, sAr, sZe, sSu])
      refine tkY 25 (at_lit rfl) (v := ?_) (Or.inl ⟨by rfl, ?_⟩) ?_
      rotate_left
      focus (intro _ h; (try dsimp only at h); go_simp; (try with_reducible rfl); done)
      (try simp only [Act.put, sAr, sZe, sSu])
      refine tkY 26 (at_lit rfl) (v := ?_) (Or.inl ⟨by rfl, ?_⟩) ?_
      rotate_left
      focus (intro _ h; (try dsimp only at h); go_simp; (try with_reducible rfl); done)
      (try simp only [Act.put, sAr, sZe, sSu])
      refine tkY 27 (at_lit rfl) (v := ?_) (Or.inl ⟨by rfl, ?_⟩) ?_
      rotate_left
      focus (intro _ h; (try dsimp only at h); go_simp; (try with_reducible rfl); done)
      (try simp only [Act.put, sAr, sZe, sSu])
      refine tkY 28 (at_lit rfl) (v := ?_) (Or.inl ⟨by rfl, ?_⟩) ?_
      rotate_left
      focus (intro _ h; (try dsimp only at h); go_simp; (try with_reducible rfl); done)
      (try simp only [Act.put, sAr, sZe, sSu])
      refine tkY 29 (at_lit rfl) (v := ?_) (Or.inl ⟨by rfl, ?_⟩) ?_
      rotate_left
      focus (intro _ h; (try dsimp only at h); go_simp; (try with_reducible rfl); done)
      (try simp only [Act.put, sAr, sZe, sSu])
      refine wpAnyH_done (by kernel_rfl) ?_ _
      go_wp2_with fail
      go_ret
      exact ⟨rfl, HG.out.1.trans (H13.out.below.mono HG.out.1.size)⟩
end Go.Proofs.Ytpcpcgbejinlmaa
