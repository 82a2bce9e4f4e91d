/- Package table: TableKeeps, walked. -/
import Derived.Test.YtpcpcgbejinlmaaKc1
namespace Go.Proofs.Ytpcpcgbejinlmaa
open Go.RowKit
set_option maxRecDepth 100000 in
set_option maxHeartbeats 16000000 in
theorem keeps_walk (A : Option Addr) (n c : Nat) (page other : Int) (hpg : Fits page) (_hot : Fits other) (w : World) (hA : Acs w w.heap.size A n) : Calls Try.prog 3 #[.slice A n c, .int .i64 page, .int .i64 other] w fun e w' => e = .returned (.bool true) ∧ Below w.heap.size w w' := by
  have HA := Lib.hid hA
  have HP := Lib.hid hpg
  have hmade := made_run 88 (by omega) w
  clear hA hpg
  go_enter Try.func3, Try.ntmps3
  go_wp2_with fail
  refine hmade.mono ?_
  rintro e w1 ⟨k, rfl, ⟨hk, -⟩, v, lf0, hlw⟩
  have HN := Lib.hid hk
  have HR1 : Hid (Run w w1 k 0) := Lib.hid ⟨_, _, _, _, _, _, _, _, hlw⟩
  have hak := awake_any w1
  clear hmade hlw hk
  go_wp2_with fail
  refine hak.mono ?_
  rintro e w2 ⟨rfl, hb2⟩
  have HR2 := Lib.hid (HR1.out.call hb2)
  have hpl := play_run HR2.out (by omega) HN.out A n c HA.out
  clear hak hb2 HR1
  go_wp2_with fail
  refine hpl.mono ?_
  rintro e w3 ⟨⟨bb, rfl⟩, hr3⟩
  obtain ⟨v, ws, L, v0, L0, v1, L1, lf, h3⟩ := hr3
  have H := Lib.hid h3
  obtain ⟨f, b0, b1, b7, b9, b5, b6, vv, fr, er, hl⟩ := leaf_is (fol ws k.r0 other) other
  have HL := Lib.hid hl
  clear hpl h3 hl HR2
  go_upto_region 5 with (fail)
  go_cut [8, 9] from 26 to 39 (fun sp se wx => ∃ (q : Nat), sp = .pointer (some ⟨q, 0, none⟩) ∧ se = .int .i64 er ∧ Lw w wx k v ws L v0 L0 v1 L1 lf (0 + 1600) ∧ Row wx q 30 [.int .i64 f, .bool b0, .bool b1, .bool b7, .bool b9, .bool b5, .bool b6, .int .i64 vv, .int .i64 fr])
  case first =>
    have hs2 : (fun v => v.cell? ⟨k.g, 1, none⟩ = some (.pointer (some ⟨k.s.a, 0, none⟩)) ∧ v.cell? ⟨k.g, 3, none⟩ = some (.int .i64 k.r0)) w3.drew := ⟨H.out.row.cell 1, H.out.row.cell 3⟩
    refine wp_region_noPanic ?_
    refine wp_region_held_drew (S := (fun v => v.cell? ⟨k.g, 1, none⟩ = some (.pointer (some ⟨k.s.a, 0, none⟩)) ∧ v.cell? ⟨k.g, 3, none⟩ = some (.int .i64 k.r0))) (by kernel_rfl) hs2 (fun hHeld => ?_)
    have Ha : Hid (Lw w w3.drew k v ws L v0 L0 v1 L1 lf (0 + 1600)) := Lib.hid (H.out.call (drewN_b (Below.refl _ _) 1))
    generalize w3.drew = wa at hHeld hs2 Ha  ⊢
    clear H 
    refine tkY 0 (at_lit rfl) (v := ?_) (Or.inl ⟨by rfl, ?_⟩) ?_
    rotate_left
    focus (intro _ h; (try dsimp only at h); go_simp; (try with_reducible rfl); done)
    (try simp only [Act.put, sAr, sZe, sSu])
    refine tkY 1 (at_lit rfl) (v := ?_) (Or.inl ⟨by rfl, ?_⟩) ?_
    rotate_left
    focus (intro _ h; (try dsimp only at h); go_simp; (try with_reducible rfl); done)
    (try simp only [Act.put, sAr, sZe, sSu])
    refine tkY 2 (at_lit rfl) (v := ?_) (Or.inl ⟨by rfl, ?_⟩) ?_
    rotate_left
    focus (intro _ h; (try dsimp only at h); go_simp; (try with_reducible rfl); done)
    (try simp only [Act.put, sAr, sZe, sSu])
    refine tkY 3 (at_lit rfl) (v := ?_) (Or.inl ⟨by rfl, ?_⟩) ?_
    rotate_left
    focus (intro _ h; (try dsimp only at h); go_simp; (try with_reducible rfl); done)
    (try simp only [Act.put, sAr, sZe, sSu])
    refine tkY 4 (at_lit rfl) (v := ?_) (Or.inl ⟨by rfl, ?_⟩) ?_
    rotate_left
    focus (intro _ h; (try dsimp only at h); go_simp; (try with_reducible rfl); done)
    (try simp only [Act.put, sAr, sZe, sSu])
    refine tkY 5 (at_lit rfl) (v := ?_) (Or.inl ⟨by rfl, ?_⟩) ?_
    rotate_left
    focus (intro _ h; (try dsimp only at h); go_simp; (try with_reducible rfl); done)
    (try simp only [Act.put, sAr, sZe, sSu])
    refine tkY 6 (at_lit rfl) (v := ?_) (Or.inl ⟨by rfl, ?_⟩) ?_
    rotate_left
    focus (intro _ h; (try dsimp only at h); go_simp; (try with_reducible rfl); done)
    (try simp only [Act.put, sAr, sZe, sSu])
    refine tkY 7 (at_lit rfl) (v := ?_) (Or.inl ⟨by rfl, ?_⟩) ?_
    rotate_left
    focus (intro _ h; (try dsimp only at h); go_simp; (try with_reducible rfl); done)
    (try simp only [Act.put, sAr, sZe, sSu])
    refine tkY 8 (at_lit rfl) (v := ?_) (Or.inl ⟨by rfl, ?_⟩) ?_
    rotate_left
    focus (intro _ h; (try dsimp only at h); go_simp; (try with_reducible rfl); done)
    (try simp only [Act.put, sAr, sZe, sSu])
    refine tkY 9 (at_lit rfl) (v := ?_) (Or.inl ⟨by rfl, ?_⟩) ?_
    rotate_left
    focus (intro _ h; (try dsimp only at h); go_simp; (try with_reducible rfl); done)
    (try simp only [Act.put, sAr, sZe, sSu])
    refine wpAnyH_ready (rs := [10, 14]) (by kernel_rfl) (by simp) ?_
    refine AllReadyH.cons (o := _) (at_lit rfl) (fun K hK => ?_) (AllReadyH.cons (o := _) (at_lit rfl) (fun K hK => ?_) AllReadyH.nil)
    · skip
      go_simp
      go_at_call 9
      refine (walk_is Ha.out HL.out).mono ?_
      rintro e wb ⟨rfl, hb⟩
      have Hb := Lib.hid (Ha.out.call hb)
      clear hb Ha  
      go_wp2_with fail
      refine hK.out _ _ ?_ (fun hHeld => ?_)
      focus exact ⟨Hb.out.row.cell 1, Hb.out.row.cell 3⟩
      clear hK K
      (try simp only [Act.put, sAr, sZe, sSu])
      refine tkY 11 (at_lit rfl) (v := ?_) (Or.inl ⟨by rfl, ?_⟩) ?_
      rotate_left
      focus (intro _ h; (try dsimp only at h); go_simp; (try with_reducible rfl); done)
      (try simp only [Act.put, sAr, sZe, sSu])
      refine tkY 12 (at_lit rfl) (v := ?_) (Or.inl ⟨by rfl, ?_⟩) ?_
      rotate_left
      focus (intro _ h; (try dsimp only at h); go_simp; (try with_reducible rfl); done)
      (try simp only [Act.put, sAr, sZe, sSu])
      refine tkY 13 (at_lit rfl) (v := ?_) (Or.inl ⟨by rfl, ?_⟩) ?_
      rotate_left
      focus (intro _ h; (try dsimp only at h); go_simp; (try with_reducible rfl); done)
      (try simp only [Act.put, sAr, sZe, sSu])
      obtain ⟨eb, heb⟩ : ∃ eb, eb = wb.heap.size := ⟨_, rfl⟩
      have HEL : Hid (w.heap.size ≤ eb) := by show _ ≤ _; rw [heb]; exact Hb.out.below.size
      obtain ⟨wd, hwd⟩ : ∃ wd, wd = wb.alloc (.cells #[.int .i64 0, .bool false, .bool false, .bool false, .bool false, .bool false, .bool false, .int .i64 0, .int .i64 0] 30) := ⟨_, rfl⟩
      have Hd := Lib.hid (Hb.out.call (hwd ▸ below_new wb _ _))
      have Ed : Hid (Row wd eb 30 [.int .i64 0, .bool false, .bool false, .bool false, .bool false, .bool false, .bool false, .int .i64 0, .int .i64 0]) := by show Row _ _ _ _; rw [hwd, heb]; exact Row.new wb _ _
      refine wpAnyH_ready (rs := [14]) (by kernel_rfl) (by simp) ?_
      refine AllReadyH.cons (o := _) (at_lit rfl) (fun K hK => ?_) AllReadyH.nil
      go_simp
      refine hK.out _ _ ?_ (fun hHeld => ?_)
      focus (have g6 := Hd.out.row; rw [hwd] at g6; exact ⟨g6.cell 1, g6.cell 3⟩)
      clear hK K
      rw [← hwd] at hHeld ⊢
      rw [← heb]
      clear hwd heb Hb 
      have He := Lib.hid (Hd.out.leafB Ed.out HEL.out (foot9 wd eb (.int .i64 f) (.bool b0) (.bool b1) (.bool b7) (.bool b9) (.bool b5) (.bool b6) (.int .i64 vv) (.int .i64 fr)))
      have Ee := Lib.hid (row9 (y0 := .int .i64 f) (y1 := .bool b0) (y2 := .bool b1) (y3 := .bool b7) (y4 := .bool b9) (y5 := .bool b5) (y6 := .bool b6) (y7 := .int .i64 vv) (y8 := .int .i64 fr) Ed.out)
      have e0 : wd.cell? ⟨eb, 0, none⟩ = some (.int .i64 0) := Ed.out.cell 0
      have e1 : wd.cell? ⟨eb, 1, none⟩ = some (.bool false) := Ed.out.cell 1
      have e2 : wd.cell? ⟨eb, 2, none⟩ = some (.bool false) := Ed.out.cell 2
      have e3 : wd.cell? ⟨eb, 3, none⟩ = some (.bool false) := Ed.out.cell 3
      have e4 : wd.cell? ⟨eb, 4, none⟩ = some (.bool false) := Ed.out.cell 4
      have e5 : wd.cell? ⟨eb, 5, none⟩ = some (.bool false) := Ed.out.cell 5
      have e6 : wd.cell? ⟨eb, 6, none⟩ = some (.bool false) := Ed.out.cell 6
      have e7 : wd.cell? ⟨eb, 7, none⟩ = some (.int .i64 0) := Ed.out.cell 7
      have e8 : wd.cell? ⟨eb, 8, none⟩ = some (.int .i64 0) := Ed.out.cell 8
      have ef : ∀ o, wd.frozen? ⟨eb, o, none⟩ = false := fun o => Ed.out.frozen o
      (try simp only [Act.put, sAr, sZe, sSu])
      refine wpAnyH_ready (rs := [15]) (by kernel_rfl) (by simp) ?_
      refine AllReadyH.cons (o := _) (at_lit rfl) (fun K hK => ?_) AllReadyH.nil
      go_simp
      go_wp2_with fail
      refine hK.out _ _ ?_ (fun hHeld => ?_)
      focus exact ⟨He.out.row.cell 1, He.out.row.cell 3⟩
      clear hK K e0 e1 e2 e3 e4 e5 e6 e7 e8 ef
      (try simp only [Act.put, sAr, sZe, sSu])
      refine tkY 16 (at_lit rfl) (v := ?_) (Or.inl ⟨by rfl, ?_⟩) ?_
      rotate_left
      focus (intro _ h; (try dsimp only at h); go_simp; (try with_reducible rfl); done)
      (try simp only [Act.put, sAr, sZe, sSu])
      refine wpAnyH_done (by kernel_rfl) ?_ _
      refine NoPanic.normal ?_
      go_wp2_with fail
      go_meet
      exact ⟨eb, rfl, rfl, He.out, Ee.out⟩
    · skip
      go_simp
      obtain ⟨eb, heb⟩ : ∃ eb, eb = wa.heap.size := ⟨_, rfl⟩
      have HEL : Hid (w.heap.size ≤ eb) := by show _ ≤ _; rw [heb]; exact Ha.out.below.size
      obtain ⟨wb, hwb⟩ : ∃ wb, wb = wa.alloc (.cells #[.int .i64 0, .bool false, .bool false, .bool false, .bool false, .bool false, .bool false, .int .i64 0, .int .i64 0] 30) := ⟨_, rfl⟩
      have Hb := Lib.hid (Ha.out.call (hwb ▸ below_new wa _ _))
      have Eb : Hid (Row wb eb 30 [.int .i64 0, .bool false, .bool false, .bool false, .bool false, .bool false, .bool false, .int .i64 0, .int .i64 0]) := by show Row _ _ _ _; rw [hwb, heb]; exact Row.new wa _ _
      refine hK.out _ _ ?_ (fun hHeld => ?_)
      focus (have g6 := Hb.out.row; rw [hwb] at g6; exact ⟨g6.cell 1, g6.cell 3⟩)
      clear hK K
      rw [← hwb] at hHeld ⊢
      rw [← heb]
      clear hwb heb Ha 
      (try simp only [Act.put, sAr, sZe, sSu])
      refine wpAnyH_ready (rs := [10]) (by kernel_rfl) (by simp) ?_
      refine AllReadyH.cons (o := _) (at_lit rfl) (fun K hK => ?_) AllReadyH.nil
      go_simp
      go_at_call 9
      refine (walk_is Hb.out HL.out).mono ?_
      rintro e wd ⟨rfl, hb⟩
      have Hd := Lib.hid (Hb.out.call hb)
      have Ed := Lib.hid (Eb.out.below hb Eb.out.lt)
      clear hb Hb  Eb
      go_wp2_with fail
      refine hK.out _ _ ?_ (fun hHeld => ?_)
      focus exact ⟨Hd.out.row.cell 1, Hd.out.row.cell 3⟩
      clear hK K
      (try simp only [Act.put, sAr, sZe, sSu])
      refine tkY 11 (at_lit rfl) (v := ?_) (Or.inl ⟨by rfl, ?_⟩) ?_
      rotate_left
      focus (intro _ h; (try dsimp only at h); go_simp; (try with_reducible rfl); done)
      (try simp only [Act.put, sAr, sZe, sSu])
      refine tkY 12 (at_lit rfl) (v := ?_) (Or.inl ⟨by rfl, ?_⟩) ?_
      rotate_left
      focus (intro _ h; (try dsimp only at h); go_simp; (try with_reducible rfl); done)
      (try simp only [Act.put, sAr, sZe, sSu])
      refine tkY 13 (at_lit rfl) (v := ?_) (Or.inl ⟨by rfl, ?_⟩) ?_
      rotate_left
      focus (intro _ h; (try dsimp only at h); go_simp; (try with_reducible rfl); done)
      (try simp only [Act.put, sAr, sZe, sSu])
      have He := Lib.hid (Hd.out.leafB Ed.out HEL.out (foot9 wd eb (.int .i64 f) (.bool b0) (.bool b1) (.bool b7) (.bool b9) (.bool b5) (.bool b6) (.int .i64 vv) (.int .i64 fr)))
      have Ee := Lib.hid (row9 (y0 := .int .i64 f) (y1 := .bool b0) (y2 := .bool b1) (y3 := .bool b7) (y4 := .bool b9) (y5 := .bool b5) (y6 := .bool b6) (y7 := .int .i64 vv) (y8 := .int .i64 fr) Ed.out)
      have e0 : wd.cell? ⟨eb, 0, none⟩ = some (.int .i64 0) := Ed.out.cell 0
      have e1 : wd.cell? ⟨eb, 1, none⟩ = some (.bool false) := Ed.out.cell 1
      have e2 : wd.cell? ⟨eb, 2, none⟩ = some (.bool false) := Ed.out.cell 2
      have e3 : wd.cell? ⟨eb, 3, none⟩ = some (.bool false) := Ed.out.cell 3
      have e4 : wd.cell? ⟨eb, 4, none⟩ = some (.bool false) := Ed.out.cell 4
      have e5 : wd.cell? ⟨eb, 5, none⟩ = some (.bool false) := Ed.out.cell 5
      have e6 : wd.cell? ⟨eb, 6, none⟩ = some (.bool false) := Ed.out.cell 6
      have e7 : wd.cell? ⟨eb, 7, none⟩ = some (.int .i64 0) := Ed.out.cell 7
      have e8 : wd.cell? ⟨eb, 8, none⟩ = some (.int .i64 0) := Ed.out.cell 8
      have ef : ∀ o, wd.frozen? ⟨eb, o, none⟩ = false := fun o => Ed.out.frozen o
      (try simp only [Act.put, sAr, sZe, sSu])
      refine wpAnyH_ready (rs := [15]) (by kernel_rfl) (by simp) ?_
      refine AllReadyH.cons (o := _) (at_lit rfl) (fun K hK => ?_) AllReadyH.nil
      go_simp
      go_wp2_with fail
      refine hK.out _ _ ?_ (fun hHeld => ?_)
      focus exact ⟨He.out.row.cell 1, He.out.row.cell 3⟩
      clear hK K e0 e1 e2 e3 e4 e5 e6 e7 e8 ef
      (try simp only [Act.put, sAr, sZe, sSu])
      refine tkY 16 (at_lit rfl) (v := ?_) (Or.inl ⟨by rfl, ?_⟩) ?_
      rotate_left
      focus (intro _ h; (try dsimp only at h); go_simp; (try with_reducible rfl); done)
      (try simp only [Act.put, sAr, sZe, sSu])
      refine wpAnyH_done (by kernel_rfl) ?_ _
      refine NoPanic.normal ?_
      go_wp2_with fail
      go_meet
      exact ⟨eb, rfl, rfl, He.out, Ee.out⟩
  case rest =>
    clear H 
    obtain ⟨q1, rfl, rfl, h_, r_⟩ := hcut
    obtain ⟨w4, hn_⟩ : ∃ x, x = wc := ⟨_, rfl⟩
    subst hn_
    have H := Lib.hid h_
    have R1 := Lib.hid r_
    clear h_ r_ 
    by_cases hz : spE ws L [k.r1, k.r0] k.r0 page = 0
    · obtain ⟨f2, b72, b52, b62, vv2, hl2, hm2⟩ := keeps_is H.out HL.out hz
      obtain ⟨ws2, hws⟩ : ∃ ws2, ws2 = spW ws L k.r0 page := ⟨_, rfl⟩
      rw [← hws] at hl2 hm2
      have HL2 := Lib.hid hl2
      have HM := Lib.hid hm2
      have HZ := Lib.hid (And.intro hz hws)
      clear hl2 hm2 hz hws
      go_upto_region 6 with (fail)
      have hs2 : (fun v => v.cell? ⟨k.g, 0, none⟩ = some (.pointer (some ⟨k.s.x, 0, none⟩)) ∧ v.cell? ⟨k.g, 3, none⟩ = some (.int .i64 k.r0)) w4.drew := ⟨H.out.row.cell 0, H.out.row.cell 3⟩
      refine wp_region_held_drew (S := (fun v => v.cell? ⟨k.g, 0, none⟩ = some (.pointer (some ⟨k.s.x, 0, none⟩)) ∧ v.cell? ⟨k.g, 3, none⟩ = some (.int .i64 k.r0))) (by kernel_rfl) hs2 (fun hHeld => ?_)
      have Ha : Hid (Lw w w4.drew k v ws L v0 L0 v1 L1 lf (0 + 1600)) := Lib.hid (H.out.call (drewN_b (Below.refl _ _) 1))
      have PR1 : Hid (Row w4.drew q1 30 [.int .i64 f, .bool b0, .bool b1, .bool b7, .bool b9, .bool b5, .bool b6, .int .i64 vv, .int .i64 fr]) := R1.out
      generalize w4.drew = wa at hHeld hs2 Ha PR1 ⊢
      clear H R1
      refine tkY 0 (at_lit rfl) (v := ?_) (Or.inl ⟨by rfl, ?_⟩) ?_
      rotate_left
      focus (intro _ h; (try dsimp only at h); go_simp; (try with_reducible rfl); done)
      (try simp only [Act.put, sAr, sZe, sSu])
      refine tkY 1 (at_lit rfl) (v := ?_) (Or.inl ⟨by rfl, ?_⟩) ?_
      rotate_left
      focus (intro _ h; (try dsimp only at h); go_simp; (try with_reducible rfl); done)
      (try simp only [Act.put, sAr, sZe, sSu])
      refine tkY 2 (at_lit rfl) (v := ?_) (Or.inl ⟨by rfl, ?_⟩) ?_
      rotate_left
      focus (intro _ h; (try dsimp only at h); go_simp; (try with_reducible rfl); done)
      (try simp only [Act.put, sAr, sZe, sSu])
      refine tkY 3 (at_lit rfl) (v := ?_) (Or.inl ⟨by rfl, ?_⟩) ?_
      rotate_left
      focus (intro _ h; (try dsimp only at h); go_simp; (try with_reducible rfl); done)
      (try simp only [Act.put, sAr, sZe, sSu])
      refine tkY 4 (at_lit rfl) (v := ?_) (Or.inl ⟨by rfl, ?_⟩) ?_
      rotate_left
      focus (intro _ h; (try dsimp only at h); go_simp; (try with_reducible rfl); done)
      (try simp only [Act.put, sAr, sZe, sSu])
      refine tkY 5 (at_lit rfl) (v := ?_) (Or.inl ⟨by rfl, ?_⟩) ?_
      rotate_left
      focus (intro _ h; (try dsimp only at h); go_simp; (try with_reducible rfl); done)
      (try simp only [Act.put, sAr, sZe, sSu])
      refine tkY 6 (at_lit rfl) (v := ?_) (Or.inl ⟨by rfl, ?_⟩) ?_
      rotate_left
      focus (intro _ h; (try dsimp only at h); go_simp; (try with_reducible rfl); done)
      (try simp only [Act.put, sAr, sZe, sSu])
      refine tkY 7 (at_lit rfl) (v := ?_) (Or.inl ⟨by rfl, ?_⟩) ?_
      rotate_left
      focus (intro _ h; (try dsimp only at h); go_simp; (try with_reducible rfl); done)
      (try simp only [Act.put, sAr, sZe, sSu])
      refine tkY 8 (at_lit rfl) (v := ?_) (Or.inl ⟨by rfl, ?_⟩) ?_
      rotate_left
      focus (intro _ h; (try dsimp only at h); go_simp; (try with_reducible rfl); done)
      (try simp only [Act.put, sAr, sZe, sSu])
      refine tkY 9 (at_lit rfl) (v := ?_) (Or.inl ⟨by rfl, ?_⟩) ?_
      rotate_left
      focus (intro _ h; (try dsimp only at h); go_simp; (try with_reducible rfl); done)
      (try simp only [Act.put, sAr, sZe, sSu])
      refine wpAnyH_ready (rs := [10]) (by kernel_rfl) (by simp) ?_
      refine AllReadyH.cons (o := _) (at_lit rfl) (fun K hK => ?_) AllReadyH.nil
      go_simp
      go_at_call 10
      refine (split_ok Ha.out HN.out page HZ.out.1 HZ.out.2).mono ?_
      rintro e w5 ⟨rfl, v5, L5, h8, hm⟩
      have H := Lib.hid h8
      have R1 := Lib.hid (Ha.out.tab.row hm PR1.out (by decide) (by decide) (by decide))
      clear h8 hm Ha hs2 PR1
      go_wp2_with fail
      refine hK.out _ _ ?_ (fun hHeld => ?_)
      focus exact ⟨H.out.row.cell 0, H.out.row.cell 3⟩
      clear hK K
      (try simp only [Act.put, sAr, sZe, sSu])
      refine tkY 11 (at_lit rfl) (v := ?_) (Or.inl ⟨by rfl, ?_⟩) ?_
      rotate_left
      focus (intro _ h; (try dsimp only at h); go_simp; (try with_reducible rfl); done)
      (try simp only [Act.put, sAr, sZe, sSu])
      refine wpAnyH_done (by kernel_rfl) ?_ _
      clear hHeld
      go_upto_region 7 with (fail)
      go_cut [11, 12] from 51 to 64 (fun sp se wx => ∃ (q : Nat), sp = .pointer (some ⟨q, 0, none⟩) ∧ se = .int .i64 er ∧ Lw w wx k v5 ws2 L5 v0 L0 v1 L1 lf (0 + 1600) ∧ Row wx q 30 [.int .i64 f2, .bool b0, .bool b1, .bool b72, .bool b9, .bool b52, .bool b62, .int .i64 vv2, .int .i64 fr] ∧ Row wx q1 30 [.int .i64 f, .bool b0, .bool b1, .bool b7, .bool b9, .bool b5, .bool b6, .int .i64 vv, .int .i64 fr])
      case first =>
        have hs2 : (fun v => v.cell? ⟨k.g, 1, none⟩ = some (.pointer (some ⟨k.s.a, 0, none⟩)) ∧ v.cell? ⟨k.g, 3, none⟩ = some (.int .i64 k.r0)) w5.drew := ⟨H.out.row.cell 1, H.out.row.cell 3⟩
        refine wp_region_noPanic ?_
        refine wp_region_held_drew (S := (fun v => v.cell? ⟨k.g, 1, none⟩ = some (.pointer (some ⟨k.s.a, 0, none⟩)) ∧ v.cell? ⟨k.g, 3, none⟩ = some (.int .i64 k.r0))) (by kernel_rfl) hs2 (fun hHeld => ?_)
        have Ha : Hid (Lw w w5.drew k v5 ws2 L5 v0 L0 v1 L1 lf (0 + 1600)) := Lib.hid (H.out.call (drewN_b (Below.refl _ _) 1))
        have PR1 : Hid (Row w5.drew q1 30 [.int .i64 f, .bool b0, .bool b1, .bool b7, .bool b9, .bool b5, .bool b6, .int .i64 vv, .int .i64 fr]) := R1.out
        generalize w5.drew = wa at hHeld hs2 Ha PR1 ⊢
        clear H R1
        refine tkY 0 (at_lit rfl) (v := ?_) (Or.inl ⟨by rfl, ?_⟩) ?_
        rotate_left
        focus (intro _ h; (try dsimp only at h); go_simp; (try with_reducible rfl); done)
        (try simp only [Act.put, sAr, sZe, sSu])
        refine tkY 1 (at_lit rfl) (v := ?_) (Or.inl ⟨by rfl, ?_⟩) ?_
        rotate_left
        focus (intro _ h; (try dsimp only at h); go_simp; (try with_reducible rfl); done)
        (try simp only [Act.put, sAr, sZe, sSu])
        refine tkY 2 (at_lit rfl) (v := ?_) (Or.inl ⟨by rfl, ?_⟩) ?_
        rotate_left
        focus (intro _ h; (try dsimp only at h); go_simp; (try with_reducible rfl); done)
        (try simp only [Act.put, sAr, sZe, sSu])
        refine tkY 3 (at_lit rfl) (v := ?_) (Or.inl ⟨by rfl, ?_⟩) ?_
        rotate_left
        focus (intro _ h; (try dsimp only at h); go_simp; (try with_reducible rfl); done)
        (try simp only [Act.put, sAr, sZe, sSu])
        refine tkY 4 (at_lit rfl) (v := ?_) (Or.inl ⟨by rfl, ?_⟩) ?_
        rotate_left
        focus (intro _ h; (try dsimp only at h); go_simp; (try with_reducible rfl); done)
        (try simp only [Act.put, sAr, sZe, sSu])
        refine tkY 5 (at_lit rfl) (v := ?_) (Or.inl ⟨by rfl, ?_⟩) ?_
        rotate_left
        focus (intro _ h; (try dsimp only at h); go_simp; (try with_reducible rfl); done)
        (try simp only [Act.put, sAr, sZe, sSu])
        refine tkY 6 (at_lit rfl) (v := ?_) (Or.inl ⟨by rfl, ?_⟩) ?_
        rotate_left
        focus (intro _ h; (try dsimp only at h); go_simp; (try with_reducible rfl); done)
        (try simp only [Act.put, sAr, sZe, sSu])
        refine tkY 7 (at_lit rfl) (v := ?_) (Or.inl ⟨by rfl, ?_⟩) ?_
        rotate_left
        focus (intro _ h; (try dsimp only at h); go_simp; (try with_reducible rfl); done)
        (try simp only [Act.put, sAr, sZe, sSu])
        refine tkY 8 (at_lit rfl) (v := ?_) (Or.inl ⟨by rfl, ?_⟩) ?_
        rotate_left
        focus (intro _ h; (try dsimp only at h); go_simp; (try with_reducible rfl); done)
        (try simp only [Act.put, sAr, sZe, sSu])
        refine tkY 9 (at_lit rfl) (v := ?_) (Or.inl ⟨by rfl, ?_⟩) ?_
        rotate_left
        focus (intro _ h; (try dsimp only at h); go_simp; (try with_reducible rfl); done)
        (try simp only [Act.put, sAr, sZe, sSu])
        refine wpAnyH_ready (rs := [10, 14]) (by kernel_rfl) (by simp) ?_
        refine AllReadyH.cons (o := _) (at_lit rfl) (fun K hK => ?_) (AllReadyH.cons (o := _) (at_lit rfl) (fun K hK => ?_) AllReadyH.nil)
        · skip
          go_simp
          go_at_call 9
          refine (walk_is Ha.out HL2.out).mono ?_
          rintro e wb ⟨rfl, hb⟩
          have Hb := Lib.hid (Ha.out.call hb)
          have QR1 := Lib.hid (PR1.out.below hb PR1.out.lt)
          clear hb Ha PR1 
          go_wp2_with fail
          refine hK.out _ _ ?_ (fun hHeld => ?_)
          focus exact ⟨Hb.out.row.cell 1, Hb.out.row.cell 3⟩
          clear hK K
          (try simp only [Act.put, sAr, sZe, sSu])
          refine tkY 11 (at_lit rfl) (v := ?_) (Or.inl ⟨by rfl, ?_⟩) ?_
          rotate_left
          focus (intro _ h; (try dsimp only at h); go_simp; (try with_reducible rfl); done)
          (try simp only [Act.put, sAr, sZe, sSu])
          refine tkY 12 (at_lit rfl) (v := ?_) (Or.inl ⟨by rfl, ?_⟩) ?_
          rotate_left
          focus (intro _ h; (try dsimp only at h); go_simp; (try with_reducible rfl); done)
          (try simp only [Act.put, sAr, sZe, sSu])
          refine tkY 13 (at_lit rfl) (v := ?_) (Or.inl ⟨by rfl, ?_⟩) ?_
          rotate_left
          focus (intro _ h; (try dsimp only at h); go_simp; (try with_reducible rfl); done)
          (try simp only [Act.put, sAr, sZe, sSu])
          obtain ⟨eb, heb⟩ : ∃ eb, eb = wb.heap.size := ⟨_, rfl⟩
          have HEL : Hid (w.heap.size ≤ eb) := by show _ ≤ _; rw [heb]; exact Hb.out.below.size
          obtain ⟨wd, hwd⟩ : ∃ wd, wd = wb.alloc (.cells #[.int .i64 0, .bool false, .bool false, .bool false, .bool false, .bool false, .bool false, .int .i64 0, .int .i64 0] 30) := ⟨_, rfl⟩
          have Hd := Lib.hid (Hb.out.call (hwd ▸ below_new wb _ _))
          have Ed : Hid (Row wd eb 30 [.int .i64 0, .bool false, .bool false, .bool false, .bool false, .bool false, .bool false, .int .i64 0, .int .i64 0]) := by show Row _ _ _ _; rw [hwd, heb]; exact Row.new wb _ _
          have DR1 : Hid (Row wd q1 30 [.int .i64 f, .bool b0, .bool b1, .bool b7, .bool b9, .bool b5, .bool b6, .int .i64 vv, .int .i64 fr]) := QR1.out.below (hwd ▸ below_new wb _ _) QR1.out.lt
          have NR1 : Hid (q1 ≠ eb) := by show _ ≠ _; rw [heb]; exact Nat.ne_of_lt QR1.out.lt
          refine wpAnyH_ready (rs := [14]) (by kernel_rfl) (by simp) ?_
          refine AllReadyH.cons (o := _) (at_lit rfl) (fun K hK => ?_) AllReadyH.nil
          go_simp
          refine hK.out _ _ ?_ (fun hHeld => ?_)
          focus (have g6 := Hd.out.row; rw [hwd] at g6; exact ⟨g6.cell 1, g6.cell 3⟩)
          clear hK K
          rw [← hwd] at hHeld ⊢
          rw [← heb]
          clear hwd heb Hb QR1
          have He := Lib.hid (Hd.out.leafB Ed.out HEL.out (foot9 wd eb (.int .i64 f2) (.bool b0) (.bool b1) (.bool b72) (.bool b9) (.bool b52) (.bool b62) (.int .i64 vv2) (.int .i64 fr)))
          have Ee := Lib.hid (row9 (y0 := .int .i64 f2) (y1 := .bool b0) (y2 := .bool b1) (y3 := .bool b72) (y4 := .bool b9) (y5 := .bool b52) (y6 := .bool b62) (y7 := .int .i64 vv2) (y8 := .int .i64 fr) Ed.out)
          have TR1 := Lib.hid ((foot9 wd eb (.int .i64 f2) (.bool b0) (.bool b1) (.bool b72) (.bool b9) (.bool b52) (.bool b62) (.int .i64 vv2) (.int .i64 fr)).row DR1.out NR1.out)
          have e0 : wd.cell? ⟨eb, 0, none⟩ = some (.int .i64 0) := Ed.out.cell 0
          have e1 : wd.cell? ⟨eb, 1, none⟩ = some (.bool false) := Ed.out.cell 1
          have e2 : wd.cell? ⟨eb, 2, none⟩ = some (.bool false) := Ed.out.cell 2
          have e3 : wd.cell? ⟨eb, 3, none⟩ = some (.bool false) := Ed.out.cell 3
          have e4 : wd.cell? ⟨eb, 4, none⟩ = some (.bool false) := Ed.out.cell 4
          have e5 : wd.cell? ⟨eb, 5, none⟩ = some (.bool false) := Ed.out.cell 5
          have e6 : wd.cell? ⟨eb, 6, none⟩ = some (.bool false) := Ed.out.cell 6
          have e7 : wd.cell? ⟨eb, 7, none⟩ = some (.int .i64 0) := Ed.out.cell 7
          have e8 : wd.cell? ⟨eb, 8, none⟩ = some (.int .i64 0) := Ed.out.cell 8
          have ef : ∀ o, wd.frozen? ⟨eb, o, none⟩ = false := fun o => Ed.out.frozen o
          (try simp only [Act.put, sAr, sZe, sSu])
          refine wpAnyH_ready (rs := [15]) (by kernel_rfl) (by simp) ?_
          refine AllReadyH.cons (o := _) (at_lit rfl) (fun K hK => ?_) AllReadyH.nil
          go_simp
          go_wp2_with fail
          refine hK.out _ _ ?_ (fun hHeld => ?_)
          focus exact ⟨He.out.row.cell 1, He.out.row.cell 3⟩
          clear hK K e0 e1 e2 e3 e4 e5 e6 e7 e8 ef
          (try simp only [Act.put, sAr, sZe, sSu])
          refine tkY 16 (at_lit rfl) (v := ?_) (Or.inl ⟨by rfl, ?_⟩) ?_
          rotate_left
          focus (intro _ h; (try dsimp only at h); go_simp; (try with_reducible rfl); done)
          (try simp only [Act.put, sAr, sZe, sSu])
          refine wpAnyH_done (by kernel_rfl) ?_ _
          refine NoPanic.normal ?_
          go_wp2_with fail
          go_meet
          exact ⟨eb, rfl, rfl, He.out, Ee.out, TR1.out⟩
        · skip
          go_simp
          obtain ⟨eb, heb⟩ : ∃ eb, eb = wa.heap.size := ⟨_, rfl⟩
          have HEL : Hid (w.heap.size ≤ eb) := by show _ ≤ _; rw [heb]; exact Ha.out.below.size
          obtain ⟨wb, hwb⟩ : ∃ wb, wb = wa.alloc (.cells #[.int .i64 0, .bool false, .bool false, .bool false, .bool false, .bool false, .bool false, .int .i64 0, .int .i64 0] 30) := ⟨_, rfl⟩
          have Hb := Lib.hid (Ha.out.call (hwb ▸ below_new wa _ _))
          have Eb : Hid (Row wb eb 30 [.int .i64 0, .bool false, .bool false, .bool false, .bool false, .bool false, .bool false, .int .i64 0, .int .i64 0]) := by show Row _ _ _ _; rw [hwb, heb]; exact Row.new wa _ _
          have QR1 : Hid (Row wb q1 30 [.int .i64 f, .bool b0, .bool b1, .bool b7, .bool b9, .bool b5, .bool b6, .int .i64 vv, .int .i64 fr]) := PR1.out.below (hwb ▸ below_new wa _ _) PR1.out.lt
          have NR1 : Hid (q1 ≠ eb) := by show _ ≠ _; rw [heb]; exact Nat.ne_of_lt PR1.out.lt
          refine hK.out _ _ ?_ (fun hHeld => ?_)
          focus (have g6 := Hb.out.row; rw [hwb] at g6; exact ⟨g6.cell 1, g6.cell 3⟩)
          clear hK K
          rw [← hwb] at hHeld ⊢
          rw [← heb]
          clear hwb heb Ha PR1
          (try simp only [Act.put, sAr, sZe, sSu])
          refine wpAnyH_ready (rs := [10]) (by kernel_rfl) (by simp) ?_
          refine AllReadyH.cons (o := _) (at_lit rfl) (fun K hK => ?_) AllReadyH.nil
          go_simp
          go_at_call 9
          refine (walk_is Hb.out HL2.out).mono ?_
          rintro e wd ⟨rfl, hb⟩
          have Hd := Lib.hid (Hb.out.call hb)
          have DR1 := Lib.hid (QR1.out.below hb QR1.out.lt)
          have Ed := Lib.hid (Eb.out.below hb Eb.out.lt)
          clear hb Hb QR1 Eb
          go_wp2_with fail
          refine hK.out _ _ ?_ (fun hHeld => ?_)
          focus exact ⟨Hd.out.row.cell 1, Hd.out.row.cell 3⟩
          clear hK K
          (try simp only [Act.put, sAr, sZe, sSu])
          refine tkY 11 (at_lit rfl) (v := ?_) (Or.inl ⟨by rfl, ?_⟩) ?_
          rotate_left
          focus (intro _ h; (try dsimp only at h); go_simp; (try with_reducible rfl); done)
          (try simp only [Act.put, sAr, sZe, sSu])
          refine tkY 12 (at_lit rfl) (v := ?_) (Or.inl ⟨by rfl, ?_⟩) ?_
          rotate_left
          focus (intro _ h; (try dsimp only at h); go_simp; (try with_reducible rfl); done)
          (try simp only [Act.put, sAr, sZe, sSu])
          refine tkY 13 (at_lit rfl) (v := ?_) (Or.inl ⟨by rfl, ?_⟩) ?_
          rotate_left
          focus (intro _ h; (try dsimp only at h); go_simp; (try with_reducible rfl); done)
          (try simp only [Act.put, sAr, sZe, sSu])
          have He := Lib.hid (Hd.out.leafB Ed.out HEL.out (foot9 wd eb (.int .i64 f2) (.bool b0) (.bool b1) (.bool b72) (.bool b9) (.bool b52) (.bool b62) (.int .i64 vv2) (.int .i64 fr)))
          have Ee := Lib.hid (row9 (y0 := .int .i64 f2) (y1 := .bool b0) (y2 := .bool b1) (y3 := .bool b72) (y4 := .bool b9) (y5 := .bool b52) (y6 := .bool b62) (y7 := .int .i64 vv2) (y8 := .int .i64 fr) Ed.out)
          have TR1 := Lib.hid ((foot9 wd eb (.int .i64 f2) (.bool b0) (.bool b1) (.bool b72) (.bool b9) (.bool b52) (.bool b62) (.int .i64 vv2) (.int .i64 fr)).row DR1.out NR1.out)
          have e0 : wd.cell? ⟨eb, 0, none⟩ = some (.int .i64 0) := Ed.out.cell 0
          have e1 : wd.cell? ⟨eb, 1, none⟩ = some (.bool false) := Ed.out.cell 1
          have e2 : wd.cell? ⟨eb, 2, none⟩ = some (.bool false) := Ed.out.cell 2
          have e3 : wd.cell? ⟨eb, 3, none⟩ = some (.bool false) := Ed.out.cell 3
          have e4 : wd.cell? ⟨eb, 4, none⟩ = some (.bool false) := Ed.out.cell 4
          have e5 : wd.cell? ⟨eb, 5, none⟩ = some (.bool false) := Ed.out.cell 5
          have e6 : wd.cell? ⟨eb, 6, none⟩ = some (.bool false) := Ed.out.cell 6
          have e7 : wd.cell? ⟨eb, 7, none⟩ = some (.int .i64 0) := Ed.out.cell 7
          have e8 : wd.cell? ⟨eb, 8, none⟩ = some (.int .i64 0) := Ed.out.cell 8
          have ef : ∀ o, wd.frozen? ⟨eb, o, none⟩ = false := fun o => Ed.out.frozen o
          (try simp only [Act.put, sAr, sZe, sSu])
          refine wpAnyH_ready (rs := [15]) (by kernel_rfl) (by simp) ?_
          refine AllReadyH.cons (o := _) (at_lit rfl) (fun K hK => ?_) AllReadyH.nil
          go_simp
          go_wp2_with fail
          refine hK.out _ _ ?_ (fun hHeld => ?_)
          focus exact ⟨He.out.row.cell 1, He.out.row.cell 3⟩
          clear hK K e0 e1 e2 e3 e4 e5 e6 e7 e8 ef
          (try simp only [Act.put, sAr, sZe, sSu])
          refine tkY 16 (at_lit rfl) (v := ?_) (Or.inl ⟨by rfl, ?_⟩) ?_
          rotate_left
          focus (intro _ h; (try dsimp only at h); go_simp; (try with_reducible rfl); done)
          (try simp only [Act.put, sAr, sZe, sSu])
          refine wpAnyH_done (by kernel_rfl) ?_ _
          refine NoPanic.normal ?_
          go_wp2_with fail
          go_meet
          exact ⟨eb, rfl, rfl, He.out, Ee.out, TR1.out⟩
      case rest =>
        clear H R1
        obtain ⟨q2, rfl, rfl, h_, r_, rR1⟩ := hcut
        obtain ⟨w6, hn_⟩ : ∃ x, x = wc := ⟨_, rfl⟩
        subst hn_
        have H := Lib.hid h_
        have R2 := Lib.hid r_
        have R1 := Lib.hid rR1
        clear h_ r_ rR1
        have a0 : w6.cell? ⟨q1, 0, none⟩ = some (.int .i64 f) := R1.out.cell 0
        have a1 : w6.cell? ⟨q1, 1, none⟩ = some (.bool b0) := R1.out.cell 1
        have a2 : w6.cell? ⟨q1, 2, none⟩ = some (.bool b1) := R1.out.cell 2
        have a3 : w6.cell? ⟨q1, 3, none⟩ = some (.bool b7) := R1.out.cell 3
        have a4 : w6.cell? ⟨q1, 4, none⟩ = some (.bool b9) := R1.out.cell 4
        have a5 : w6.cell? ⟨q1, 5, none⟩ = some (.bool b5) := R1.out.cell 5
        have a6 : w6.cell? ⟨q1, 6, none⟩ = some (.bool b6) := R1.out.cell 6
        have a7 : w6.cell? ⟨q1, 7, none⟩ = some (.int .i64 vv) := R1.out.cell 7
        have a8 : w6.cell? ⟨q1, 8, none⟩ = some (.int .i64 fr) := R1.out.cell 8
        have c0 : w6.cell? ⟨q2, 0, none⟩ = some (.int .i64 f2) := R2.out.cell 0
        have c1 : w6.cell? ⟨q2, 1, none⟩ = some (.bool b0) := R2.out.cell 1
        have c2 : w6.cell? ⟨q2, 2, none⟩ = some (.bool b1) := R2.out.cell 2
        have c3 : w6.cell? ⟨q2, 3, none⟩ = some (.bool b72) := R2.out.cell 3
        have c4 : w6.cell? ⟨q2, 4, none⟩ = some (.bool b9) := R2.out.cell 4
        have c5 : w6.cell? ⟨q2, 5, none⟩ = some (.bool b52) := R2.out.cell 5
        have c6 : w6.cell? ⟨q2, 6, none⟩ = some (.bool b62) := R2.out.cell 6
        have c7 : w6.cell? ⟨q2, 7, none⟩ = some (.int .i64 vv2) := R2.out.cell 7
        have c8 : w6.cell? ⟨q2, 8, none⟩ = some (.int .i64 fr) := R2.out.cell 8
        rcases HM.out with hm6 | ⟨hm0, hl3⟩
        · skip
          have HM6 := Lib.hid hm6
          clear hm6
          go_upto_region 12 with (fail)
          have hs2 : (fun v => v.cell? ⟨k.g, 0, none⟩ = some (.pointer (some ⟨k.s.x, 0, none⟩)) ∧ v.cell? ⟨k.g, 3, none⟩ = some (.int .i64 k.r0)) w6.drew := ⟨H.out.row.cell 0, H.out.row.cell 3⟩
          refine wp_region_held_drew (S := (fun v => v.cell? ⟨k.g, 0, none⟩ = some (.pointer (some ⟨k.s.x, 0, none⟩)) ∧ v.cell? ⟨k.g, 3, none⟩ = some (.int .i64 k.r0))) (by kernel_rfl) hs2 (fun hHeld => ?_)
          have Ha : Hid (Lw w w6.drew k v5 ws2 L5 v0 L0 v1 L1 lf (0 + 1600)) := Lib.hid (H.out.call (drewN_b (Below.refl _ _) 1))
          have PR1 : Hid (Row w6.drew q1 30 [.int .i64 f, .bool b0, .bool b1, .bool b7, .bool b9, .bool b5, .bool b6, .int .i64 vv, .int .i64 fr]) := R1.out
          have PR2 : Hid (Row w6.drew q2 30 [.int .i64 f2, .bool b0, .bool b1, .bool b72, .bool b9, .bool b52, .bool b62, .int .i64 vv2, .int .i64 fr]) := R2.out
          generalize w6.drew = wa at hHeld hs2 Ha PR1 PR2 ⊢
          clear H R1 R2 a0 a1 a2 a3 a4 a5 a6 a7 a8 c0 c1 c2 c3 c4 c5 c6 c7 c8
          refine tkY 0 (at_lit rfl) (v := ?_) (Or.inl ⟨by rfl, ?_⟩) ?_
          rotate_left
          focus (intro _ h; (try dsimp only at h); go_simp; (try with_reducible rfl); done)
          (try simp only [Act.put, sAr, sZe, sSu])
          refine tkY 1 (at_lit rfl) (v := ?_) (Or.inl ⟨by rfl, ?_⟩) ?_
          rotate_left
          focus (intro _ h; (try dsimp only at h); go_simp; (try with_reducible rfl); done)
          (try simp only [Act.put, sAr, sZe, sSu])
          refine tkY 2 (at_lit rfl) (v := ?_) (Or.inl ⟨by rfl, ?_⟩) ?_
          rotate_left
          focus (intro _ h; (try dsimp only at h); go_simp; (try with_reducible rfl); done)
          (try simp only [Act.put, sAr, sZe, sSu])
          refine tkY 3 (at_lit rfl) (v := ?_) (Or.inl ⟨by rfl, ?_⟩) ?_
          rotate_left
          focus (intro _ h; (try dsimp only at h); go_simp; (try with_reducible rfl); done)
          (try simp only [Act.put, sAr, sZe, sSu])
          refine tkY 4 (at_lit rfl) (v := ?_) (Or.inl ⟨by rfl, ?_⟩) ?_
          rotate_left
          focus (intro _ h; (try dsimp only at h); go_simp; (try with_reducible rfl); done)
          (try simp only [Act.put, sAr, sZe, sSu])
          refine tkY 5 (at_lit rfl) (v := ?_) (Or.inl ⟨by rfl, ?_⟩) ?_
          rotate_left
          focus (intro _ h; (try dsimp only at h); go_simp; (try with_reducible rfl); done)
          (try simp only [Act.put, sAr, sZe, sSu])
          refine tkY 6 (at_lit rfl) (v := ?_) (Or.inl ⟨by rfl, ?_⟩) ?_
          rotate_left
          focus (intro _ h; (try dsimp only at h); go_simp; (try with_reducible rfl); done)
          (try simp only [Act.put, sAr, sZe, sSu])
          refine tkY 7 (at_lit rfl) (v := ?_) (Or.inl ⟨by rfl, ?_⟩) ?_
          rotate_left
          focus (intro _ h; (try dsimp only at h); go_simp; (try with_reducible rfl); done)
          (try simp only [Act.put, sAr, sZe, sSu])
          refine tkY 8 (at_lit rfl) (v := ?_) (Or.inl ⟨by rfl, ?_⟩) ?_
          rotate_left
          focus (intro _ h; (try dsimp only at h); go_simp; (try with_reducible rfl); done)
          (try simp only [Act.put, sAr, sZe, sSu])
          refine tkY 9 (at_lit rfl) (v := ?_) (Or.inl ⟨by rfl, ?_⟩) ?_
          rotate_left
          focus (intro _ h; (try dsimp only at h); go_simp; (try with_reducible rfl); done)
          (try simp only [Act.put, sAr, sZe, sSu])
          refine wpAnyH_ready (rs := [10]) (by kernel_rfl) (by simp) ?_
          refine AllReadyH.cons (o := _) (at_lit rfl) (fun K hK => ?_) AllReadyH.nil
          go_simp
          go_at_call 11
          refine (merge_no Ha.out HN.out page HP.out HM6.out).mono ?_
          rintro e w7 ⟨rfl, v7, L7, h8, hm⟩
          have H := Lib.hid h8
          have R1 := Lib.hid (Ha.out.tab.row hm PR1.out (by decide) (by decide) (by decide))
          have R2 := Lib.hid (Ha.out.tab.row hm PR2.out (by decide) (by decide) (by decide))
          clear h8 hm Ha hs2 PR1 PR2
          go_wp2_with fail
          refine hK.out _ _ ?_ (fun hHeld => ?_)
          focus exact ⟨H.out.row.cell 0, H.out.row.cell 3⟩
          clear hK K
          (try simp only [Act.put, sAr, sZe, sSu])
          refine tkY 11 (at_lit rfl) (v := ?_) (Or.inl ⟨by rfl, ?_⟩) ?_
          rotate_left
          focus (intro _ h; (try dsimp only at h); go_simp; (try with_reducible rfl); done)
          (try simp only [Act.put, sAr, sZe, sSu])
          refine wpAnyH_done (by kernel_rfl) ?_ _
          clear hHeld
          go_upto_region 13 with (fail)
          go_cut [14, 15] from 118 to 131 (fun sp se wx => ∃ (q : Nat), sp = .pointer (some ⟨q, 0, none⟩) ∧ se = .int .i64 er ∧ Lw w wx k v7 ws2 L7 v0 L0 v1 L1 lf (0 + 1600) ∧ Row wx q 30 [.int .i64 f2, .bool b0, .bool b1, .bool b72, .bool b9, .bool b52, .bool b62, .int .i64 vv2, .int .i64 fr] ∧ Row wx q1 30 [.int .i64 f, .bool b0, .bool b1, .bool b7, .bool b9, .bool b5, .bool b6, .int .i64 vv, .int .i64 fr] ∧ Row wx q2 30 [.int .i64 f2, .bool b0, .bool b1, .bool b72, .bool b9, .bool b52, .bool b62, .int .i64 vv2, .int .i64 fr])
          case first =>
            have hs2 : (fun v => v.cell? ⟨k.g, 1, none⟩ = some (.pointer (some ⟨k.s.a, 0, none⟩)) ∧ v.cell? ⟨k.g, 3, none⟩ = some (.int .i64 k.r0)) w7.drew := ⟨H.out.row.cell 1, H.out.row.cell 3⟩
            refine wp_region_noPanic ?_
            refine wp_region_held_drew (S := (fun v => v.cell? ⟨k.g, 1, none⟩ = some (.pointer (some ⟨k.s.a, 0, none⟩)) ∧ v.cell? ⟨k.g, 3, none⟩ = some (.int .i64 k.r0))) (by kernel_rfl) hs2 (fun hHeld => ?_)
            have Ha : Hid (Lw w w7.drew k v7 ws2 L7 v0 L0 v1 L1 lf (0 + 1600)) := Lib.hid (H.out.call (drewN_b (Below.refl _ _) 1))
            have PR1 : Hid (Row w7.drew q1 30 [.int .i64 f, .bool b0, .bool b1, .bool b7, .bool b9, .bool b5, .bool b6, .int .i64 vv, .int .i64 fr]) := R1.out
            have PR2 : Hid (Row w7.drew q2 30 [.int .i64 f2, .bool b0, .bool b1, .bool b72, .bool b9, .bool b52, .bool b62, .int .i64 vv2, .int .i64 fr]) := R2.out
            generalize w7.drew = wa at hHeld hs2 Ha PR1 PR2 ⊢
            clear H R1 R2
            refine tkY 0 (at_lit rfl) (v := ?_) (Or.inl ⟨by rfl, ?_⟩) ?_
            rotate_left
            focus (intro _ h; (try dsimp only at h); go_simp; (try with_reducible rfl); done)
            (try simp only [Act.put, sAr, sZe, sSu])
            refine tkY 1 (at_lit rfl) (v := ?_) (Or.inl ⟨by rfl, ?_⟩) ?_
            rotate_left
            focus (intro _ h; (try dsimp only at h); go_simp; (try with_reducible rfl); done)
            (try simp only [Act.put, sAr, sZe, sSu])
            refine tkY 2 (at_lit rfl) (v := ?_) (Or.inl ⟨by rfl, ?_⟩) ?_
            rotate_left
            focus (intro _ h; (try dsimp only at h); go_simp; (try with_reducible rfl); done)
            (try simp only [Act.put, sAr, sZe, sSu])
            refine tkY 3 (at_lit rfl) (v := ?_) (Or.inl ⟨by rfl, ?_⟩) ?_
            rotate_left
            focus (intro _ h; (try dsimp only at h); go_simp; (try with_reducible rfl); done)
            (try simp only [Act.put, sAr, sZe, sSu])
            refine tkY 4 (at_lit rfl) (v := ?_) (Or.inl ⟨by rfl, ?_⟩) ?_
            rotate_left
            focus (intro _ h; (try dsimp only at h); go_simp; (try with_reducible rfl); done)
            (try simp only [Act.put, sAr, sZe, sSu])
            refine tkY 5 (at_lit rfl) (v := ?_) (Or.inl ⟨by rfl, ?_⟩) ?_
            rotate_left
            focus (intro _ h; (try dsimp only at h); go_simp; (try with_reducible rfl); done)
            (try simp only [Act.put, sAr, sZe, sSu])
            refine tkY 6 (at_lit rfl) (v := ?_) (Or.inl ⟨by rfl, ?_⟩) ?_
            rotate_left
            focus (intro _ h; (try dsimp only at h); go_simp; (try with_reducible rfl); done)
            (try simp only [Act.put, sAr, sZe, sSu])
            refine tkY 7 (at_lit rfl) (v := ?_) (Or.inl ⟨by rfl, ?_⟩) ?_
            rotate_left
            focus (intro _ h; (try dsimp only at h); go_simp; (try with_reducible rfl); done)
            (try simp only [Act.put, sAr, sZe, sSu])
            refine tkY 8 (at_lit rfl) (v := ?_) (Or.inl ⟨by rfl, ?_⟩) ?_
            rotate_left
            focus (intro _ h; (try dsimp only at h); go_simp; (try with_reducible rfl); done)
            (try simp only [Act.put, sAr, sZe, sSu])
            refine tkY 9 (at_lit rfl) (v := ?_) (Or.inl ⟨by rfl, ?_⟩) ?_
            rotate_left
            focus (intro _ h; (try dsimp only at h); go_simp; (try with_reducible rfl); done)
            (try simp only [Act.put, sAr, sZe, sSu])
            refine wpAnyH_ready (rs := [10, 14]) (by kernel_rfl) (by simp) ?_
            refine AllReadyH.cons (o := _) (at_lit rfl) (fun K hK => ?_) (AllReadyH.cons (o := _) (at_lit rfl) (fun K hK => ?_) AllReadyH.nil)
            · skip
              go_simp
              go_at_call 9
              refine (walk_is Ha.out HL2.out).mono ?_
              rintro e wb ⟨rfl, hb⟩
              have Hb := Lib.hid (Ha.out.call hb)
              have QR1 := Lib.hid (PR1.out.below hb PR1.out.lt)
              have QR2 := Lib.hid (PR2.out.below hb PR2.out.lt)
              clear hb Ha PR1 PR2 
              go_wp2_with fail
              refine hK.out _ _ ?_ (fun hHeld => ?_)
              focus exact ⟨Hb.out.row.cell 1, Hb.out.row.cell 3⟩
              clear hK K
              (try simp only [Act.put, sAr, sZe, sSu])
              refine tkY 11 (at_lit rfl) (v := ?_) (Or.inl ⟨by rfl, ?_⟩) ?_
              rotate_left
              focus (intro _ h; (try dsimp only at h); go_simp; (try with_reducible rfl); done)
              (try simp only [Act.put, sAr, sZe, sSu])
              refine tkY 12 (at_lit rfl) (v := ?_) (Or.inl ⟨by rfl, ?_⟩) ?_
              rotate_left
              focus (intro _ h; (try dsimp only at h); go_simp; (try with_reducible rfl); done)
              (try simp only [Act.put, sAr, sZe, sSu])
              refine tkY 13 (at_lit rfl) (v := ?_) (Or.inl ⟨by rfl, ?_⟩) ?_
              rotate_left
              focus (intro _ h; (try dsimp only at h); go_simp; (try with_reducible rfl); done)
              (try simp only [Act.put, sAr, sZe, sSu])
              obtain ⟨eb, heb⟩ : ∃ eb, eb = wb.heap.size := ⟨_, rfl⟩
              have HEL : Hid (w.heap.size ≤ eb) := by show _ ≤ _; rw [heb]; exact Hb.out.below.size
              obtain ⟨wd, hwd⟩ : ∃ wd, wd = wb.alloc (.cells #[.int .i64 0, .bool false, .bool false, .bool false, .bool false, .bool false, .bool false, .int .i64 0, .int .i64 0] 30) := ⟨_, rfl⟩
              have Hd := Lib.hid (Hb.out.call (hwd ▸ below_new wb _ _))
              have Ed : Hid (Row wd eb 30 [.int .i64 0, .bool false, .bool false, .bool false, .bool false, .bool false, .bool false, .int .i64 0, .int .i64 0]) := by show Row _ _ _ _; rw [hwd, heb]; exact Row.new wb _ _
              have DR1 : Hid (Row wd q1 30 [.int .i64 f, .bool b0, .bool b1, .bool b7, .bool b9, .bool b5, .bool b6, .int .i64 vv, .int .i64 fr]) := QR1.out.below (hwd ▸ below_new wb _ _) QR1.out.lt
              have NR1 : Hid (q1 ≠ eb) := by show _ ≠ _; rw [heb]; exact Nat.ne_of_lt QR1.out.lt
              have DR2 : Hid (Row wd q2 30 [.int .i64 f2, .bool b0, .bool b1, .bool b72, .bool b9, .bool b52, .bool b62, .int .i64 vv2, .int .i64 fr]) := QR2.out.below (hwd ▸ below_new wb _ _) QR2.out.lt
              have NR2 : Hid (q2 ≠ eb) := by show _ ≠ _; rw [heb]; exact Nat.ne_of_lt QR2.out.lt
              refine wpAnyH_ready (rs := [14]) (by kernel_rfl) (by simp) ?_
              refine AllReadyH.cons (o := _) (at_lit rfl) (fun K hK => ?_) AllReadyH.nil
              go_simp
              refine hK.out _ _ ?_ (fun hHeld => ?_)
              focus (have g6 := Hd.out.row; rw [hwd] at g6; exact ⟨g6.cell 1, g6.cell 3⟩)
              clear hK K
              rw [← hwd] at hHeld ⊢
              rw [← heb]
              clear hwd heb Hb QR1 QR2
              have He := Lib.hid (Hd.out.leafB Ed.out HEL.out (foot9 wd eb (.int .i64 f2) (.bool b0) (.bool b1) (.bool b72) (.bool b9) (.bool b52) (.bool b62) (.int .i64 vv2) (.int .i64 fr)))
              have Ee := Lib.hid (row9 (y0 := .int .i64 f2) (y1 := .bool b0) (y2 := .bool b1) (y3 := .bool b72) (y4 := .bool b9) (y5 := .bool b52) (y6 := .bool b62) (y7 := .int .i64 vv2) (y8 := .int .i64 fr) Ed.out)
              have TR1 := Lib.hid ((foot9 wd eb (.int .i64 f2) (.bool b0) (.bool b1) (.bool b72) (.bool b9) (.bool b52) (.bool b62) (.int .i64 vv2) (.int .i64 fr)).row DR1.out NR1.out)
              have TR2 := Lib.hid ((foot9 wd eb (.int .i64 f2) (.bool b0) (.bool b1) (.bool b72) (.bool b9) (.bool b52) (.bool b62) (.int .i64 vv2) (.int .i64 fr)).row DR2.out NR2.out)
              have e0 : wd.cell? ⟨eb, 0, none⟩ = some (.int .i64 0) := Ed.out.cell 0
              have e1 : wd.cell? ⟨eb, 1, none⟩ = some (.bool false) := Ed.out.cell 1
              have e2 : wd.cell? ⟨eb, 2, none⟩ = some (.bool false) := Ed.out.cell 2
              have e3 : wd.cell? ⟨eb, 3, none⟩ = some (.bool false) := Ed.out.cell 3
              have e4 : wd.cell? ⟨eb, 4, none⟩ = some (.bool false) := Ed.out.cell 4
              have e5 : wd.cell? ⟨eb, 5, none⟩ = some (.bool false) := Ed.out.cell 5
              have e6 : wd.cell? ⟨eb, 6, none⟩ = some (.bool false) := Ed.out.cell 6
              have e7 : wd.cell? ⟨eb, 7, none⟩ = some (.int .i64 0) := Ed.out.cell 7
              have e8 : wd.cell? ⟨eb, 8, none⟩ = some (.int .i64 0) := Ed.out.cell 8
              have ef : ∀ o, wd.frozen? ⟨eb, o, none⟩ = false := fun o => Ed.out.frozen o
              (try simp only [Act.put, sAr, sZe, sSu])
              refine wpAnyH_ready (rs := [15]) (by kernel_rfl) (by simp) ?_
              refine AllReadyH.cons (o := _) (at_lit rfl) (fun K hK => ?_) AllReadyH.nil
              go_simp
              go_wp2_with fail
              refine hK.out _ _ ?_ (fun hHeld => ?_)
              focus exact ⟨He.out.row.cell 1, He.out.row.cell 3⟩
              clear hK K e0 e1 e2 e3 e4 e5 e6 e7 e8 ef
              (try simp only [Act.put, sAr, sZe, sSu])
              refine tkY 16 (at_lit rfl) (v := ?_) (Or.inl ⟨by rfl, ?_⟩) ?_
              rotate_left
              focus (intro _ h; (try dsimp only at h); go_simp; (try with_reducible rfl); done)
              (try simp only [Act.put, sAr, sZe, sSu])
              refine wpAnyH_done (by kernel_rfl) ?_ _
              refine NoPanic.normal ?_
              go_wp2_with fail
              go_meet
              exact ⟨eb, rfl, rfl, He.out, Ee.out, TR1.out, TR2.out⟩
            · skip
              go_simp
              obtain ⟨eb, heb⟩ : ∃ eb, eb = wa.heap.size := ⟨_, rfl⟩
              have HEL : Hid (w.heap.size ≤ eb) := by show _ ≤ _; rw [heb]; exact Ha.out.below.size
              obtain ⟨wb, hwb⟩ : ∃ wb, wb = wa.alloc (.cells #[.int .i64 0, .bool false, .bool false, .bool false, .bool false, .bool false, .bool false, .int .i64 0, .int .i64 0] 30) := ⟨_, rfl⟩
              have Hb := Lib.hid (Ha.out.call (hwb ▸ below_new wa _ _))
              have Eb : Hid (Row wb eb 30 [.int .i64 0, .bool false, .bool false, .bool false, .bool false, .bool false, .bool false, .int .i64 0, .int .i64 0]) := by show Row _ _ _ _; rw [hwb, heb]; exact Row.new wa _ _
              have QR1 : Hid (Row wb q1 30 [.int .i64 f, .bool b0, .bool b1, .bool b7, .bool b9, .bool b5, .bool b6, .int .i64 vv, .int .i64 fr]) := PR1.out.below (hwb ▸ below_new wa _ _) PR1.out.lt
              have NR1 : Hid (q1 ≠ eb) := by show _ ≠ _; rw [heb]; exact Nat.ne_of_lt PR1.out.lt
              have QR2 : Hid (Row wb q2 30 [.int .i64 f2, .bool b0, .bool b1, .bool b72, .bool b9, .bool b52, .bool b62, .int .i64 vv2, .int .i64 fr]) := PR2.out.below (hwb ▸ below_new wa _ _) PR2.out.lt
              have NR2 : Hid (q2 ≠ eb) := by show _ ≠ _; rw [heb]; exact Nat.ne_of_lt PR2.out.lt
              refine hK.out _ _ ?_ (fun hHeld => ?_)
              focus (have g6 := Hb.out.row; rw [hwb] at g6; exact ⟨g6.cell 1, g6.cell 3⟩)
              clear hK K
              rw [← hwb] at hHeld ⊢
              rw [← heb]
              clear hwb heb Ha PR1 PR2
              (try simp only [Act.put, sAr, sZe, sSu])
              refine wpAnyH_ready (rs := [10]) (by kernel_rfl) (by simp) ?_
              refine AllReadyH.cons (o := _) (at_lit rfl) (fun K hK => ?_) AllReadyH.nil
              go_simp
              go_at_call 9
              refine (walk_is Hb.out HL2.out).mono ?_
              rintro e wd ⟨rfl, hb⟩
              have Hd := Lib.hid (Hb.out.call hb)
              have DR1 := Lib.hid (QR1.out.below hb QR1.out.lt)
              have DR2 := Lib.hid (QR2.out.below hb QR2.out.lt)
              have Ed := Lib.hid (Eb.out.below hb Eb.out.lt)
              clear hb Hb QR1 QR2 Eb
              go_wp2_with fail
              refine hK.out _ _ ?_ (fun hHeld => ?_)
              focus exact ⟨Hd.out.row.cell 1, Hd.out.row.cell 3⟩
              clear hK K
              (try simp only [Act.put, sAr, sZe, sSu])
              refine tkY 11 (at_lit rfl) (v := ?_) (Or.inl ⟨by rfl, ?_⟩) ?_
              rotate_left
              focus (intro _ h; (try dsimp only at h); go_simp; (try with_reducible rfl); done)
              (try simp only [Act.put, sAr, sZe, sSu])
              refine tkY 12 (at_lit rfl) (v := ?_) (Or.inl ⟨by rfl, ?_⟩) ?_
              rotate_left
              focus (intro _ h; (try dsimp only at h); go_simp; (try with_reducible rfl); done)
              (try simp only [Act.put, sAr, sZe, sSu])
              refine tkY 13 (at_lit rfl) (v := ?_) (Or.inl ⟨by rfl, ?_⟩) ?_
              rotate_left
              focus (intro _ h; (try dsimp only at h); go_simp; (try with_reducible rfl); done)
              (try simp only [Act.put, sAr, sZe, sSu])
              have He := Lib.hid (Hd.out.leafB Ed.out HEL.out (foot9 wd eb (.int .i64 f2) (.bool b0) (.bool b1) (.bool b72) (.bool b9) (.bool b52) (.bool b62) (.int .i64 vv2) (.int .i64 fr)))
              have Ee := Lib.hid (row9 (y0 := .int .i64 f2) (y1 := .bool b0) (y2 := .bool b1) (y3 := .bool b72) (y4 := .bool b9) (y5 := .bool b52) (y6 := .bool b62) (y7 := .int .i64 vv2) (y8 := .int .i64 fr) Ed.out)
              have TR1 := Lib.hid ((foot9 wd eb (.int .i64 f2) (.bool b0) (.bool b1) (.bool b72) (.bool b9) (.bool b52) (.bool b62) (.int .i64 vv2) (.int .i64 fr)).row DR1.out NR1.out)
              have TR2 := Lib.hid ((foot9 wd eb (.int .i64 f2) (.bool b0) (.bool b1) (.bool b72) (.bool b9) (.bool b52) (.bool b62) (.int .i64 vv2) (.int .i64 fr)).row DR2.out NR2.out)
              have e0 : wd.cell? ⟨eb, 0, none⟩ = some (.int .i64 0) := Ed.out.cell 0
              have e1 : wd.cell? ⟨eb, 1, none⟩ = some (.bool false) := Ed.out.cell 1
              have e2 : wd.cell? ⟨eb, 2, none⟩ = some (.bool false) := Ed.out.cell 2
              have e3 : wd.cell? ⟨eb, 3, none⟩ = some (.bool false) := Ed.out.cell 3
              have e4 : wd.cell? ⟨eb, 4, none⟩ = some (.bool false) := Ed.out.cell 4
              have e5 : wd.cell? ⟨eb, 5, none⟩ = some (.bool false) := Ed.out.cell 5
              have e6 : wd.cell? ⟨eb, 6, none⟩ = some (.bool false) := Ed.out.cell 6
              have e7 : wd.cell? ⟨eb, 7, none⟩ = some (.int .i64 0) := Ed.out.cell 7
              have e8 : wd.cell? ⟨eb, 8, none⟩ = some (.int .i64 0) := Ed.out.cell 8
              have ef : ∀ o, wd.frozen? ⟨eb, o, none⟩ = false := fun o => Ed.out.frozen o
              (try simp only [Act.put, sAr, sZe, sSu])
              refine wpAnyH_ready (rs := [15]) (by kernel_rfl) (by simp) ?_
              refine AllReadyH.cons (o := _) (at_lit rfl) (fun K hK => ?_) AllReadyH.nil
              go_simp
              go_wp2_with fail
              refine hK.out _ _ ?_ (fun hHeld => ?_)
              focus exact ⟨He.out.row.cell 1, He.out.row.cell 3⟩
              clear hK K e0 e1 e2 e3 e4 e5 e6 e7 e8 ef
              (try simp only [Act.put, sAr, sZe, sSu])
              refine tkY 16 (at_lit rfl) (v := ?_) (Or.inl ⟨by rfl, ?_⟩) ?_
              rotate_left
              focus (intro _ h; (try dsimp only at h); go_simp; (try with_reducible rfl); done)
              (try simp only [Act.put, sAr, sZe, sSu])
              refine wpAnyH_done (by kernel_rfl) ?_ _
              refine NoPanic.normal ?_
              go_wp2_with fail
              go_meet
              exact ⟨eb, rfl, rfl, He.out, Ee.out, TR1.out, TR2.out⟩
          case rest =>
            clear H R1 R2
            obtain ⟨q3, rfl, rfl, h_, r_, rR1, rR2⟩ := hcut
            obtain ⟨w8, hn_⟩ : ∃ x, x = wc := ⟨_, rfl⟩
            subst hn_
            have H := Lib.hid h_
            have R3 := Lib.hid r_
            have R1 := Lib.hid rR1
            have R2 := Lib.hid rR2
            clear h_ r_ rR1 rR2
            have a0 : w8.cell? ⟨q1, 0, none⟩ = some (.int .i64 f) := R1.out.cell 0
            have a1 : w8.cell? ⟨q1, 1, none⟩ = some (.bool b0) := R1.out.cell 1
            have a2 : w8.cell? ⟨q1, 2, none⟩ = some (.bool b1) := R1.out.cell 2
            have a3 : w8.cell? ⟨q1, 3, none⟩ = some (.bool b7) := R1.out.cell 3
            have a4 : w8.cell? ⟨q1, 4, none⟩ = some (.bool b9) := R1.out.cell 4
            have a5 : w8.cell? ⟨q1, 5, none⟩ = some (.bool b5) := R1.out.cell 5
            have a6 : w8.cell? ⟨q1, 6, none⟩ = some (.bool b6) := R1.out.cell 6
            have a7 : w8.cell? ⟨q1, 7, none⟩ = some (.int .i64 vv) := R1.out.cell 7
            have a8 : w8.cell? ⟨q1, 8, none⟩ = some (.int .i64 fr) := R1.out.cell 8
            have c0 : w8.cell? ⟨q3, 0, none⟩ = some (.int .i64 f2) := R3.out.cell 0
            have c1 : w8.cell? ⟨q3, 1, none⟩ = some (.bool b0) := R3.out.cell 1
            have c2 : w8.cell? ⟨q3, 2, none⟩ = some (.bool b1) := R3.out.cell 2
            have c3 : w8.cell? ⟨q3, 3, none⟩ = some (.bool b72) := R3.out.cell 3
            have c4 : w8.cell? ⟨q3, 4, none⟩ = some (.bool b9) := R3.out.cell 4
            have c5 : w8.cell? ⟨q3, 5, none⟩ = some (.bool b52) := R3.out.cell 5
            have c6 : w8.cell? ⟨q3, 6, none⟩ = some (.bool b62) := R3.out.cell 6
            have c7 : w8.cell? ⟨q3, 7, none⟩ = some (.int .i64 vv2) := R3.out.cell 7
            have c8 : w8.cell? ⟨q3, 8, none⟩ = some (.int .i64 fr) := R3.out.cell 8
            go_wp2_with fail
            go_ret
            exact ⟨ret_bool (by simp), H.out.below⟩
        · skip
          obtain ⟨ws3, hws3⟩ : ∃ ws3, ws3 = meW ws2 k.r0 page := ⟨_, rfl⟩
          rw [← hws3] at hl3
          have HL3 := Lib.hid hl3
          have HM0 := Lib.hid (And.intro hm0 hws3)
          clear hm0 hl3 hws3
          go_upto_region 12 with (fail)
          have hs2 : (fun v => v.cell? ⟨k.g, 0, none⟩ = some (.pointer (some ⟨k.s.x, 0, none⟩)) ∧ v.cell? ⟨k.g, 3, none⟩ = some (.int .i64 k.r0)) w6.drew := ⟨H.out.row.cell 0, H.out.row.cell 3⟩
          refine wp_region_held_drew (S := (fun v => v.cell? ⟨k.g, 0, none⟩ = some (.pointer (some ⟨k.s.x, 0, none⟩)) ∧ v.cell? ⟨k.g, 3, none⟩ = some (.int .i64 k.r0))) (by kernel_rfl) hs2 (fun hHeld => ?_)
          have Ha : Hid (Lw w w6.drew k v5 ws2 L5 v0 L0 v1 L1 lf (0 + 1600)) := Lib.hid (H.out.call (drewN_b (Below.refl _ _) 1))
          have PR1 : Hid (Row w6.drew q1 30 [.int .i64 f, .bool b0, .bool b1, .bool b7, .bool b9, .bool b5, .bool b6, .int .i64 vv, .int .i64 fr]) := R1.out
          have PR2 : Hid (Row w6.drew q2 30 [.int .i64 f2, .bool b0, .bool b1, .bool b72, .bool b9, .bool b52, .bool b62, .int .i64 vv2, .int .i64 fr]) := R2.out
          generalize w6.drew = wa at hHeld hs2 Ha PR1 PR2 ⊢
          clear H R1 R2 a0 a1 a2 a3 a4 a5 a6 a7 a8 c0 c1 c2 c3 c4 c5 c6 c7 c8
          refine tkY 0 (at_lit rfl) (v := ?_) (Or.inl ⟨by rfl, ?_⟩) ?_
          rotate_left
          focus (intro _ h; (try dsimp only at h); go_simp; (try with_reducible rfl); done)
          (try simp only [Act.put, sAr, sZe, sSu])
          refine tkY 1 (at_lit rfl) (v := ?_) (Or.inl ⟨by rfl, ?_⟩) ?_
          rotate_left
          focus (intro _ h; (try dsimp only at h); go_simp; (try with_reducible rfl); done)
          (try simp only [Act.put, sAr, sZe, sSu])
          refine tkY 2 (at_lit rfl) (v := ?_) (Or.inl ⟨by rfl, ?_⟩) ?_
          rotate_left
          focus (intro _ h; (try dsimp only at h); go_simp; (try with_reducible rfl); done)
          (try simp only [Act.put, sAr, sZe, sSu])
          refine tkY 3 (at_lit rfl) (v := ?_) (Or.inl ⟨by rfl, ?_⟩) ?_
          rotate_left
          focus (intro _ h; (try dsimp only at h); go_simp; (try with_reducible rfl); done)
          (try simp only [Act.put, sAr, sZe, sSu])
          refine tkY 4 (at_lit rfl) (v := ?_) (Or.inl ⟨by rfl, ?_⟩) ?_
          rotate_left
          focus (intro _ h; (try dsimp only at h); go_simp; (try with_reducible rfl); done)
          (try simp only [Act.put, sAr, sZe, sSu])
          refine tkY 5 (at_lit rfl) (v := ?_) (Or.inl ⟨by rfl, ?_⟩) ?_
          rotate_left
          focus (intro _ h; (try dsimp only at h); go_simp; (try with_reducible rfl); done)
          (try simp only [Act.put, sAr, sZe, sSu])
          refine tkY 6 (at_lit rfl) (v := ?_) (Or.inl ⟨by rfl, ?_⟩) ?_
          rotate_left
          focus (intro _ h; (try dsimp only at h); go_simp; (try with_reducible rfl); done)
          (try simp only [Act.put, sAr, sZe, sSu])
          refine tkY 7 (at_lit rfl) (v := ?_) (Or.inl ⟨by rfl, ?_⟩) ?_
          rotate_left
          focus (intro _ h; (try dsimp only at h); go_simp; (try with_reducible rfl); done)
          (try simp only [Act.put, sAr, sZe, sSu])
          refine tkY 8 (at_lit rfl) (v := ?_) (Or.inl ⟨by rfl, ?_⟩) ?_
          rotate_left
          focus (intro _ h; (try dsimp only at h); go_simp; (try with_reducible rfl); done)
          (try simp only [Act.put, sAr, sZe, sSu])
          refine tkY 9 (at_lit rfl) (v := ?_) (Or.inl ⟨by rfl, ?_⟩) ?_
          rotate_left
          focus (intro _ h; (try dsimp only at h); go_simp; (try with_reducible rfl); done)
          (try simp only [Act.put, sAr, sZe, sSu])
          refine wpAnyH_ready (rs := [10]) (by kernel_rfl) (by simp) ?_
          refine AllReadyH.cons (o := _) (at_lit rfl) (fun K hK => ?_) AllReadyH.nil
          go_simp
          go_at_call 11
          refine (merge_ok Ha.out HN.out page HP.out HM0.out.1 HM0.out.2).mono ?_
          rintro e w7 ⟨rfl, v7, L7, h8, hm⟩
          have H := Lib.hid h8
          have R1 := Lib.hid (Ha.out.tab.row hm PR1.out (by decide) (by decide) (by decide))
          have R2 := Lib.hid (Ha.out.tab.row hm PR2.out (by decide) (by decide) (by decide))
          clear h8 hm Ha hs2 PR1 PR2
          go_wp2_with fail
          refine hK.out _ _ ?_ (fun hHeld => ?_)
          focus exact ⟨H.out.row.cell 0, H.out.row.cell 3⟩
          clear hK K
          (try simp only [Act.put, sAr, sZe, sSu])
          refine tkY 11 (at_lit rfl) (v := ?_) (Or.inl ⟨by rfl, ?_⟩) ?_
          rotate_left
          focus (intro _ h; (try dsimp only at h); go_simp; (try with_reducible rfl); done)
          (try simp only [Act.put, sAr, sZe, sSu])
          refine wpAnyH_done (by kernel_rfl) ?_ _
          clear hHeld
          go_upto_region 13 with (fail)
          go_cut [14, 15] from 118 to 131 (fun sp se wx => ∃ (q : Nat), sp = .pointer (some ⟨q, 0, none⟩) ∧ se = .int .i64 er ∧ Lw w wx k v7 ws3 L7 v0 L0 v1 L1 lf (0 + 1600) ∧ Row wx q 30 [.int .i64 f, .bool b0, .bool b1, .bool b7, .bool b9, .bool b5, .bool b6, .int .i64 vv, .int .i64 fr] ∧ Row wx q1 30 [.int .i64 f, .bool b0, .bool b1, .bool b7, .bool b9, .bool b5, .bool b6, .int .i64 vv, .int .i64 fr] ∧ Row wx q2 30 [.int .i64 f2, .bool b0, .bool b1, .bool b72, .bool b9, .bool b52, .bool b62, .int .i64 vv2, .int .i64 fr])
          case first =>
            have hs2 : (fun v => v.cell? ⟨k.g, 1, none⟩ = some (.pointer (some ⟨k.s.a, 0, none⟩)) ∧ v.cell? ⟨k.g, 3, none⟩ = some (.int .i64 k.r0)) w7.drew := ⟨H.out.row.cell 1, H.out.row.cell 3⟩
            refine wp_region_noPanic ?_
            refine wp_region_held_drew (S := (fun v => v.cell? ⟨k.g, 1, none⟩ = some (.pointer (some ⟨k.s.a, 0, none⟩)) ∧ v.cell? ⟨k.g, 3, none⟩ = some (.int .i64 k.r0))) (by kernel_rfl) hs2 (fun hHeld => ?_)
            have Ha : Hid (Lw w w7.drew k v7 ws3 L7 v0 L0 v1 L1 lf (0 + 1600)) := Lib.hid (H.out.call (drewN_b (Below.refl _ _) 1))
            have PR1 : Hid (Row w7.drew q1 30 [.int .i64 f, .bool b0, .bool b1, .bool b7, .bool b9, .bool b5, .bool b6, .int .i64 vv, .int .i64 fr]) := R1.out
            have PR2 : Hid (Row w7.drew q2 30 [.int .i64 f2, .bool b0, .bool b1, .bool b72, .bool b9, .bool b52, .bool b62, .int .i64 vv2, .int .i64 fr]) := R2.out
            generalize w7.drew = wa at hHeld hs2 Ha PR1 PR2 ⊢
            clear H R1 R2
            refine tkY 0 (at_lit rfl) (v := ?_) (Or.inl ⟨by rfl, ?_⟩) ?_
            rotate_left
            focus (intro _ h; (try dsimp only at h); go_simp; (try with_reducible rfl); done)
            (try simp only [Act.put, sAr, sZe, sSu])
            refine tkY 1 (at_lit rfl) (v := ?_) (Or.inl ⟨by rfl, ?_⟩) ?_
            rotate_left
            focus (intro _ h; (try dsimp only at h); go_simp; (try with_reducible rfl); done)
            (try simp only [Act.put, sAr, sZe, sSu])
            refine tkY 2 (at_lit rfl) (v := ?_) (Or.inl ⟨by rfl, ?_⟩) ?_
            rotate_left
            focus (intro _ h; (try dsimp only at h); go_simp; (try with_reducible rfl); done)
            (try simp only [Act.put, sAr, sZe, sSu])
            refine tkY 3 (at_lit rfl) (v := ?_) (Or.inl ⟨by rfl, ?_⟩) ?_
            rotate_left
            focus (intro _ h; (try dsimp only at h); go_simp; (try with_reducible rfl); done)
            (try simp only [Act.put, sAr, sZe, sSu])
            refine tkY 4 (at_lit rfl) (v := ?_) (Or.inl ⟨by rfl, ?_⟩) ?_
            rotate_left
            focus (intro _ h; (try dsimp only at h); go_simp; (try with_reducible rfl); done)
            (try simp only [Act.put, sAr, sZe, sSu])
            refine tkY 5 (at_lit rfl) (v := ?_) (Or.inl ⟨by rfl, ?_⟩) ?_
            rotate_left
            focus (intro _ h; (try dsimp only at h); go_simp; (try with_reducible rfl); done)
            (try simp only [Act.put, sAr, sZe, sSu])
            refine tkY 6 (at_lit rfl) (v := ?_) (Or.inl ⟨by rfl, ?_⟩) ?_
            rotate_left
            focus (intro _ h; (try dsimp only at h); go_simp; (try with_reducible rfl); done)
            (try simp only [Act.put, sAr, sZe, sSu])
            refine tkY 7 (at_lit rfl) (v := ?_) (Or.inl ⟨by rfl, ?_⟩) ?_
            rotate_left
            focus (intro _ h; (try dsimp only at h); go_simp; (try with_reducible rfl); done)
            (try simp only [Act.put, sAr, sZe, sSu])
            refine tkY 8 (at_lit rfl) (v := ?_) (Or.inl ⟨by rfl, ?_⟩) ?_
            rotate_left
            focus (intro _ h; (try dsimp only at h); go_simp; (try with_reducible rfl); done)
            (try simp only [Act.put, sAr, sZe, sSu])
            refine tkY 9 (at_lit rfl) (v := ?_) (Or.inl ⟨by rfl, ?_⟩) ?_
            rotate_left
            focus (intro _ h; (try dsimp only at h); go_simp; (try with_reducible rfl); done)
            (try simp only [Act.put, sAr, sZe, sSu])
            refine wpAnyH_ready (rs := [10, 14]) (by kernel_rfl) (by simp) ?_
            refine AllReadyH.cons (o := _) (at_lit rfl) (fun K hK => ?_) (AllReadyH.cons (o := _) (at_lit rfl) (fun K hK => ?_) AllReadyH.nil)
            · skip
              go_simp
              go_at_call 9
              refine (walk_is Ha.out HL3.out).mono ?_
              rintro e wb ⟨rfl, hb⟩
              have Hb := Lib.hid (Ha.out.call hb)
              have QR1 := Lib.hid (PR1.out.below hb PR1.out.lt)
              have QR2 := Lib.hid (PR2.out.below hb PR2.out.lt)
              clear hb Ha PR1 PR2 
              go_wp2_with fail
              refine hK.out _ _ ?_ (fun hHeld => ?_)
              focus exact ⟨Hb.out.row.cell 1, Hb.out.row.cell 3⟩
              clear hK K
              (try simp only [Act.put, sAr, sZe, sSu])
              refine tkY 11 (at_lit rfl) (v := ?_) (Or.inl ⟨by rfl, ?_⟩) ?_
              rotate_left
              focus (intro _ h; (try dsimp only at h); go_simp; (try with_reducible rfl); done)
              (try simp only [Act.put, sAr, sZe, sSu])
              refine tkY 12 (at_lit rfl) (v := ?_) (Or.inl ⟨by rfl, ?_⟩) ?_
              rotate_left
              focus (intro _ h; (try dsimp only at h); go_simp; (try with_reducible rfl); done)
              (try simp only [Act.put, sAr, sZe, sSu])
              refine tkY 13 (at_lit rfl) (v := ?_) (Or.inl ⟨by rfl, ?_⟩) ?_
              rotate_left
              focus (intro _ h; (try dsimp only at h); go_simp; (try with_reducible rfl); done)
              (try simp only [Act.put, sAr, sZe, sSu])
              obtain ⟨eb, heb⟩ : ∃ eb, eb = wb.heap.size := ⟨_, rfl⟩
              have HEL : Hid (w.heap.size ≤ eb) := by show _ ≤ _; rw [heb]; exact Hb.out.below.size
              obtain ⟨wd, hwd⟩ : ∃ wd, wd = wb.alloc (.cells #[.int .i64 0, .bool false, .bool false, .bool false, .bool false, .bool false, .bool false, .int .i64 0, .int .i64 0] 30) := ⟨_, rfl⟩
              have Hd := Lib.hid (Hb.out.call (hwd ▸ below_new wb _ _))
              have Ed : Hid (Row wd eb 30 [.int .i64 0, .bool false, .bool false, .bool false, .bool false, .bool false, .bool false, .int .i64 0, .int .i64 0]) := by show Row _ _ _ _; rw [hwd, heb]; exact Row.new wb _ _
              have DR1 : Hid (Row wd q1 30 [.int .i64 f, .bool b0, .bool b1, .bool b7, .bool b9, .bool b5, .bool b6, .int .i64 vv, .int .i64 fr]) := QR1.out.below (hwd ▸ below_new wb _ _) QR1.out.lt
              have NR1 : Hid (q1 ≠ eb) := by show _ ≠ _; rw [heb]; exact Nat.ne_of_lt QR1.out.lt
              have DR2 : Hid (Row wd q2 30 [.int .i64 f2, .bool b0, .bool b1, .bool b72, .bool b9, .bool b52, .bool b62, .int .i64 vv2, .int .i64 fr]) := QR2.out.below (hwd ▸ below_new wb _ _) QR2.out.lt
              have NR2 : Hid (q2 ≠ eb) := by show _ ≠ _; rw [heb]; exact Nat.ne_of_lt QR2.out.lt
              refine wpAnyH_ready (rs := [14]) (by kernel_rfl) (by simp) ?_
              refine AllReadyH.cons (o := _) (at_lit rfl) (fun K hK => ?_) AllReadyH.nil
              go_simp
              refine hK.out _ _ ?_ (fun hHeld => ?_)
              focus (have g6 := Hd.out.row; rw [hwd] at g6; exact ⟨g6.cell 1, g6.cell 3⟩)
              clear hK K
              rw [← hwd] at hHeld ⊢
              rw [← heb]
              clear hwd heb Hb QR1 QR2
              have He := Lib.hid (Hd.out.leafB Ed.out HEL.out (foot9 wd eb (.int .i64 f) (.bool b0) (.bool b1) (.bool b7) (.bool b9) (.bool b5) (.bool b6) (.int .i64 vv) (.int .i64 fr)))
              have Ee := Lib.hid (row9 (y0 := .int .i64 f) (y1 := .bool b0) (y2 := .bool b1) (y3 := .bool b7) (y4 := .bool b9) (y5 := .bool b5) (y6 := .bool b6) (y7 := .int .i64 vv) (y8 := .int .i64 fr) Ed.out)
              have TR1 := Lib.hid ((foot9 wd eb (.int .i64 f) (.bool b0) (.bool b1) (.bool b7) (.bool b9) (.bool b5) (.bool b6) (.int .i64 vv) (.int .i64 fr)).row DR1.out NR1.out)
              have TR2 := Lib.hid ((foot9 wd eb (.int .i64 f) (.bool b0) (.bool b1) (.bool b7) (.bool b9) (.bool b5) (.bool b6) (.int .i64 vv) (.int .i64 fr)).row DR2.out NR2.out)
              have e0 : wd.cell? ⟨eb, 0, none⟩ = some (.int .i64 0) := Ed.out.cell 0
              have e1 : wd.cell? ⟨eb, 1, none⟩ = some (.bool false) := Ed.out.cell 1
              have e2 : wd.cell? ⟨eb, 2, none⟩ = some (.bool false) := Ed.out.cell 2
              have e3 : wd.cell? ⟨eb, 3, none⟩ = some (.bool false) := Ed.out.cell 3
              have e4 : wd.cell? ⟨eb, 4, none⟩ = some (.bool false) := Ed.out.cell 4
              have e5 : wd.cell? ⟨eb, 5, none⟩ = some (.bool false) := Ed.out.cell 5
              have e6 : wd.cell? ⟨eb, 6, none⟩ = some (.bool false) := Ed.out.cell 6
              have e7 : wd.cell? ⟨eb, 7, none⟩ = some (.int .i64 0) := Ed.out.cell 7
              have e8 : wd.cell? ⟨eb, 8, none⟩ = some (.int .i64 0) := Ed.out.cell 8
              have ef : ∀ o, wd.frozen? ⟨eb, o, none⟩ = false := fun o => Ed.out.frozen o
              (try simp only [Act.put, sAr, sZe, sSu])
              refine wpAnyH_ready (rs := [15]) (by kernel_rfl) (by simp) ?_
              refine AllReadyH.cons (o := _) (at_lit rfl) (fun K hK => ?_) AllReadyH.nil
              go_simp
              go_wp2_with fail
              refine hK.out _ _ ?_ (fun hHeld => ?_)
              focus exact ⟨He.out.row.cell 1, He.out.row.cell 3⟩
              clear hK K e0 e1 e2 e3 e4 e5 e6 e7 e8 ef
              (try simp only [Act.put, sAr, sZe, sSu])
              refine tkY 16 (at_lit rfl) (v := ?_) (Or.inl ⟨by rfl, ?_⟩) ?_
              rotate_left
              focus (intro _ h; (try dsimp only at h); go_simp; (try with_reducible rfl); done)
              (try simp only [Act.put, sAr, sZe, sSu])
              refine wpAnyH_done (by kernel_rfl) ?_ _
              refine NoPanic.normal ?_
              go_wp2_with fail
              go_meet
              exact ⟨eb, rfl, rfl, He.out, Ee.out, TR1.out, TR2.out⟩
            · skip
              go_simp
              obtain ⟨eb, heb⟩ : ∃ eb, eb = wa.heap.size := ⟨_, rfl⟩
              have HEL : Hid (w.heap.size ≤ eb) := by show _ ≤ _; rw [heb]; exact Ha.out.below.size
              obtain ⟨wb, hwb⟩ : ∃ wb, wb = wa.alloc (.cells #[.int .i64 0, .bool false, .bool false, .bool false, .bool false, .bool false, .bool false, .int .i64 0, .int .i64 0] 30) := ⟨_, rfl⟩
              have Hb := Lib.hid (Ha.out.call (hwb ▸ below_new wa _ _))
              have Eb : Hid (Row wb eb 30 [.int .i64 0, .bool false, .bool false, .bool false, .bool false, .bool false, .bool false, .int .i64 0, .int .i64 0]) := by show Row _ _ _ _; rw [hwb, heb]; exact Row.new wa _ _
              have QR1 : Hid (Row wb q1 30 [.int .i64 f, .bool b0, .bool b1, .bool b7, .bool b9, .bool b5, .bool b6, .int .i64 vv, .int .i64 fr]) := PR1.out.below (hwb ▸ below_new wa _ _) PR1.out.lt
              have NR1 : Hid (q1 ≠ eb) := by show _ ≠ _; rw [heb]; exact Nat.ne_of_lt PR1.out.lt
              have QR2 : Hid (Row wb q2 30 [.int .i64 f2, .bool b0, .bool b1, .bool b72, .bool b9, .bool b52, .bool b62, .int .i64 vv2, .int .i64 fr]) := PR2.out.below (hwb ▸ below_new wa _ _) PR2.out.lt
              have NR2 : Hid (q2 ≠ eb) := by show _ ≠ _; rw [heb]; exact Nat.ne_of_lt PR2.out.lt
              refine hK.out _ _ ?_ (fun hHeld => ?_)
              focus (have g6 := Hb.out.row; rw [hwb] at g6; exact ⟨g6.cell 1, g6.cell 3⟩)
              clear hK K
              rw [← hwb] at hHeld ⊢
              rw [← heb]
              clear hwb heb Ha PR1 PR2
              (try simp only [Act.put, sAr, sZe, sSu])
              refine wpAnyH_ready (rs := [10]) (by kernel_rfl) (by simp) ?_
              refine AllReadyH.cons (o := _) (at_lit rfl) (fun K hK => ?_) AllReadyH.nil
              go_simp
              go_at_call 9
              refine (walk_is Hb.out HL3.out).mono ?_
              rintro e wd ⟨rfl, hb⟩
              have Hd := Lib.hid (Hb.out.call hb)
              have DR1 := Lib.hid (QR1.out.below hb QR1.out.lt)
              have DR2 := Lib.hid (QR2.out.below hb QR2.out.lt)
              have Ed := Lib.hid (Eb.out.below hb Eb.out.lt)
              clear hb Hb QR1 QR2 Eb
              go_wp2_with fail
              refine hK.out _ _ ?_ (fun hHeld => ?_)
              focus exact ⟨Hd.out.row.cell 1, Hd.out.row.cell 3⟩
              clear hK K
              (try simp only [Act.put, sAr, sZe, sSu])
              refine tkY 11 (at_lit rfl) (v := ?_) (Or.inl ⟨by rfl, ?_⟩) ?_
              rotate_left
              focus (intro _ h; (try dsimp only at h); go_simp; (try with_reducible rfl); done)
              (try simp only [Act.put, sAr, sZe, sSu])
              refine tkY 12 (at_lit rfl) (v := ?_) (Or.inl ⟨by rfl, ?_⟩) ?_
              rotate_left
              focus (intro _ h; (try dsimp only at h); go_simp; (try with_reducible rfl); done)
              (try simp only [Act.put, sAr, sZe, sSu])
              refine tkY 13 (at_lit rfl) (v := ?_) (Or.inl ⟨by rfl, ?_⟩) ?_
              rotate_left
              focus (intro _ h; (try dsimp only at h); go_simp; (try with_reducible rfl); done)
              (try simp only [Act.put, sAr, sZe, sSu])
              have He := Lib.hid (Hd.out.leafB Ed.out HEL.out (foot9 wd eb (.int .i64 f) (.bool b0) (.bool b1) (.bool b7) (.bool b9) (.bool b5) (.bool b6) (.int .i64 vv) (.int .i64 fr)))
              have Ee := Lib.hid (row9 (y0 := .int .i64 f) (y1 := .bool b0) (y2 := .bool b1) (y3 := .bool b7) (y4 := .bool b9) (y5 := .bool b5) (y6 := .bool b6) (y7 := .int .i64 vv) (y8 := .int .i64 fr) Ed.out)
              have TR1 := Lib.hid ((foot9 wd eb (.int .i64 f) (.bool b0) (.bool b1) (.bool b7) (.bool b9) (.bool b5) (.bool b6) (.int .i64 vv) (.int .i64 fr)).row DR1.out NR1.out)
              have TR2 := Lib.hid ((foot9 wd eb (.int .i64 f) (.bool b0) (.bool b1) (.bool b7) (.bool b9) (.bool b5) (.bool b6) (.int .i64 vv) (.int .i64 fr)).row DR2.out NR2.out)
              have e0 : wd.cell? ⟨eb, 0, none⟩ = some (.int .i64 0) := Ed.out.cell 0
              have e1 : wd.cell? ⟨eb, 1, none⟩ = some (.bool false) := Ed.out.cell 1
              have e2 : wd.cell? ⟨eb, 2, none⟩ = some (.bool false) := Ed.out.cell 2
              have e3 : wd.cell? ⟨eb, 3, none⟩ = some (.bool false) := Ed.out.cell 3
              have e4 : wd.cell? ⟨eb, 4, none⟩ = some (.bool false) := Ed.out.cell 4
              have e5 : wd.cell? ⟨eb, 5, none⟩ = some (.bool false) := Ed.out.cell 5
              have e6 : wd.cell? ⟨eb, 6, none⟩ = some (.bool false) := Ed.out.cell 6
              have e7 : wd.cell? ⟨eb, 7, none⟩ = some (.int .i64 0) := Ed.out.cell 7
              have e8 : wd.cell? ⟨eb, 8, none⟩ = some (.int .i64 0) := Ed.out.cell 8
              have ef : ∀ o, wd.frozen? ⟨eb, o, none⟩ = false := fun o => Ed.out.frozen o
              (try simp only [Act.put, sAr, sZe, sSu])
              refine wpAnyH_ready (rs := [15]) (by kernel_rfl) (by simp) ?_
              refine AllReadyH.cons (o := _) (at_lit rfl) (fun K hK => ?_) AllReadyH.nil
              go_simp
              go_wp2_with fail
              refine hK.out _ _ ?_ (fun hHeld => ?_)
              focus exact ⟨He.out.row.cell 1, He.out.row.cell 3⟩
              clear hK K e0 e1 e2 e3 e4 e5 e6 e7 e8 ef
              (try simp only [Act.put, sAr, sZe, sSu])
              refine tkY 16 (at_lit rfl) (v := ?_) (Or.inl ⟨by rfl, ?_⟩) ?_
              rotate_left
              focus (intro _ h; (try dsimp only at h); go_simp; (try with_reducible rfl); done)
              (try simp only [Act.put, sAr, sZe, sSu])
              refine wpAnyH_done (by kernel_rfl) ?_ _
              refine NoPanic.normal ?_
              go_wp2_with fail
              go_meet
              exact ⟨eb, rfl, rfl, He.out, Ee.out, TR1.out, TR2.out⟩
          case rest =>
            clear H R1 R2
            obtain ⟨q3, rfl, rfl, h_, r_, rR1, rR2⟩ := hcut
            obtain ⟨w8, hn_⟩ : ∃ x, x = wc := ⟨_, rfl⟩
            subst hn_
            have H := Lib.hid h_
            have R3 := Lib.hid r_
            have R1 := Lib.hid rR1
            have R2 := Lib.hid rR2
            clear h_ r_ rR1 rR2
            have a0 : w8.cell? ⟨q1, 0, none⟩ = some (.int .i64 f) := R1.out.cell 0
            have a1 : w8.cell? ⟨q1, 1, none⟩ = some (.bool b0) := R1.out.cell 1
            have a2 : w8.cell? ⟨q1, 2, none⟩ = some (.bool b1) := R1.out.cell 2
            have a3 : w8.cell? ⟨q1, 3, none⟩ = some (.bool b7) := R1.out.cell 3
            have a4 : w8.cell? ⟨q1, 4, none⟩ = some (.bool b9) := R1.out.cell 4
            have a5 : w8.cell? ⟨q1, 5, none⟩ = some (.bool b5) := R1.out.cell 5
            have a6 : w8.cell? ⟨q1, 6, none⟩ = some (.bool b6) := R1.out.cell 6
            have a7 : w8.cell? ⟨q1, 7, none⟩ = some (.int .i64 vv) := R1.out.cell 7
            have a8 : w8.cell? ⟨q1, 8, none⟩ = some (.int .i64 fr) := R1.out.cell 8
            have c0 : w8.cell? ⟨q3, 0, none⟩ = some (.int .i64 f) := R3.out.cell 0
            have c1 : w8.cell? ⟨q3, 1, none⟩ = some (.bool b0) := R3.out.cell 1
            have c2 : w8.cell? ⟨q3, 2, none⟩ = some (.bool b1) := R3.out.cell 2
            have c3 : w8.cell? ⟨q3, 3, none⟩ = some (.bool b7) := R3.out.cell 3
            have c4 : w8.cell? ⟨q3, 4, none⟩ = some (.bool b9) := R3.out.cell 4
            have c5 : w8.cell? ⟨q3, 5, none⟩ = some (.bool b5) := R3.out.cell 5
            have c6 : w8.cell? ⟨q3, 6, none⟩ = some (.bool b6) := R3.out.cell 6
            have c7 : w8.cell? ⟨q3, 7, none⟩ = some (.int .i64 vv) := R3.out.cell 7
            have c8 : w8.cell? ⟨q3, 8, none⟩ = some (.int .i64 fr) := R3.out.cell 8
            go_wp2_with fail
            go_ret
            exact ⟨ret_bool (by simp), H.out.below⟩
    · skip
      obtain ⟨cz, hcz⟩ : ∃ cz, cz = spE ws L [k.r1, k.r0] k.r0 page := ⟨_, rfl⟩
      rw [← hcz] at hz
      have HC := Lib.hid (And.intro hcz hz)
      have hzb : (cz == 0) = false := by simpa using hz
      have hzn : (cz != 0) = true := by simpa using hz
      clear hcz hz
      go_upto_region 6 with (fail)
      have hs2 : (fun v => v.cell? ⟨k.g, 0, none⟩ = some (.pointer (some ⟨k.s.x, 0, none⟩)) ∧ v.cell? ⟨k.g, 3, none⟩ = some (.int .i64 k.r0)) w4.drew := ⟨H.out.row.cell 0, H.out.row.cell 3⟩
      refine wp_region_held_drew (S := (fun v => v.cell? ⟨k.g, 0, none⟩ = some (.pointer (some ⟨k.s.x, 0, none⟩)) ∧ v.cell? ⟨k.g, 3, none⟩ = some (.int .i64 k.r0))) (by kernel_rfl) hs2 (fun hHeld => ?_)
      have Ha : Hid (Lw w w4.drew k v ws L v0 L0 v1 L1 lf (0 + 1600)) := Lib.hid (H.out.call (drewN_b (Below.refl _ _) 1))
      have PR1 : Hid (Row w4.drew q1 30 [.int .i64 f, .bool b0, .bool b1, .bool b7, .bool b9, .bool b5, .bool b6, .int .i64 vv, .int .i64 fr]) := R1.out
      generalize w4.drew = wa at hHeld hs2 Ha PR1 ⊢
      clear H R1
      refine tkY 0 (at_lit rfl) (v := ?_) (Or.inl ⟨by rfl, ?_⟩) ?_
      rotate_left
      focus (intro _ h; (try dsimp only at h); go_simp; (try with_reducible rfl); done)
      (try simp only [Act.put, sAr, sZe, sSu])
      refine tkY 1 (at_lit rfl) (v := ?_) (Or.inl ⟨by rfl, ?_⟩) ?_
      rotate_left
      focus (intro _ h; (try dsimp only at h); go_simp; (try with_reducible rfl); done)
      (try simp only [Act.put, sAr, sZe, sSu])
      refine tkY 2 (at_lit rfl) (v := ?_) (Or.inl ⟨by rfl, ?_⟩) ?_
      rotate_left
      focus (intro _ h; (try dsimp only at h); go_simp; (try with_reducible rfl); done)
      (try simp only [Act.put, sAr, sZe, sSu])
      refine tkY 3 (at_lit rfl) (v := ?_) (Or.inl ⟨by rfl, ?_⟩) ?_
      rotate_left
      focus (intro _ h; (try dsimp only at h); go_simp; (try with_reducible rfl); done)
      (try simp only [Act.put, sAr, sZe, sSu])
      refine tkY 4 (at_lit rfl) (v := ?_) (Or.inl ⟨by rfl, ?_⟩) ?_
      rotate_left
      focus (intro _ h; (try dsimp only at h); go_simp; (try with_reducible rfl); done)
      (try simp only [Act.put, sAr, sZe, sSu])
      refine tkY 5 (at_lit rfl) (v := ?_) (Or.inl ⟨by rfl, ?_⟩) ?_
      rotate_left
      focus (intro _ h; (try dsimp only at h); go_simp; (try with_reducible rfl); done)
      (try simp only [Act.put, sAr, sZe, sSu])
      refine tkY 6 (at_lit rfl) (v := ?_) (Or.inl ⟨by rfl, ?_⟩) ?_
      rotate_left
      focus (intro _ h; (try dsimp only at h); go_simp; (try with_reducible rfl); done)
      (try simp only [Act.put, sAr, sZe, sSu])
      refine tkY 7 (at_lit rfl) (v := ?_) (Or.inl ⟨by rfl, ?_⟩) ?_
      rotate_left
      focus (intro _ h; (try dsimp only at h); go_simp; (try with_reducible rfl); done)
      (try simp only [Act.put, sAr, sZe, sSu])
      refine tkY 8 (at_lit rfl) (v := ?_) (Or.inl ⟨by rfl, ?_⟩) ?_
      rotate_left
      focus (intro _ h; (try dsimp only at h); go_simp; (try with_reducible rfl); done)
      (try simp only [Act.put, sAr, sZe, sSu])
      refine tkY 9 (at_lit rfl) (v := ?_) (Or.inl ⟨by rfl, ?_⟩) ?_
      rotate_left
      focus (intro _ h; (try dsimp only at h); go_simp; (try with_reducible rfl); done)
      (try simp only [Act.put, sAr, sZe, sSu])
      refine wpAnyH_ready (rs := [10]) (by kernel_rfl) (by simp) ?_
      refine AllReadyH.cons (o := _) (at_lit rfl) (fun K hK => ?_) AllReadyH.nil
      go_simp
      go_at_call 10
      refine (split_no Ha.out HN.out page HC.out.1 HC.out.2).mono ?_
      rintro e w5 ⟨rfl, v5, L5, h8, hm⟩
      have H := Lib.hid h8
      have R1 := Lib.hid (Ha.out.tab.row hm PR1.out (by decide) (by decide) (by decide))
      clear h8 hm Ha hs2 PR1
      go_wp2_with fail
      refine hK.out _ _ ?_ (fun hHeld => ?_)
      focus exact ⟨H.out.row.cell 0, H.out.row.cell 3⟩
      clear hK K
      (try simp only [Act.put, sAr, sZe, sSu])
      refine tkY 11 (at_lit rfl) (v := ?_) (Or.inl ⟨by rfl, ?_⟩) ?_
      rotate_left
      focus (intro _ h; (try dsimp only at h); go_simp; (try with_reducible rfl); done)
      (try simp only [Act.put, sAr, sZe, sSu])
      refine wpAnyH_done (by kernel_rfl) ?_ _
      clear hHeld
      go_upto_region 7 with (fail)
      go_cut [11, 12] from 51 to 64 (fun sp se wx => ∃ (q : Nat), sp = .pointer (some ⟨q, 0, none⟩) ∧ se = .int .i64 er ∧ Lw w wx k v5 ws L5 v0 L0 v1 L1 lf (0 + 1600) ∧ Row wx q 30 [.int .i64 f, .bool b0, .bool b1, .bool b7, .bool b9, .bool b5, .bool b6, .int .i64 vv, .int .i64 fr] ∧ Row wx q1 30 [.int .i64 f, .bool b0, .bool b1, .bool b7, .bool b9, .bool b5, .bool b6, .int .i64 vv, .int .i64 fr])
      case first =>
        have hs2 : (fun v => v.cell? ⟨k.g, 1, none⟩ = some (.pointer (some ⟨k.s.a, 0, none⟩)) ∧ v.cell? ⟨k.g, 3, none⟩ = some (.int .i64 k.r0)) w5.drew := ⟨H.out.row.cell 1, H.out.row.cell 3⟩
        refine wp_region_noPanic ?_
        refine wp_region_held_drew (S := (fun v => v.cell? ⟨k.g, 1, none⟩ = some (.pointer (some ⟨k.s.a, 0, none⟩)) ∧ v.cell? ⟨k.g, 3, none⟩ = some (.int .i64 k.r0))) (by kernel_rfl) hs2 (fun hHeld => ?_)
        have Ha : Hid (Lw w w5.drew k v5 ws L5 v0 L0 v1 L1 lf (0 + 1600)) := Lib.hid (H.out.call (drewN_b (Below.refl _ _) 1))
        have PR1 : Hid (Row w5.drew q1 30 [.int .i64 f, .bool b0, .bool b1, .bool b7, .bool b9, .bool b5, .bool b6, .int .i64 vv, .int .i64 fr]) := R1.out
        generalize w5.drew = wa at hHeld hs2 Ha PR1 ⊢
        clear H R1
        refine tkY 0 (at_lit rfl) (v := ?_) (Or.inl ⟨by rfl, ?_⟩) ?_
        rotate_left
        focus (intro _ h; (try dsimp only at h); go_simp; (try with_reducible rfl); done)
        (try simp only [Act.put, sAr, sZe, sSu])
        refine tkY 1 (at_lit rfl) (v := ?_) (Or.inl ⟨by rfl, ?_⟩) ?_
        rotate_left
        focus (intro _ h; (try dsimp only at h); go_simp; (try with_reducible rfl); done)
        (try simp only [Act.put, sAr, sZe, sSu])
        refine tkY 2 (at_lit rfl) (v := ?_) (Or.inl ⟨by rfl, ?_⟩) ?_
        rotate_left
        focus (intro _ h; (try dsimp only at h); go_simp; (try with_reducible rfl); done)
        (try simp only [Act.put, sAr, sZe, sSu])
        refine tkY 3 (at_lit rfl) (v := ?_) (Or.inl ⟨by rfl, ?_⟩) ?_
        rotate_left
        focus (intro _ h; (try dsimp only at h); go_simp; (try with_reducible rfl); done)
        (try simp only [Act.put, sAr, sZe, sSu])
        refine tkY 4 (at_lit rfl) (v := ?_) (Or.inl ⟨by rfl, ?_⟩) ?_
        rotate_left
        focus (intro _ h; (try dsimp only at h); go_simp; (try with_reducible rfl); done)
        (try simp only [Act.put, sAr, sZe, sSu])
        refine tkY 5 (at_lit rfl) (v := ?_) (Or.inl ⟨by rfl, ?_⟩) ?_
        rotate_left
        focus (intro _ h; (try dsimp only at h); go_simp; (try with_reducible rfl); done)
        (try simp only [Act.put, sAr, sZe, sSu])
        refine tkY 6 (at_lit rfl) (v := ?_) (Or.inl ⟨by rfl, ?_⟩) ?_
        rotate_left
        focus (intro _ h; (try dsimp only at h); go_simp; (try with_reducible rfl); done)
        (try simp only [Act.put, sAr, sZe, sSu])
        refine tkY 7 (at_lit rfl) (v := ?_) (Or.inl ⟨by rfl, ?_⟩) ?_
        rotate_left
        focus (intro _ h; (try dsimp only at h); go_simp; (try with_reducible rfl); done)
        (try simp only [Act.put, sAr, sZe, sSu])
        refine tkY 8 (at_lit rfl) (v := ?_) (Or.inl ⟨by rfl, ?_⟩) ?_
        rotate_left
        focus (intro _ h; (try dsimp only at h); go_simp; (try with_reducible rfl); done)
        (try simp only [Act.put, sAr, sZe, sSu])
        refine tkY 9 (at_lit rfl) (v := ?_) (Or.inl ⟨by rfl, ?_⟩) ?_
        rotate_left
        focus (intro _ h; (try dsimp only at h); go_simp; (try with_reducible rfl); done)
        (try simp only [Act.put, sAr, sZe, sSu])
        refine wpAnyH_ready (rs := [10, 14]) (by kernel_rfl) (by simp) ?_
        refine AllReadyH.cons (o := _) (at_lit rfl) (fun K hK => ?_) (AllReadyH.cons (o := _) (at_lit rfl) (fun K hK => ?_) AllReadyH.nil)
        · skip
          go_simp
          go_at_call 9
          refine (walk_is Ha.out HL.out).mono ?_
          rintro e wb ⟨rfl, hb⟩
          have Hb := Lib.hid (Ha.out.call hb)
          have QR1 := Lib.hid (PR1.out.below hb PR1.out.lt)
          clear hb Ha PR1 
          go_wp2_with fail
          refine hK.out _ _ ?_ (fun hHeld => ?_)
          focus exact ⟨Hb.out.row.cell 1, Hb.out.row.cell 3⟩
          clear hK K
          (try simp only [Act.put, sAr, sZe, sSu])
          refine tkY 11 (at_lit rfl) (v := ?_) (Or.inl ⟨by rfl, ?_⟩) ?_
          rotate_left
          focus (intro _ h; (try dsimp only at h); go_simp; (try with_reducible rfl); done)
          (try simp only [Act.put, sAr, sZe, sSu])
          refine tkY 12 (at_lit rfl) (v := ?_) (Or.inl ⟨by rfl, ?_⟩) ?_
          rotate_left
          focus (intro _ h; (try dsimp only at h); go_simp; (try with_reducible rfl); done)
          (try simp only [Act.put, sAr, sZe, sSu])
          refine tkY 13 (at_lit rfl) (v := ?_) (Or.inl ⟨by rfl, ?_⟩) ?_
          rotate_left
          focus (intro _ h; (try dsimp only at h); go_simp; (try with_reducible rfl); done)
          (try simp only [Act.put, sAr, sZe, sSu])
          obtain ⟨eb, heb⟩ : ∃ eb, eb = wb.heap.size := ⟨_, rfl⟩
          have HEL : Hid (w.heap.size ≤ eb) := by show _ ≤ _; rw [heb]; exact Hb.out.below.size
          obtain ⟨wd, hwd⟩ : ∃ wd, wd = wb.alloc (.cells #[.int .i64 0, .bool false, .bool false, .bool false, .bool false, .bool false, .bool false, .int .i64 0, .int .i64 0] 30) := ⟨_, rfl⟩
          have Hd := Lib.hid (Hb.out.call (hwd ▸ below_new wb _ _))
          have Ed : Hid (Row wd eb 30 [.int .i64 0, .bool false, .bool false, .bool false, .bool false, .bool false, .bool false, .int .i64 0, .int .i64 0]) := by show Row _ _ _ _; rw [hwd, heb]; exact Row.new wb _ _
          have DR1 : Hid (Row wd q1 30 [.int .i64 f, .bool b0, .bool b1, .bool b7, .bool b9, .bool b5, .bool b6, .int .i64 vv, .int .i64 fr]) := QR1.out.below (hwd ▸ below_new wb _ _) QR1.out.lt
          have NR1 : Hid (q1 ≠ eb) := by show _ ≠ _; rw [heb]; exact Nat.ne_of_lt QR1.out.lt
          refine wpAnyH_ready (rs := [14]) (by kernel_rfl) (by simp) ?_
          refine AllReadyH.cons (o := _) (at_lit rfl) (fun K hK => ?_) AllReadyH.nil
          go_simp
          refine hK.out _ _ ?_ (fun hHeld => ?_)
          focus (have g6 := Hd.out.row; rw [hwd] at g6; exact ⟨g6.cell 1, g6.cell 3⟩)
          clear hK K
          rw [← hwd] at hHeld ⊢
          rw [← heb]
          clear hwd heb Hb QR1
          have He := Lib.hid (Hd.out.leafB Ed.out HEL.out (foot9 wd eb (.int .i64 f) (.bool b0) (.bool b1) (.bool b7) (.bool b9) (.bool b5) (.bool b6) (.int .i64 vv) (.int .i64 fr)))
          have Ee := Lib.hid (row9 (y0 := .int .i64 f) (y1 := .bool b0) (y2 := .bool b1) (y3 := .bool b7) (y4 := .bool b9) (y5 := .bool b5) (y6 := .bool b6) (y7 := .int .i64 vv) (y8 := .int .i64 fr) Ed.out)
          have TR1 := Lib.hid ((foot9 wd eb (.int .i64 f) (.bool b0) (.bool b1) (.bool b7) (.bool b9) (.bool b5) (.bool b6) (.int .i64 vv) (.int .i64 fr)).row DR1.out NR1.out)
          have e0 : wd.cell? ⟨eb, 0, none⟩ = some (.int .i64 0) := Ed.out.cell 0
          have e1 : wd.cell? ⟨eb, 1, none⟩ = some (.bool false) := Ed.out.cell 1
          have e2 : wd.cell? ⟨eb, 2, none⟩ = some (.bool false) := Ed.out.cell 2
          have e3 : wd.cell? ⟨eb, 3, none⟩ = some (.bool false) := Ed.out.cell 3
          have e4 : wd.cell? ⟨eb, 4, none⟩ = some (.bool false) := Ed.out.cell 4
          have e5 : wd.cell? ⟨eb, 5, none⟩ = some (.bool false) := Ed.out.cell 5
          have e6 : wd.cell? ⟨eb, 6, none⟩ = some (.bool false) := Ed.out.cell 6
          have e7 : wd.cell? ⟨eb, 7, none⟩ = some (.int .i64 0) := Ed.out.cell 7
          have e8 : wd.cell? ⟨eb, 8, none⟩ = some (.int .i64 0) := Ed.out.cell 8
          have ef : ∀ o, wd.frozen? ⟨eb, o, none⟩ = false := fun o => Ed.out.frozen o
          (try simp only [Act.put, sAr, sZe, sSu])
          refine wpAnyH_ready (rs := [15]) (by kernel_rfl) (by simp) ?_
          refine AllReadyH.cons (o := _) (at_lit rfl) (fun K hK => ?_) AllReadyH.nil
          go_simp
          go_wp2_with fail
          refine hK.out _ _ ?_ (fun hHeld => ?_)
          focus exact ⟨He.out.row.cell 1, He.out.row.cell 3⟩
          clear hK K e0 e1 e2 e3 e4 e5 e6 e7 e8 ef
          (try simp only [Act.put, sAr, sZe, sSu])
          refine tkY 16 (at_lit rfl) (v := ?_) (Or.inl ⟨by rfl, ?_⟩) ?_
          rotate_left
          focus (intro _ h; (try dsimp only at h); go_simp; (try with_reducible rfl); done)
          (try simp only [Act.put, sAr, sZe, sSu])
          refine wpAnyH_done (by kernel_rfl) ?_ _
          refine NoPanic.normal ?_
          go_wp2_with fail
          go_meet
          exact ⟨eb, rfl, rfl, He.out, Ee.out, TR1.out⟩
        · skip
          go_simp
          obtain ⟨eb, heb⟩ : ∃ eb, eb = wa.heap.size := ⟨_, rfl⟩
          have HEL : Hid (w.heap.size ≤ eb) := by show _ ≤ _; rw [heb]; exact Ha.out.below.size
          obtain ⟨wb, hwb⟩ : ∃ wb, wb = wa.alloc (.cells #[.int .i64 0, .bool false, .bool false, .bool false, .bool false, .bool false, .bool false, .int .i64 0, .int .i64 0] 30) := ⟨_, rfl⟩
          have Hb := Lib.hid (Ha.out.call (hwb ▸ below_new wa _ _))
          have Eb : Hid (Row wb eb 30 [.int .i64 0, .bool false, .bool false, .bool false, .bool false, .bool false, .bool false, .int .i64 0, .int .i64 0]) := by show Row _ _ _ _; rw [hwb, heb]; exact Row.new wa _ _
          have QR1 : Hid (Row wb q1 30 [.int .i64 f, .bool b0, .bool b1, .bool b7, .bool b9, .bool b5, .bool b6, .int .i64 vv, .int .i64 fr]) := PR1.out.below (hwb ▸ below_new wa _ _) PR1.out.lt
          have NR1 : Hid (q1 ≠ eb) := by show _ ≠ _; rw [heb]; exact Nat.ne_of_lt PR1.out.lt
          refine hK.out _ _ ?_ (fun hHeld => ?_)
          focus (have g6 := Hb.out.row; rw [hwb] at g6; exact ⟨g6.cell 1, g6.cell 3⟩)
          clear hK K
          rw [← hwb] at hHeld ⊢
          rw [← heb]
          clear hwb heb Ha PR1
          (try simp only [Act.put, sAr, sZe, sSu])
          refine wpAnyH_ready (rs := [10]) (by kernel_rfl) (by simp) ?_
          refine AllReadyH.cons (o := _) (at_lit rfl) (fun K hK => ?_) AllReadyH.nil
          go_simp
          go_at_call 9
          refine (walk_is Hb.out HL.out).mono ?_
          rintro e wd ⟨rfl, hb⟩
          have Hd := Lib.hid (Hb.out.call hb)
          have DR1 := Lib.hid (QR1.out.below hb QR1.out.lt)
          have Ed := Lib.hid (Eb.out.below hb Eb.out.lt)
          clear hb Hb QR1 Eb
          go_wp2_with fail
          refine hK.out _ _ ?_ (fun hHeld => ?_)
          focus exact ⟨Hd.out.row.cell 1, Hd.out.row.cell 3⟩
          clear hK K
          (try simp only [Act.put, sAr, sZe, sSu])
          refine tkY 11 (at_lit rfl) (v := ?_) (Or.inl ⟨by rfl, ?_⟩) ?_
          rotate_left
          focus (intro _ h; (try dsimp only at h); go_simp; (try with_reducible rfl); done)
          (try simp only [Act.put, sAr, sZe, sSu])
          refine tkY 12 (at_lit rfl) (v := ?_) (Or.inl ⟨by rfl, ?_⟩) ?_
          rotate_left
          focus (intro _ h; (try dsimp only at h); go_simp; (try with_reducible rfl); done)
          (try simp only [Act.put, sAr, sZe, sSu])
          refine tkY 13 (at_lit rfl) (v := ?_) (Or.inl ⟨by rfl, ?_⟩) ?_
          rotate_left
          focus (intro _ h; (try dsimp only at h); go_simp; (try with_reducible rfl); done)
          (try simp only [Act.put, sAr, sZe, sSu])
          have He := Lib.hid (Hd.out.leafB Ed.out HEL.out (foot9 wd eb (.int .i64 f) (.bool b0) (.bool b1) (.bool b7) (.bool b9) (.bool b5) (.bool b6) (.int .i64 vv) (.int .i64 fr)))
          have Ee := Lib.hid (row9 (y0 := .int .i64 f) (y1 := .bool b0) (y2 := .bool b1) (y3 := .bool b7) (y4 := .bool b9) (y5 := .bool b5) (y6 := .bool b6) (y7 := .int .i64 vv) (y8 := .int .i64 fr) Ed.out)
          have TR1 := Lib.hid ((foot9 wd eb (.int .i64 f) (.bool b0) (.bool b1) (.bool b7) (.bool b9) (.bool b5) (.bool b6) (.int .i64 vv) (.int .i64 fr)).row DR1.out NR1.out)
          have e0 : wd.cell? ⟨eb, 0, none⟩ = some (.int .i64 0) := Ed.out.cell 0
          have e1 : wd.cell? ⟨eb, 1, none⟩ = some (.bool false) := Ed.out.cell 1
          have e2 : wd.cell? ⟨eb, 2, none⟩ = some (.bool false) := Ed.out.cell 2
          have e3 : wd.cell? ⟨eb, 3, none⟩ = some (.bool false) := Ed.out.cell 3
          have e4 : wd.cell? ⟨eb, 4, none⟩ = some (.bool false) := Ed.out.cell 4
          have e5 : wd.cell? ⟨eb, 5, none⟩ = some (.bool false) := Ed.out.cell 5
          have e6 : wd.cell? ⟨eb, 6, none⟩ = some (.bool false) := Ed.out.cell 6
          have e7 : wd.cell? ⟨eb, 7, none⟩ = some (.int .i64 0) := Ed.out.cell 7
          have e8 : wd.cell? ⟨eb, 8, none⟩ = some (.int .i64 0) := Ed.out.cell 8
          have ef : ∀ o, wd.frozen? ⟨eb, o, none⟩ = false := fun o => Ed.out.frozen o
          (try simp only [Act.put, sAr, sZe, sSu])
          refine wpAnyH_ready (rs := [15]) (by kernel_rfl) (by simp) ?_
          refine AllReadyH.cons (o := _) (at_lit rfl) (fun K hK => ?_) AllReadyH.nil
          go_simp
          go_wp2_with fail
          refine hK.out _ _ ?_ (fun hHeld => ?_)
          focus exact ⟨He.out.row.cell 1, He.out.row.cell 3⟩
          clear hK K e0 e1 e2 e3 e4 e5 e6 e7 e8 ef
          (try simp only [Act.put, sAr, sZe, sSu])
          refine tkY 16 (at_lit rfl) (v := ?_) (Or.inl ⟨by rfl, ?_⟩) ?_
          rotate_left
          focus (intro _ h; (try dsimp only at h); go_simp; (try with_reducible rfl); done)
          (try simp only [Act.put, sAr, sZe, sSu])
          refine wpAnyH_done (by kernel_rfl) ?_ _
          refine NoPanic.normal ?_
          go_wp2_with fail
          go_meet
          exact ⟨eb, rfl, rfl, He.out, Ee.out, TR1.out⟩
      case rest =>
        clear H R1
        obtain ⟨q2, rfl, rfl, h_, r_, rR1⟩ := hcut
        obtain ⟨w6, hn_⟩ : ∃ x, x = wc := ⟨_, rfl⟩
        subst hn_
        have H := Lib.hid h_
        have R2 := Lib.hid r_
        have R1 := Lib.hid rR1
        clear h_ r_ rR1
        have a0 : w6.cell? ⟨q1, 0, none⟩ = some (.int .i64 f) := R1.out.cell 0
        have a1 : w6.cell? ⟨q1, 1, none⟩ = some (.bool b0) := R1.out.cell 1
        have a2 : w6.cell? ⟨q1, 2, none⟩ = some (.bool b1) := R1.out.cell 2
        have a3 : w6.cell? ⟨q1, 3, none⟩ = some (.bool b7) := R1.out.cell 3
        have a4 : w6.cell? ⟨q1, 4, none⟩ = some (.bool b9) := R1.out.cell 4
        have a5 : w6.cell? ⟨q1, 5, none⟩ = some (.bool b5) := R1.out.cell 5
        have a6 : w6.cell? ⟨q1, 6, none⟩ = some (.bool b6) := R1.out.cell 6
        have a7 : w6.cell? ⟨q1, 7, none⟩ = some (.int .i64 vv) := R1.out.cell 7
        have a8 : w6.cell? ⟨q1, 8, none⟩ = some (.int .i64 fr) := R1.out.cell 8
        have c0 : w6.cell? ⟨q2, 0, none⟩ = some (.int .i64 f) := R2.out.cell 0
        have c1 : w6.cell? ⟨q2, 1, none⟩ = some (.bool b0) := R2.out.cell 1
        have c2 : w6.cell? ⟨q2, 2, none⟩ = some (.bool b1) := R2.out.cell 2
        have c3 : w6.cell? ⟨q2, 3, none⟩ = some (.bool b7) := R2.out.cell 3
        have c4 : w6.cell? ⟨q2, 4, none⟩ = some (.bool b9) := R2.out.cell 4
        have c5 : w6.cell? ⟨q2, 5, none⟩ = some (.bool b5) := R2.out.cell 5
        have c6 : w6.cell? ⟨q2, 6, none⟩ = some (.bool b6) := R2.out.cell 6
        have c7 : w6.cell? ⟨q2, 7, none⟩ = some (.int .i64 vv) := R2.out.cell 7
        have c8 : w6.cell? ⟨q2, 8, none⟩ = some (.int .i64 fr) := R2.out.cell 8
        go_wp2_with fail
        go_ret
        exact ⟨ret_bool (by simp), H.out.below⟩
end Go.Proofs.Ytpcpcgbejinlmaa
