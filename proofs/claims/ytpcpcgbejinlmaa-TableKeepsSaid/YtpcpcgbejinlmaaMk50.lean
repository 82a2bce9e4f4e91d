/- The law's own first calls: their words behind the merge. -/
import Derived.Test.YtpcpcgbejinlmaaMk49
namespace Go.Proofs.Ytpcpcgbejinlmaa
open Go.RowKit
theorem k_g3 : goodB k3 3 431 = true := by kernel_rfl
theorem k_n3 : k3.length = 4096 := by kernel_rfl
theorem k_c3 : (thL k3 kR 431).length = 1 := by kernel_rfl
end Go.Proofs.Ytpcpcgbejinlmaa
/- The law's own first calls come as the document says. -/
namespace Go.Proofs.Ytpcpcgbejinlmaa
open Go.RowKit
theorem k_lp : lfP (fol k2 431 11) 11 = 19 := by kernel_rfl
theorem k_lv : lfV (fol k2 431 11) = 0 := by kernel_rfl
theorem k_er : (fol k2 431 11).er = 0 := by kernel_rfl
theorem k_dl : kL2 = bagL 15 := by kernel_rfl
def AwAt (w W : World) (s : Seat) (v : Value) (g : Nat) (ws L : List Int) : Prop :=
  Tab W s v ws L kR ∧ (∃ y0 y1 y2 y3, Row W g 41 [.pointer (some ⟨s.x, 0, none⟩), .pointer (some ⟨s.a, 0, none⟩), y0, .int .i64 431, y3, y1, y2, .int .i64 18]) ∧ Below w.heap.size w W ∧ (w.heap.size ≤ s.b ∧ w.heap.size ≤ s.y ∧ w.heap.size ≤ s.m)
section
variable {w W W' : World} {s : Seat} {v v' : Value} {g : Nat} {ws ws' L L' : List Int}
theorem AwAt.mv (h : AwAt w W s v g ws L) (hT : Tab W' s v' ws' L' kR) (hM : Mv s v W v' W') : AwAt w W' s v' g ws' L' := by
  obtain ⟨h1, ⟨y0, y1, y2, y3, h2⟩, h3, h4, h5, h6⟩ := h
  exact ⟨hT, ⟨y0, y1, y2, y3, h1.row hM h2 (by decide) (by decide) (by decide)⟩, h3.trans (h1.below hM h3.size h4 h5 h6), h4, h5, h6⟩
theorem AwAt.call (h : AwAt w W s v g ws L) (hb : Below W.heap.size W W') : AwAt w W' s v g ws L := by
  obtain ⟨h1, ⟨y0, y1, y2, y3, h2⟩, h3, h4⟩ := h
  exact ⟨h1.call hb, ⟨y0, y1, y2, y3, h2.below hb h2.lt⟩, h3.trans (hb.mono h3.size), h4⟩
theorem AwAt.cells (h : AwAt w W s v g ws L) : W.cell? ⟨g, 0, none⟩ = some (.pointer (some ⟨s.x, 0, none⟩)) ∧ W.cell? ⟨g, 1, none⟩ = some (.pointer (some ⟨s.a, 0, none⟩)) ∧ W.cell? ⟨g, 3, none⟩ = some (.int .i64 431) := by
  obtain ⟨h1, ⟨y0, y1, y2, y3, h2⟩, h3, h4⟩ := h
  exact ⟨h2.cell 0, h2.cell 1, h2.cell 3⟩
end
theorem fits_s (x : Int) (h0 : -1000 ≤ x) (h1 : x ≤ 1000) : Fits x := by unfold Fits; omega
section
variable {w : World} {s : Seat} {v : Value}
theorem aw_map (h : Tab w s v k0 kL0 kR) : Calls Try.prog 17 #[.pointer (some ⟨s.x, 0, none⟩), .int .i64 431, .int .i64 8, .int .i64 3, .agg #[.int .i64 16, .bool true, .bool false, .bool false, .bool false, .bool false, .bool false]] w fun e w' => e = .returned (.int .i64 0) ∧ ∃ v', Tab w' s v' k1 kL1 kR ∧ Mv s v w v' w' := by
  refine (tmap_any h (bag_ok (by omega)) (by rw [show kL0.length = 18 from bagL_len 18]; omega) 431 8 3 16 true false false false false false (fits_s _ (by omega) (by omega)) (fits_s _ (by omega) (by omega)) (fits_s _ (by omega) (by omega))).mono ?_
  rintro e w' ⟨rfl, v', -, h2, h3⟩
  exact ⟨by rw [k_map], v', h2 k_map, h3⟩
theorem aw_cnt1 (h : Tab w s v k1 kL1 kR) : Calls Try.prog 13 #[.pointer (some ⟨s.x, 0, none⟩), .int .i64 431] w fun e w' => e = .returned (.int .i64 3) ∧ Below w.heap.size w w' := by
  refine (count_any h 431 (fits_s _ (by omega) (by omega)) (fun _ => good_of 3 431 k_g1) k_n1).mono ?_
  rintro e w' ⟨rfl, hb⟩
  exact ⟨by rw [k_c1]; rfl, hb⟩
theorem aw_split (h : Tab w s v k1 kL1 kR) : Calls Try.prog 10 #[.pointer (some ⟨s.x, 0, none⟩), .int .i64 431, .int .i64 9] w fun e w' => e = .returned (.int .i64 0) ∧ ∃ v', Tab w' s v' k2 kL2 kR ∧ Mv s v w v' w' := by
  refine (tsplit_any h (by rw [k_l1]; exact bag_ok (by omega)) (by rw [k_l1, bagL_len]; omega) 431 9 (fits_s _ (by omega) (by omega))).mono ?_
  rintro e w' ⟨rfl, v', -, h2, h3⟩
  exact ⟨by rw [k_sp], v', h2 k_sp, h3⟩
theorem aw_cnt2 (h : Tab w s v k2 kL2 kR) : Calls Try.prog 13 #[.pointer (some ⟨s.x, 0, none⟩), .int .i64 431] w fun e w' => e = .returned (.int .i64 4) ∧ Below w.heap.size w w' := by
  refine (count_any h 431 (fits_s _ (by omega) (by omega)) (fun _ => good_of 3 431 k_g2) k_n2).mono ?_
  rintro e w' ⟨rfl, hb⟩
  exact ⟨by rw [k_c2]; rfl, hb⟩
theorem aw_wlk (h : Tab w s v k2 kL2 kR) : Calls Try.prog 9 #[.pointer (some ⟨s.a, 0, none⟩), .int .i64 431, .int .i64 11] w fun e w' => (∃ x0 z0 z1 z2 z3 z4 z5, e = .returned (.tuple #[.agg #[.int .i64 x0, .bool z0, .bool z1, .bool z2, .bool z3, .bool z4, .bool z5, .int .i64 0, .int .i64 19], .int .i64 0])) ∧ Below w.heap.size w w' := by
  refine (walk_any h.ram 431 11).mono ?_
  rintro e w' ⟨rfl, hb⟩
  exact ⟨⟨_, _, _, _, _, _, _, by unfold leafE; rw [k_lp, k_lv, k_er]⟩, hb⟩
theorem aw_mrg (h : Tab w s v k2 kL2 kR) : Calls Try.prog 11 #[.pointer (some ⟨s.x, 0, none⟩), .int .i64 431, .int .i64 8] w fun e w' => e = .returned (.int .i64 0) ∧ ∃ v' L', Tab w' s v' k3 L' kR ∧ Mv s v w v' w' := by
  refine (tmerge_any h (by rw [k_dl, bagL_len]; omega) 431 8 (fits_s _ (by omega) (by omega)) (fits_s _ (by omega) (by omega))).mono ?_
  rintro e w' ⟨rfl, v', -, h2, h3⟩
  exact ⟨by rw [k_me], v', _, h2 k_me, h3⟩
theorem aw_lvs {L : List Int} (h : Tab w s v k3 L kR) : Calls Try.prog 14 #[.pointer (some ⟨s.x, 0, none⟩), .int .i64 431] w fun e w' => (∃ A c, e = .returned (.slice A 1 c)) ∧ Below w.heap.size w w' := by
  refine (leaves_any h 431 (fits_s _ (by omega) (by omega)) (fun _ => good_of 3 431 k_g3) k_n3).mono ?_
  rintro e w' ⟨A, c, rfl, -, hb⟩
  exact ⟨⟨A, c, by rw [k_c3]⟩, hb⟩
end
set_option maxRecDepth 100000 in
set_option maxHeartbeats 2000000 in
theorem awake_any (W : World) : Calls Try.prog 7 #[] W fun e W' => e = .returned (.bool true) ∧ Below W.heap.size W W' := by
  have hmade := made_any W 20 (by omega) (by omega)
  go_enter Try.func7, Try.ntmps7
  go_wp2_with fail
  refine hmade.mono ?_
  rintro e w1 ⟨s, v, g, x0, x1, rfl, hT, hg, -, -, hb, e1, e2, e3, -⟩
  have h1 : AwAt W w1 s v g k0 kL0 := ⟨hT, ⟨_, _, _, _, hg⟩, hb, e1, e2, e3⟩
  have H1 := Lib.hid h1
  obtain ⟨c0, c1, c3⟩ := h1.cells
  have hcall := aw_map h1.1
  clear hmade hT hg hb e1 e2 e3 h1
  go_wp2_with fail
  refine hcall.mono ?_
  rintro e w2 ⟨rfl, v2, hT, hM⟩
  have h2 := H1.out.mv hT hM
  have H2 := Lib.hid h2
  clear hcall hT hM c0 c1 c3
  obtain ⟨c0, c1, c3⟩ := h2.cells
  have hcall := aw_cnt1 h2.1
  clear h2
  go_wp2_with fail
  refine hcall.mono ?_
  rintro e w3 ⟨rfl, hb⟩
  have h3 := H2.out.call hb
  have H3 := Lib.hid h3
  clear hcall hb c0 c1 c3
  obtain ⟨c0, c1, c3⟩ := h3.cells
  have hcall := aw_split h3.1
  clear h3
  go_wp2_with fail
  refine hcall.mono ?_
  rintro e w4 ⟨rfl, v4, hT, hM⟩
  have h4 := H3.out.mv hT hM
  have H4 := Lib.hid h4
  clear hcall hT hM c0 c1 c3
  obtain ⟨c0, c1, c3⟩ := h4.cells
  have hcall := aw_cnt2 h4.1
  clear h4
  go_wp2_with fail
  refine hcall.mono ?_
  rintro e w5 ⟨rfl, hb⟩
  have h5 := H4.out.call hb
  have H5 := Lib.hid h5
  clear hcall hb c0 c1 c3
  obtain ⟨c0, c1, c3⟩ := h5.cells
  have hcall := aw_wlk h5.1
  clear h5
  go_wp2_with fail
  refine hcall.mono ?_
  rintro e w6 ⟨⟨z, z0, z1, z2, z3, z4, z5, rfl⟩, hb⟩
  obtain ⟨q, hq⟩ : ∃ q, q = w6.heap.size := ⟨_, rfl⟩
  obtain ⟨w7, hw7⟩ : ∃ w7, w7 = w6.alloc (.cells #[.int .i64 z, .bool z0, .bool z1, .bool z2, .bool z3, .bool z4, .bool z5, .int .i64 0, .int .i64 19] 30) := ⟨_, rfl⟩
  have h7 := (H5.out.call hb).call (hw7 ▸ below_new w6 _ _ : Below w6.heap.size w6 w7)
  have r7 : Row w7 q 30 [.int .i64 z, .bool z0, .bool z1, .bool z2, .bool z3, .bool z4, .bool z5, .int .i64 0, .int .i64 19] := by rw [hw7, hq]; exact Row.new w6 _ _
  have q7 : w7.cell? ⟨q, 7, none⟩ = some (.int .i64 0) := r7.cell 7
  have q8 : w7.cell? ⟨q, 8, none⟩ = some (.int .i64 19) := r7.cell 8
  have H7 := Lib.hid h7
  have HW := Lib.hid hw7
  have HQ := Lib.hid hq
  clear hcall hb c0 c1 c3 hw7 hq r7
  obtain ⟨c0, c1, c3⟩ := h7.cells
  have hcall := aw_mrg h7.1
  clear h7
  go_upto_region 7 with (fail)
  rw [← HW.out, ← HQ.out]
  go_wp2_with fail
  refine hcall.mono ?_
  rintro e w8 ⟨rfl, v8, L8, hT, hM⟩
  have h8 := H7.out.mv hT hM
  have H8 := Lib.hid h8
  clear hcall hT hM c0 c1 c3 q7 q8
  obtain ⟨c0, c1, c3⟩ := h8.cells
  have hcall := aw_lvs h8.1
  clear h8
  go_wp2_with fail
  refine hcall.mono ?_
  rintro e w9 ⟨⟨A, c, rfl⟩, hb⟩
  have h9 := Lib.hid (H8.out.call hb)
  clear hcall hb c0 c1 c3
  go_wp2_with fail
  go_ret
  exact ⟨rfl, h9.out.2.2.1⟩
end Go.Proofs.Ytpcpcgbejinlmaa
