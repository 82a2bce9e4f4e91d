/- The law's World.one of kind 4 (Set) over the state. -/
import Derived.Test.YtpcpcgbejinlmaaMk44
namespace Go.Proofs.Ytpcpcgbejinlmaa
open Go.RowKit
section
variable {w W : World} {k : Lk} {v : Value} {ws L : List Int} {v0 : Value} {L0 : List Mp} {v1 : Value} {L1 : List Mp} {lf : Int} {K : Nat}
set_option maxRecDepth 100000 in
set_option maxHeartbeats 4000000 in
theorem one_set0 (h : Lw w W k v ws L v0 L0 v1 L1 lf K) (hK : K + 8 ≤ 5000) (hr : Fits k.r0) (l : Ac) (hl : IsAc l) (hb : bits .and .i64 l.r 1 = 0) (hk : l.kd = 4) : Calls Try.prog 43 #[.pointer (some ⟨k.g, 0, none⟩), .agg (acCells l).toArray] W fun e W' => (∃ b, e = .returned (.bool b)) ∧ Run w W' k (K + 8) := by
  obtain ⟨q, hq⟩ : ∃ q, q = W.heap.size := ⟨_, rfl⟩
  have HQ := Lib.hid hq
  obtain ⟨w1, hw1⟩ : ∃ w1, w1 = W.alloc (.cells #[.int .i64 l.kd, .int .i64 l.r, .int .i64 l.pg, .int .i64 l.o, .int .i64 l.n, .int .i64 l.f, .bool l.p, .bool l.w, .bool l.h, .bool l.k, .bool l.u, .bool l.d] 52) := ⟨_, rfl⟩
  have HW1 := Lib.hid hw1
  have r1 : Row w1 q 52 (acCells l) := by rw [hw1, hq]; exact Row.new W _ (acCells l)
  have R1 := Lib.hid r1
  have h1 := h.call (hw1 ▸ below_new W _ _)
  have c0 : w1.cell? ⟨q, 0, none⟩ = some (.int .i64 l.kd) := r1.cell 0
  have c1 : w1.cell? ⟨q, 1, none⟩ = some (.int .i64 l.r) := r1.cell 1
  have g3 : w1.cell? ⟨k.g, 3, none⟩ = some (.int .i64 k.r0) := h1.row.cell 3
  have g5 : w1.cell? ⟨k.g, 5, none⟩ = some (.pointer (some ⟨k.x0, 0, none⟩)) := h1.row.cell 5
  have H1 := Lib.hid h1
  have HL := Lib.hid hl
  have HHK := Lib.hid hK
  rw [hk] at c0
  have HKD := Lib.hid hk
  clear hk
  unfold acCells
  clear hq hw1 r1 h h1 hl
  go_enter Try.func43, Try.ntmps43
  go_upto_region 1 with (fail)
  rw [← HW1.out, ← HQ.out]
  go_upto_region 2 with (fail)
  clear hb
  go_quiet (fail)
  have H2 := Lib.hid (H1.out.call (drewN_b (Below.refl _ _) nq))
  have R2 : Hid (Row (w1.drewN nq) q 52 (acCells l)) := R1.out
  have c0 : (w1.drewN nq).cell? ⟨q, 0, none⟩ = some (.int .i64 4) := HKD.out ▸ R2.out.cell 0
  generalize w1.drewN nq = w2 at H2 R2 c0 ⊢
  clear c1 g3 g5 H1 R1 HW1
  have q2 : w2.cell? ⟨q, 2, none⟩ = some (.int .i64 l.pg) := R2.out.cell 2
  have q3 : w2.cell? ⟨q, 3, none⟩ = some (.int .i64 l.o) := R2.out.cell 3
  have q5 : w2.cell? ⟨q, 5, none⟩ = some (.int .i64 l.f) := R2.out.cell 5
  have q6 : w2.cell? ⟨q, 6, none⟩ = some (.bool l.p) := R2.out.cell 6
  have q7 : w2.cell? ⟨q, 7, none⟩ = some (.bool l.w) := R2.out.cell 7
  have q8 : w2.cell? ⟨q, 8, none⟩ = some (.bool l.h) := R2.out.cell 8
  have q9 : w2.cell? ⟨q, 9, none⟩ = some (.bool l.k) := R2.out.cell 9
  have q10 : w2.cell? ⟨q, 10, none⟩ = some (.bool l.u) := R2.out.cell 10
  have q11 : w2.cell? ⟨q, 11, none⟩ = some (.bool l.d) := R2.out.cell 11
  have hwr := wrong8_any l.pg l.o w2
  have hlf := leaf8_any (w := w2) l.o l.f l.p l.w l.h l.k l.u l.d
  go_wp2_with fail
  refine hwr.mono ?_
  rintro e w3 ⟨rfl, rfl⟩
  clear hwr
  go_wp2_with fail
  refine hlf.mono ?_
  rintro e w3 ⟨ok, rfl, hb3⟩
  obtain ⟨z, hz⟩ : ∃ z, z = w3.heap.size := ⟨_, rfl⟩
  obtain ⟨w4, hw4⟩ : ∃ w4, w4 = w3.alloc (.cells #[.int .i64 l.f, .bool l.p, .bool l.w, .bool (decide (0 < l.o)), .bool l.k, .bool l.u, .bool l.d] 28) := ⟨_, rfl⟩
  have b4 : Below w2.heap.size w2 w4 := hb3.trans (hw4 ▸ (below_new w3 _ _).mono hb3.size)
  have H4 := Lib.hid (H2.out.call b4)
  have R4 := Lib.hid (R2.out.below b4 R2.out.lt)
  have Z4 : Hid (Row w4 z 28 [.int .i64 l.f, .bool l.p, .bool l.w, .bool (decide (0 < l.o)), .bool l.k, .bool l.u, .bool l.d]) := by show Row _ _ _ _; rw [hw4, hz]; exact Row.new w3 _ _
  clear hlf q2 q3 q5 q6 q7 q8 q9 q10 q11 hb3 b4 c0 H2 R2
  go_upto_region 11 with (fail)
  rw [← hw4, ← hz]
  clear hw4 hz
  by_cases hwo : wrO l.pg l.o = 0
  · obtain ⟨hwo1, p0, p1, -⟩ := wrO_ok hwo
    have hAt := at_is H4.out.ref0 l.pg l.o p0 (by omega)
    have hfo := at_found L0 l.pg l.o
    rw [hwo]
    generalize atF L0 l.pg l.o = ka at hAt hfo
    clear hwo1 p0 p1 hwo
    have q2 : w4.cell? ⟨q, 2, none⟩ = some (.int .i64 l.pg) := R4.out.cell 2
    have q3 : w4.cell? ⟨q, 3, none⟩ = some (.int .i64 l.o) := R4.out.cell 3
    go_wp2_with fail
    refine hAt.mono ?_
    rintro e w5 ⟨rfl, n5, rfl⟩
    have H5 : Hid (Lw w (w4.drewN n5) k v ws L v0 L0 v1 L1 lf K) := Lib.hid (H4.out.call (drewN_b (Below.refl _ _) n5))
    have R5 : Hid (Row (w4.drewN n5) q 52 (acCells l)) := R4.out
    have Z5 : Hid (Row (w4.drewN n5) z 28 [.int .i64 l.f, .bool l.p, .bool l.w, .bool (decide (0 < l.o)), .bool l.k, .bool l.u, .bool l.d]) := Z4.out
    generalize w4.drewN n5 = w5 at H5 R5 Z5 ⊢
    clear hAt q2 q3 H4 R4 Z4
    have H6 : Hid (Lw w w5 k v ws L v0 L0 v1 L1 lf (K + 8)) := ⟨H5.out.tab, H5.out.inv, H5.out.all, H5.out.row, H5.out.ref0, H5.out.ref1, by have := H5.out.len0; omega, by have := H5.out.len1; omega, H5.out.below, H5.out.lo, H5.out.acts⟩
    cases ok
    · clear hfo
      go_upto_region 21 with (fail)
      have hs2 : (fun v => v.cell? ⟨k.g, 0, none⟩ = some (.pointer (some ⟨k.s.x, 0, none⟩)) ∧ v.cell? ⟨q, 2, none⟩ = some (.int .i64 l.pg) ∧ v.cell? ⟨q, 3, none⟩ = some (.int .i64 l.o) ∧ v.cell? ⟨q, 5, none⟩ = some (.int .i64 l.f) ∧ v.cell? ⟨q, 6, none⟩ = some (.bool l.p) ∧ v.cell? ⟨q, 7, none⟩ = some (.bool l.w) ∧ v.cell? ⟨q, 8, none⟩ = some (.bool l.h) ∧ v.cell? ⟨q, 9, none⟩ = some (.bool l.k) ∧ v.cell? ⟨q, 10, none⟩ = some (.bool l.u) ∧ v.cell? ⟨q, 11, none⟩ = some (.bool l.d)) w5.drew := ⟨H6.out.row.cell 0, R5.out.cell 2, R5.out.cell 3, R5.out.cell 5, R5.out.cell 6, R5.out.cell 7, R5.out.cell 8, R5.out.cell 9, R5.out.cell 10, R5.out.cell 11⟩
      refine wp_region_held_drew (S := (fun v => v.cell? ⟨k.g, 0, none⟩ = some (.pointer (some ⟨k.s.x, 0, none⟩)) ∧ v.cell? ⟨q, 2, none⟩ = some (.int .i64 l.pg) ∧ v.cell? ⟨q, 3, none⟩ = some (.int .i64 l.o) ∧ v.cell? ⟨q, 5, none⟩ = some (.int .i64 l.f) ∧ v.cell? ⟨q, 6, none⟩ = some (.bool l.p) ∧ v.cell? ⟨q, 7, none⟩ = some (.bool l.w) ∧ v.cell? ⟨q, 8, none⟩ = some (.bool l.h) ∧ v.cell? ⟨q, 9, none⟩ = some (.bool l.k) ∧ v.cell? ⟨q, 10, none⟩ = some (.bool l.u) ∧ v.cell? ⟨q, 11, none⟩ = some (.bool l.d))) (by kernel_rfl) hs2 (fun hHeld => ?_)
      have HA : Hid (Lw w w5.drew k v ws L v0 L0 v1 L1 lf (K + 8)) := Lib.hid (H6.out.call (drewN_b (Below.refl _ _) 1))
      have RA : Hid (Row w5.drew q 52 (acCells l)) := R5.out
      generalize w5.drew = wA at hHeld hs2 HA RA ⊢
      refine tkY 0 (at_lit rfl) (v := ?_) (Or.inl ⟨by rfl, ?_⟩) ?_
      rotate_left
      focus (intro _ h; (try dsimp only at h); go_simp; (try with_reducible rfl); done)
      (try simp only [Act.put, sAr, sZe, sSu])
      refine tkY 1 (at_lit rfl) (v := ?_) (Or.inl ⟨by rfl, ?_⟩) ?_
      rotate_left
      focus (intro _ h; (try dsimp only at h); go_simp; (try with_reducible rfl); done)
      (try simp only [Act.put, sAr, sZe, sSu])
      refine tkY 2 (at_lit rfl) (v := ?_) (Or.inl ⟨by rfl, ?_⟩) ?_
      rotate_left
      focus (intro _ h; (try dsimp only at h); go_simp; (try with_reducible rfl); done)
      (try simp only [Act.put, sAr, sZe, sSu])
      refine tkY 3 (at_lit rfl) (v := ?_) (Or.inl ⟨by rfl, ?_⟩) ?_
      rotate_left
      focus (intro _ h; (try dsimp only at h); go_simp; (try with_reducible rfl); done)
      (try simp only [Act.put, sAr, sZe, sSu])
      refine tkY 4 (at_lit rfl) (v := ?_) (Or.inl ⟨by rfl, ?_⟩) ?_
      rotate_left
      focus (intro _ h; (try dsimp only at h); go_simp; (try with_reducible rfl); done)
      (try simp only [Act.put, sAr, sZe, sSu])
      refine tkY 5 (at_lit rfl) (v := ?_) (Or.inl ⟨by rfl, ?_⟩) ?_
      rotate_left
      focus (intro _ h; (try dsimp only at h); go_simp; (try with_reducible rfl); done)
      (try simp only [Act.put, sAr, sZe, sSu])
      refine tkY 6 (at_lit rfl) (v := ?_) (Or.inl ⟨by rfl, ?_⟩) ?_
      rotate_left
      focus (intro _ h; (try dsimp only at h); go_simp; (try with_reducible rfl); done)
      (try simp only [Act.put, sAr, sZe, sSu])
      refine tkY 7 (at_lit rfl) (v := ?_) (Or.inl ⟨by rfl, ?_⟩) ?_
      rotate_left
      focus (intro _ h; (try dsimp only at h); go_simp; (try with_reducible rfl); done)
      (try simp only [Act.put, sAr, sZe, sSu])
      refine tkY 8 (at_lit rfl) (v := ?_) (Or.inl ⟨by rfl, ?_⟩) ?_
      rotate_left
      focus (intro _ h; (try dsimp only at h); go_simp; (try with_reducible rfl); done)
      (try simp only [Act.put, sAr, sZe, sSu])
      refine tkY 9 (at_lit rfl) (v := ?_) (Or.inl ⟨by rfl, ?_⟩) ?_
      rotate_left
      focus (intro _ h; (try dsimp only at h); go_simp; (try with_reducible rfl); done)
      (try simp only [Act.put, sAr, sZe, sSu])
      refine tkY 10 (at_lit rfl) (v := ?_) (Or.inl ⟨by rfl, ?_⟩) ?_
      rotate_left
      focus (intro _ h; (try dsimp only at h); go_simp; (try with_reducible rfl); done)
      (try simp only [Act.put, sAr, sZe, sSu])
      refine tkY 12 (at_lit rfl) (v := ?_) (Or.inl ⟨by rfl, ?_⟩) ?_
      rotate_left
      focus (intro _ h; (try dsimp only at h); go_simp; (try with_reducible rfl); done)
      (try simp only [Act.put, sAr, sZe, sSu])
      refine wpAnyH_ready (rs := [11]) (by kernel_rfl) (by simp) ?_
      refine AllReadyH.cons (o := _) (at_lit rfl) (fun K hK => ?_) AllReadyH.nil
      go_simp
      go_at_call 16
      refine ((lw_set HA.out false hr l.pg l.o l.f l.p l.w l.h l.k l.u l.d HL.out.2.2.1 HL.out.2.2.2.2.2).mono ?_)
      rintro e wB ⟨er, rfl, vB, wsB, LB, hB, -, -, hm⟩
      have HB := Lib.hid hB
      have RB := Lib.hid (HA.out.tab.row hm RA.out (by decide) (by decide) (by decide))
      clear hB hm
      go_wp2_with fail
      refine hK.out _ _ ?_ (fun hHeld => ?_)
      focus exact ⟨HB.out.row.cell 0, RB.out.cell 2, RB.out.cell 3, RB.out.cell 5, RB.out.cell 6, RB.out.cell 7, RB.out.cell 8, RB.out.cell 9, RB.out.cell 10, RB.out.cell 11⟩
      clear hK
      (try simp only [Act.put, sAr, sZe, sSu])
      refine tkY 13 (at_lit rfl) (v := ?_) (Or.inl ⟨by rfl, ?_⟩) ?_
      rotate_left
      focus (intro _ h; (try dsimp only at h); go_simp; (try with_reducible rfl); done)
      (try simp only [Act.put, sAr, sZe, sSu])
      refine tkY 14 (at_lit rfl) (v := ?_) (Or.inl ⟨by rfl, ?_⟩) ?_
      rotate_left
      focus (intro _ h; (try dsimp only at h); go_simp; (try with_reducible rfl); done)
      (try simp only [Act.put, sAr, sZe, sSu])
      refine wpAnyH_done (by kernel_rfl) ?_ _
      go_wp2_with fail
      go_ret
      exact ⟨⟨_, rfl⟩, _, _, _, _, _, _, _, _, HB.out⟩
    · rcases hfo with rfl | ⟨j, hj, rfl, -, -⟩
      · skip
        go_upto_region 21 with (fail)
        have hs2 : (fun v => v.cell? ⟨k.g, 0, none⟩ = some (.pointer (some ⟨k.s.x, 0, none⟩)) ∧ v.cell? ⟨q, 2, none⟩ = some (.int .i64 l.pg) ∧ v.cell? ⟨q, 3, none⟩ = some (.int .i64 l.o) ∧ v.cell? ⟨q, 5, none⟩ = some (.int .i64 l.f) ∧ v.cell? ⟨q, 6, none⟩ = some (.bool l.p) ∧ v.cell? ⟨q, 7, none⟩ = some (.bool l.w) ∧ v.cell? ⟨q, 8, none⟩ = some (.bool l.h) ∧ v.cell? ⟨q, 9, none⟩ = some (.bool l.k) ∧ v.cell? ⟨q, 10, none⟩ = some (.bool l.u) ∧ v.cell? ⟨q, 11, none⟩ = some (.bool l.d)) w5.drew := ⟨H6.out.row.cell 0, R5.out.cell 2, R5.out.cell 3, R5.out.cell 5, R5.out.cell 6, R5.out.cell 7, R5.out.cell 8, R5.out.cell 9, R5.out.cell 10, R5.out.cell 11⟩
        refine wp_region_held_drew (S := (fun v => v.cell? ⟨k.g, 0, none⟩ = some (.pointer (some ⟨k.s.x, 0, none⟩)) ∧ v.cell? ⟨q, 2, none⟩ = some (.int .i64 l.pg) ∧ v.cell? ⟨q, 3, none⟩ = some (.int .i64 l.o) ∧ v.cell? ⟨q, 5, none⟩ = some (.int .i64 l.f) ∧ v.cell? ⟨q, 6, none⟩ = some (.bool l.p) ∧ v.cell? ⟨q, 7, none⟩ = some (.bool l.w) ∧ v.cell? ⟨q, 8, none⟩ = some (.bool l.h) ∧ v.cell? ⟨q, 9, none⟩ = some (.bool l.k) ∧ v.cell? ⟨q, 10, none⟩ = some (.bool l.u) ∧ v.cell? ⟨q, 11, none⟩ = some (.bool l.d))) (by kernel_rfl) hs2 (fun hHeld => ?_)
        have HA : Hid (Lw w w5.drew k v ws L v0 L0 v1 L1 lf (K + 8)) := Lib.hid (H6.out.call (drewN_b (Below.refl _ _) 1))
        have RA : Hid (Row w5.drew q 52 (acCells l)) := R5.out
        generalize w5.drew = wA at hHeld hs2 HA RA ⊢
        refine tkY 0 (at_lit rfl) (v := ?_) (Or.inl ⟨by rfl, ?_⟩) ?_
        rotate_left
        focus (intro _ h; (try dsimp only at h); go_simp; (try with_reducible rfl); done)
        (try simp only [Act.put, sAr, sZe, sSu])
        refine tkY 1 (at_lit rfl) (v := ?_) (Or.inl ⟨by rfl, ?_⟩) ?_
        rotate_left
        focus (intro _ h; (try dsimp only at h); go_simp; (try with_reducible rfl); done)
        (try simp only [Act.put, sAr, sZe, sSu])
        refine tkY 2 (at_lit rfl) (v := ?_) (Or.inl ⟨by rfl, ?_⟩) ?_
        rotate_left
        focus (intro _ h; (try dsimp only at h); go_simp; (try with_reducible rfl); done)
        (try simp only [Act.put, sAr, sZe, sSu])
        refine tkY 3 (at_lit rfl) (v := ?_) (Or.inl ⟨by rfl, ?_⟩) ?_
        rotate_left
        focus (intro _ h; (try dsimp only at h); go_simp; (try with_reducible rfl); done)
        (try simp only [Act.put, sAr, sZe, sSu])
        refine tkY 4 (at_lit rfl) (v := ?_) (Or.inl ⟨by rfl, ?_⟩) ?_
        rotate_left
        focus (intro _ h; (try dsimp only at h); go_simp; (try with_reducible rfl); done)
        (try simp only [Act.put, sAr, sZe, sSu])
        refine tkY 5 (at_lit rfl) (v := ?_) (Or.inl ⟨by rfl, ?_⟩) ?_
        rotate_left
        focus (intro _ h; (try dsimp only at h); go_simp; (try with_reducible rfl); done)
        (try simp only [Act.put, sAr, sZe, sSu])
        refine tkY 6 (at_lit rfl) (v := ?_) (Or.inl ⟨by rfl, ?_⟩) ?_
        rotate_left
        focus (intro _ h; (try dsimp only at h); go_simp; (try with_reducible rfl); done)
        (try simp only [Act.put, sAr, sZe, sSu])
        refine tkY 7 (at_lit rfl) (v := ?_) (Or.inl ⟨by rfl, ?_⟩) ?_
        rotate_left
        focus (intro _ h; (try dsimp only at h); go_simp; (try with_reducible rfl); done)
        (try simp only [Act.put, sAr, sZe, sSu])
        refine tkY 8 (at_lit rfl) (v := ?_) (Or.inl ⟨by rfl, ?_⟩) ?_
        rotate_left
        focus (intro _ h; (try dsimp only at h); go_simp; (try with_reducible rfl); done)
        (try simp only [Act.put, sAr, sZe, sSu])
        refine tkY 9 (at_lit rfl) (v := ?_) (Or.inl ⟨by rfl, ?_⟩) ?_
        rotate_left
        focus (intro _ h; (try dsimp only at h); go_simp; (try with_reducible rfl); done)
        (try simp only [Act.put, sAr, sZe, sSu])
        refine tkY 10 (at_lit rfl) (v := ?_) (Or.inl ⟨by rfl, ?_⟩) ?_
        rotate_left
        focus (intro _ h; (try dsimp only at h); go_simp; (try with_reducible rfl); done)
        (try simp only [Act.put, sAr, sZe, sSu])
        refine tkY 12 (at_lit rfl) (v := ?_) (Or.inl ⟨by rfl, ?_⟩) ?_
        rotate_left
        focus (intro _ h; (try dsimp only at h); go_simp; (try with_reducible rfl); done)
        (try simp only [Act.put, sAr, sZe, sSu])
        refine wpAnyH_ready (rs := [11]) (by kernel_rfl) (by simp) ?_
        refine AllReadyH.cons (o := _) (at_lit rfl) (fun K hK => ?_) AllReadyH.nil
        go_simp
        go_at_call 16
        refine ((lw_set HA.out false hr l.pg l.o l.f l.p l.w l.h l.k l.u l.d HL.out.2.2.1 HL.out.2.2.2.2.2).mono ?_)
        rintro e wB ⟨er, rfl, vB, wsB, LB, hB, -, -, hm⟩
        have HB := Lib.hid hB
        have RB := Lib.hid (HA.out.tab.row hm RA.out (by decide) (by decide) (by decide))
        clear hB hm
        go_wp2_with fail
        refine hK.out _ _ ?_ (fun hHeld => ?_)
        focus exact ⟨HB.out.row.cell 0, RB.out.cell 2, RB.out.cell 3, RB.out.cell 5, RB.out.cell 6, RB.out.cell 7, RB.out.cell 8, RB.out.cell 9, RB.out.cell 10, RB.out.cell 11⟩
        clear hK
        (try simp only [Act.put, sAr, sZe, sSu])
        refine tkY 13 (at_lit rfl) (v := ?_) (Or.inl ⟨by rfl, ?_⟩) ?_
        rotate_left
        focus (intro _ h; (try dsimp only at h); go_simp; (try with_reducible rfl); done)
        (try simp only [Act.put, sAr, sZe, sSu])
        refine tkY 14 (at_lit rfl) (v := ?_) (Or.inl ⟨by rfl, ?_⟩) ?_
        rotate_left
        focus (intro _ h; (try dsimp only at h); go_simp; (try with_reducible rfl); done)
        (try simp only [Act.put, sAr, sZe, sSu])
        refine wpAnyH_done (by kernel_rfl) ?_ _
        go_wp2_with fail
        go_ret
        exact ⟨⟨_, rfl⟩, _, _, _, _, _, _, _, _, HB.out⟩
      · obtain ⟨A0, c0, hv⟩ := H5.out.ref0.ms.form
        subst hv
        obtain ⟨N, hN⟩ : ∃ N, N = L0.length := ⟨_, rfl⟩
        obtain ⟨-, ga, rfl, -, -⟩ := H5.out.ref0.ms.blk (by omega)
        obtain ⟨A', c', w6, r6, m6, b6⟩ := H5.out.ref0.ms.copy8 H5.out.ref0.len
        obtain ⟨-, g6, rfl, hg6, -⟩ := m6.blk (by omega)
        obtain ⟨W1, hW1⟩ : ∃ W1, W1 = w5.alloc (.cells #[] 94) := ⟨_, rfl⟩
        have x1 : W1.cell? ⟨k.x0, 0, none⟩ = some (.slice (some ⟨ga, 0, none⟩) N c0) := by rw [hW1, hN]; exact (H5.out.ref0.call ((Below.refl _ _).alloc (Nat.le_refl _) _)).top.cell 0
        rw [hW1] at x1
        have hx6 := H5.out.ref0.top.below b6 H5.out.ref0.top.lt
        have x6 : w6.cell? ⟨k.x0, 0, none⟩ = some (.slice (some ⟨ga, 0, none⟩) N c0) := by rw [hN]; exact hx6.cell 0
        have y6 := hx6.frozen 0
        rw [← hN] at r6 m6
        have HM6 := Lib.hid (And.intro m6 (And.intro b6 (And.intro hg6 hN)))
        have HX6 := Lib.hid hx6
        have HJ := Lib.hid hj
        have j1 : (j : Int) < N := by omega
        have j0 : (0 : Int) ≤ j := by omega
        clear m6 b6 hx6 hg6 hN hj hW1
        go_upto_region 15 with (at_builtin; refine wpList_append_run rfl _ _ 53 rfl (.slice (some ⟨w5.heap.size, 0, none⟩) 0 0) (.slice (some ⟨ga, 0, none⟩) N c0) rfl rfl r6 ?_)
        obtain ⟨w7, hw7⟩ : ∃ w7, w7 = w6.setCell ⟨k.x0, 0, none⟩ (.slice (some ⟨g6, 0, none⟩) N c') := ⟨_, rfl⟩
        have hf7 : Foot (fun z => z = k.x0) w6 w7 := by rw [hw7]; exact Foot.grown (b := k.x0) (grown_set _ _ _ _) rfl
        have hx7 : Row w7 k.x0 65 [.slice (some ⟨g6, 0, none⟩) N c'] := by rw [hw7]; exact HX6.out.set_ 0 _
        have hz7 : Row w7 z 28 [.int .i64 l.f, .bool l.p, .bool l.w, .bool (decide (0 < l.o)), .bool l.k, .bool l.u, .bool l.d] := hf7.row (Z5.out.below HM6.out.2.1 Z5.out.lt) (fun e => (Z5.out.apart H5.out.ref0.top (by decide)) e)
        have hm7 : Ms w7 w5.heap.size (.slice (some ⟨g6, 0, none⟩) N c') L0 := HM6.out.1.keep8 fun y hy => by
          injection hy with hy
          subst hy
          refine hf7.keep g6 (HM6.out.1.lt g6 rfl).2 fun e => ?_
          have := HM6.out.2.2.1
          have := H5.out.ref0.top.lt
          omega
        have hq7 : Row w7 q 52 (acCells l) := hf7.row (R5.out.below HM6.out.2.1 R5.out.lt) (fun e => (R5.out.apart H5.out.ref0.top (by decide)) e)
        rw [← hw7]
        obtain ⟨V, hV⟩ : ∃ V, V = w7.drew := ⟨_, rfl⟩
        have x7 : w7.cell? ⟨k.x0, 0, none⟩ = some (.slice (some ⟨g6, 0, none⟩) N c') := hx7.cell 0
        obtain ⟨⟨z0, z1, z2, z3, z4, z5, z6⟩, -⟩ := hz7.seven
        have mV : Ms V w5.heap.size (.slice (some ⟨g6, 0, none⟩) N c') L0 := by rw [hV]; exact hm7
        have xV : Row V k.x0 65 [.slice (some ⟨g6, 0, none⟩) N c'] := by rw [hV]; exact hx7
        have qV : Row V q 52 (acCells l) := by rw [hV]; exact hq7
        have fV : Foot (fun z => z = k.x0 ∨ z = g6) w6 V := by rw [hV]; exact ⟨hf7.os, hf7.tape, hf7.output, hf7.size, fun y hy hn => hf7.keep y hy fun e => hn (Or.inl e)⟩
        have d2 : V.cell? ⟨g6, j * 9 + 2, none⟩ = some (.int .i64 L0[j].f) := mV.get8 HJ.out (i := 2) (by omega)
        have d3 : V.cell? ⟨g6, j * 9 + 3, none⟩ = some (.bool L0[j].p) := mV.get8 HJ.out (i := 3) (by omega)
        have d4 : V.cell? ⟨g6, j * 9 + 4, none⟩ = some (.bool L0[j].w) := mV.get8 HJ.out (i := 4) (by omega)
        have d5 : V.cell? ⟨g6, j * 9 + 5, none⟩ = some (.bool L0[j].h) := mV.get8 HJ.out (i := 5) (by omega)
        have d6 : V.cell? ⟨g6, j * 9 + 6, none⟩ = some (.bool L0[j].k) := mV.get8 HJ.out (i := 6) (by omega)
        have d7 : V.cell? ⟨g6, j * 9 + 7, none⟩ = some (.bool L0[j].u) := mV.get8 HJ.out (i := 7) (by omega)
        have d8 : V.cell? ⟨g6, j * 9 + 8, none⟩ = some (.bool L0[j].d) := mV.get8 HJ.out (i := 8) (by omega)
        have yV := (mV.put8 HJ.out (q := 2) (by omega) (u := .int .i64 L0[j].f) (m := L0[j]) rfl).1
        have hn8 := mV.entry8 HJ.out l.f l.p l.w (decide (0 < l.o)) l.k l.u l.d
        have HV := Lib.hid (And.intro hV (And.intro mV (And.intro xV (And.intro qV (And.intro fV hn8)))))
        have HMK : Hid (MK (L0[j].with l.f l.p l.w (decide (0 < l.o)) l.k l.u l.d)) := by
          have := H5.out.ref0.ok _ (List.getElem_mem HJ.out)
          exact ⟨this.g0, this.g1, this.o, this.even⟩
        clear hw7 hf7 hx7 hz7 hm7 hq7 mV xV qV fV hn8 hV x1 x6 y6 r6 H6
        generalize L0[j].f = df at d2
        generalize L0[j].p = dp at d3
        generalize L0[j].w = dw at d4
        generalize L0[j].h = dh at d5
        generalize L0[j].k = dk at d6
        generalize L0[j].u = du at d7
        generalize L0[j].d = dd at d8
        go_still_tail 8, (by kernel_rfl)
        change wpList _ _ _ _ _ w7.drew
        rw [← HV.out.1]
        clear x7 z0 z1 z2 z3 z4 z5 z6
        go_upto_region 21 with (fail)
        obtain ⟨w8, hw8⟩ : ∃ w8, w8 = (((((((V.setCell ⟨g6, j * 9 + 2, none⟩ (.int .i64 l.f)).setCell ⟨g6, j * 9 + 2 + 1, none⟩ (.bool l.p)).setCell ⟨g6, j * 9 + 2 + 2, none⟩ (.bool l.w)).setCell ⟨g6, j * 9 + 2 + 3, none⟩ (.bool (decide (0 < l.o)))).setCell ⟨g6, j * 9 + 2 + 4, none⟩ (.bool l.k)).setCell ⟨g6, j * 9 + 2 + 5, none⟩ (.bool l.u)).setCell ⟨g6, j * 9 + 2 + 6, none⟩ (.bool l.d)) := ⟨_, rfl⟩
        rw [← hw8]
        have hF8 : Foot (fun z => z = g6) V w8 := by rw [hw8]; exact foot7 _ _ _ _ _ _ _ _ _ _ _ _ _ _ _ _
        have hm8 : Ms w8 w5.heap.size (.slice (some ⟨g6, 0, none⟩) N c') (L0.set j (L0[j].with l.f l.p l.w (decide (0 < l.o)) l.k l.u l.d)) := by rw [hw8]; exact HV.out.2.2.2.2.2
        have hxg : k.x0 ≠ g6 := by have := H5.out.ref0.top.lt; have := HM6.out.2.2.1; omega
        have hqg : q ≠ g6 := by have := R5.out.lt; have := HM6.out.2.2.1; omega
        have R8 : Hid (Row w8 q 52 (acCells l)) := hF8.row HV.out.2.2.2.1 hqg
        have hx8 := hF8.row HV.out.2.2.1 hxg
        have hfa := HV.out.2.2.2.2.1.trans (Y := fun z => z = g6) hF8 (fun _ e _ => Or.inr e)
        rw [HM6.out.2.2.2] at hm8 hx8
        have hFair : Fair w5 w.heap.size k.g k.x0 8 (pp k.s k.x0 k.x1 k.r0 k.r1) (.slice (some ⟨ga, 0, none⟩) L0.length c0) L0 w8 := fair_set H5.out.row H5.out.ref0 H5.out.below.size HM6.out.2.1 hm8 HMK.out hx8 hfa HM6.out.2.2.1
        obtain ⟨v05, L05, v15, L15, lf5, h8⟩ := H5.out.fair0 hFair
        have H8 := Lib.hid h8
        clear hw8 hF8 hm8 hxg hqg hx8 hfa hFair h8
        have hs2 : (fun v => v.cell? ⟨k.g, 0, none⟩ = some (.pointer (some ⟨k.s.x, 0, none⟩)) ∧ v.cell? ⟨q, 2, none⟩ = some (.int .i64 l.pg) ∧ v.cell? ⟨q, 3, none⟩ = some (.int .i64 l.o) ∧ v.cell? ⟨q, 5, none⟩ = some (.int .i64 l.f) ∧ v.cell? ⟨q, 6, none⟩ = some (.bool l.p) ∧ v.cell? ⟨q, 7, none⟩ = some (.bool l.w) ∧ v.cell? ⟨q, 8, none⟩ = some (.bool l.h) ∧ v.cell? ⟨q, 9, none⟩ = some (.bool l.k) ∧ v.cell? ⟨q, 10, none⟩ = some (.bool l.u) ∧ v.cell? ⟨q, 11, none⟩ = some (.bool l.d)) w8.drew := ⟨H8.out.row.cell 0, R8.out.cell 2, R8.out.cell 3, R8.out.cell 5, R8.out.cell 6, R8.out.cell 7, R8.out.cell 8, R8.out.cell 9, R8.out.cell 10, R8.out.cell 11⟩
        refine wp_region_held_drew (S := (fun v => v.cell? ⟨k.g, 0, none⟩ = some (.pointer (some ⟨k.s.x, 0, none⟩)) ∧ v.cell? ⟨q, 2, none⟩ = some (.int .i64 l.pg) ∧ v.cell? ⟨q, 3, none⟩ = some (.int .i64 l.o) ∧ v.cell? ⟨q, 5, none⟩ = some (.int .i64 l.f) ∧ v.cell? ⟨q, 6, none⟩ = some (.bool l.p) ∧ v.cell? ⟨q, 7, none⟩ = some (.bool l.w) ∧ v.cell? ⟨q, 8, none⟩ = some (.bool l.h) ∧ v.cell? ⟨q, 9, none⟩ = some (.bool l.k) ∧ v.cell? ⟨q, 10, none⟩ = some (.bool l.u) ∧ v.cell? ⟨q, 11, none⟩ = some (.bool l.d))) (by kernel_rfl) hs2 (fun hHeld => ?_)
        have HA : Hid (Lw w w8.drew k v ws L v05 L05 v15 L15 lf5 (K + 8)) := Lib.hid (H8.out.call (drewN_b (Below.refl _ _) 1))
        have RA : Hid (Row w8.drew q 52 (acCells l)) := R8.out
        generalize w8.drew = wA at hHeld hs2 HA RA ⊢
        refine tkY 0 (at_lit rfl) (v := ?_) (Or.inl ⟨by rfl, ?_⟩) ?_
        rotate_left
        focus (intro _ h; (try dsimp only at h); go_simp; (try with_reducible rfl); done)
        (try simp only [Act.put, sAr, sZe, sSu])
        refine tkY 1 (at_lit rfl) (v := ?_) (Or.inl ⟨by rfl, ?_⟩) ?_
        rotate_left
        focus (intro _ h; (try dsimp only at h); go_simp; (try with_reducible rfl); done)
        (try simp only [Act.put, sAr, sZe, sSu])
        refine tkY 2 (at_lit rfl) (v := ?_) (Or.inl ⟨by rfl, ?_⟩) ?_
        rotate_left
        focus (intro _ h; (try dsimp only at h); go_simp; (try with_reducible rfl); done)
        (try simp only [Act.put, sAr, sZe, sSu])
        refine tkY 3 (at_lit rfl) (v := ?_) (Or.inl ⟨by rfl, ?_⟩) ?_
        rotate_left
        focus (intro _ h; (try dsimp only at h); go_simp; (try with_reducible rfl); done)
        (try simp only [Act.put, sAr, sZe, sSu])
        refine tkY 4 (at_lit rfl) (v := ?_) (Or.inl ⟨by rfl, ?_⟩) ?_
        rotate_left
        focus (intro _ h; (try dsimp only at h); go_simp; (try with_reducible rfl); done)
        (try simp only [Act.put, sAr, sZe, sSu])
        refine tkY 5 (at_lit rfl) (v := ?_) (Or.inl ⟨by rfl, ?_⟩) ?_
        rotate_left
        focus (intro _ h; (try dsimp only at h); go_simp; (try with_reducible rfl); done)
        (try simp only [Act.put, sAr, sZe, sSu])
        refine tkY 6 (at_lit rfl) (v := ?_) (Or.inl ⟨by rfl, ?_⟩) ?_
        rotate_left
        focus (intro _ h; (try dsimp only at h); go_simp; (try with_reducible rfl); done)
        (try simp only [Act.put, sAr, sZe, sSu])
        refine tkY 7 (at_lit rfl) (v := ?_) (Or.inl ⟨by rfl, ?_⟩) ?_
        rotate_left
        focus (intro _ h; (try dsimp only at h); go_simp; (try with_reducible rfl); done)
        (try simp only [Act.put, sAr, sZe, sSu])
        refine tkY 8 (at_lit rfl) (v := ?_) (Or.inl ⟨by rfl, ?_⟩) ?_
        rotate_left
        focus (intro _ h; (try dsimp only at h); go_simp; (try with_reducible rfl); done)
        (try simp only [Act.put, sAr, sZe, sSu])
        refine tkY 9 (at_lit rfl) (v := ?_) (Or.inl ⟨by rfl, ?_⟩) ?_
        rotate_left
        focus (intro _ h; (try dsimp only at h); go_simp; (try with_reducible rfl); done)
        (try simp only [Act.put, sAr, sZe, sSu])
        refine tkY 10 (at_lit rfl) (v := ?_) (Or.inl ⟨by rfl, ?_⟩) ?_
        rotate_left
        focus (intro _ h; (try dsimp only at h); go_simp; (try with_reducible rfl); done)
        (try simp only [Act.put, sAr, sZe, sSu])
        refine tkY 12 (at_lit rfl) (v := ?_) (Or.inl ⟨by rfl, ?_⟩) ?_
        rotate_left
        focus (intro _ h; (try dsimp only at h); go_simp; (try with_reducible rfl); done)
        (try simp only [Act.put, sAr, sZe, sSu])
        refine wpAnyH_ready (rs := [11]) (by kernel_rfl) (by simp) ?_
        refine AllReadyH.cons (o := _) (at_lit rfl) (fun K hK => ?_) AllReadyH.nil
        go_simp
        go_at_call 16
        refine ((lw_set HA.out false hr l.pg l.o l.f l.p l.w l.h l.k l.u l.d HL.out.2.2.1 HL.out.2.2.2.2.2).mono ?_)
        rintro e wB ⟨er, rfl, vB, wsB, LB, hB, -, -, hm⟩
        have HB := Lib.hid hB
        have RB := Lib.hid (HA.out.tab.row hm RA.out (by decide) (by decide) (by decide))
        clear hB hm
        go_wp2_with fail
        refine hK.out _ _ ?_ (fun hHeld => ?_)
        focus exact ⟨HB.out.row.cell 0, RB.out.cell 2, RB.out.cell 3, RB.out.cell 5, RB.out.cell 6, RB.out.cell 7, RB.out.cell 8, RB.out.cell 9, RB.out.cell 10, RB.out.cell 11⟩
        clear hK
        (try simp only [Act.put, sAr, sZe, sSu])
        refine tkY 13 (at_lit rfl) (v := ?_) (Or.inl ⟨by rfl, ?_⟩) ?_
        rotate_left
        focus (intro _ h; (try dsimp only at h); go_simp; (try with_reducible rfl); done)
        (try simp only [Act.put, sAr, sZe, sSu])
        refine tkY 14 (at_lit rfl) (v := ?_) (Or.inl ⟨by rfl, ?_⟩) ?_
        rotate_left
        focus (intro _ h; (try dsimp only at h); go_simp; (try with_reducible rfl); done)
        (try simp only [Act.put, sAr, sZe, sSu])
        refine wpAnyH_done (by kernel_rfl) ?_ _
        go_wp2_with fail
        go_ret
        exact ⟨⟨_, rfl⟩, _, _, _, _, _, _, _, _, HB.out⟩
  · have hwb : (wrO l.pg l.o == 0) = false := by simpa using hwo
    have H6 : Hid (Lw w w4 k v ws L v0 L0 v1 L1 lf (K + 8)) := ⟨H4.out.tab, H4.out.inv, H4.out.all, H4.out.row, H4.out.ref0, H4.out.ref1, by have := H4.out.len0; omega, by have := H4.out.len1; omega, H4.out.below, H4.out.lo, H4.out.acts⟩
    generalize wrO l.pg l.o = eo at hwo hwb ⊢
    go_upto_region 21 with (fail)
    have hs2 : (fun v => v.cell? ⟨k.g, 0, none⟩ = some (.pointer (some ⟨k.s.x, 0, none⟩)) ∧ v.cell? ⟨q, 2, none⟩ = some (.int .i64 l.pg) ∧ v.cell? ⟨q, 3, none⟩ = some (.int .i64 l.o) ∧ v.cell? ⟨q, 5, none⟩ = some (.int .i64 l.f) ∧ v.cell? ⟨q, 6, none⟩ = some (.bool l.p) ∧ v.cell? ⟨q, 7, none⟩ = some (.bool l.w) ∧ v.cell? ⟨q, 8, none⟩ = some (.bool l.h) ∧ v.cell? ⟨q, 9, none⟩ = some (.bool l.k) ∧ v.cell? ⟨q, 10, none⟩ = some (.bool l.u) ∧ v.cell? ⟨q, 11, none⟩ = some (.bool l.d)) w4.drew := ⟨H6.out.row.cell 0, R4.out.cell 2, R4.out.cell 3, R4.out.cell 5, R4.out.cell 6, R4.out.cell 7, R4.out.cell 8, R4.out.cell 9, R4.out.cell 10, R4.out.cell 11⟩
    refine wp_region_held_drew (S := (fun v => v.cell? ⟨k.g, 0, none⟩ = some (.pointer (some ⟨k.s.x, 0, none⟩)) ∧ v.cell? ⟨q, 2, none⟩ = some (.int .i64 l.pg) ∧ v.cell? ⟨q, 3, none⟩ = some (.int .i64 l.o) ∧ v.cell? ⟨q, 5, none⟩ = some (.int .i64 l.f) ∧ v.cell? ⟨q, 6, none⟩ = some (.bool l.p) ∧ v.cell? ⟨q, 7, none⟩ = some (.bool l.w) ∧ v.cell? ⟨q, 8, none⟩ = some (.bool l.h) ∧ v.cell? ⟨q, 9, none⟩ = some (.bool l.k) ∧ v.cell? ⟨q, 10, none⟩ = some (.bool l.u) ∧ v.cell? ⟨q, 11, none⟩ = some (.bool l.d))) (by kernel_rfl) hs2 (fun hHeld => ?_)
    have HA : Hid (Lw w w4.drew k v ws L v0 L0 v1 L1 lf (K + 8)) := Lib.hid (H6.out.call (drewN_b (Below.refl _ _) 1))
    have RA : Hid (Row w4.drew q 52 (acCells l)) := R4.out
    generalize w4.drew = wA at hHeld hs2 HA RA ⊢
    refine tkY 0 (at_lit rfl) (v := ?_) (Or.inl ⟨by rfl, ?_⟩) ?_
    rotate_left
    focus (intro _ h; (try dsimp only at h); go_simp; (try with_reducible rfl); done)
    (try simp only [Act.put, sAr, sZe, sSu])
    refine tkY 1 (at_lit rfl) (v := ?_) (Or.inl ⟨by rfl, ?_⟩) ?_
    rotate_left
    focus (intro _ h; (try dsimp only at h); go_simp; (try with_reducible rfl); done)
    (try simp only [Act.put, sAr, sZe, sSu])
    refine tkY 2 (at_lit rfl) (v := ?_) (Or.inl ⟨by rfl, ?_⟩) ?_
    rotate_left
    focus (intro _ h; (try dsimp only at h); go_simp; (try with_reducible rfl); done)
    (try simp only [Act.put, sAr, sZe, sSu])
    refine tkY 3 (at_lit rfl) (v := ?_) (Or.inl ⟨by rfl, ?_⟩) ?_
    rotate_left
    focus (intro _ h; (try dsimp only at h); go_simp; (try with_reducible rfl); done)
    (try simp only [Act.put, sAr, sZe, sSu])
    refine tkY 4 (at_lit rfl) (v := ?_) (Or.inl ⟨by rfl, ?_⟩) ?_
    rotate_left
    focus (intro _ h; (try dsimp only at h); go_simp; (try with_reducible rfl); done)
    (try simp only [Act.put, sAr, sZe, sSu])
    refine tkY 5 (at_lit rfl) (v := ?_) (Or.inl ⟨by rfl, ?_⟩) ?_
    rotate_left
    focus (intro _ h; (try dsimp only at h); go_simp; (try with_reducible rfl); done)
    (try simp only [Act.put, sAr, sZe, sSu])
    refine tkY 6 (at_lit rfl) (v := ?_) (Or.inl ⟨by rfl, ?_⟩) ?_
    rotate_left
    focus (intro _ h; (try dsimp only at h); go_simp; (try with_reducible rfl); done)
    (try simp only [Act.put, sAr, sZe, sSu])
    refine tkY 7 (at_lit rfl) (v := ?_) (Or.inl ⟨by rfl, ?_⟩) ?_
    rotate_left
    focus (intro _ h; (try dsimp only at h); go_simp; (try with_reducible rfl); done)
    (try simp only [Act.put, sAr, sZe, sSu])
    refine tkY 8 (at_lit rfl) (v := ?_) (Or.inl ⟨by rfl, ?_⟩) ?_
    rotate_left
    focus (intro _ h; (try dsimp only at h); go_simp; (try with_reducible rfl); done)
    (try simp only [Act.put, sAr, sZe, sSu])
    refine tkY 9 (at_lit rfl) (v := ?_) (Or.inl ⟨by rfl, ?_⟩) ?_
    rotate_left
    focus (intro _ h; (try dsimp only at h); go_simp; (try with_reducible rfl); done)
    (try simp only [Act.put, sAr, sZe, sSu])
    refine tkY 10 (at_lit rfl) (v := ?_) (Or.inl ⟨by rfl, ?_⟩) ?_
    rotate_left
    focus (intro _ h; (try dsimp only at h); go_simp; (try with_reducible rfl); done)
    (try simp only [Act.put, sAr, sZe, sSu])
    refine tkY 12 (at_lit rfl) (v := ?_) (Or.inl ⟨by rfl, ?_⟩) ?_
    rotate_left
    focus (intro _ h; (try dsimp only at h); go_simp; (try with_reducible rfl); done)
    (try simp only [Act.put, sAr, sZe, sSu])
    refine wpAnyH_ready (rs := [11]) (by kernel_rfl) (by simp) ?_
    refine AllReadyH.cons (o := _) (at_lit rfl) (fun K hK => ?_) AllReadyH.nil
    go_simp
    go_at_call 16
    refine ((lw_set HA.out false hr l.pg l.o l.f l.p l.w l.h l.k l.u l.d HL.out.2.2.1 HL.out.2.2.2.2.2).mono ?_)
    rintro e wB ⟨er, rfl, vB, wsB, LB, hB, -, -, hm⟩
    have HB := Lib.hid hB
    have RB := Lib.hid (HA.out.tab.row hm RA.out (by decide) (by decide) (by decide))
    clear hB hm
    go_wp2_with fail
    refine hK.out _ _ ?_ (fun hHeld => ?_)
    focus exact ⟨HB.out.row.cell 0, RB.out.cell 2, RB.out.cell 3, RB.out.cell 5, RB.out.cell 6, RB.out.cell 7, RB.out.cell 8, RB.out.cell 9, RB.out.cell 10, RB.out.cell 11⟩
    clear hK
    (try simp only [Act.put, sAr, sZe, sSu])
    refine tkY 13 (at_lit rfl) (v := ?_) (Or.inl ⟨by rfl, ?_⟩) ?_
    rotate_left
    focus (intro _ h; (try dsimp only at h); go_simp; (try with_reducible rfl); done)
    (try simp only [Act.put, sAr, sZe, sSu])
    refine tkY 14 (at_lit rfl) (v := ?_) (Or.inl ⟨by rfl, ?_⟩) ?_
    rotate_left
    focus (intro _ h; (try dsimp only at h); go_simp; (try with_reducible rfl); done)
    (try simp only [Act.put, sAr, sZe, sSu])
    refine wpAnyH_done (by kernel_rfl) ?_ _
    go_wp2_with fail
    go_ret
    exact ⟨⟨_, rfl⟩, _, _, _, _, _, _, _, _, HB.out⟩
set_option maxRecDepth 100000 in
set_option maxHeartbeats 4000000 in
theorem one_set1 (h : Lw w W k v ws L v0 L0 v1 L1 lf K) (hK : K + 8 ≤ 5000) (hr : Fits k.r1) (l : Ac) (hl : IsAc l) (hb : bits .and .i64 l.r 1 = 1) (hk : l.kd = 4) : Calls Try.prog 43 #[.pointer (some ⟨k.g, 0, none⟩), .agg (acCells l).toArray] W fun e W' => (∃ b, e = .returned (.bool b)) ∧ Run w W' k (K + 8) := by
  obtain ⟨q, hq⟩ : ∃ q, q = W.heap.size := ⟨_, rfl⟩
  have HQ := Lib.hid hq
  obtain ⟨w1, hw1⟩ : ∃ w1, w1 = W.alloc (.cells #[.int .i64 l.kd, .int .i64 l.r, .int .i64 l.pg, .int .i64 l.o, .int .i64 l.n, .int .i64 l.f, .bool l.p, .bool l.w, .bool l.h, .bool l.k, .bool l.u, .bool l.d] 52) := ⟨_, rfl⟩
  have HW1 := Lib.hid hw1
  have r1 : Row w1 q 52 (acCells l) := by rw [hw1, hq]; exact Row.new W _ (acCells l)
  have R1 := Lib.hid r1
  have h1 := h.call (hw1 ▸ below_new W _ _)
  have c0 : w1.cell? ⟨q, 0, none⟩ = some (.int .i64 l.kd) := r1.cell 0
  have c1 : w1.cell? ⟨q, 1, none⟩ = some (.int .i64 l.r) := r1.cell 1
  have g3 : w1.cell? ⟨k.g, 4, none⟩ = some (.int .i64 k.r1) := h1.row.cell 4
  have g5 : w1.cell? ⟨k.g, 6, none⟩ = some (.pointer (some ⟨k.x1, 0, none⟩)) := h1.row.cell 6
  have H1 := Lib.hid h1
  have HL := Lib.hid hl
  have HHK := Lib.hid hK
  rw [hk] at c0
  have HKD := Lib.hid hk
  clear hk
  unfold acCells
  clear hq hw1 r1 h h1 hl
  go_enter Try.func43, Try.ntmps43
  go_upto_region 1 with (fail)
  rw [← HW1.out, ← HQ.out]
  go_upto_region 2 with (fail)
  clear hb
  go_quiet (fail)
  have H2 := Lib.hid (H1.out.call (drewN_b (Below.refl _ _) nq))
  have R2 : Hid (Row (w1.drewN nq) q 52 (acCells l)) := R1.out
  have c0 : (w1.drewN nq).cell? ⟨q, 0, none⟩ = some (.int .i64 4) := HKD.out ▸ R2.out.cell 0
  generalize w1.drewN nq = w2 at H2 R2 c0 ⊢
  clear c1 g3 g5 H1 R1 HW1
  have q2 : w2.cell? ⟨q, 2, none⟩ = some (.int .i64 l.pg) := R2.out.cell 2
  have q3 : w2.cell? ⟨q, 3, none⟩ = some (.int .i64 l.o) := R2.out.cell 3
  have q5 : w2.cell? ⟨q, 5, none⟩ = some (.int .i64 l.f) := R2.out.cell 5
  have q6 : w2.cell? ⟨q, 6, none⟩ = some (.bool l.p) := R2.out.cell 6
  have q7 : w2.cell? ⟨q, 7, none⟩ = some (.bool l.w) := R2.out.cell 7
  have q8 : w2.cell? ⟨q, 8, none⟩ = some (.bool l.h) := R2.out.cell 8
  have q9 : w2.cell? ⟨q, 9, none⟩ = some (.bool l.k) := R2.out.cell 9
  have q10 : w2.cell? ⟨q, 10, none⟩ = some (.bool l.u) := R2.out.cell 10
  have q11 : w2.cell? ⟨q, 11, none⟩ = some (.bool l.d) := R2.out.cell 11
  have hwr := wrong8_any l.pg l.o w2
  have hlf := leaf8_any (w := w2) l.o l.f l.p l.w l.h l.k l.u l.d
  go_wp2_with fail
  refine hwr.mono ?_
  rintro e w3 ⟨rfl, rfl⟩
  clear hwr
  go_wp2_with fail
  refine hlf.mono ?_
  rintro e w3 ⟨ok, rfl, hb3⟩
  obtain ⟨z, hz⟩ : ∃ z, z = w3.heap.size := ⟨_, rfl⟩
  obtain ⟨w4, hw4⟩ : ∃ w4, w4 = w3.alloc (.cells #[.int .i64 l.f, .bool l.p, .bool l.w, .bool (decide (0 < l.o)), .bool l.k, .bool l.u, .bool l.d] 28) := ⟨_, rfl⟩
  have b4 : Below w2.heap.size w2 w4 := hb3.trans (hw4 ▸ (below_new w3 _ _).mono hb3.size)
  have H4 := Lib.hid (H2.out.call b4)
  have R4 := Lib.hid (R2.out.below b4 R2.out.lt)
  have Z4 : Hid (Row w4 z 28 [.int .i64 l.f, .bool l.p, .bool l.w, .bool (decide (0 < l.o)), .bool l.k, .bool l.u, .bool l.d]) := by show Row _ _ _ _; rw [hw4, hz]; exact Row.new w3 _ _
  clear hlf q2 q3 q5 q6 q7 q8 q9 q10 q11 hb3 b4 c0 H2 R2
  go_upto_region 11 with (fail)
  rw [← hw4, ← hz]
  clear hw4 hz
  by_cases hwo : wrO l.pg l.o = 0
  · obtain ⟨hwo1, p0, p1, -⟩ := wrO_ok hwo
    have hAt := at_is H4.out.ref1 l.pg l.o p0 (by omega)
    have hfo := at_found L1 l.pg l.o
    rw [hwo]
    generalize atF L1 l.pg l.o = ka at hAt hfo
    clear hwo1 p0 p1 hwo
    have q2 : w4.cell? ⟨q, 2, none⟩ = some (.int .i64 l.pg) := R4.out.cell 2
    have q3 : w4.cell? ⟨q, 3, none⟩ = some (.int .i64 l.o) := R4.out.cell 3
    go_wp2_with fail
    refine hAt.mono ?_
    rintro e w5 ⟨rfl, n5, rfl⟩
    have H5 : Hid (Lw w (w4.drewN n5) k v ws L v0 L0 v1 L1 lf K) := Lib.hid (H4.out.call (drewN_b (Below.refl _ _) n5))
    have R5 : Hid (Row (w4.drewN n5) q 52 (acCells l)) := R4.out
    have Z5 : Hid (Row (w4.drewN n5) z 28 [.int .i64 l.f, .bool l.p, .bool l.w, .bool (decide (0 < l.o)), .bool l.k, .bool l.u, .bool l.d]) := Z4.out
    generalize w4.drewN n5 = w5 at H5 R5 Z5 ⊢
    clear hAt q2 q3 H4 R4 Z4
    have H6 : Hid (Lw w w5 k v ws L v0 L0 v1 L1 lf (K + 8)) := ⟨H5.out.tab, H5.out.inv, H5.out.all, H5.out.row, H5.out.ref0, H5.out.ref1, by have := H5.out.len0; omega, by have := H5.out.len1; omega, H5.out.below, H5.out.lo, H5.out.acts⟩
    cases ok
    · clear hfo
      go_upto_region 21 with (fail)
      have hs2 : (fun v => v.cell? ⟨k.g, 0, none⟩ = some (.pointer (some ⟨k.s.x, 0, none⟩)) ∧ v.cell? ⟨q, 2, none⟩ = some (.int .i64 l.pg) ∧ v.cell? ⟨q, 3, none⟩ = some (.int .i64 l.o) ∧ v.cell? ⟨q, 5, none⟩ = some (.int .i64 l.f) ∧ v.cell? ⟨q, 6, none⟩ = some (.bool l.p) ∧ v.cell? ⟨q, 7, none⟩ = some (.bool l.w) ∧ v.cell? ⟨q, 8, none⟩ = some (.bool l.h) ∧ v.cell? ⟨q, 9, none⟩ = some (.bool l.k) ∧ v.cell? ⟨q, 10, none⟩ = some (.bool l.u) ∧ v.cell? ⟨q, 11, none⟩ = some (.bool l.d)) w5.drew := ⟨H6.out.row.cell 0, R5.out.cell 2, R5.out.cell 3, R5.out.cell 5, R5.out.cell 6, R5.out.cell 7, R5.out.cell 8, R5.out.cell 9, R5.out.cell 10, R5.out.cell 11⟩
      refine wp_region_held_drew (S := (fun v => v.cell? ⟨k.g, 0, none⟩ = some (.pointer (some ⟨k.s.x, 0, none⟩)) ∧ v.cell? ⟨q, 2, none⟩ = some (.int .i64 l.pg) ∧ v.cell? ⟨q, 3, none⟩ = some (.int .i64 l.o) ∧ v.cell? ⟨q, 5, none⟩ = some (.int .i64 l.f) ∧ v.cell? ⟨q, 6, none⟩ = some (.bool l.p) ∧ v.cell? ⟨q, 7, none⟩ = some (.bool l.w) ∧ v.cell? ⟨q, 8, none⟩ = some (.bool l.h) ∧ v.cell? ⟨q, 9, none⟩ = some (.bool l.k) ∧ v.cell? ⟨q, 10, none⟩ = some (.bool l.u) ∧ v.cell? ⟨q, 11, none⟩ = some (.bool l.d))) (by kernel_rfl) hs2 (fun hHeld => ?_)
      have HA : Hid (Lw w w5.drew k v ws L v0 L0 v1 L1 lf (K + 8)) := Lib.hid (H6.out.call (drewN_b (Below.refl _ _) 1))
      have RA : Hid (Row w5.drew q 52 (acCells l)) := R5.out
      generalize w5.drew = wA at hHeld hs2 HA RA ⊢
      refine tkY 0 (at_lit rfl) (v := ?_) (Or.inl ⟨by rfl, ?_⟩) ?_
      rotate_left
      focus (intro _ h; (try dsimp only at h); go_simp; (try with_reducible rfl); done)
      (try simp only [Act.put, sAr, sZe, sSu])
      refine tkY 1 (at_lit rfl) (v := ?_) (Or.inl ⟨by rfl, ?_⟩) ?_
      rotate_left
      focus (intro _ h; (try dsimp only at h); go_simp; (try with_reducible rfl); done)
      (try simp only [Act.put, sAr, sZe, sSu])
      refine tkY 2 (at_lit rfl) (v := ?_) (Or.inl ⟨by rfl, ?_⟩) ?_
      rotate_left
      focus (intro _ h; (try dsimp only at h); go_simp; (try with_reducible rfl); done)
      (try simp only [Act.put, sAr, sZe, sSu])
      refine tkY 3 (at_lit rfl) (v := ?_) (Or.inl ⟨by rfl, ?_⟩) ?_
      rotate_left
      focus (intro _ h; (try dsimp only at h); go_simp; (try with_reducible rfl); done)
      (try simp only [Act.put, sAr, sZe, sSu])
      refine tkY 4 (at_lit rfl) (v := ?_) (Or.inl ⟨by rfl, ?_⟩) ?_
      rotate_left
      focus (intro _ h; (try dsimp only at h); go_simp; (try with_reducible rfl); done)
      (try simp only [Act.put, sAr, sZe, sSu])
      refine tkY 5 (at_lit rfl) (v := ?_) (Or.inl ⟨by rfl, ?_⟩) ?_
      rotate_left
      focus (intro _ h; (try dsimp only at h); go_simp; (try with_reducible rfl); done)
      (try simp only [Act.put, sAr, sZe, sSu])
      refine tkY 6 (at_lit rfl) (v := ?_) (Or.inl ⟨by rfl, ?_⟩) ?_
      rotate_left
      focus (intro _ h; (try dsimp only at h); go_simp; (try with_reducible rfl); done)
      (try simp only [Act.put, sAr, sZe, sSu])
      refine tkY 7 (at_lit rfl) (v := ?_) (Or.inl ⟨by rfl, ?_⟩) ?_
      rotate_left
      focus (intro _ h; (try dsimp only at h); go_simp; (try with_reducible rfl); done)
      (try simp only [Act.put, sAr, sZe, sSu])
      refine tkY 8 (at_lit rfl) (v := ?_) (Or.inl ⟨by rfl, ?_⟩) ?_
      rotate_left
      focus (intro _ h; (try dsimp only at h); go_simp; (try with_reducible rfl); done)
      (try simp only [Act.put, sAr, sZe, sSu])
      refine tkY 9 (at_lit rfl) (v := ?_) (Or.inl ⟨by rfl, ?_⟩) ?_
      rotate_left
      focus (intro _ h; (try dsimp only at h); go_simp; (try with_reducible rfl); done)
      (try simp only [Act.put, sAr, sZe, sSu])
      refine tkY 10 (at_lit rfl) (v := ?_) (Or.inl ⟨by rfl, ?_⟩) ?_
      rotate_left
      focus (intro _ h; (try dsimp only at h); go_simp; (try with_reducible rfl); done)
      (try simp only [Act.put, sAr, sZe, sSu])
      refine tkY 12 (at_lit rfl) (v := ?_) (Or.inl ⟨by rfl, ?_⟩) ?_
      rotate_left
      focus (intro _ h; (try dsimp only at h); go_simp; (try with_reducible rfl); done)
      (try simp only [Act.put, sAr, sZe, sSu])
      refine wpAnyH_ready (rs := [11]) (by kernel_rfl) (by simp) ?_
      refine AllReadyH.cons (o := _) (at_lit rfl) (fun K hK => ?_) AllReadyH.nil
      go_simp
      go_at_call 16
      refine ((lw_set HA.out true hr l.pg l.o l.f l.p l.w l.h l.k l.u l.d HL.out.2.2.1 HL.out.2.2.2.2.2).mono ?_)
      rintro e wB ⟨er, rfl, vB, wsB, LB, hB, -, -, hm⟩
      have HB := Lib.hid hB
      have RB := Lib.hid (HA.out.tab.row hm RA.out (by decide) (by decide) (by decide))
      clear hB hm
      go_wp2_with fail
      refine hK.out _ _ ?_ (fun hHeld => ?_)
      focus exact ⟨HB.out.row.cell 0, RB.out.cell 2, RB.out.cell 3, RB.out.cell 5, RB.out.cell 6, RB.out.cell 7, RB.out.cell 8, RB.out.cell 9, RB.out.cell 10, RB.out.cell 11⟩
      clear hK
      (try simp only [Act.put, sAr, sZe, sSu])
      refine tkY 13 (at_lit rfl) (v := ?_) (Or.inl ⟨by rfl, ?_⟩) ?_
      rotate_left
      focus (intro _ h; (try dsimp only at h); go_simp; (try with_reducible rfl); done)
      (try simp only [Act.put, sAr, sZe, sSu])
      refine tkY 14 (at_lit rfl) (v := ?_) (Or.inl ⟨by rfl, ?_⟩) ?_
      rotate_left
      focus (intro _ h; (try dsimp only at h); go_simp; (try with_reducible rfl); done)
      (try simp only [Act.put, sAr, sZe, sSu])
      refine wpAnyH_done (by kernel_rfl) ?_ _
      go_wp2_with fail
      go_ret
      exact ⟨⟨_, rfl⟩, _, _, _, _, _, _, _, _, HB.out⟩
    · rcases hfo with rfl | ⟨j, hj, rfl, -, -⟩
      · skip
        go_upto_region 21 with (fail)
        have hs2 : (fun v => v.cell? ⟨k.g, 0, none⟩ = some (.pointer (some ⟨k.s.x, 0, none⟩)) ∧ v.cell? ⟨q, 2, none⟩ = some (.int .i64 l.pg) ∧ v.cell? ⟨q, 3, none⟩ = some (.int .i64 l.o) ∧ v.cell? ⟨q, 5, none⟩ = some (.int .i64 l.f) ∧ v.cell? ⟨q, 6, none⟩ = some (.bool l.p) ∧ v.cell? ⟨q, 7, none⟩ = some (.bool l.w) ∧ v.cell? ⟨q, 8, none⟩ = some (.bool l.h) ∧ v.cell? ⟨q, 9, none⟩ = some (.bool l.k) ∧ v.cell? ⟨q, 10, none⟩ = some (.bool l.u) ∧ v.cell? ⟨q, 11, none⟩ = some (.bool l.d)) w5.drew := ⟨H6.out.row.cell 0, R5.out.cell 2, R5.out.cell 3, R5.out.cell 5, R5.out.cell 6, R5.out.cell 7, R5.out.cell 8, R5.out.cell 9, R5.out.cell 10, R5.out.cell 11⟩
        refine wp_region_held_drew (S := (fun v => v.cell? ⟨k.g, 0, none⟩ = some (.pointer (some ⟨k.s.x, 0, none⟩)) ∧ v.cell? ⟨q, 2, none⟩ = some (.int .i64 l.pg) ∧ v.cell? ⟨q, 3, none⟩ = some (.int .i64 l.o) ∧ v.cell? ⟨q, 5, none⟩ = some (.int .i64 l.f) ∧ v.cell? ⟨q, 6, none⟩ = some (.bool l.p) ∧ v.cell? ⟨q, 7, none⟩ = some (.bool l.w) ∧ v.cell? ⟨q, 8, none⟩ = some (.bool l.h) ∧ v.cell? ⟨q, 9, none⟩ = some (.bool l.k) ∧ v.cell? ⟨q, 10, none⟩ = some (.bool l.u) ∧ v.cell? ⟨q, 11, none⟩ = some (.bool l.d))) (by kernel_rfl) hs2 (fun hHeld => ?_)
        have HA : Hid (Lw w w5.drew k v ws L v0 L0 v1 L1 lf (K + 8)) := Lib.hid (H6.out.call (drewN_b (Below.refl _ _) 1))
        have RA : Hid (Row w5.drew q 52 (acCells l)) := R5.out
        generalize w5.drew = wA at hHeld hs2 HA RA ⊢
        refine tkY 0 (at_lit rfl) (v := ?_) (Or.inl ⟨by rfl, ?_⟩) ?_
        rotate_left
        focus (intro _ h; (try dsimp only at h); go_simp; (try with_reducible rfl); done)
        (try simp only [Act.put, sAr, sZe, sSu])
        refine tkY 1 (at_lit rfl) (v := ?_) (Or.inl ⟨by rfl, ?_⟩) ?_
        rotate_left
        focus (intro _ h; (try dsimp only at h); go_simp; (try with_reducible rfl); done)
        (try simp only [Act.put, sAr, sZe, sSu])
        refine tkY 2 (at_lit rfl) (v := ?_) (Or.inl ⟨by rfl, ?_⟩) ?_
        rotate_left
        focus (intro _ h; (try dsimp only at h); go_simp; (try with_reducible rfl); done)
        (try simp only [Act.put, sAr, sZe, sSu])
        refine tkY 3 (at_lit rfl) (v := ?_) (Or.inl ⟨by rfl, ?_⟩) ?_
        rotate_left
        focus (intro _ h; (try dsimp only at h); go_simp; (try with_reducible rfl); done)
        (try simp only [Act.put, sAr, sZe, sSu])
        refine tkY 4 (at_lit rfl) (v := ?_) (Or.inl ⟨by rfl, ?_⟩) ?_
        rotate_left
        focus (intro _ h; (try dsimp only at h); go_simp; (try with_reducible rfl); done)
        (try simp only [Act.put, sAr, sZe, sSu])
        refine tkY 5 (at_lit rfl) (v := ?_) (Or.inl ⟨by rfl, ?_⟩) ?_
        rotate_left
        focus (intro _ h; (try dsimp only at h); go_simp; (try with_reducible rfl); done)
        (try simp only [Act.put, sAr, sZe, sSu])
        refine tkY 6 (at_lit rfl) (v := ?_) (Or.inl ⟨by rfl, ?_⟩) ?_
        rotate_left
        focus (intro _ h; (try dsimp only at h); go_simp; (try with_reducible rfl); done)
        (try simp only [Act.put, sAr, sZe, sSu])
        refine tkY 7 (at_lit rfl) (v := ?_) (Or.inl ⟨by rfl, ?_⟩) ?_
        rotate_left
        focus (intro _ h; (try dsimp only at h); go_simp; (try with_reducible rfl); done)
        (try simp only [Act.put, sAr, sZe, sSu])
        refine tkY 8 (at_lit rfl) (v := ?_) (Or.inl ⟨by rfl, ?_⟩) ?_
        rotate_left
        focus (intro _ h; (try dsimp only at h); go_simp; (try with_reducible rfl); done)
        (try simp only [Act.put, sAr, sZe, sSu])
        refine tkY 9 (at_lit rfl) (v := ?_) (Or.inl ⟨by rfl, ?_⟩) ?_
        rotate_left
        focus (intro _ h; (try dsimp only at h); go_simp; (try with_reducible rfl); done)
        (try simp only [Act.put, sAr, sZe, sSu])
        refine tkY 10 (at_lit rfl) (v := ?_) (Or.inl ⟨by rfl, ?_⟩) ?_
        rotate_left
        focus (intro _ h; (try dsimp only at h); go_simp; (try with_reducible rfl); done)
        (try simp only [Act.put, sAr, sZe, sSu])
        refine tkY 12 (at_lit rfl) (v := ?_) (Or.inl ⟨by rfl, ?_⟩) ?_
        rotate_left
        focus (intro _ h; (try dsimp only at h); go_simp; (try with_reducible rfl); done)
        (try simp only [Act.put, sAr, sZe, sSu])
        refine wpAnyH_ready (rs := [11]) (by kernel_rfl) (by simp) ?_
        refine AllReadyH.cons (o := _) (at_lit rfl) (fun K hK => ?_) AllReadyH.nil
        go_simp
        go_at_call 16
        refine ((lw_set HA.out true hr l.pg l.o l.f l.p l.w l.h l.k l.u l.d HL.out.2.2.1 HL.out.2.2.2.2.2).mono ?_)
        rintro e wB ⟨er, rfl, vB, wsB, LB, hB, -, -, hm⟩
        have HB := Lib.hid hB
        have RB := Lib.hid (HA.out.tab.row hm RA.out (by decide) (by decide) (by decide))
        clear hB hm
        go_wp2_with fail
        refine hK.out _ _ ?_ (fun hHeld => ?_)
        focus exact ⟨HB.out.row.cell 0, RB.out.cell 2, RB.out.cell 3, RB.out.cell 5, RB.out.cell 6, RB.out.cell 7, RB.out.cell 8, RB.out.cell 9, RB.out.cell 10, RB.out.cell 11⟩
        clear hK
        (try simp only [Act.put, sAr, sZe, sSu])
        refine tkY 13 (at_lit rfl) (v := ?_) (Or.inl ⟨by rfl, ?_⟩) ?_
        rotate_left
        focus (intro _ h; (try dsimp only at h); go_simp; (try with_reducible rfl); done)
        (try simp only [Act.put, sAr, sZe, sSu])
        refine tkY 14 (at_lit rfl) (v := ?_) (Or.inl ⟨by rfl, ?_⟩) ?_
        rotate_left
        focus (intro _ h; (try dsimp only at h); go_simp; (try with_reducible rfl); done)
        (try simp only [Act.put, sAr, sZe, sSu])
        refine wpAnyH_done (by kernel_rfl) ?_ _
        go_wp2_with fail
        go_ret
        exact ⟨⟨_, rfl⟩, _, _, _, _, _, _, _, _, HB.out⟩
      · obtain ⟨A0, c0, hv⟩ := H5.out.ref1.ms.form
        subst hv
        obtain ⟨N, hN⟩ : ∃ N, N = L1.length := ⟨_, rfl⟩
        obtain ⟨-, ga, rfl, -, -⟩ := H5.out.ref1.ms.blk (by omega)
        obtain ⟨A', c', w6, r6, m6, b6⟩ := H5.out.ref1.ms.copy8 H5.out.ref1.len
        obtain ⟨-, g6, rfl, hg6, -⟩ := m6.blk (by omega)
        obtain ⟨W1, hW1⟩ : ∃ W1, W1 = w5.alloc (.cells #[] 94) := ⟨_, rfl⟩
        have x1 : W1.cell? ⟨k.x1, 0, none⟩ = some (.slice (some ⟨ga, 0, none⟩) N c0) := by rw [hW1, hN]; exact (H5.out.ref1.call ((Below.refl _ _).alloc (Nat.le_refl _) _)).top.cell 0
        rw [hW1] at x1
        have hx6 := H5.out.ref1.top.below b6 H5.out.ref1.top.lt
        have x6 : w6.cell? ⟨k.x1, 0, none⟩ = some (.slice (some ⟨ga, 0, none⟩) N c0) := by rw [hN]; exact hx6.cell 0
        have y6 := hx6.frozen 0
        rw [← hN] at r6 m6
        have HM6 := Lib.hid (And.intro m6 (And.intro b6 (And.intro hg6 hN)))
        have HX6 := Lib.hid hx6
        have HJ := Lib.hid hj
        have j1 : (j : Int) < N := by omega
        have j0 : (0 : Int) ≤ j := by omega
        clear m6 b6 hx6 hg6 hN hj hW1
        go_upto_region 15 with (at_builtin; refine wpList_append_run rfl _ _ 53 rfl (.slice (some ⟨w5.heap.size, 0, none⟩) 0 0) (.slice (some ⟨ga, 0, none⟩) N c0) rfl rfl r6 ?_)
        obtain ⟨w7, hw7⟩ : ∃ w7, w7 = w6.setCell ⟨k.x1, 0, none⟩ (.slice (some ⟨g6, 0, none⟩) N c') := ⟨_, rfl⟩
        have hf7 : Foot (fun z => z = k.x1) w6 w7 := by rw [hw7]; exact Foot.grown (b := k.x1) (grown_set _ _ _ _) rfl
        have hx7 : Row w7 k.x1 65 [.slice (some ⟨g6, 0, none⟩) N c'] := by rw [hw7]; exact HX6.out.set_ 0 _
        have hz7 : Row w7 z 28 [.int .i64 l.f, .bool l.p, .bool l.w, .bool (decide (0 < l.o)), .bool l.k, .bool l.u, .bool l.d] := hf7.row (Z5.out.below HM6.out.2.1 Z5.out.lt) (fun e => (Z5.out.apart H5.out.ref1.top (by decide)) e)
        have hm7 : Ms w7 w5.heap.size (.slice (some ⟨g6, 0, none⟩) N c') L1 := HM6.out.1.keep8 fun y hy => by
          injection hy with hy
          subst hy
          refine hf7.keep g6 (HM6.out.1.lt g6 rfl).2 fun e => ?_
          have := HM6.out.2.2.1
          have := H5.out.ref1.top.lt
          omega
        have hq7 : Row w7 q 52 (acCells l) := hf7.row (R5.out.below HM6.out.2.1 R5.out.lt) (fun e => (R5.out.apart H5.out.ref1.top (by decide)) e)
        rw [← hw7]
        obtain ⟨V, hV⟩ : ∃ V, V = w7.drew := ⟨_, rfl⟩
        have x7 : w7.cell? ⟨k.x1, 0, none⟩ = some (.slice (some ⟨g6, 0, none⟩) N c') := hx7.cell 0
        obtain ⟨⟨z0, z1, z2, z3, z4, z5, z6⟩, -⟩ := hz7.seven
        have mV : Ms V w5.heap.size (.slice (some ⟨g6, 0, none⟩) N c') L1 := by rw [hV]; exact hm7
        have xV : Row V k.x1 65 [.slice (some ⟨g6, 0, none⟩) N c'] := by rw [hV]; exact hx7
        have qV : Row V q 52 (acCells l) := by rw [hV]; exact hq7
        have fV : Foot (fun z => z = k.x1 ∨ z = g6) w6 V := by rw [hV]; exact ⟨hf7.os, hf7.tape, hf7.output, hf7.size, fun y hy hn => hf7.keep y hy fun e => hn (Or.inl e)⟩
        have d2 : V.cell? ⟨g6, j * 9 + 2, none⟩ = some (.int .i64 L1[j].f) := mV.get8 HJ.out (i := 2) (by omega)
        have d3 : V.cell? ⟨g6, j * 9 + 3, none⟩ = some (.bool L1[j].p) := mV.get8 HJ.out (i := 3) (by omega)
        have d4 : V.cell? ⟨g6, j * 9 + 4, none⟩ = some (.bool L1[j].w) := mV.get8 HJ.out (i := 4) (by omega)
        have d5 : V.cell? ⟨g6, j * 9 + 5, none⟩ = some (.bool L1[j].h) := mV.get8 HJ.out (i := 5) (by omega)
        have d6 : V.cell? ⟨g6, j * 9 + 6, none⟩ = some (.bool L1[j].k) := mV.get8 HJ.out (i := 6) (by omega)
        have d7 : V.cell? ⟨g6, j * 9 + 7, none⟩ = some (.bool L1[j].u) := mV.get8 HJ.out (i := 7) (by omega)
        have d8 : V.cell? ⟨g6, j * 9 + 8, none⟩ = some (.bool L1[j].d) := mV.get8 HJ.out (i := 8) (by omega)
        have yV := (mV.put8 HJ.out (q := 2) (by omega) (u := .int .i64 L1[j].f) (m := L1[j]) rfl).1
        have hn8 := mV.entry8 HJ.out l.f l.p l.w (decide (0 < l.o)) l.k l.u l.d
        have HV := Lib.hid (And.intro hV (And.intro mV (And.intro xV (And.intro qV (And.intro fV hn8)))))
        have HMK : Hid (MK (L1[j].with l.f l.p l.w (decide (0 < l.o)) l.k l.u l.d)) := by
          have := H5.out.ref1.ok _ (List.getElem_mem HJ.out)
          exact ⟨this.g0, this.g1, this.o, this.even⟩
        clear hw7 hf7 hx7 hz7 hm7 hq7 mV xV qV fV hn8 hV x1 x6 y6 r6 H6
        generalize L1[j].f = df at d2
        generalize L1[j].p = dp at d3
        generalize L1[j].w = dw at d4
        generalize L1[j].h = dh at d5
        generalize L1[j].k = dk at d6
        generalize L1[j].u = du at d7
        generalize L1[j].d = dd at d8
        go_still_tail 8, (by kernel_rfl)
        change wpList _ _ _ _ _ w7.drew
        rw [← HV.out.1]
        clear x7 z0 z1 z2 z3 z4 z5 z6
        go_upto_region 21 with (fail)
        obtain ⟨w8, hw8⟩ : ∃ w8, w8 = (((((((V.setCell ⟨g6, j * 9 + 2, none⟩ (.int .i64 l.f)).setCell ⟨g6, j * 9 + 2 + 1, none⟩ (.bool l.p)).setCell ⟨g6, j * 9 + 2 + 2, none⟩ (.bool l.w)).setCell ⟨g6, j * 9 + 2 + 3, none⟩ (.bool (decide (0 < l.o)))).setCell ⟨g6, j * 9 + 2 + 4, none⟩ (.bool l.k)).setCell ⟨g6, j * 9 + 2 + 5, none⟩ (.bool l.u)).setCell ⟨g6, j * 9 + 2 + 6, none⟩ (.bool l.d)) := ⟨_, rfl⟩
        rw [← hw8]
        have hF8 : Foot (fun z => z = g6) V w8 := by rw [hw8]; exact foot7 _ _ _ _ _ _ _ _ _ _ _ _ _ _ _ _
        have hm8 : Ms w8 w5.heap.size (.slice (some ⟨g6, 0, none⟩) N c') (L1.set j (L1[j].with l.f l.p l.w (decide (0 < l.o)) l.k l.u l.d)) := by rw [hw8]; exact HV.out.2.2.2.2.2
        have hxg : k.x1 ≠ g6 := by have := H5.out.ref1.top.lt; have := HM6.out.2.2.1; omega
        have hqg : q ≠ g6 := by have := R5.out.lt; have := HM6.out.2.2.1; omega
        have R8 : Hid (Row w8 q 52 (acCells l)) := hF8.row HV.out.2.2.2.1 hqg
        have hx8 := hF8.row HV.out.2.2.1 hxg
        have hfa := HV.out.2.2.2.2.1.trans (Y := fun z => z = g6) hF8 (fun _ e _ => Or.inr e)
        rw [HM6.out.2.2.2] at hm8 hx8
        have hFair : Fair w5 w.heap.size k.g k.x1 8 (pp k.s k.x0 k.x1 k.r0 k.r1) (.slice (some ⟨ga, 0, none⟩) L1.length c0) L1 w8 := fair_set H5.out.row H5.out.ref1 H5.out.below.size HM6.out.2.1 hm8 HMK.out hx8 hfa HM6.out.2.2.1
        obtain ⟨v05, L05, v15, L15, lf5, h8⟩ := H5.out.fair1 hFair
        have H8 := Lib.hid h8
        clear hw8 hF8 hm8 hxg hqg hx8 hfa hFair h8
        have hs2 : (fun v => v.cell? ⟨k.g, 0, none⟩ = some (.pointer (some ⟨k.s.x, 0, none⟩)) ∧ v.cell? ⟨q, 2, none⟩ = some (.int .i64 l.pg) ∧ v.cell? ⟨q, 3, none⟩ = some (.int .i64 l.o) ∧ v.cell? ⟨q, 5, none⟩ = some (.int .i64 l.f) ∧ v.cell? ⟨q, 6, none⟩ = some (.bool l.p) ∧ v.cell? ⟨q, 7, none⟩ = some (.bool l.w) ∧ v.cell? ⟨q, 8, none⟩ = some (.bool l.h) ∧ v.cell? ⟨q, 9, none⟩ = some (.bool l.k) ∧ v.cell? ⟨q, 10, none⟩ = some (.bool l.u) ∧ v.cell? ⟨q, 11, none⟩ = some (.bool l.d)) w8.drew := ⟨H8.out.row.cell 0, R8.out.cell 2, R8.out.cell 3, R8.out.cell 5, R8.out.cell 6, R8.out.cell 7, R8.out.cell 8, R8.out.cell 9, R8.out.cell 10, R8.out.cell 11⟩
        refine wp_region_held_drew (S := (fun v => v.cell? ⟨k.g, 0, none⟩ = some (.pointer (some ⟨k.s.x, 0, none⟩)) ∧ v.cell? ⟨q, 2, none⟩ = some (.int .i64 l.pg) ∧ v.cell? ⟨q, 3, none⟩ = some (.int .i64 l.o) ∧ v.cell? ⟨q, 5, none⟩ = some (.int .i64 l.f) ∧ v.cell? ⟨q, 6, none⟩ = some (.bool l.p) ∧ v.cell? ⟨q, 7, none⟩ = some (.bool l.w) ∧ v.cell? ⟨q, 8, none⟩ = some (.bool l.h) ∧ v.cell? ⟨q, 9, none⟩ = some (.bool l.k) ∧ v.cell? ⟨q, 10, none⟩ = some (.bool l.u) ∧ v.cell? ⟨q, 11, none⟩ = some (.bool l.d))) (by kernel_rfl) hs2 (fun hHeld => ?_)
        have HA : Hid (Lw w w8.drew k v ws L v05 L05 v15 L15 lf5 (K + 8)) := Lib.hid (H8.out.call (drewN_b (Below.refl _ _) 1))
        have RA : Hid (Row w8.drew q 52 (acCells l)) := R8.out
        generalize w8.drew = wA at hHeld hs2 HA RA ⊢
        refine tkY 0 (at_lit rfl) (v := ?_) (Or.inl ⟨by rfl, ?_⟩) ?_
        rotate_left
        focus (intro _ h; (try dsimp only at h); go_simp; (try with_reducible rfl); done)
        (try simp only [Act.put, sAr, sZe, sSu])
        refine tkY 1 (at_lit rfl) (v := ?_) (Or.inl ⟨by rfl, ?_⟩) ?_
        rotate_left
        focus (intro _ h; (try dsimp only at h); go_simp; (try with_reducible rfl); done)
        (try simp only [Act.put, sAr, sZe, sSu])
        refine tkY 2 (at_lit rfl) (v := ?_) (Or.inl ⟨by rfl, ?_⟩) ?_
        rotate_left
        focus (intro _ h; (try dsimp only at h); go_simp; (try with_reducible rfl); done)
        (try simp only [Act.put, sAr, sZe, sSu])
        refine tkY 3 (at_lit rfl) (v := ?_) (Or.inl ⟨by rfl, ?_⟩) ?_
        rotate_left
        focus (intro _ h; (try dsimp only at h); go_simp; (try with_reducible rfl); done)
        (try simp only [Act.put, sAr, sZe, sSu])
        refine tkY 4 (at_lit rfl) (v := ?_) (Or.inl ⟨by rfl, ?_⟩) ?_
        rotate_left
        focus (intro _ h; (try dsimp only at h); go_simp; (try with_reducible rfl); done)
        (try simp only [Act.put, sAr, sZe, sSu])
        refine tkY 5 (at_lit rfl) (v := ?_) (Or.inl ⟨by rfl, ?_⟩) ?_
        rotate_left
        focus (intro _ h; (try dsimp only at h); go_simp; (try with_reducible rfl); done)
        (try simp only [Act.put, sAr, sZe, sSu])
        refine tkY 6 (at_lit rfl) (v := ?_) (Or.inl ⟨by rfl, ?_⟩) ?_
        rotate_left
        focus (intro _ h; (try dsimp only at h); go_simp; (try with_reducible rfl); done)
        (try simp only [Act.put, sAr, sZe, sSu])
        refine tkY 7 (at_lit rfl) (v := ?_) (Or.inl ⟨by rfl, ?_⟩) ?_
        rotate_left
        focus (intro _ h; (try dsimp only at h); go_simp; (try with_reducible rfl); done)
        (try simp only [Act.put, sAr, sZe, sSu])
        refine tkY 8 (at_lit rfl) (v := ?_) (Or.inl ⟨by rfl, ?_⟩) ?_
        rotate_left
        focus (intro _ h; (try dsimp only at h); go_simp; (try with_reducible rfl); done)
        (try simp only [Act.put, sAr, sZe, sSu])
        refine tkY 9 (at_lit rfl) (v := ?_) (Or.inl ⟨by rfl, ?_⟩) ?_
        rotate_left
        focus (intro _ h; (try dsimp only at h); go_simp; (try with_reducible rfl); done)
        (try simp only [Act.put, sAr, sZe, sSu])
        refine tkY 10 (at_lit rfl) (v := ?_) (Or.inl ⟨by rfl, ?_⟩) ?_
        rotate_left
        focus (intro _ h; (try dsimp only at h); go_simp; (try with_reducible rfl); done)
        (try simp only [Act.put, sAr, sZe, sSu])
        refine tkY 12 (at_lit rfl) (v := ?_) (Or.inl ⟨by rfl, ?_⟩) ?_
        rotate_left
        focus (intro _ h; (try dsimp only at h); go_simp; (try with_reducible rfl); done)
        (try simp only [Act.put, sAr, sZe, sSu])
        refine wpAnyH_ready (rs := [11]) (by kernel_rfl) (by simp) ?_
        refine AllReadyH.cons (o := _) (at_lit rfl) (fun K hK => ?_) AllReadyH.nil
        go_simp
        go_at_call 16
        refine ((lw_set HA.out true hr l.pg l.o l.f l.p l.w l.h l.k l.u l.d HL.out.2.2.1 HL.out.2.2.2.2.2).mono ?_)
        rintro e wB ⟨er, rfl, vB, wsB, LB, hB, -, -, hm⟩
        have HB := Lib.hid hB
        have RB := Lib.hid (HA.out.tab.row hm RA.out (by decide) (by decide) (by decide))
        clear hB hm
        go_wp2_with fail
        refine hK.out _ _ ?_ (fun hHeld => ?_)
        focus exact ⟨HB.out.row.cell 0, RB.out.cell 2, RB.out.cell 3, RB.out.cell 5, RB.out.cell 6, RB.out.cell 7, RB.out.cell 8, RB.out.cell 9, RB.out.cell 10, RB.out.cell 11⟩
        clear hK
        (try simp only [Act.put, sAr, sZe, sSu])
        refine tkY 13 (at_lit rfl) (v := ?_) (Or.inl ⟨by rfl, ?_⟩) ?_
        rotate_left
        focus (intro _ h; (try dsimp only at h); go_simp; (try with_reducible rfl); done)
        (try simp only [Act.put, sAr, sZe, sSu])
        refine tkY 14 (at_lit rfl) (v := ?_) (Or.inl ⟨by rfl, ?_⟩) ?_
        rotate_left
        focus (intro _ h; (try dsimp only at h); go_simp; (try with_reducible rfl); done)
        (try simp only [Act.put, sAr, sZe, sSu])
        refine wpAnyH_done (by kernel_rfl) ?_ _
        go_wp2_with fail
        go_ret
        exact ⟨⟨_, rfl⟩, _, _, _, _, _, _, _, _, HB.out⟩
  · have hwb : (wrO l.pg l.o == 0) = false := by simpa using hwo
    have H6 : Hid (Lw w w4 k v ws L v0 L0 v1 L1 lf (K + 8)) := ⟨H4.out.tab, H4.out.inv, H4.out.all, H4.out.row, H4.out.ref0, H4.out.ref1, by have := H4.out.len0; omega, by have := H4.out.len1; omega, H4.out.below, H4.out.lo, H4.out.acts⟩
    generalize wrO l.pg l.o = eo at hwo hwb ⊢
    go_upto_region 21 with (fail)
    have hs2 : (fun v => v.cell? ⟨k.g, 0, none⟩ = some (.pointer (some ⟨k.s.x, 0, none⟩)) ∧ v.cell? ⟨q, 2, none⟩ = some (.int .i64 l.pg) ∧ v.cell? ⟨q, 3, none⟩ = some (.int .i64 l.o) ∧ v.cell? ⟨q, 5, none⟩ = some (.int .i64 l.f) ∧ v.cell? ⟨q, 6, none⟩ = some (.bool l.p) ∧ v.cell? ⟨q, 7, none⟩ = some (.bool l.w) ∧ v.cell? ⟨q, 8, none⟩ = some (.bool l.h) ∧ v.cell? ⟨q, 9, none⟩ = some (.bool l.k) ∧ v.cell? ⟨q, 10, none⟩ = some (.bool l.u) ∧ v.cell? ⟨q, 11, none⟩ = some (.bool l.d)) w4.drew := ⟨H6.out.row.cell 0, R4.out.cell 2, R4.out.cell 3, R4.out.cell 5, R4.out.cell 6, R4.out.cell 7, R4.out.cell 8, R4.out.cell 9, R4.out.cell 10, R4.out.cell 11⟩
    refine wp_region_held_drew (S := (fun v => v.cell? ⟨k.g, 0, none⟩ = some (.pointer (some ⟨k.s.x, 0, none⟩)) ∧ v.cell? ⟨q, 2, none⟩ = some (.int .i64 l.pg) ∧ v.cell? ⟨q, 3, none⟩ = some (.int .i64 l.o) ∧ v.cell? ⟨q, 5, none⟩ = some (.int .i64 l.f) ∧ v.cell? ⟨q, 6, none⟩ = some (.bool l.p) ∧ v.cell? ⟨q, 7, none⟩ = some (.bool l.w) ∧ v.cell? ⟨q, 8, none⟩ = some (.bool l.h) ∧ v.cell? ⟨q, 9, none⟩ = some (.bool l.k) ∧ v.cell? ⟨q, 10, none⟩ = some (.bool l.u) ∧ v.cell? ⟨q, 11, none⟩ = some (.bool l.d))) (by kernel_rfl) hs2 (fun hHeld => ?_)
    have HA : Hid (Lw w w4.drew k v ws L v0 L0 v1 L1 lf (K + 8)) := Lib.hid (H6.out.call (drewN_b (Below.refl _ _) 1))
    have RA : Hid (Row w4.drew q 52 (acCells l)) := R4.out
    generalize w4.drew = wA at hHeld hs2 HA RA ⊢
    refine tkY 0 (at_lit rfl) (v := ?_) (Or.inl ⟨by rfl, ?_⟩) ?_
    rotate_left
    focus (intro _ h; (try dsimp only at h); go_simp; (try with_reducible rfl); done)
    (try simp only [Act.put, sAr, sZe, sSu])
    refine tkY 1 (at_lit rfl) (v := ?_) (Or.inl ⟨by rfl, ?_⟩) ?_
    rotate_left
    focus (intro _ h; (try dsimp only at h); go_simp; (try with_reducible rfl); done)
    (try simp only [Act.put, sAr, sZe, sSu])
    refine tkY 2 (at_lit rfl) (v := ?_) (Or.inl ⟨by rfl, ?_⟩) ?_
    rotate_left
    focus (intro _ h; (try dsimp only at h); go_simp; (try with_reducible rfl); done)
    (try simp only [Act.put, sAr, sZe, sSu])
    refine tkY 3 (at_lit rfl) (v := ?_) (Or.inl ⟨by rfl, ?_⟩) ?_
    rotate_left
    focus (intro _ h; (try dsimp only at h); go_simp; (try with_reducible rfl); done)
    (try simp only [Act.put, sAr, sZe, sSu])
    refine tkY 4 (at_lit rfl) (v := ?_) (Or.inl ⟨by rfl, ?_⟩) ?_
    rotate_left
    focus (intro _ h; (try dsimp only at h); go_simp; (try with_reducible rfl); done)
    (try simp only [Act.put, sAr, sZe, sSu])
    refine tkY 5 (at_lit rfl) (v := ?_) (Or.inl ⟨by rfl, ?_⟩) ?_
    rotate_left
    focus (intro _ h; (try dsimp only at h); go_simp; (try with_reducible rfl); done)
    (try simp only [Act.put, sAr, sZe, sSu])
    refine tkY 6 (at_lit rfl) (v := ?_) (Or.inl ⟨by rfl, ?_⟩) ?_
    rotate_left
    focus (intro _ h; (try dsimp only at h); go_simp; (try with_reducible rfl); done)
    (try simp only [Act.put, sAr, sZe, sSu])
    refine tkY 7 (at_lit rfl) (v := ?_) (Or.inl ⟨by rfl, ?_⟩) ?_
    rotate_left
    focus (intro _ h; (try dsimp only at h); go_simp; (try with_reducible rfl); done)
    (try simp only [Act.put, sAr, sZe, sSu])
    refine tkY 8 (at_lit rfl) (v := ?_) (Or.inl ⟨by rfl, ?_⟩) ?_
    rotate_left
    focus (intro _ h; (try dsimp only at h); go_simp; (try with_reducible rfl); done)
    (try simp only [Act.put, sAr, sZe, sSu])
    refine tkY 9 (at_lit rfl) (v := ?_) (Or.inl ⟨by rfl, ?_⟩) ?_
    rotate_left
    focus (intro _ h; (try dsimp only at h); go_simp; (try with_reducible rfl); done)
    (try simp only [Act.put, sAr, sZe, sSu])
    refine tkY 10 (at_lit rfl) (v := ?_) (Or.inl ⟨by rfl, ?_⟩) ?_
    rotate_left
    focus (intro _ h; (try dsimp only at h); go_simp; (try with_reducible rfl); done)
    (try simp only [Act.put, sAr, sZe, sSu])
    refine tkY 12 (at_lit rfl) (v := ?_) (Or.inl ⟨by rfl, ?_⟩) ?_
    rotate_left
    focus (intro _ h; (try dsimp only at h); go_simp; (try with_reducible rfl); done)
    (try simp only [Act.put, sAr, sZe, sSu])
    refine wpAnyH_ready (rs := [11]) (by kernel_rfl) (by simp) ?_
    refine AllReadyH.cons (o := _) (at_lit rfl) (fun K hK => ?_) AllReadyH.nil
    go_simp
    go_at_call 16
    refine ((lw_set HA.out true hr l.pg l.o l.f l.p l.w l.h l.k l.u l.d HL.out.2.2.1 HL.out.2.2.2.2.2).mono ?_)
    rintro e wB ⟨er, rfl, vB, wsB, LB, hB, -, -, hm⟩
    have HB := Lib.hid hB
    have RB := Lib.hid (HA.out.tab.row hm RA.out (by decide) (by decide) (by decide))
    clear hB hm
    go_wp2_with fail
    refine hK.out _ _ ?_ (fun hHeld => ?_)
    focus exact ⟨HB.out.row.cell 0, RB.out.cell 2, RB.out.cell 3, RB.out.cell 5, RB.out.cell 6, RB.out.cell 7, RB.out.cell 8, RB.out.cell 9, RB.out.cell 10, RB.out.cell 11⟩
    clear hK
    (try simp only [Act.put, sAr, sZe, sSu])
    refine tkY 13 (at_lit rfl) (v := ?_) (Or.inl ⟨by rfl, ?_⟩) ?_
    rotate_left
    focus (intro _ h; (try dsimp only at h); go_simp; (try with_reducible rfl); done)
    (try simp only [Act.put, sAr, sZe, sSu])
    refine tkY 14 (at_lit rfl) (v := ?_) (Or.inl ⟨by rfl, ?_⟩) ?_
    rotate_left
    focus (intro _ h; (try dsimp only at h); go_simp; (try with_reducible rfl); done)
    (try simp only [Act.put, sAr, sZe, sSu])
    refine wpAnyH_done (by kernel_rfl) ?_ _
    go_wp2_with fail
    go_ret
    exact ⟨⟨_, rfl⟩, _, _, _, _, _, _, _, _, HB.out⟩
end
end Go.Proofs.Ytpcpcgbejinlmaa
