/- The law's World.Do of the kinds 8 and 9: eight calls. -/
import Derived.Test.YtpcpcgbejinlmaaMk46
namespace Go.Proofs.Ytpcpcgbejinlmaa
open Go.RowKit
section
variable {w W : World} {k : Lk} {v : Value} {ws L : List Int} {v0 : Value} {L0 : List Mp} {v1 : Value} {L1 : List Mp} {lf : Int} {K : Nat}
set_option maxRecDepth 100000 in
set_option maxHeartbeats 8000000 in
theorem do_eight0_8 (h : Lw w W k v ws L v0 L0 v1 L1 lf K) (hK : K + 64 ≤ 5000) (hk : Nice k) (l : Ac) (hl : IsAc l) (hb : bits .and .i64 l.r 1 = 0) (h7 : l.kd = 8) : Calls Try.prog 22 #[.pointer (some ⟨k.g, 0, none⟩), .agg (acCells l).toArray] W fun e W' => (∃ b, e = .returned (.bool b)) ∧ Run w W' k (K + 64) := by
  obtain ⟨q, hq⟩ : ∃ q, q = W.heap.size := ⟨_, rfl⟩
  have HQ := Lib.hid hq
  obtain ⟨w1, hw1⟩ : ∃ w1, w1 = W.alloc (.cells #[.int .i64 l.kd, .int .i64 l.r, .int .i64 l.pg, .int .i64 l.o, .int .i64 l.n, .int .i64 l.f, .bool l.p, .bool l.w, .bool l.h, .bool l.k, .bool l.u, .bool l.d] 52) := ⟨_, rfl⟩
  have HW1 := Lib.hid hw1
  have r1 : Row w1 q 52 (acCells l) := by rw [hw1, hq]; exact Row.new W _ (acCells l)
  have h1 := (h.call (hw1 ▸ below_new W _ _)).addAct r1
  have c1 : w1.cell? ⟨q, 1, none⟩ = some (.int .i64 l.r) := r1.cell 1
  have g5 : w1.cell? ⟨k.g, 5, none⟩ = some (.pointer (some ⟨k.x0, 0, none⟩)) := h1.row.cell 5
  have H1 := Lib.hid h1
  have HL := Lib.hid hl
  have HK := Lib.hid (And.intro hK hk)
  have HKD := Lib.hid h7
  clear h7
  unfold acCells
  clear hq hw1 r1 h h1 hl hK hk
  go_enter Try.func22, Try.ntmps22
  go_upto_region 1 with (fail)
  rw [← HW1.out, ← HQ.out]
  go_quiet (fail)
  have H2 := Lib.hid (H1.out.call (drewN_b (Below.refl _ _) nq))
  generalize w1.drewN nq = w2 at H2 ⊢
  have c0 : w2.cell? ⟨q, 0, none⟩ = some (.int .i64 8) := HKD.out ▸ H2.out.theAct.cell 0
  have c4 : w2.cell? ⟨q, 4, none⟩ = some (.int .i64 l.n) := H2.out.theAct.cell 4
  clear c1 g5 H1 HW1 hb
  go_upto_region 2 with (fail)
  go_quiet (fail)
  have H3 := Lib.hid (H2.out.call (drewN_b (Below.refl _ _) nq))
  generalize w2.drewN nq = w3 at H3 ⊢
  have a0 : w3.cell? ⟨q, 0, none⟩ = some (.int .i64 8) := HKD.out ▸ H3.out.theAct.cell 0
  clear c0 c4 H2
  go_wp2_with fail
  go_loopw [6] (fun i wr => ∃ j : Nat, j ≤ 8 ∧ i = .int .i64 j ∧ Run w wr (k.act q l) (K + 8 * j)) (fun i _ => 8 - (RowKit.intOf i).toNat)
  case atStart => exact ⟨0, by omega, rfl, v, ws, L, v0, L0, v1, L1, lf, H3.out⟩
  case round =>
    clear a0
    obtain ⟨j, hj, rfl, hrun⟩ := hrel
    have HR := Lib.hid hrun
    by_cases hlt : j < 8
    · have j1 : (j : Int) < 8 := by omega
      have j0 : (0 : Int) ≤ j := by omega
      have hw3 : IntKind.i64.wrap ((j : Int) + 1) = (j : Int) + 1 := IntWalk.i64_in _ (by omega)
      have a0 : wr.cell? ⟨q, 0, none⟩ = some (.int .i64 8) := HKD.out ▸ HR.out.theAct.cell 0
      have a1 : wr.cell? ⟨q, 1, none⟩ = some (.int .i64 l.r) := HR.out.theAct.cell 1
      have a2 : wr.cell? ⟨q, 2, none⟩ = some (.int .i64 l.pg) := HR.out.theAct.cell 2
      have a3 : wr.cell? ⟨q, 3, none⟩ = some (.int .i64 l.o) := HR.out.theAct.cell 3
      have a4 : wr.cell? ⟨q, 4, none⟩ = some (.int .i64 l.n) := HR.out.theAct.cell 4
      have a5 : wr.cell? ⟨q, 5, none⟩ = some (.int .i64 l.f) := HR.out.theAct.cell 5
      have a6 : wr.cell? ⟨q, 6, none⟩ = some (.bool l.p) := HR.out.theAct.cell 6
      have a7 : wr.cell? ⟨q, 7, none⟩ = some (.bool l.w) := HR.out.theAct.cell 7
      have a8 : wr.cell? ⟨q, 8, none⟩ = some (.bool l.h) := HR.out.theAct.cell 8
      have a9 : wr.cell? ⟨q, 9, none⟩ = some (.bool l.k) := HR.out.theAct.cell 9
      have a10 : wr.cell? ⟨q, 10, none⟩ = some (.bool l.u) := HR.out.theAct.cell 10
      have a11 : wr.cell? ⟨q, 11, none⟩ = some (.bool l.d) := HR.out.theAct.cell 11
      go_upto_region 13 with (fail)
      obtain ⟨w5, hw5⟩ : ∃ w5, w5 = wr.alloc (.cells #[.int .i64 0, .int .i64 l.r, .int .i64 l.pg, .int .i64 0, .int .i64 l.n, .int .i64 l.f, .bool l.p, .bool l.w, .bool l.h, .bool l.k, .bool l.u, .bool l.d] 52) := ⟨_, rfl⟩
      obtain ⟨qb, hqb⟩ : ∃ qb, qb = wr.heap.size := ⟨_, rfl⟩
      have b5 : Below wr.heap.size wr w5 := hw5 ▸ below_new wr _ _
      have H5 := Lib.hid (HR.out.call b5)
      have r5 : Row w5 qb 52 [.int .i64 0, .int .i64 l.r, .int .i64 l.pg, .int .i64 0, .int .i64 l.n, .int .i64 l.f, .bool l.p, .bool l.w, .bool l.h, .bool l.k, .bool l.u, .bool l.d] := by rw [hw5, hqb]; exact Row.new wr _ _
      have HQB : Hid (q ≠ qb ∧ wr.heap.size ≤ qb) := by
        refine ⟨fun e => ?_, by rw [hqb]; exact Nat.le_refl _⟩
        have := HR.out.theAct.lt
        omega
      rw [← hw5, ← hqb]
      clear hw5 hqb hrun hlt a0 a1 a2 a3 a4 a5 a6 a7 a8 a9 a10 a11
      have a2 : w5.cell? ⟨q, 2, none⟩ = some (.int .i64 l.pg) := H5.out.theAct.cell 2
      have a5 : w5.cell? ⟨q, 5, none⟩ = some (.int .i64 l.f) := H5.out.theAct.cell 5
      have hfits : IsAc l := HL.out
      obtain ⟨-, lr, lp, -, ln, lff⟩ := hfits
      by_cases hlow : l.pg < 4000 ∧ l.f < 4000
      · obtain ⟨low1, low2⟩ := hlow
        have hwp : IntKind.i64.wrap (l.pg + (j : Int)) = l.pg + (j : Int) := IntWalk.i64_in _ (by unfold In64 at lp; omega)
        have hwf : IntKind.i64.wrap (l.f + (j : Int)) = l.f + (j : Int) := IntWalk.i64_in _ (by unfold In64 at lff; omega)
        have r6 := r5.set_ 2 (.int .i64 (l.pg + (j : Int)))
        have r7 := r6.set_ 5 (.int .i64 (l.f + (j : Int)))
        obtain ⟨w6, hw6⟩ : ∃ w6, w6 = w5.setCell ⟨qb, 2, none⟩ (.int .i64 (l.pg + (j : Int))) := ⟨_, rfl⟩
        obtain ⟨w7, hw7⟩ : ∃ w7, w7 = w6.setCell ⟨qb, 5, none⟩ (.int .i64 (l.f + (j : Int))) := ⟨_, rfl⟩
        rw [← hw6] at r6 r7
        rw [← hw7] at r7
        have hb6 : Below wr.heap.size wr w6 := by rw [hw6]; exact b5.setCell (HQB.out.2) _
        have hb7 : Below wr.heap.size wr w7 := by rw [hw7]; exact hb6.setCell (HQB.out.2) _
        have H6 := Lib.hid (HR.out.call hb6)
        have H7 := Lib.hid (HR.out.call hb7)
        have e2 : w5.cell? ⟨qb, 2, none⟩ = some (.int .i64 l.pg) := r5.cell 2
        have y2 := r5.frozen 2
        have e5 : w6.cell? ⟨qb, 5, none⟩ = some (.int .i64 l.f) := r6.cell 5
        have y5 := r6.frozen 5
        have c5 : w6.cell? ⟨q, 5, none⟩ = some (.int .i64 l.f) := H6.out.theAct.cell 5
        have hl9 : IsAc ⟨0, l.r, l.pg + (j : Int), 0, l.n, l.f + (j : Int), l.p, l.w, l.h, l.k, l.u, l.d⟩ := isAc0 lr (by unfold In64 at lp ⊢; omega) ln (by unfold In64 at lff ⊢; omega)
        have HW6 := Lib.hid hw6
        have HW7 := Lib.hid hw7
        clear r5 r6 hb6 hb7 b5 lr lp ln lff hw6 hw7
        go_upto_region 15 with (fail)
        rw [← HW6.out]
        clear a2 a5 e2 y2
        go_upto_region 16 with (fail)
        rw [← HW7.out]
        clear c5 e5 y5 hwp hwf low1 low2
        have b0 : w7.cell? ⟨qb, 0, none⟩ = some (.int .i64 0) := r7.cell 0
        have b1 : w7.cell? ⟨qb, 1, none⟩ = some (.int .i64 l.r) := r7.cell 1
        have b2 : w7.cell? ⟨qb, 2, none⟩ = some (.int .i64 (l.pg + (j : Int))) := r7.cell 2
        have b3 : w7.cell? ⟨qb, 3, none⟩ = some (.int .i64 0) := r7.cell 3
        have b4 : w7.cell? ⟨qb, 4, none⟩ = some (.int .i64 l.n) := r7.cell 4
        have b5 : w7.cell? ⟨qb, 5, none⟩ = some (.int .i64 (l.f + (j : Int))) := r7.cell 5
        have b6 : w7.cell? ⟨qb, 6, none⟩ = some (.bool l.p) := r7.cell 6
        have b7 : w7.cell? ⟨qb, 7, none⟩ = some (.bool l.w) := r7.cell 7
        have b8 : w7.cell? ⟨qb, 8, none⟩ = some (.bool l.h) := r7.cell 8
        have b9 : w7.cell? ⟨qb, 9, none⟩ = some (.bool l.k) := r7.cell 9
        have b10 : w7.cell? ⟨qb, 10, none⟩ = some (.bool l.u) := r7.cell 10
        have b11 : w7.cell? ⟨qb, 11, none⟩ = some (.bool l.d) := r7.cell 11
        have hone := one_run (k := k.act q l) H7.out (by have := HK.out.1; omega) (HK.out.2.act q l) ⟨0, l.r, l.pg + (j : Int), 0, l.n, l.f + (j : Int), l.p, l.w, l.h, l.k, l.u, l.d⟩ hl9
        unfold acCells at hone
        clear hl9
        go_wp2_with fail
        refine hone.mono ?_
        rintro e w9 ⟨⟨bb, rfl⟩, hr9⟩
        have HR9 := Lib.hid hr9
        clear hone hr9 b0 b1 b2 b3 b4 b5 b6 b7 b8 b9 b10 b11
        cases bb
        · go_wp2_with fail
          go_ret
          refine ⟨?_, HR9.out.dropAct.more (by omega)⟩
          first
          | exact ⟨_, rfl⟩
          | exact Or.inr rfl
          | exact Or.inl rfl
        · go_wp2_with fail
          go_roundw
          case rel => exact ⟨j + 1, by omega, by go_num, HR9.out.more (by omega)⟩
          case measure => simp [RowKit.intOf]; omega
      · have hl9 : IsAc ⟨0, l.r, l.pg, 0, l.n, l.f, l.p, l.w, l.h, l.k, l.u, l.d⟩ := isAc0 lr lp ln lff
        by_cases low1 : l.pg < 4000
        · have low2 : ¬ l.f < 4000 := fun e => hlow ⟨low1, e⟩
          clear hlow b5 lr lp ln lff
          go_upto_region 16 with (fail)
          clear a2 a5 low1 low2
          have b0 : w5.cell? ⟨qb, 0, none⟩ = some (.int .i64 0) := r5.cell 0
          have b1 : w5.cell? ⟨qb, 1, none⟩ = some (.int .i64 l.r) := r5.cell 1
          have b2 : w5.cell? ⟨qb, 2, none⟩ = some (.int .i64 (l.pg)) := r5.cell 2
          have b3 : w5.cell? ⟨qb, 3, none⟩ = some (.int .i64 0) := r5.cell 3
          have b4 : w5.cell? ⟨qb, 4, none⟩ = some (.int .i64 l.n) := r5.cell 4
          have b5 : w5.cell? ⟨qb, 5, none⟩ = some (.int .i64 (l.f)) := r5.cell 5
          have b6 : w5.cell? ⟨qb, 6, none⟩ = some (.bool l.p) := r5.cell 6
          have b7 : w5.cell? ⟨qb, 7, none⟩ = some (.bool l.w) := r5.cell 7
          have b8 : w5.cell? ⟨qb, 8, none⟩ = some (.bool l.h) := r5.cell 8
          have b9 : w5.cell? ⟨qb, 9, none⟩ = some (.bool l.k) := r5.cell 9
          have b10 : w5.cell? ⟨qb, 10, none⟩ = some (.bool l.u) := r5.cell 10
          have b11 : w5.cell? ⟨qb, 11, none⟩ = some (.bool l.d) := r5.cell 11
          have hone := one_run (k := k.act q l) H5.out (by have := HK.out.1; omega) (HK.out.2.act q l) ⟨0, l.r, l.pg, 0, l.n, l.f, l.p, l.w, l.h, l.k, l.u, l.d⟩ hl9
          unfold acCells at hone
          clear hl9
          go_wp2_with fail
          refine hone.mono ?_
          rintro e w9 ⟨⟨bb, rfl⟩, hr9⟩
          have HR9 := Lib.hid hr9
          clear hone hr9 b0 b1 b2 b3 b4 b5 b6 b7 b8 b9 b10 b11
          cases bb
          · go_wp2_with fail
            go_ret
            refine ⟨?_, HR9.out.dropAct.more (by omega)⟩
            first
            | exact ⟨_, rfl⟩
            | exact Or.inr rfl
            | exact Or.inl rfl
          · go_wp2_with fail
            go_roundw
            case rel => exact ⟨j + 1, by omega, by go_num, HR9.out.more (by omega)⟩
            case measure => simp [RowKit.intOf]; omega
        · clear hlow b5 lr lp ln lff
          go_upto_region 16 with (fail)
          clear a2 a5 low1
          have b0 : w5.cell? ⟨qb, 0, none⟩ = some (.int .i64 0) := r5.cell 0
          have b1 : w5.cell? ⟨qb, 1, none⟩ = some (.int .i64 l.r) := r5.cell 1
          have b2 : w5.cell? ⟨qb, 2, none⟩ = some (.int .i64 (l.pg)) := r5.cell 2
          have b3 : w5.cell? ⟨qb, 3, none⟩ = some (.int .i64 0) := r5.cell 3
          have b4 : w5.cell? ⟨qb, 4, none⟩ = some (.int .i64 l.n) := r5.cell 4
          have b5 : w5.cell? ⟨qb, 5, none⟩ = some (.int .i64 (l.f)) := r5.cell 5
          have b6 : w5.cell? ⟨qb, 6, none⟩ = some (.bool l.p) := r5.cell 6
          have b7 : w5.cell? ⟨qb, 7, none⟩ = some (.bool l.w) := r5.cell 7
          have b8 : w5.cell? ⟨qb, 8, none⟩ = some (.bool l.h) := r5.cell 8
          have b9 : w5.cell? ⟨qb, 9, none⟩ = some (.bool l.k) := r5.cell 9
          have b10 : w5.cell? ⟨qb, 10, none⟩ = some (.bool l.u) := r5.cell 10
          have b11 : w5.cell? ⟨qb, 11, none⟩ = some (.bool l.d) := r5.cell 11
          have hone := one_run (k := k.act q l) H5.out (by have := HK.out.1; omega) (HK.out.2.act q l) ⟨0, l.r, l.pg, 0, l.n, l.f, l.p, l.w, l.h, l.k, l.u, l.d⟩ hl9
          unfold acCells at hone
          clear hl9
          go_wp2_with fail
          refine hone.mono ?_
          rintro e w9 ⟨⟨bb, rfl⟩, hr9⟩
          have HR9 := Lib.hid hr9
          clear hone hr9 b0 b1 b2 b3 b4 b5 b6 b7 b8 b9 b10 b11
          cases bb
          · go_wp2_with fail
            go_ret
            refine ⟨?_, HR9.out.dropAct.more (by omega)⟩
            first
            | exact ⟨_, rfl⟩
            | exact Or.inr rfl
            | exact Or.inl rfl
          · go_wp2_with fail
            go_roundw
            case rel => exact ⟨j + 1, by omega, by go_num, HR9.out.more (by omega)⟩
            case measure => simp [RowKit.intOf]; omega
    · obtain rfl : j = 8 := by omega
      clear hrun hlt
      go_wp2_with fail
      go_ret
      refine ⟨?_, HR.out.dropAct.more (by omega)⟩
      first
      | exact ⟨_, rfl⟩
      | exact Or.inr rfl
      | exact Or.inl rfl
set_option maxRecDepth 100000 in
set_option maxHeartbeats 8000000 in
theorem do_eight0_9 (h : Lw w W k v ws L v0 L0 v1 L1 lf K) (hK : K + 64 ≤ 5000) (hk : Nice k) (l : Ac) (hl : IsAc l) (hb : bits .and .i64 l.r 1 = 0) (h7 : l.kd = 9) : Calls Try.prog 22 #[.pointer (some ⟨k.g, 0, none⟩), .agg (acCells l).toArray] W fun e W' => (∃ b, e = .returned (.bool b)) ∧ Run w W' k (K + 64) := by
  obtain ⟨q, hq⟩ : ∃ q, q = W.heap.size := ⟨_, rfl⟩
  have HQ := Lib.hid hq
  obtain ⟨w1, hw1⟩ : ∃ w1, w1 = W.alloc (.cells #[.int .i64 l.kd, .int .i64 l.r, .int .i64 l.pg, .int .i64 l.o, .int .i64 l.n, .int .i64 l.f, .bool l.p, .bool l.w, .bool l.h, .bool l.k, .bool l.u, .bool l.d] 52) := ⟨_, rfl⟩
  have HW1 := Lib.hid hw1
  have r1 : Row w1 q 52 (acCells l) := by rw [hw1, hq]; exact Row.new W _ (acCells l)
  have h1 := (h.call (hw1 ▸ below_new W _ _)).addAct r1
  have c1 : w1.cell? ⟨q, 1, none⟩ = some (.int .i64 l.r) := r1.cell 1
  have g5 : w1.cell? ⟨k.g, 5, none⟩ = some (.pointer (some ⟨k.x0, 0, none⟩)) := h1.row.cell 5
  have H1 := Lib.hid h1
  have HL := Lib.hid hl
  have HK := Lib.hid (And.intro hK hk)
  have HKD := Lib.hid h7
  clear h7
  unfold acCells
  clear hq hw1 r1 h h1 hl hK hk
  go_enter Try.func22, Try.ntmps22
  go_upto_region 1 with (fail)
  rw [← HW1.out, ← HQ.out]
  go_quiet (fail)
  have H2 := Lib.hid (H1.out.call (drewN_b (Below.refl _ _) nq))
  generalize w1.drewN nq = w2 at H2 ⊢
  have c0 : w2.cell? ⟨q, 0, none⟩ = some (.int .i64 9) := HKD.out ▸ H2.out.theAct.cell 0
  have c4 : w2.cell? ⟨q, 4, none⟩ = some (.int .i64 l.n) := H2.out.theAct.cell 4
  clear c1 g5 H1 HW1 hb
  go_upto_region 2 with (fail)
  go_quiet (fail)
  have H3 := Lib.hid (H2.out.call (drewN_b (Below.refl _ _) nq))
  generalize w2.drewN nq = w3 at H3 ⊢
  have a0 : w3.cell? ⟨q, 0, none⟩ = some (.int .i64 9) := HKD.out ▸ H3.out.theAct.cell 0
  clear c0 c4 H2
  go_wp2_with fail
  go_loopw [6] (fun i wr => ∃ j : Nat, j ≤ 8 ∧ i = .int .i64 j ∧ Run w wr (k.act q l) (K + 8 * j)) (fun i _ => 8 - (RowKit.intOf i).toNat)
  case atStart => exact ⟨0, by omega, rfl, v, ws, L, v0, L0, v1, L1, lf, H3.out⟩
  case round =>
    clear a0
    obtain ⟨j, hj, rfl, hrun⟩ := hrel
    have HR := Lib.hid hrun
    by_cases hlt : j < 8
    · have j1 : (j : Int) < 8 := by omega
      have j0 : (0 : Int) ≤ j := by omega
      have hw3 : IntKind.i64.wrap ((j : Int) + 1) = (j : Int) + 1 := IntWalk.i64_in _ (by omega)
      have a0 : wr.cell? ⟨q, 0, none⟩ = some (.int .i64 9) := HKD.out ▸ HR.out.theAct.cell 0
      have a1 : wr.cell? ⟨q, 1, none⟩ = some (.int .i64 l.r) := HR.out.theAct.cell 1
      have a2 : wr.cell? ⟨q, 2, none⟩ = some (.int .i64 l.pg) := HR.out.theAct.cell 2
      have a3 : wr.cell? ⟨q, 3, none⟩ = some (.int .i64 l.o) := HR.out.theAct.cell 3
      have a4 : wr.cell? ⟨q, 4, none⟩ = some (.int .i64 l.n) := HR.out.theAct.cell 4
      have a5 : wr.cell? ⟨q, 5, none⟩ = some (.int .i64 l.f) := HR.out.theAct.cell 5
      have a6 : wr.cell? ⟨q, 6, none⟩ = some (.bool l.p) := HR.out.theAct.cell 6
      have a7 : wr.cell? ⟨q, 7, none⟩ = some (.bool l.w) := HR.out.theAct.cell 7
      have a8 : wr.cell? ⟨q, 8, none⟩ = some (.bool l.h) := HR.out.theAct.cell 8
      have a9 : wr.cell? ⟨q, 9, none⟩ = some (.bool l.k) := HR.out.theAct.cell 9
      have a10 : wr.cell? ⟨q, 10, none⟩ = some (.bool l.u) := HR.out.theAct.cell 10
      have a11 : wr.cell? ⟨q, 11, none⟩ = some (.bool l.d) := HR.out.theAct.cell 11
      go_upto_region 13 with (fail)
      obtain ⟨w5, hw5⟩ : ∃ w5, w5 = wr.alloc (.cells #[.int .i64 0, .int .i64 l.r, .int .i64 l.pg, .int .i64 0, .int .i64 l.n, .int .i64 l.f, .bool l.p, .bool l.w, .bool l.h, .bool l.k, .bool l.u, .bool l.d] 52) := ⟨_, rfl⟩
      obtain ⟨qb, hqb⟩ : ∃ qb, qb = wr.heap.size := ⟨_, rfl⟩
      have b5 : Below wr.heap.size wr w5 := hw5 ▸ below_new wr _ _
      have H5 := Lib.hid (HR.out.call b5)
      have r5 : Row w5 qb 52 [.int .i64 0, .int .i64 l.r, .int .i64 l.pg, .int .i64 0, .int .i64 l.n, .int .i64 l.f, .bool l.p, .bool l.w, .bool l.h, .bool l.k, .bool l.u, .bool l.d] := by rw [hw5, hqb]; exact Row.new wr _ _
      have HQB : Hid (q ≠ qb ∧ wr.heap.size ≤ qb) := by
        refine ⟨fun e => ?_, by rw [hqb]; exact Nat.le_refl _⟩
        have := HR.out.theAct.lt
        omega
      rw [← hw5, ← hqb]
      clear hw5 hqb hrun hlt a0 a1 a2 a3 a4 a5 a6 a7 a8 a9 a10 a11
      have a2 : w5.cell? ⟨q, 2, none⟩ = some (.int .i64 l.pg) := H5.out.theAct.cell 2
      have a5 : w5.cell? ⟨q, 5, none⟩ = some (.int .i64 l.f) := H5.out.theAct.cell 5
      have hfits : IsAc l := HL.out
      obtain ⟨-, lr, lp, -, ln, lff⟩ := hfits
      by_cases hlow : l.pg < 4000 ∧ l.f < 4000
      · obtain ⟨low1, low2⟩ := hlow
        have hwp : IntKind.i64.wrap (l.pg + (j : Int)) = l.pg + (j : Int) := IntWalk.i64_in _ (by unfold In64 at lp; omega)
        have hwf : IntKind.i64.wrap (l.f + (j : Int)) = l.f + (j : Int) := IntWalk.i64_in _ (by unfold In64 at lff; omega)
        have r6 := r5.set_ 2 (.int .i64 (l.pg + (j : Int)))
        have r7 := r6.set_ 5 (.int .i64 (l.f + (j : Int)))
        obtain ⟨w6, hw6⟩ : ∃ w6, w6 = w5.setCell ⟨qb, 2, none⟩ (.int .i64 (l.pg + (j : Int))) := ⟨_, rfl⟩
        obtain ⟨w7, hw7⟩ : ∃ w7, w7 = w6.setCell ⟨qb, 5, none⟩ (.int .i64 (l.f + (j : Int))) := ⟨_, rfl⟩
        rw [← hw6] at r6 r7
        rw [← hw7] at r7
        have hb6 : Below wr.heap.size wr w6 := by rw [hw6]; exact b5.setCell (HQB.out.2) _
        have hb7 : Below wr.heap.size wr w7 := by rw [hw7]; exact hb6.setCell (HQB.out.2) _
        have H6 := Lib.hid (HR.out.call hb6)
        have H7 := Lib.hid (HR.out.call hb7)
        have e2 : w5.cell? ⟨qb, 2, none⟩ = some (.int .i64 l.pg) := r5.cell 2
        have y2 := r5.frozen 2
        have e5 : w6.cell? ⟨qb, 5, none⟩ = some (.int .i64 l.f) := r6.cell 5
        have y5 := r6.frozen 5
        have c5 : w6.cell? ⟨q, 5, none⟩ = some (.int .i64 l.f) := H6.out.theAct.cell 5
        have hl9 : IsAc ⟨0, l.r, l.pg + (j : Int), 0, l.n, l.f + (j : Int), l.p, l.w, l.h, l.k, l.u, l.d⟩ := isAc0 lr (by unfold In64 at lp ⊢; omega) ln (by unfold In64 at lff ⊢; omega)
        have HW6 := Lib.hid hw6
        have HW7 := Lib.hid hw7
        clear r5 r6 hb6 hb7 b5 lr lp ln lff hw6 hw7
        go_upto_region 15 with (fail)
        rw [← HW6.out]
        clear a2 a5 e2 y2
        go_upto_region 16 with (fail)
        rw [← HW7.out]
        clear c5 e5 y5 hwp hwf low1 low2
        have b0 : w7.cell? ⟨qb, 0, none⟩ = some (.int .i64 0) := r7.cell 0
        have b1 : w7.cell? ⟨qb, 1, none⟩ = some (.int .i64 l.r) := r7.cell 1
        have b2 : w7.cell? ⟨qb, 2, none⟩ = some (.int .i64 (l.pg + (j : Int))) := r7.cell 2
        have b3 : w7.cell? ⟨qb, 3, none⟩ = some (.int .i64 0) := r7.cell 3
        have b4 : w7.cell? ⟨qb, 4, none⟩ = some (.int .i64 l.n) := r7.cell 4
        have b5 : w7.cell? ⟨qb, 5, none⟩ = some (.int .i64 (l.f + (j : Int))) := r7.cell 5
        have b6 : w7.cell? ⟨qb, 6, none⟩ = some (.bool l.p) := r7.cell 6
        have b7 : w7.cell? ⟨qb, 7, none⟩ = some (.bool l.w) := r7.cell 7
        have b8 : w7.cell? ⟨qb, 8, none⟩ = some (.bool l.h) := r7.cell 8
        have b9 : w7.cell? ⟨qb, 9, none⟩ = some (.bool l.k) := r7.cell 9
        have b10 : w7.cell? ⟨qb, 10, none⟩ = some (.bool l.u) := r7.cell 10
        have b11 : w7.cell? ⟨qb, 11, none⟩ = some (.bool l.d) := r7.cell 11
        have hone := one_run (k := k.act q l) H7.out (by have := HK.out.1; omega) (HK.out.2.act q l) ⟨0, l.r, l.pg + (j : Int), 0, l.n, l.f + (j : Int), l.p, l.w, l.h, l.k, l.u, l.d⟩ hl9
        unfold acCells at hone
        clear hl9
        go_wp2_with fail
        refine hone.mono ?_
        rintro e w9 ⟨⟨bb, rfl⟩, hr9⟩
        have HR9 := Lib.hid hr9
        clear hone hr9 b0 b1 b2 b3 b4 b5 b6 b7 b8 b9 b10 b11
        cases bb
        · go_wp2_with fail
          go_ret
          refine ⟨?_, HR9.out.dropAct.more (by omega)⟩
          first
          | exact ⟨_, rfl⟩
          | exact Or.inr rfl
          | exact Or.inl rfl
        · go_wp2_with fail
          go_roundw
          case rel => exact ⟨j + 1, by omega, by go_num, HR9.out.more (by omega)⟩
          case measure => simp [RowKit.intOf]; omega
      · have hl9 : IsAc ⟨0, l.r, l.pg, 0, l.n, l.f, l.p, l.w, l.h, l.k, l.u, l.d⟩ := isAc0 lr lp ln lff
        by_cases low1 : l.pg < 4000
        · have low2 : ¬ l.f < 4000 := fun e => hlow ⟨low1, e⟩
          clear hlow b5 lr lp ln lff
          go_upto_region 16 with (fail)
          clear a2 a5 low1 low2
          have b0 : w5.cell? ⟨qb, 0, none⟩ = some (.int .i64 0) := r5.cell 0
          have b1 : w5.cell? ⟨qb, 1, none⟩ = some (.int .i64 l.r) := r5.cell 1
          have b2 : w5.cell? ⟨qb, 2, none⟩ = some (.int .i64 (l.pg)) := r5.cell 2
          have b3 : w5.cell? ⟨qb, 3, none⟩ = some (.int .i64 0) := r5.cell 3
          have b4 : w5.cell? ⟨qb, 4, none⟩ = some (.int .i64 l.n) := r5.cell 4
          have b5 : w5.cell? ⟨qb, 5, none⟩ = some (.int .i64 (l.f)) := r5.cell 5
          have b6 : w5.cell? ⟨qb, 6, none⟩ = some (.bool l.p) := r5.cell 6
          have b7 : w5.cell? ⟨qb, 7, none⟩ = some (.bool l.w) := r5.cell 7
          have b8 : w5.cell? ⟨qb, 8, none⟩ = some (.bool l.h) := r5.cell 8
          have b9 : w5.cell? ⟨qb, 9, none⟩ = some (.bool l.k) := r5.cell 9
          have b10 : w5.cell? ⟨qb, 10, none⟩ = some (.bool l.u) := r5.cell 10
          have b11 : w5.cell? ⟨qb, 11, none⟩ = some (.bool l.d) := r5.cell 11
          have hone := one_run (k := k.act q l) H5.out (by have := HK.out.1; omega) (HK.out.2.act q l) ⟨0, l.r, l.pg, 0, l.n, l.f, l.p, l.w, l.h, l.k, l.u, l.d⟩ hl9
          unfold acCells at hone
          clear hl9
          go_wp2_with fail
          refine hone.mono ?_
          rintro e w9 ⟨⟨bb, rfl⟩, hr9⟩
          have HR9 := Lib.hid hr9
          clear hone hr9 b0 b1 b2 b3 b4 b5 b6 b7 b8 b9 b10 b11
          cases bb
          · go_wp2_with fail
            go_ret
            refine ⟨?_, HR9.out.dropAct.more (by omega)⟩
            first
            | exact ⟨_, rfl⟩
            | exact Or.inr rfl
            | exact Or.inl rfl
          · go_wp2_with fail
            go_roundw
            case rel => exact ⟨j + 1, by omega, by go_num, HR9.out.more (by omega)⟩
            case measure => simp [RowKit.intOf]; omega
        · clear hlow b5 lr lp ln lff
          go_upto_region 16 with (fail)
          clear a2 a5 low1
          have b0 : w5.cell? ⟨qb, 0, none⟩ = some (.int .i64 0) := r5.cell 0
          have b1 : w5.cell? ⟨qb, 1, none⟩ = some (.int .i64 l.r) := r5.cell 1
          have b2 : w5.cell? ⟨qb, 2, none⟩ = some (.int .i64 (l.pg)) := r5.cell 2
          have b3 : w5.cell? ⟨qb, 3, none⟩ = some (.int .i64 0) := r5.cell 3
          have b4 : w5.cell? ⟨qb, 4, none⟩ = some (.int .i64 l.n) := r5.cell 4
          have b5 : w5.cell? ⟨qb, 5, none⟩ = some (.int .i64 (l.f)) := r5.cell 5
          have b6 : w5.cell? ⟨qb, 6, none⟩ = some (.bool l.p) := r5.cell 6
          have b7 : w5.cell? ⟨qb, 7, none⟩ = some (.bool l.w) := r5.cell 7
          have b8 : w5.cell? ⟨qb, 8, none⟩ = some (.bool l.h) := r5.cell 8
          have b9 : w5.cell? ⟨qb, 9, none⟩ = some (.bool l.k) := r5.cell 9
          have b10 : w5.cell? ⟨qb, 10, none⟩ = some (.bool l.u) := r5.cell 10
          have b11 : w5.cell? ⟨qb, 11, none⟩ = some (.bool l.d) := r5.cell 11
          have hone := one_run (k := k.act q l) H5.out (by have := HK.out.1; omega) (HK.out.2.act q l) ⟨0, l.r, l.pg, 0, l.n, l.f, l.p, l.w, l.h, l.k, l.u, l.d⟩ hl9
          unfold acCells at hone
          clear hl9
          go_wp2_with fail
          refine hone.mono ?_
          rintro e w9 ⟨⟨bb, rfl⟩, hr9⟩
          have HR9 := Lib.hid hr9
          clear hone hr9 b0 b1 b2 b3 b4 b5 b6 b7 b8 b9 b10 b11
          cases bb
          · go_wp2_with fail
            go_ret
            refine ⟨?_, HR9.out.dropAct.more (by omega)⟩
            first
            | exact ⟨_, rfl⟩
            | exact Or.inr rfl
            | exact Or.inl rfl
          · go_wp2_with fail
            go_roundw
            case rel => exact ⟨j + 1, by omega, by go_num, HR9.out.more (by omega)⟩
            case measure => simp [RowKit.intOf]; omega
    · obtain rfl : j = 8 := by omega
      clear hrun hlt
      go_wp2_with fail
      go_ret
      refine ⟨?_, HR.out.dropAct.more (by omega)⟩
      first
      | exact ⟨_, rfl⟩
      | exact Or.inr rfl
      | exact Or.inl rfl
end
end Go.Proofs.Ytpcpcgbejinlmaa
/- The law's World.Do of the kinds 8 and 9: eight calls. -/
namespace Go.Proofs.Ytpcpcgbejinlmaa
open Go.RowKit
section
variable {w W : World} {k : Lk} {v : Value} {ws L : List Int} {v0 : Value} {L0 : List Mp} {v1 : Value} {L1 : List Mp} {lf : Int} {K : Nat}
set_option maxRecDepth 100000 in
set_option maxHeartbeats 8000000 in
theorem do_eight1_8 (h : Lw w W k v ws L v0 L0 v1 L1 lf K) (hK : K + 64 ≤ 5000) (hk : Nice k) (l : Ac) (hl : IsAc l) (hb : bits .and .i64 l.r 1 = 1) (h7 : l.kd = 8) : Calls Try.prog 22 #[.pointer (some ⟨k.g, 0, none⟩), .agg (acCells l).toArray] W fun e W' => (∃ b, e = .returned (.bool b)) ∧ Run w W' k (K + 64) := by
  obtain ⟨q, hq⟩ : ∃ q, q = W.heap.size := ⟨_, rfl⟩
  have HQ := Lib.hid hq
  obtain ⟨w1, hw1⟩ : ∃ w1, w1 = W.alloc (.cells #[.int .i64 l.kd, .int .i64 l.r, .int .i64 l.pg, .int .i64 l.o, .int .i64 l.n, .int .i64 l.f, .bool l.p, .bool l.w, .bool l.h, .bool l.k, .bool l.u, .bool l.d] 52) := ⟨_, rfl⟩
  have HW1 := Lib.hid hw1
  have r1 : Row w1 q 52 (acCells l) := by rw [hw1, hq]; exact Row.new W _ (acCells l)
  have h1 := (h.call (hw1 ▸ below_new W _ _)).addAct r1
  have c1 : w1.cell? ⟨q, 1, none⟩ = some (.int .i64 l.r) := r1.cell 1
  have g5 : w1.cell? ⟨k.g, 6, none⟩ = some (.pointer (some ⟨k.x1, 0, none⟩)) := h1.row.cell 6
  have H1 := Lib.hid h1
  have HL := Lib.hid hl
  have HK := Lib.hid (And.intro hK hk)
  have HKD := Lib.hid h7
  clear h7
  unfold acCells
  clear hq hw1 r1 h h1 hl hK hk
  go_enter Try.func22, Try.ntmps22
  go_upto_region 1 with (fail)
  rw [← HW1.out, ← HQ.out]
  go_quiet (fail)
  have H2 := Lib.hid (H1.out.call (drewN_b (Below.refl _ _) nq))
  generalize w1.drewN nq = w2 at H2 ⊢
  have c0 : w2.cell? ⟨q, 0, none⟩ = some (.int .i64 8) := HKD.out ▸ H2.out.theAct.cell 0
  have c4 : w2.cell? ⟨q, 4, none⟩ = some (.int .i64 l.n) := H2.out.theAct.cell 4
  clear c1 g5 H1 HW1 hb
  go_upto_region 2 with (fail)
  go_quiet (fail)
  have H3 := Lib.hid (H2.out.call (drewN_b (Below.refl _ _) nq))
  generalize w2.drewN nq = w3 at H3 ⊢
  have a0 : w3.cell? ⟨q, 0, none⟩ = some (.int .i64 8) := HKD.out ▸ H3.out.theAct.cell 0
  clear c0 c4 H2
  go_wp2_with fail
  go_loopw [6] (fun i wr => ∃ j : Nat, j ≤ 8 ∧ i = .int .i64 j ∧ Run w wr (k.act q l) (K + 8 * j)) (fun i _ => 8 - (RowKit.intOf i).toNat)
  case atStart => exact ⟨0, by omega, rfl, v, ws, L, v0, L0, v1, L1, lf, H3.out⟩
  case round =>
    clear a0
    obtain ⟨j, hj, rfl, hrun⟩ := hrel
    have HR := Lib.hid hrun
    by_cases hlt : j < 8
    · have j1 : (j : Int) < 8 := by omega
      have j0 : (0 : Int) ≤ j := by omega
      have hw3 : IntKind.i64.wrap ((j : Int) + 1) = (j : Int) + 1 := IntWalk.i64_in _ (by omega)
      have a0 : wr.cell? ⟨q, 0, none⟩ = some (.int .i64 8) := HKD.out ▸ HR.out.theAct.cell 0
      have a1 : wr.cell? ⟨q, 1, none⟩ = some (.int .i64 l.r) := HR.out.theAct.cell 1
      have a2 : wr.cell? ⟨q, 2, none⟩ = some (.int .i64 l.pg) := HR.out.theAct.cell 2
      have a3 : wr.cell? ⟨q, 3, none⟩ = some (.int .i64 l.o) := HR.out.theAct.cell 3
      have a4 : wr.cell? ⟨q, 4, none⟩ = some (.int .i64 l.n) := HR.out.theAct.cell 4
      have a5 : wr.cell? ⟨q, 5, none⟩ = some (.int .i64 l.f) := HR.out.theAct.cell 5
      have a6 : wr.cell? ⟨q, 6, none⟩ = some (.bool l.p) := HR.out.theAct.cell 6
      have a7 : wr.cell? ⟨q, 7, none⟩ = some (.bool l.w) := HR.out.theAct.cell 7
      have a8 : wr.cell? ⟨q, 8, none⟩ = some (.bool l.h) := HR.out.theAct.cell 8
      have a9 : wr.cell? ⟨q, 9, none⟩ = some (.bool l.k) := HR.out.theAct.cell 9
      have a10 : wr.cell? ⟨q, 10, none⟩ = some (.bool l.u) := HR.out.theAct.cell 10
      have a11 : wr.cell? ⟨q, 11, none⟩ = some (.bool l.d) := HR.out.theAct.cell 11
      go_upto_region 13 with (fail)
      obtain ⟨w5, hw5⟩ : ∃ w5, w5 = wr.alloc (.cells #[.int .i64 0, .int .i64 l.r, .int .i64 l.pg, .int .i64 0, .int .i64 l.n, .int .i64 l.f, .bool l.p, .bool l.w, .bool l.h, .bool l.k, .bool l.u, .bool l.d] 52) := ⟨_, rfl⟩
      obtain ⟨qb, hqb⟩ : ∃ qb, qb = wr.heap.size := ⟨_, rfl⟩
      have b5 : Below wr.heap.size wr w5 := hw5 ▸ below_new wr _ _
      have H5 := Lib.hid (HR.out.call b5)
      have r5 : Row w5 qb 52 [.int .i64 0, .int .i64 l.r, .int .i64 l.pg, .int .i64 0, .int .i64 l.n, .int .i64 l.f, .bool l.p, .bool l.w, .bool l.h, .bool l.k, .bool l.u, .bool l.d] := by rw [hw5, hqb]; exact Row.new wr _ _
      have HQB : Hid (q ≠ qb ∧ wr.heap.size ≤ qb) := by
        refine ⟨fun e => ?_, by rw [hqb]; exact Nat.le_refl _⟩
        have := HR.out.theAct.lt
        omega
      rw [← hw5, ← hqb]
      clear hw5 hqb hrun hlt a0 a1 a2 a3 a4 a5 a6 a7 a8 a9 a10 a11
      have a2 : w5.cell? ⟨q, 2, none⟩ = some (.int .i64 l.pg) := H5.out.theAct.cell 2
      have a5 : w5.cell? ⟨q, 5, none⟩ = some (.int .i64 l.f) := H5.out.theAct.cell 5
      have hfits : IsAc l := HL.out
      obtain ⟨-, lr, lp, -, ln, lff⟩ := hfits
      by_cases hlow : l.pg < 4000 ∧ l.f < 4000
      · obtain ⟨low1, low2⟩ := hlow
        have hwp : IntKind.i64.wrap (l.pg + (j : Int)) = l.pg + (j : Int) := IntWalk.i64_in _ (by unfold In64 at lp; omega)
        have hwf : IntKind.i64.wrap (l.f + (j : Int)) = l.f + (j : Int) := IntWalk.i64_in _ (by unfold In64 at lff; omega)
        have r6 := r5.set_ 2 (.int .i64 (l.pg + (j : Int)))
        have r7 := r6.set_ 5 (.int .i64 (l.f + (j : Int)))
        obtain ⟨w6, hw6⟩ : ∃ w6, w6 = w5.setCell ⟨qb, 2, none⟩ (.int .i64 (l.pg + (j : Int))) := ⟨_, rfl⟩
        obtain ⟨w7, hw7⟩ : ∃ w7, w7 = w6.setCell ⟨qb, 5, none⟩ (.int .i64 (l.f + (j : Int))) := ⟨_, rfl⟩
        rw [← hw6] at r6 r7
        rw [← hw7] at r7
        have hb6 : Below wr.heap.size wr w6 := by rw [hw6]; exact b5.setCell (HQB.out.2) _
        have hb7 : Below wr.heap.size wr w7 := by rw [hw7]; exact hb6.setCell (HQB.out.2) _
        have H6 := Lib.hid (HR.out.call hb6)
        have H7 := Lib.hid (HR.out.call hb7)
        have e2 : w5.cell? ⟨qb, 2, none⟩ = some (.int .i64 l.pg) := r5.cell 2
        have y2 := r5.frozen 2
        have e5 : w6.cell? ⟨qb, 5, none⟩ = some (.int .i64 l.f) := r6.cell 5
        have y5 := r6.frozen 5
        have c5 : w6.cell? ⟨q, 5, none⟩ = some (.int .i64 l.f) := H6.out.theAct.cell 5
        have hl9 : IsAc ⟨0, l.r, l.pg + (j : Int), 0, l.n, l.f + (j : Int), l.p, l.w, l.h, l.k, l.u, l.d⟩ := isAc0 lr (by unfold In64 at lp ⊢; omega) ln (by unfold In64 at lff ⊢; omega)
        have HW6 := Lib.hid hw6
        have HW7 := Lib.hid hw7
        clear r5 r6 hb6 hb7 b5 lr lp ln lff hw6 hw7
        go_upto_region 15 with (fail)
        rw [← HW6.out]
        clear a2 a5 e2 y2
        go_upto_region 16 with (fail)
        rw [← HW7.out]
        clear c5 e5 y5 hwp hwf low1 low2
        have b0 : w7.cell? ⟨qb, 0, none⟩ = some (.int .i64 0) := r7.cell 0
        have b1 : w7.cell? ⟨qb, 1, none⟩ = some (.int .i64 l.r) := r7.cell 1
        have b2 : w7.cell? ⟨qb, 2, none⟩ = some (.int .i64 (l.pg + (j : Int))) := r7.cell 2
        have b3 : w7.cell? ⟨qb, 3, none⟩ = some (.int .i64 0) := r7.cell 3
        have b4 : w7.cell? ⟨qb, 4, none⟩ = some (.int .i64 l.n) := r7.cell 4
        have b5 : w7.cell? ⟨qb, 5, none⟩ = some (.int .i64 (l.f + (j : Int))) := r7.cell 5
        have b6 : w7.cell? ⟨qb, 6, none⟩ = some (.bool l.p) := r7.cell 6
        have b7 : w7.cell? ⟨qb, 7, none⟩ = some (.bool l.w) := r7.cell 7
        have b8 : w7.cell? ⟨qb, 8, none⟩ = some (.bool l.h) := r7.cell 8
        have b9 : w7.cell? ⟨qb, 9, none⟩ = some (.bool l.k) := r7.cell 9
        have b10 : w7.cell? ⟨qb, 10, none⟩ = some (.bool l.u) := r7.cell 10
        have b11 : w7.cell? ⟨qb, 11, none⟩ = some (.bool l.d) := r7.cell 11
        have hone := one_run (k := k.act q l) H7.out (by have := HK.out.1; omega) (HK.out.2.act q l) ⟨0, l.r, l.pg + (j : Int), 0, l.n, l.f + (j : Int), l.p, l.w, l.h, l.k, l.u, l.d⟩ hl9
        unfold acCells at hone
        clear hl9
        go_wp2_with fail
        refine hone.mono ?_
        rintro e w9 ⟨⟨bb, rfl⟩, hr9⟩
        have HR9 := Lib.hid hr9
        clear hone hr9 b0 b1 b2 b3 b4 b5 b6 b7 b8 b9 b10 b11
        cases bb
        · go_wp2_with fail
          go_ret
          refine ⟨?_, HR9.out.dropAct.more (by omega)⟩
          first
          | exact ⟨_, rfl⟩
          | exact Or.inr rfl
          | exact Or.inl rfl
        · go_wp2_with fail
          go_roundw
          case rel => exact ⟨j + 1, by omega, by go_num, HR9.out.more (by omega)⟩
          case measure => simp [RowKit.intOf]; omega
      · have hl9 : IsAc ⟨0, l.r, l.pg, 0, l.n, l.f, l.p, l.w, l.h, l.k, l.u, l.d⟩ := isAc0 lr lp ln lff
        by_cases low1 : l.pg < 4000
        · have low2 : ¬ l.f < 4000 := fun e => hlow ⟨low1, e⟩
          clear hlow b5 lr lp ln lff
          go_upto_region 16 with (fail)
          clear a2 a5 low1 low2
          have b0 : w5.cell? ⟨qb, 0, none⟩ = some (.int .i64 0) := r5.cell 0
          have b1 : w5.cell? ⟨qb, 1, none⟩ = some (.int .i64 l.r) := r5.cell 1
          have b2 : w5.cell? ⟨qb, 2, none⟩ = some (.int .i64 (l.pg)) := r5.cell 2
          have b3 : w5.cell? ⟨qb, 3, none⟩ = some (.int .i64 0) := r5.cell 3
          have b4 : w5.cell? ⟨qb, 4, none⟩ = some (.int .i64 l.n) := r5.cell 4
          have b5 : w5.cell? ⟨qb, 5, none⟩ = some (.int .i64 (l.f)) := r5.cell 5
          have b6 : w5.cell? ⟨qb, 6, none⟩ = some (.bool l.p) := r5.cell 6
          have b7 : w5.cell? ⟨qb, 7, none⟩ = some (.bool l.w) := r5.cell 7
          have b8 : w5.cell? ⟨qb, 8, none⟩ = some (.bool l.h) := r5.cell 8
          have b9 : w5.cell? ⟨qb, 9, none⟩ = some (.bool l.k) := r5.cell 9
          have b10 : w5.cell? ⟨qb, 10, none⟩ = some (.bool l.u) := r5.cell 10
          have b11 : w5.cell? ⟨qb, 11, none⟩ = some (.bool l.d) := r5.cell 11
          have hone := one_run (k := k.act q l) H5.out (by have := HK.out.1; omega) (HK.out.2.act q l) ⟨0, l.r, l.pg, 0, l.n, l.f, l.p, l.w, l.h, l.k, l.u, l.d⟩ hl9
          unfold acCells at hone
          clear hl9
          go_wp2_with fail
          refine hone.mono ?_
          rintro e w9 ⟨⟨bb, rfl⟩, hr9⟩
          have HR9 := Lib.hid hr9
          clear hone hr9 b0 b1 b2 b3 b4 b5 b6 b7 b8 b9 b10 b11
          cases bb
          · go_wp2_with fail
            go_ret
            refine ⟨?_, HR9.out.dropAct.more (by omega)⟩
            first
            | exact ⟨_, rfl⟩
            | exact Or.inr rfl
            | exact Or.inl rfl
          · go_wp2_with fail
            go_roundw
            case rel => exact ⟨j + 1, by omega, by go_num, HR9.out.more (by omega)⟩
            case measure => simp [RowKit.intOf]; omega
        · clear hlow b5 lr lp ln lff
          go_upto_region 16 with (fail)
          clear a2 a5 low1
          have b0 : w5.cell? ⟨qb, 0, none⟩ = some (.int .i64 0) := r5.cell 0
          have b1 : w5.cell? ⟨qb, 1, none⟩ = some (.int .i64 l.r) := r5.cell 1
          have b2 : w5.cell? ⟨qb, 2, none⟩ = some (.int .i64 (l.pg)) := r5.cell 2
          have b3 : w5.cell? ⟨qb, 3, none⟩ = some (.int .i64 0) := r5.cell 3
          have b4 : w5.cell? ⟨qb, 4, none⟩ = some (.int .i64 l.n) := r5.cell 4
          have b5 : w5.cell? ⟨qb, 5, none⟩ = some (.int .i64 (l.f)) := r5.cell 5
          have b6 : w5.cell? ⟨qb, 6, none⟩ = some (.bool l.p) := r5.cell 6
          have b7 : w5.cell? ⟨qb, 7, none⟩ = some (.bool l.w) := r5.cell 7
          have b8 : w5.cell? ⟨qb, 8, none⟩ = some (.bool l.h) := r5.cell 8
          have b9 : w5.cell? ⟨qb, 9, none⟩ = some (.bool l.k) := r5.cell 9
          have b10 : w5.cell? ⟨qb, 10, none⟩ = some (.bool l.u) := r5.cell 10
          have b11 : w5.cell? ⟨qb, 11, none⟩ = some (.bool l.d) := r5.cell 11
          have hone := one_run (k := k.act q l) H5.out (by have := HK.out.1; omega) (HK.out.2.act q l) ⟨0, l.r, l.pg, 0, l.n, l.f, l.p, l.w, l.h, l.k, l.u, l.d⟩ hl9
          unfold acCells at hone
          clear hl9
          go_wp2_with fail
          refine hone.mono ?_
          rintro e w9 ⟨⟨bb, rfl⟩, hr9⟩
          have HR9 := Lib.hid hr9
          clear hone hr9 b0 b1 b2 b3 b4 b5 b6 b7 b8 b9 b10 b11
          cases bb
          · go_wp2_with fail
            go_ret
            refine ⟨?_, HR9.out.dropAct.more (by omega)⟩
            first
            | exact ⟨_, rfl⟩
            | exact Or.inr rfl
            | exact Or.inl rfl
          · go_wp2_with fail
            go_roundw
            case rel => exact ⟨j + 1, by omega, by go_num, HR9.out.more (by omega)⟩
            case measure => simp [RowKit.intOf]; omega
    · obtain rfl : j = 8 := by omega
      clear hrun hlt
      go_wp2_with fail
      go_ret
      refine ⟨?_, HR.out.dropAct.more (by omega)⟩
      first
      | exact ⟨_, rfl⟩
      | exact Or.inr rfl
      | exact Or.inl rfl
set_option maxRecDepth 100000 in
set_option maxHeartbeats 8000000 in
theorem do_eight1_9 (h : Lw w W k v ws L v0 L0 v1 L1 lf K) (hK : K + 64 ≤ 5000) (hk : Nice k) (l : Ac) (hl : IsAc l) (hb : bits .and .i64 l.r 1 = 1) (h7 : l.kd = 9) : Calls Try.prog 22 #[.pointer (some ⟨k.g, 0, none⟩), .agg (acCells l).toArray] W fun e W' => (∃ b, e = .returned (.bool b)) ∧ Run w W' k (K + 64) := by
  obtain ⟨q, hq⟩ : ∃ q, q = W.heap.size := ⟨_, rfl⟩
  have HQ := Lib.hid hq
  obtain ⟨w1, hw1⟩ : ∃ w1, w1 = W.alloc (.cells #[.int .i64 l.kd, .int .i64 l.r, .int .i64 l.pg, .int .i64 l.o, .int .i64 l.n, .int .i64 l.f, .bool l.p, .bool l.w, .bool l.h, .bool l.k, .bool l.u, .bool l.d] 52) := ⟨_, rfl⟩
  have HW1 := Lib.hid hw1
  have r1 : Row w1 q 52 (acCells l) := by rw [hw1, hq]; exact Row.new W _ (acCells l)
  have h1 := (h.call (hw1 ▸ below_new W _ _)).addAct r1
  have c1 : w1.cell? ⟨q, 1, none⟩ = some (.int .i64 l.r) := r1.cell 1
  have g5 : w1.cell? ⟨k.g, 6, none⟩ = some (.pointer (some ⟨k.x1, 0, none⟩)) := h1.row.cell 6
  have H1 := Lib.hid h1
  have HL := Lib.hid hl
  have HK := Lib.hid (And.intro hK hk)
  have HKD := Lib.hid h7
  clear h7
  unfold acCells
  clear hq hw1 r1 h h1 hl hK hk
  go_enter Try.func22, Try.ntmps22
  go_upto_region 1 with (fail)
  rw [← HW1.out, ← HQ.out]
  go_quiet (fail)
  have H2 := Lib.hid (H1.out.call (drewN_b (Below.refl _ _) nq))
  generalize w1.drewN nq = w2 at H2 ⊢
  have c0 : w2.cell? ⟨q, 0, none⟩ = some (.int .i64 9) := HKD.out ▸ H2.out.theAct.cell 0
  have c4 : w2.cell? ⟨q, 4, none⟩ = some (.int .i64 l.n) := H2.out.theAct.cell 4
  clear c1 g5 H1 HW1 hb
  go_upto_region 2 with (fail)
  go_quiet (fail)
  have H3 := Lib.hid (H2.out.call (drewN_b (Below.refl _ _) nq))
  generalize w2.drewN nq = w3 at H3 ⊢
  have a0 : w3.cell? ⟨q, 0, none⟩ = some (.int .i64 9) := HKD.out ▸ H3.out.theAct.cell 0
  clear c0 c4 H2
  go_wp2_with fail
  go_loopw [6] (fun i wr => ∃ j : Nat, j ≤ 8 ∧ i = .int .i64 j ∧ Run w wr (k.act q l) (K + 8 * j)) (fun i _ => 8 - (RowKit.intOf i).toNat)
  case atStart => exact ⟨0, by omega, rfl, v, ws, L, v0, L0, v1, L1, lf, H3.out⟩
  case round =>
    clear a0
    obtain ⟨j, hj, rfl, hrun⟩ := hrel
    have HR := Lib.hid hrun
    by_cases hlt : j < 8
    · have j1 : (j : Int) < 8 := by omega
      have j0 : (0 : Int) ≤ j := by omega
      have hw3 : IntKind.i64.wrap ((j : Int) + 1) = (j : Int) + 1 := IntWalk.i64_in _ (by omega)
      have a0 : wr.cell? ⟨q, 0, none⟩ = some (.int .i64 9) := HKD.out ▸ HR.out.theAct.cell 0
      have a1 : wr.cell? ⟨q, 1, none⟩ = some (.int .i64 l.r) := HR.out.theAct.cell 1
      have a2 : wr.cell? ⟨q, 2, none⟩ = some (.int .i64 l.pg) := HR.out.theAct.cell 2
      have a3 : wr.cell? ⟨q, 3, none⟩ = some (.int .i64 l.o) := HR.out.theAct.cell 3
      have a4 : wr.cell? ⟨q, 4, none⟩ = some (.int .i64 l.n) := HR.out.theAct.cell 4
      have a5 : wr.cell? ⟨q, 5, none⟩ = some (.int .i64 l.f) := HR.out.theAct.cell 5
      have a6 : wr.cell? ⟨q, 6, none⟩ = some (.bool l.p) := HR.out.theAct.cell 6
      have a7 : wr.cell? ⟨q, 7, none⟩ = some (.bool l.w) := HR.out.theAct.cell 7
      have a8 : wr.cell? ⟨q, 8, none⟩ = some (.bool l.h) := HR.out.theAct.cell 8
      have a9 : wr.cell? ⟨q, 9, none⟩ = some (.bool l.k) := HR.out.theAct.cell 9
      have a10 : wr.cell? ⟨q, 10, none⟩ = some (.bool l.u) := HR.out.theAct.cell 10
      have a11 : wr.cell? ⟨q, 11, none⟩ = some (.bool l.d) := HR.out.theAct.cell 11
      go_upto_region 13 with (fail)
      obtain ⟨w5, hw5⟩ : ∃ w5, w5 = wr.alloc (.cells #[.int .i64 0, .int .i64 l.r, .int .i64 l.pg, .int .i64 0, .int .i64 l.n, .int .i64 l.f, .bool l.p, .bool l.w, .bool l.h, .bool l.k, .bool l.u, .bool l.d] 52) := ⟨_, rfl⟩
      obtain ⟨qb, hqb⟩ : ∃ qb, qb = wr.heap.size := ⟨_, rfl⟩
      have b5 : Below wr.heap.size wr w5 := hw5 ▸ below_new wr _ _
      have H5 := Lib.hid (HR.out.call b5)
      have r5 : Row w5 qb 52 [.int .i64 0, .int .i64 l.r, .int .i64 l.pg, .int .i64 0, .int .i64 l.n, .int .i64 l.f, .bool l.p, .bool l.w, .bool l.h, .bool l.k, .bool l.u, .bool l.d] := by rw [hw5, hqb]; exact Row.new wr _ _
      have HQB : Hid (q ≠ qb ∧ wr.heap.size ≤ qb) := by
        refine ⟨fun e => ?_, by rw [hqb]; exact Nat.le_refl _⟩
        have := HR.out.theAct.lt
        omega
      rw [← hw5, ← hqb]
      clear hw5 hqb hrun hlt a0 a1 a2 a3 a4 a5 a6 a7 a8 a9 a10 a11
      have a2 : w5.cell? ⟨q, 2, none⟩ = some (.int .i64 l.pg) := H5.out.theAct.cell 2
      have a5 : w5.cell? ⟨q, 5, none⟩ = some (.int .i64 l.f) := H5.out.theAct.cell 5
      have hfits : IsAc l := HL.out
      obtain ⟨-, lr, lp, -, ln, lff⟩ := hfits
      by_cases hlow : l.pg < 4000 ∧ l.f < 4000
      · obtain ⟨low1, low2⟩ := hlow
        have hwp : IntKind.i64.wrap (l.pg + (j : Int)) = l.pg + (j : Int) := IntWalk.i64_in _ (by unfold In64 at lp; omega)
        have hwf : IntKind.i64.wrap (l.f + (j : Int)) = l.f + (j : Int) := IntWalk.i64_in _ (by unfold In64 at lff; omega)
        have r6 := r5.set_ 2 (.int .i64 (l.pg + (j : Int)))
        have r7 := r6.set_ 5 (.int .i64 (l.f + (j : Int)))
        obtain ⟨w6, hw6⟩ : ∃ w6, w6 = w5.setCell ⟨qb, 2, none⟩ (.int .i64 (l.pg + (j : Int))) := ⟨_, rfl⟩
        obtain ⟨w7, hw7⟩ : ∃ w7, w7 = w6.setCell ⟨qb, 5, none⟩ (.int .i64 (l.f + (j : Int))) := ⟨_, rfl⟩
        rw [← hw6] at r6 r7
        rw [← hw7] at r7
        have hb6 : Below wr.heap.size wr w6 := by rw [hw6]; exact b5.setCell (HQB.out.2) _
        have hb7 : Below wr.heap.size wr w7 := by rw [hw7]; exact hb6.setCell (HQB.out.2) _
        have H6 := Lib.hid (HR.out.call hb6)
        have H7 := Lib.hid (HR.out.call hb7)
        have e2 : w5.cell? ⟨qb, 2, none⟩ = some (.int .i64 l.pg) := r5.cell 2
        have y2 := r5.frozen 2
        have e5 : w6.cell? ⟨qb, 5, none⟩ = some (.int .i64 l.f) := r6.cell 5
        have y5 := r6.frozen 5
        have c5 : w6.cell? ⟨q, 5, none⟩ = some (.int .i64 l.f) := H6.out.theAct.cell 5
        have hl9 : IsAc ⟨0, l.r, l.pg + (j : Int), 0, l.n, l.f + (j : Int), l.p, l.w, l.h, l.k, l.u, l.d⟩ := isAc0 lr (by unfold In64 at lp ⊢; omega) ln (by unfold In64 at lff ⊢; omega)
        have HW6 := Lib.hid hw6
        have HW7 := Lib.hid hw7
        clear r5 r6 hb6 hb7 b5 lr lp ln lff hw6 hw7
        go_upto_region 15 with (fail)
        rw [← HW6.out]
        clear a2 a5 e2 y2
        go_upto_region 16 with (fail)
        rw [← HW7.out]
        clear c5 e5 y5 hwp hwf low1 low2
        have b0 : w7.cell? ⟨qb, 0, none⟩ = some (.int .i64 0) := r7.cell 0
        have b1 : w7.cell? ⟨qb, 1, none⟩ = some (.int .i64 l.r) := r7.cell 1
        have b2 : w7.cell? ⟨qb, 2, none⟩ = some (.int .i64 (l.pg + (j : Int))) := r7.cell 2
        have b3 : w7.cell? ⟨qb, 3, none⟩ = some (.int .i64 0) := r7.cell 3
        have b4 : w7.cell? ⟨qb, 4, none⟩ = some (.int .i64 l.n) := r7.cell 4
        have b5 : w7.cell? ⟨qb, 5, none⟩ = some (.int .i64 (l.f + (j : Int))) := r7.cell 5
        have b6 : w7.cell? ⟨qb, 6, none⟩ = some (.bool l.p) := r7.cell 6
        have b7 : w7.cell? ⟨qb, 7, none⟩ = some (.bool l.w) := r7.cell 7
        have b8 : w7.cell? ⟨qb, 8, none⟩ = some (.bool l.h) := r7.cell 8
        have b9 : w7.cell? ⟨qb, 9, none⟩ = some (.bool l.k) := r7.cell 9
        have b10 : w7.cell? ⟨qb, 10, none⟩ = some (.bool l.u) := r7.cell 10
        have b11 : w7.cell? ⟨qb, 11, none⟩ = some (.bool l.d) := r7.cell 11
        have hone := one_run (k := k.act q l) H7.out (by have := HK.out.1; omega) (HK.out.2.act q l) ⟨0, l.r, l.pg + (j : Int), 0, l.n, l.f + (j : Int), l.p, l.w, l.h, l.k, l.u, l.d⟩ hl9
        unfold acCells at hone
        clear hl9
        go_wp2_with fail
        refine hone.mono ?_
        rintro e w9 ⟨⟨bb, rfl⟩, hr9⟩
        have HR9 := Lib.hid hr9
        clear hone hr9 b0 b1 b2 b3 b4 b5 b6 b7 b8 b9 b10 b11
        cases bb
        · go_wp2_with fail
          go_ret
          refine ⟨?_, HR9.out.dropAct.more (by omega)⟩
          first
          | exact ⟨_, rfl⟩
          | exact Or.inr rfl
          | exact Or.inl rfl
        · go_wp2_with fail
          go_roundw
          case rel => exact ⟨j + 1, by omega, by go_num, HR9.out.more (by omega)⟩
          case measure => simp [RowKit.intOf]; omega
      · have hl9 : IsAc ⟨0, l.r, l.pg, 0, l.n, l.f, l.p, l.w, l.h, l.k, l.u, l.d⟩ := isAc0 lr lp ln lff
        by_cases low1 : l.pg < 4000
        · have low2 : ¬ l.f < 4000 := fun e => hlow ⟨low1, e⟩
          clear hlow b5 lr lp ln lff
          go_upto_region 16 with (fail)
          clear a2 a5 low1 low2
          have b0 : w5.cell? ⟨qb, 0, none⟩ = some (.int .i64 0) := r5.cell 0
          have b1 : w5.cell? ⟨qb, 1, none⟩ = some (.int .i64 l.r) := r5.cell 1
          have b2 : w5.cell? ⟨qb, 2, none⟩ = some (.int .i64 (l.pg)) := r5.cell 2
          have b3 : w5.cell? ⟨qb, 3, none⟩ = some (.int .i64 0) := r5.cell 3
          have b4 : w5.cell? ⟨qb, 4, none⟩ = some (.int .i64 l.n) := r5.cell 4
          have b5 : w5.cell? ⟨qb, 5, none⟩ = some (.int .i64 (l.f)) := r5.cell 5
          have b6 : w5.cell? ⟨qb, 6, none⟩ = some (.bool l.p) := r5.cell 6
          have b7 : w5.cell? ⟨qb, 7, none⟩ = some (.bool l.w) := r5.cell 7
          have b8 : w5.cell? ⟨qb, 8, none⟩ = some (.bool l.h) := r5.cell 8
          have b9 : w5.cell? ⟨qb, 9, none⟩ = some (.bool l.k) := r5.cell 9
          have b10 : w5.cell? ⟨qb, 10, none⟩ = some (.bool l.u) := r5.cell 10
          have b11 : w5.cell? ⟨qb, 11, none⟩ = some (.bool l.d) := r5.cell 11
          have hone := one_run (k := k.act q l) H5.out (by have := HK.out.1; omega) (HK.out.2.act q l) ⟨0, l.r, l.pg, 0, l.n, l.f, l.p, l.w, l.h, l.k, l.u, l.d⟩ hl9
          unfold acCells at hone
          clear hl9
          go_wp2_with fail
          refine hone.mono ?_
          rintro e w9 ⟨⟨bb, rfl⟩, hr9⟩
          have HR9 := Lib.hid hr9
          clear hone hr9 b0 b1 b2 b3 b4 b5 b6 b7 b8 b9 b10 b11
          cases bb
          · go_wp2_with fail
            go_ret
            refine ⟨?_, HR9.out.dropAct.more (by omega)⟩
            first
            | exact ⟨_, rfl⟩
            | exact Or.inr rfl
            | exact Or.inl rfl
          · go_wp2_with fail
            go_roundw
            case rel => exact ⟨j + 1, by omega, by go_num, HR9.out.more (by omega)⟩
            case measure => simp [RowKit.intOf]; omega
        · clear hlow b5 lr lp ln lff
          go_upto_region 16 with (fail)
          clear a2 a5 low1
          have b0 : w5.cell? ⟨qb, 0, none⟩ = some (.int .i64 0) := r5.cell 0
          have b1 : w5.cell? ⟨qb, 1, none⟩ = some (.int .i64 l.r) := r5.cell 1
          have b2 : w5.cell? ⟨qb, 2, none⟩ = some (.int .i64 (l.pg)) := r5.cell 2
          have b3 : w5.cell? ⟨qb, 3, none⟩ = some (.int .i64 0) := r5.cell 3
          have b4 : w5.cell? ⟨qb, 4, none⟩ = some (.int .i64 l.n) := r5.cell 4
          have b5 : w5.cell? ⟨qb, 5, none⟩ = some (.int .i64 (l.f)) := r5.cell 5
          have b6 : w5.cell? ⟨qb, 6, none⟩ = some (.bool l.p) := r5.cell 6
          have b7 : w5.cell? ⟨qb, 7, none⟩ = some (.bool l.w) := r5.cell 7
          have b8 : w5.cell? ⟨qb, 8, none⟩ = some (.bool l.h) := r5.cell 8
          have b9 : w5.cell? ⟨qb, 9, none⟩ = some (.bool l.k) := r5.cell 9
          have b10 : w5.cell? ⟨qb, 10, none⟩ = some (.bool l.u) := r5.cell 10
          have b11 : w5.cell? ⟨qb, 11, none⟩ = some (.bool l.d) := r5.cell 11
          have hone := one_run (k := k.act q l) H5.out (by have := HK.out.1; omega) (HK.out.2.act q l) ⟨0, l.r, l.pg, 0, l.n, l.f, l.p, l.w, l.h, l.k, l.u, l.d⟩ hl9
          unfold acCells at hone
          clear hl9
          go_wp2_with fail
          refine hone.mono ?_
          rintro e w9 ⟨⟨bb, rfl⟩, hr9⟩
          have HR9 := Lib.hid hr9
          clear hone hr9 b0 b1 b2 b3 b4 b5 b6 b7 b8 b9 b10 b11
          cases bb
          · go_wp2_with fail
            go_ret
            refine ⟨?_, HR9.out.dropAct.more (by omega)⟩
            first
            | exact ⟨_, rfl⟩
            | exact Or.inr rfl
            | exact Or.inl rfl
          · go_wp2_with fail
            go_roundw
            case rel => exact ⟨j + 1, by omega, by go_num, HR9.out.more (by omega)⟩
            case measure => simp [RowKit.intOf]; omega
    · obtain rfl : j = 8 := by omega
      clear hrun hlt
      go_wp2_with fail
      go_ret
      refine ⟨?_, HR.out.dropAct.more (by omega)⟩
      first
      | exact ⟨_, rfl⟩
      | exact Or.inr rfl
      | exact Or.inl rfl
end
end Go.Proofs.Ytpcpcgbejinlmaa
