/- The law's World.one of kind 3 (Unmap) over the state. -/
import Derived.Test.YtpcpcgbejinlmaaMk42
namespace Go.Proofs.Ytpcpcgbejinlmaa
open Go.RowKit
theorem row_seven {w : World} {g : Nat} {t : TypeId} {x0 x1 x2 x3 x4 x5 x6 y0 y1 y2 y3 y4 y5 y6 : Value} (h : Row w g t [x0, x1, x2, x3, x4, x5, x6]) :
    Row (((((((w.setCell ⟨g, 0, none⟩ y0).setCell ⟨g, 1, none⟩ y1).setCell ⟨g, 2, none⟩ y2).setCell ⟨g, 3, none⟩ y3).setCell ⟨g, 4, none⟩ y4).setCell ⟨g, 5, none⟩ y5).setCell ⟨g, 6, none⟩ y6) g t [y0, y1, y2, y3, y4, y5, y6] :=
  ((((((h.set_ 0 y0).set_ 1 y1).set_ 2 y2).set_ 3 y3).set_ 4 y4).set_ 5 y5).set_ 6 y6
theorem foot_seven (W : World) (q : Nat) (y0 y1 y2 y3 y4 y5 y6 : Value) :
    Foot (fun b => b = q) W (((((((W.setCell ⟨q, 0, none⟩ y0).setCell ⟨q, 1, none⟩ y1).setCell ⟨q, 2, none⟩ y2).setCell ⟨q, 3, none⟩ y3).setCell ⟨q, 4, none⟩ y4).setCell ⟨q, 5, none⟩ y5).setCell ⟨q, 6, none⟩ y6) := by
  have kk := fun k hk => seven_heap W q y0 y1 y2 y3 y4 y5 y6 (k := k) hk
  have b := below_7 (x0 := y0) (x1 := y1) (x2 := y2) (x3 := y3) (x4 := y4) (x5 := y5) (x6 := y6) (Below.refl q W) (Nat.le_refl q)
  generalize (((((((W.setCell ⟨q, 0, none⟩ y0).setCell ⟨q, 1, none⟩ y1).setCell ⟨q, 2, none⟩ y2).setCell ⟨q, 3, none⟩ y3).setCell ⟨q, 4, none⟩ y4).setCell ⟨q, 5, none⟩ y5).setCell ⟨q, 6, none⟩ y6) = W' at kk b ⊢
  exact ⟨b.os, b.tape, b.output, b.size, fun z _ hn => kk z hn⟩
section
variable {w W W' : World} {k : Lk} {v : Value} {ws L : List Int} {v0 : Value} {L0 : List Mp} {v1 : Value} {L1 : List Mp} {lf : Int} {K : Nat}
theorem RfT.entry {C y e : Nat} {u : Value} {M : List Mp} {cs : List Value} (h : RfT W C y u M) (he : Row W e 28 cs) (hf : Foot (fun b => b = e) W W') : RfT W' C y u M := by
  refine ⟨hf.row h.top (h.top.apart he (by decide)), h.ms.keep8 fun b hb => hf.keep b (h.ms.lt b hb).2 ?_, h.ok, h.len⟩
  obtain ⟨cur, hc⟩ := h.ms.typed hb
  intro e'
  subst e'
  unfold Row at he
  rw [he] at hc
  injection hc with hc
  injection hc with _ hc
  exact absurd hc (by decide)
theorem Lw.entry (h : Lw w W k v ws L v0 L0 v1 L1 lf K) {e : Nat} {cs : List Value} (he : Row W e 28 cs) (hl : w.heap.size ≤ e) (hf : Foot (fun b => b = e) W W') : Lw w W' k v ws L v0 L0 v1 L1 lf K := by
  have hg : Row _ _ _ _ := h.row
  refine ⟨h.tab.keep hf.size fun b hb => ?_, h.inv, h.all, hf.row hg (hg.apart he (by decide)), h.ref0.entry he hf, h.ref1.entry he hf, h.len0, h.len1, h.below.trans (hf.below h.below.size fun b hb => hb ▸ hl), h.lo, fun c hc => hf.row (h.acts c hc) ((h.acts c hc).apart he (by decide))⟩
  have ng := h.tab.apart he (by decide) (by decide) (by decide)
  have hlt : b < W.heap.size := by
    rcases hb with e | e | e
    · rw [e]; exact h.tab.ram.top.lt
    · rw [e]; exact h.tab.top.lt
    · exact h.tab.mine_lt e
  refine hf.keep b hlt ?_
  intro e'
  rcases hb with d | d | d
  · exact h.tab.ram.top.apart he (by decide) (d.symm.trans e')
  · exact h.tab.top.apart he (by decide) (d.symm.trans e')
  · rw [e'] at d; exact ng d
end
section
variable {w W : World} {k : Lk} {v : Value} {ws L : List Int} {v0 : Value} {L0 : List Mp} {v1 : Value} {L1 : List Mp} {lf : Int} {K : Nat}
set_option maxRecDepth 100000 in
set_option maxHeartbeats 4000000 in
theorem one_unmap0 (h : Lw w W k v ws L v0 L0 v1 L1 lf K) (hK : K + 8 ≤ 5000) (hn : k.n ≤ 100) (hr : Fits k.r0) (l : Ac) (hl : IsAc l) (hb : bits .and .i64 l.r 1 = 0) (hk : l.kd = 3) : Calls Try.prog 43 #[.pointer (some ⟨k.g, 0, none⟩), .agg (acCells l).toArray] W fun e W' => (∃ b, e = .returned (.bool b)) ∧ Run w W' k (K + 8) := by
  obtain ⟨q, hq⟩ : ∃ q, q = W.heap.size := ⟨_, rfl⟩
  have HQ := Lib.hid hq
  obtain ⟨w1, hw1⟩ : ∃ w1, w1 = W.alloc (.cells #[.int .i64 l.kd, .int .i64 l.r, .int .i64 l.pg, .int .i64 l.o, .int .i64 l.n, .int .i64 l.f, .bool l.p, .bool l.w, .bool l.h, .bool l.k, .bool l.u, .bool l.d] 52) := ⟨_, rfl⟩
  have HW1 := Lib.hid hw1
  have r1 : Row w1 q 52 (acCells l) := by rw [hw1, hq]; exact Row.new W _ (acCells l)
  have R1 := Lib.hid r1
  have h1 := h.call (hw1 ▸ below_new W _ _)
  have c0 : w1.cell? ⟨q, 0, none⟩ = some (.int .i64 l.kd) := r1.cell 0
  have c1 : w1.cell? ⟨q, 1, none⟩ = some (.int .i64 l.r) := r1.cell 1
  have g3 : w1.cell? ⟨k.g, 3, none⟩ = some (.int .i64 k.r0) := h1.row.cell 3
  have g5 : w1.cell? ⟨k.g, 5, none⟩ = some (.pointer (some ⟨k.x0, 0, none⟩)) := h1.row.cell 5
  have H1 := Lib.hid h1
  have HL := Lib.hid hl
  have HHK := Lib.hid hK
  rw [hk] at c0
  have HKD := Lib.hid hk
  clear hk
  unfold acCells
  clear hq hw1 r1 h h1 hl
  go_enter Try.func43, Try.ntmps43
  go_upto_region 1 with (fail)
  rw [← HW1.out, ← HQ.out]
  go_upto_region 2 with (fail)
  clear hb
  go_quiet (fail)
  have H2 := Lib.hid (H1.out.call (drewN_b (Below.refl _ _) nq))
  have R2 : Hid (Row (w1.drewN nq) q 52 (acCells l)) := R1.out
  have c0 : (w1.drewN nq).cell? ⟨q, 0, none⟩ = some (.int .i64 3) := HKD.out ▸ R2.out.cell 0
  generalize w1.drewN nq = w2 at H2 R2 c0 ⊢
  clear c1 g3 g5 H1 R1 HW1
  go_upto_region 5 with (fail)
  clear c0
  go_cut [8, 9] from 35 to 47 (fun p8 p9 wx => ∃ (eb : Nat) (er : Int) (v4 : Value) (ws4 L4 : List Int) (f : Int) (b0 b1 b7 b9 b5 b6 : Bool), p8 = .pointer (some ⟨eb, 0, none⟩) ∧ p9 = .int .i64 er ∧ Lw w wx k v4 ws4 L4 v0 L0 v1 L1 lf K ∧ Row wx q 52 (acCells l) ∧ Row wx eb 28 [.int .i64 f, .bool b0, .bool b1, .bool b7, .bool b9, .bool b5, .bool b6] ∧ w.heap.size ≤ eb)
  case first =>
    have hs2 : (fun v => v.cell? ⟨k.g, 0, none⟩ = some (.pointer (some ⟨k.s.x, 0, none⟩)) ∧ v.cell? ⟨q, 2, none⟩ = some (.int .i64 l.pg) ∧ v.cell? ⟨q, 3, none⟩ = some (.int .i64 l.o)) w2.drew := ⟨H2.out.row.cell 0, R2.out.cell 2, R2.out.cell 3⟩
    refine wp_region_noPanic ?_
    refine wp_region_held_drew (S := (fun v => v.cell? ⟨k.g, 0, none⟩ = some (.pointer (some ⟨k.s.x, 0, none⟩)) ∧ v.cell? ⟨q, 2, none⟩ = some (.int .i64 l.pg) ∧ v.cell? ⟨q, 3, none⟩ = some (.int .i64 l.o))) (by kernel_rfl) hs2 (fun hHeld => ?_)
    have H3 : Hid (Lw w w2.drew k v ws L v0 L0 v1 L1 lf K) := Lib.hid (H2.out.call (drewN_b (Below.refl _ _) 1))
    have R3 : Hid (Row w2.drew q 52 (acCells l)) := R2.out
    generalize w2.drew = w3 at hHeld hs2 H3 R3 ⊢
    clear H2 R2
    refine tkY 0 (at_lit rfl) (v := ?_) (Or.inl ⟨by rfl, ?_⟩) ?_
    rotate_left
    focus (intro _ h; (try dsimp only at h); go_simp; (try with_reducible rfl); done)
    (try simp only [Act.put, sAr, sZe, sSu])
    refine tkY 1 (at_lit rfl) (v := ?_) (Or.inl ⟨by rfl, ?_⟩) ?_
    rotate_left
    focus (intro _ h; (try dsimp only at h); go_simp; (try with_reducible rfl); done)
    (try simp only [Act.put, sAr, sZe, sSu])
    refine tkY 2 (at_lit rfl) (v := ?_) (Or.inl ⟨by rfl, ?_⟩) ?_
    rotate_left
    focus (intro _ h; (try dsimp only at h); go_simp; (try with_reducible rfl); done)
    (try simp only [Act.put, sAr, sZe, sSu])
    refine tkY 3 (at_lit rfl) (v := ?_) (Or.inl ⟨by rfl, ?_⟩) ?_
    rotate_left
    focus (intro _ h; (try dsimp only at h); go_simp; (try with_reducible rfl); done)
    (try simp only [Act.put, sAr, sZe, sSu])
    refine tkY 4 (at_lit rfl) (v := ?_) (Or.inl ⟨by rfl, ?_⟩) ?_
    rotate_left
    focus (intro _ h; (try dsimp only at h); go_simp; (try with_reducible rfl); done)
    (try simp only [Act.put, sAr, sZe, sSu])
    refine tkY 5 (at_lit rfl) (v := ?_) (Or.inl ⟨by rfl, ?_⟩) ?_
    rotate_left
    focus (intro _ h; (try dsimp only at h); go_simp; (try with_reducible rfl); done)
    (try simp only [Act.put, sAr, sZe, sSu])
    refine tkY 6 (at_lit rfl) (v := ?_) (Or.inl ⟨by rfl, ?_⟩) ?_
    rotate_left
    focus (intro _ h; (try dsimp only at h); go_simp; (try with_reducible rfl); done)
    (try simp only [Act.put, sAr, sZe, sSu])
    refine tkY 7 (at_lit rfl) (v := ?_) (Or.inl ⟨by rfl, ?_⟩) ?_
    rotate_left
    focus (intro _ h; (try dsimp only at h); go_simp; (try with_reducible rfl); done)
    (try simp only [Act.put, sAr, sZe, sSu])
    refine tkY 8 (at_lit rfl) (v := ?_) (Or.inl ⟨by rfl, ?_⟩) ?_
    rotate_left
    focus (intro _ h; (try dsimp only at h); go_simp; (try with_reducible rfl); done)
    (try simp only [Act.put, sAr, sZe, sSu])
    refine wpAnyH_ready (rs := [9, 13]) (by kernel_rfl) (by simp) ?_
    refine AllReadyH.cons (o := _) (at_lit rfl) (fun K hK => ?_) (AllReadyH.cons (o := _) (at_lit rfl) (fun K hK => ?_) AllReadyH.nil)
    · go_simp
      go_at_call 15
      refine ((lw_unmap H3.out hn false hr l.pg l.o HL.out.2.2.1).mono ?_)
      rintro e w4 ⟨f, b0, b1, b7, b9, b5, b6, er, rfl, v4, ws4, L4, h4, -, -, hm⟩
      have H4 := Lib.hid h4
      have R4 := Lib.hid (H3.out.tab.row hm R3.out (by decide) (by decide) (by decide))
      have hs4 : (fun v => v.cell? ⟨k.g, 0, none⟩ = some (.pointer (some ⟨k.s.x, 0, none⟩)) ∧ v.cell? ⟨q, 2, none⟩ = some (.int .i64 l.pg) ∧ v.cell? ⟨q, 3, none⟩ = some (.int .i64 l.o)) w4 := ⟨H4.out.row.cell 0, R4.out.cell 2, R4.out.cell 3⟩
      clear h4 hm H3 R3 hs2
      go_wp2_with fail
      refine hK.out _ _ ?_ (fun hHeld => ?_)
      focus exact hs4
      clear hK K
      (try simp only [Act.put, sAr, sZe, sSu])
      refine tkY 10 (at_lit rfl) (v := ?_) (Or.inl ⟨by rfl, ?_⟩) ?_
      rotate_left
      focus (intro _ h; (try dsimp only at h); go_simp; (try with_reducible rfl); done)
      (try simp only [Act.put, sAr, sZe, sSu])
      refine tkY 11 (at_lit rfl) (v := ?_) (Or.inl ⟨by rfl, ?_⟩) ?_
      rotate_left
      focus (intro _ h; (try dsimp only at h); go_simp; (try with_reducible rfl); done)
      (try simp only [Act.put, sAr, sZe, sSu])
      refine tkY 12 (at_lit rfl) (v := ?_) (Or.inl ⟨by rfl, ?_⟩) ?_
      rotate_left
      focus (intro _ h; (try dsimp only at h); go_simp; (try with_reducible rfl); done)
      (try simp only [Act.put, sAr, sZe, sSu])
      obtain ⟨eb, heb⟩ : ∃ eb, eb = w4.heap.size := ⟨_, rfl⟩
      have HEL : Hid (w.heap.size ≤ eb) := by show _ ≤ _; rw [heb]; exact H4.out.below.size
      obtain ⟨w6, hw6⟩ : ∃ w6, w6 = w4.alloc (.cells #[.int .i64 0, .bool false, .bool false, .bool false, .bool false, .bool false, .bool false] 28) := ⟨_, rfl⟩
      have H6 := Lib.hid (H4.out.call (hw6 ▸ below_new w4 _ _))
      have E6 : Hid (Row w6 eb 28 [.int .i64 0, .bool false, .bool false, .bool false, .bool false, .bool false, .bool false]) := by show Row _ _ _ _; rw [hw6, heb]; exact Row.new w4 _ _
      have R6 : Hid (Row w6 q 52 (acCells l)) := R4.out.below (hw6 ▸ below_new w4 _ _) R4.out.lt
      refine wpAnyH_ready (rs := [13]) (by kernel_rfl) (by simp) ?_
      refine AllReadyH.cons (o := _) (at_lit rfl) (fun K hK => ?_) AllReadyH.nil
      go_simp
      refine hK.out _ _ ?_ (fun hHeld => ?_)
      focus (have h6 := R6.out; rw [hw6] at h6; have g6 := H6.out.row; rw [hw6] at g6; exact ⟨g6.cell 0, h6.cell 2, h6.cell 3⟩)
      clear hK K hs4
      rw [← hw6] at hHeld ⊢
      rw [← heb]
      clear hw6 heb H4 R4
      have H7 := Lib.hid (H6.out.entry E6.out HEL.out (foot_seven w6 eb (.int .i64 f) (.bool b0) (.bool b1) (.bool b7) (.bool b9) (.bool b5) (.bool b6)))
      have E7 := Lib.hid (row_seven (y0 := .int .i64 f) (y1 := .bool b0) (y2 := .bool b1) (y3 := .bool b7) (y4 := .bool b9) (y5 := .bool b5) (y6 := .bool b6) E6.out)
      have R7 := Lib.hid ((foot_seven w6 eb (.int .i64 f) (.bool b0) (.bool b1) (.bool b7) (.bool b9) (.bool b5) (.bool b6)).row R6.out (R6.out.apart E6.out (by decide)))
      obtain ⟨⟨e0, e1, e2, e3, e4, e5, e6⟩, ef⟩ := E6.out.seven
      (try simp only [Act.put, sAr, sZe, sSu])
      refine wpAnyH_ready (rs := [14]) (by kernel_rfl) (by simp) ?_
      refine AllReadyH.cons (o := _) (at_lit rfl) (fun K hK => ?_) AllReadyH.nil
      go_simp
      go_wp2_with fail
      refine hK.out _ _ ?_ (fun hHeld => ?_)
      focus exact ⟨H7.out.row.cell 0, R7.out.cell 2, R7.out.cell 3⟩
      clear hK K e0 e1 e2 e3 e4 e5 e6 ef
      (try simp only [Act.put, sAr, sZe, sSu])
      refine tkY 15 (at_lit rfl) (v := ?_) (Or.inl ⟨by rfl, ?_⟩) ?_
      rotate_left
      focus (intro _ h; (try dsimp only at h); go_simp; (try with_reducible rfl); done)
      (try simp only [Act.put, sAr, sZe, sSu])
      refine wpAnyH_done (by kernel_rfl) ?_ _
      refine NoPanic.normal ?_
      go_wp2_with fail
      go_meet
      exact ⟨eb, er, v4, ws4, L4, f, b0, b1, b7, b9, b5, b6, rfl, rfl, H7.out, R7.out, E7.out, HEL.out⟩
    · go_simp
      obtain ⟨eb, heb⟩ : ∃ eb, eb = w3.heap.size := ⟨_, rfl⟩
      have HEL : Hid (w.heap.size ≤ eb) := by show _ ≤ _; rw [heb]; exact H3.out.below.size
      obtain ⟨w6, hw6⟩ : ∃ w6, w6 = w3.alloc (.cells #[.int .i64 0, .bool false, .bool false, .bool false, .bool false, .bool false, .bool false] 28) := ⟨_, rfl⟩
      have H6 := Lib.hid (H3.out.call (hw6 ▸ below_new w3 _ _))
      have E6 : Hid (Row w6 eb 28 [.int .i64 0, .bool false, .bool false, .bool false, .bool false, .bool false, .bool false]) := by show Row _ _ _ _; rw [hw6, heb]; exact Row.new w3 _ _
      have R6 : Hid (Row w6 q 52 (acCells l)) := R3.out.below (hw6 ▸ below_new w3 _ _) R3.out.lt
      refine hK.out _ _ ?_ (fun hHeld => ?_)
      focus (have h6 := R6.out; rw [hw6] at h6; have g6 := H6.out.row; rw [hw6] at g6; exact ⟨g6.cell 0, h6.cell 2, h6.cell 3⟩)
      clear hK K hs2
      rw [← hw6] at hHeld ⊢
      rw [← heb]
      clear hw6 heb H3 R3
      (try simp only [Act.put, sAr, sZe, sSu])
      refine wpAnyH_ready (rs := [9]) (by kernel_rfl) (by simp) ?_
      refine AllReadyH.cons (o := _) (at_lit rfl) (fun K hK => ?_) AllReadyH.nil
      go_simp
      go_at_call 15
      refine ((lw_unmap H6.out hn false hr l.pg l.o HL.out.2.2.1).mono ?_)
      rintro e w8 ⟨f, b0, b1, b7, b9, b5, b6, er, rfl, v4, ws4, L4, h4, -, -, hm⟩
      have H8 := Lib.hid h4
      have R8 := Lib.hid (H6.out.tab.row hm R6.out (by decide) (by decide) (by decide))
      have E8 := Lib.hid (H6.out.tab.row hm E6.out (by decide) (by decide) (by decide))
      clear h4 hm H6 R6 E6
      go_wp2_with fail
      refine hK.out _ _ ?_ (fun hHeld => ?_)
      focus exact ⟨H8.out.row.cell 0, R8.out.cell 2, R8.out.cell 3⟩
      clear hK K
      (try simp only [Act.put, sAr, sZe, sSu])
      refine tkY 10 (at_lit rfl) (v := ?_) (Or.inl ⟨by rfl, ?_⟩) ?_
      rotate_left
      focus (intro _ h; (try dsimp only at h); go_simp; (try with_reducible rfl); done)
      (try simp only [Act.put, sAr, sZe, sSu])
      refine tkY 11 (at_lit rfl) (v := ?_) (Or.inl ⟨by rfl, ?_⟩) ?_
      rotate_left
      focus (intro _ h; (try dsimp only at h); go_simp; (try with_reducible rfl); done)
      (try simp only [Act.put, sAr, sZe, sSu])
      refine tkY 12 (at_lit rfl) (v := ?_) (Or.inl ⟨by rfl, ?_⟩) ?_
      rotate_left
      focus (intro _ h; (try dsimp only at h); go_simp; (try with_reducible rfl); done)
      (try simp only [Act.put, sAr, sZe, sSu])
      have H7 := Lib.hid (H8.out.entry E8.out HEL.out (foot_seven w8 eb (.int .i64 f) (.bool b0) (.bool b1) (.bool b7) (.bool b9) (.bool b5) (.bool b6)))
      have E7 := Lib.hid (row_seven (y0 := .int .i64 f) (y1 := .bool b0) (y2 := .bool b1) (y3 := .bool b7) (y4 := .bool b9) (y5 := .bool b5) (y6 := .bool b6) E8.out)
      have R7 := Lib.hid ((foot_seven w8 eb (.int .i64 f) (.bool b0) (.bool b1) (.bool b7) (.bool b9) (.bool b5) (.bool b6)).row R8.out (R8.out.apart E8.out (by decide)))
      obtain ⟨⟨e0, e1, e2, e3, e4, e5, e6⟩, ef⟩ := E8.out.seven
      (try simp only [Act.put, sAr, sZe, sSu])
      refine wpAnyH_ready (rs := [14]) (by kernel_rfl) (by simp) ?_
      refine AllReadyH.cons (o := _) (at_lit rfl) (fun K hK => ?_) AllReadyH.nil
      go_simp
      go_wp2_with fail
      refine hK.out _ _ ?_ (fun hHeld => ?_)
      focus exact ⟨H7.out.row.cell 0, R7.out.cell 2, R7.out.cell 3⟩
      clear hK K e0 e1 e2 e3 e4 e5 e6 ef
      (try simp only [Act.put, sAr, sZe, sSu])
      refine tkY 15 (at_lit rfl) (v := ?_) (Or.inl ⟨by rfl, ?_⟩) ?_
      rotate_left
      focus (intro _ h; (try dsimp only at h); go_simp; (try with_reducible rfl); done)
      (try simp only [Act.put, sAr, sZe, sSu])
      refine wpAnyH_done (by kernel_rfl) ?_ _
      refine NoPanic.normal ?_
      go_wp2_with fail
      go_meet
      exact ⟨eb, er, v4, ws4, L4, f, b0, b1, b7, b9, b5, b6, rfl, rfl, H7.out, R7.out, E7.out, HEL.out⟩
  case rest =>
    obtain ⟨eb, er, v4, ws4, L4, f, b0, b1, b7, b9, b5, b6, rfl, rfl, h7, r7, e7, hel⟩ := hcut
    have H7 := Lib.hid h7
    have R7 := Lib.hid r7
    have E7 := Lib.hid e7
    have HEL := Lib.hid hel
    have q2 : wc.cell? ⟨q, 2, none⟩ = some (.int .i64 l.pg) := r7.cell 2
    have q3 : wc.cell? ⟨q, 3, none⟩ = some (.int .i64 l.o) := r7.cell 3
    have hC := cut8_any (C := w.heap.size) h7.row h7.ref0 h7.below.size l.pg l.o
    clear h7 r7 e7 hel H2 R2
    go_wp2_with fail
    refine hC.mono ?_
    rintro e w9 ⟨⟨f', c0, c1, c7, c9, c5, c6, er', rfl⟩, hf⟩
    have hf := hf.more
    obtain ⟨v05, L05, v15, L15, lf5, h9⟩ := H7.out.fair0 hf
    obtain ⟨-, -, -, -, -, -, hft, -⟩ := hf
    have e9 := hft.row E7.out (by rintro (e | e); exact E7.out.apart (show Row _ _ _ _ from H7.out.row) (by decide) e; exact E7.out.apart H7.out.ref0.top (by decide) e)
    obtain ⟨z, hz⟩ : ∃ z, z = w9.heap.size := ⟨_, rfl⟩
    obtain ⟨w10, hw10⟩ : ∃ w10, w10 = w9.alloc (.cells #[.int .i64 f', .bool c0, .bool c1, .bool c7, .bool c9, .bool c5, .bool c6] 28) := ⟨_, rfl⟩
    have H10 := Lib.hid (h9.call (hw10 ▸ below_new w9 _ _))
    have e10 := e9.below (hw10 ▸ below_new w9 _ _) e9.lt
    have z10 : Row w10 z 28 [.int .i64 f', .bool c0, .bool c1, .bool c7, .bool c9, .bool c5, .bool c6] := by rw [hw10, hz]; exact Row.new w9 _ _
    clear hC q2 q3 hft e9 h9 H7 R7 E7
    go_upto_region 7 with (fail)
    rw [← hw10, ← hz]
    obtain ⟨⟨e0, e1, e2, e3, e4, e5, e6⟩, -⟩ := e10.seven
    obtain ⟨⟨z0, z1, z2, z3, z4, z5, z6⟩, -⟩ := z10.seven
    clear hw10 hz e10 z10
    clear hn hr
    go_wp2_with fail
    all_goals
      go_ret
      exact ⟨⟨_, rfl⟩, _, _, _, _, _, _, _, _, H10.out⟩
set_option maxRecDepth 100000 in
set_option maxHeartbeats 4000000 in
theorem one_unmap1 (h : Lw w W k v ws L v0 L0 v1 L1 lf K) (hK : K + 8 ≤ 5000) (hn : k.n ≤ 100) (hr : Fits k.r1) (l : Ac) (hl : IsAc l) (hb : bits .and .i64 l.r 1 = 1) (hk : l.kd = 3) : Calls Try.prog 43 #[.pointer (some ⟨k.g, 0, none⟩), .agg (acCells l).toArray] W fun e W' => (∃ b, e = .returned (.bool b)) ∧ Run w W' k (K + 8) := by
  obtain ⟨q, hq⟩ : ∃ q, q = W.heap.size := ⟨_, rfl⟩
  have HQ := Lib.hid hq
  obtain ⟨w1, hw1⟩ : ∃ w1, w1 = W.alloc (.cells #[.int .i64 l.kd, .int .i64 l.r, .int .i64 l.pg, .int .i64 l.o, .int .i64 l.n, .int .i64 l.f, .bool l.p, .bool l.w, .bool l.h, .bool l.k, .bool l.u, .bool l.d] 52) := ⟨_, rfl⟩
  have HW1 := Lib.hid hw1
  have r1 : Row w1 q 52 (acCells l) := by rw [hw1, hq]; exact Row.new W _ (acCells l)
  have R1 := Lib.hid r1
  have h1 := h.call (hw1 ▸ below_new W _ _)
  have c0 : w1.cell? ⟨q, 0, none⟩ = some (.int .i64 l.kd) := r1.cell 0
  have c1 : w1.cell? ⟨q, 1, none⟩ = some (.int .i64 l.r) := r1.cell 1
  have g3 : w1.cell? ⟨k.g, 4, none⟩ = some (.int .i64 k.r1) := h1.row.cell 4
  have g5 : w1.cell? ⟨k.g, 6, none⟩ = some (.pointer (some ⟨k.x1, 0, none⟩)) := h1.row.cell 6
  have H1 := Lib.hid h1
  have HL := Lib.hid hl
  have HHK := Lib.hid hK
  rw [hk] at c0
  have HKD := Lib.hid hk
  clear hk
  unfold acCells
  clear hq hw1 r1 h h1 hl
  go_enter Try.func43, Try.ntmps43
  go_upto_region 1 with (fail)
  rw [← HW1.out, ← HQ.out]
  go_upto_region 2 with (fail)
  clear hb
  go_quiet (fail)
  have H2 := Lib.hid (H1.out.call (drewN_b (Below.refl _ _) nq))
  have R2 : Hid (Row (w1.drewN nq) q 52 (acCells l)) := R1.out
  have c0 : (w1.drewN nq).cell? ⟨q, 0, none⟩ = some (.int .i64 3) := HKD.out ▸ R2.out.cell 0
  generalize w1.drewN nq = w2 at H2 R2 c0 ⊢
  clear c1 g3 g5 H1 R1 HW1
  go_upto_region 5 with (fail)
  clear c0
  go_cut [8, 9] from 35 to 47 (fun p8 p9 wx => ∃ (eb : Nat) (er : Int) (v4 : Value) (ws4 L4 : List Int) (f : Int) (b0 b1 b7 b9 b5 b6 : Bool), p8 = .pointer (some ⟨eb, 0, none⟩) ∧ p9 = .int .i64 er ∧ Lw w wx k v4 ws4 L4 v0 L0 v1 L1 lf K ∧ Row wx q 52 (acCells l) ∧ Row wx eb 28 [.int .i64 f, .bool b0, .bool b1, .bool b7, .bool b9, .bool b5, .bool b6] ∧ w.heap.size ≤ eb)
  case first =>
    have hs2 : (fun v => v.cell? ⟨k.g, 0, none⟩ = some (.pointer (some ⟨k.s.x, 0, none⟩)) ∧ v.cell? ⟨q, 2, none⟩ = some (.int .i64 l.pg) ∧ v.cell? ⟨q, 3, none⟩ = some (.int .i64 l.o)) w2.drew := ⟨H2.out.row.cell 0, R2.out.cell 2, R2.out.cell 3⟩
    refine wp_region_noPanic ?_
    refine wp_region_held_drew (S := (fun v => v.cell? ⟨k.g, 0, none⟩ = some (.pointer (some ⟨k.s.x, 0, none⟩)) ∧ v.cell? ⟨q, 2, none⟩ = some (.int .i64 l.pg) ∧ v.cell? ⟨q, 3, none⟩ = some (.int .i64 l.o))) (by kernel_rfl) hs2 (fun hHeld => ?_)
    have H3 : Hid (Lw w w2.drew k v ws L v0 L0 v1 L1 lf K) := Lib.hid (H2.out.call (drewN_b (Below.refl _ _) 1))
    have R3 : Hid (Row w2.drew q 52 (acCells l)) := R2.out
    generalize w2.drew = w3 at hHeld hs2 H3 R3 ⊢
    clear H2 R2
    refine tkY 0 (at_lit rfl) (v := ?_) (Or.inl ⟨by rfl, ?_⟩) ?_
    rotate_left
    focus (intro _ h; (try dsimp only at h); go_simp; (try with_reducible rfl); done)
    (try simp only [Act.put, sAr, sZe, sSu])
    refine tkY 1 (at_lit rfl) (v := ?_) (Or.inl ⟨by rfl, ?_⟩) ?_
    rotate_left
    focus (intro _ h; (try dsimp only at h); go_simp; (try with_reducible rfl); done)
    (try simp only [Act.put, sAr, sZe, sSu])
    refine tkY 2 (at_lit rfl) (v := ?_) (Or.inl ⟨by rfl, ?_⟩) ?_
    rotate_left
    focus (intro _ h; (try dsimp only at h); go_simp; (try with_reducible rfl); done)
    (try simp only [Act.put, sAr, sZe, sSu])
    refine tkY 3 (at_lit rfl) (v := ?_) (Or.inl ⟨by rfl, ?_⟩) ?_
    rotate_left
    focus (intro _ h; (try dsimp only at h); go_simp; (try with_reducible rfl); done)
    (try simp only [Act.put, sAr, sZe, sSu])
    refine tkY 4 (at_lit rfl) (v := ?_) (Or.inl ⟨by rfl, ?_⟩) ?_
    rotate_left
    focus (intro _ h; (try dsimp only at h); go_simp; (try with_reducible rfl); done)
    (try simp only [Act.put, sAr, sZe, sSu])
    refine tkY 5 (at_lit rfl) (v := ?_) (Or.inl ⟨by rfl, ?_⟩) ?_
    rotate_left
    focus (intro _ h; (try dsimp only at h); go_simp; (try with_reducible rfl); done)
    (try simp only [Act.put, sAr, sZe, sSu])
    refine tkY 6 (at_lit rfl) (v := ?_) (Or.inl ⟨by rfl, ?_⟩) ?_
    rotate_left
    focus (intro _ h; (try dsimp only at h); go_simp; (try with_reducible rfl); done)
    (try simp only [Act.put, sAr, sZe, sSu])
    refine tkY 7 (at_lit rfl) (v := ?_) (Or.inl ⟨by rfl, ?_⟩) ?_
    rotate_left
    focus (intro _ h; (try dsimp only at h); go_simp; (try with_reducible rfl); done)
    (try simp only [Act.put, sAr, sZe, sSu])
    refine tkY 8 (at_lit rfl) (v := ?_) (Or.inl ⟨by rfl, ?_⟩) ?_
    rotate_left
    focus (intro _ h; (try dsimp only at h); go_simp; (try with_reducible rfl); done)
    (try simp only [Act.put, sAr, sZe, sSu])
    refine wpAnyH_ready (rs := [9, 13]) (by kernel_rfl) (by simp) ?_
    refine AllReadyH.cons (o := _) (at_lit rfl) (fun K hK => ?_) (AllReadyH.cons (o := _) (at_lit rfl) (fun K hK => ?_) AllReadyH.nil)
    · go_simp
      go_at_call 15
      refine ((lw_unmap H3.out hn true hr l.pg l.o HL.out.2.2.1).mono ?_)
      rintro e w4 ⟨f, b0, b1, b7, b9, b5, b6, er, rfl, v4, ws4, L4, h4, -, -, hm⟩
      have H4 := Lib.hid h4
      have R4 := Lib.hid (H3.out.tab.row hm R3.out (by decide) (by decide) (by decide))
      have hs4 : (fun v => v.cell? ⟨k.g, 0, none⟩ = some (.pointer (some ⟨k.s.x, 0, none⟩)) ∧ v.cell? ⟨q, 2, none⟩ = some (.int .i64 l.pg) ∧ v.cell? ⟨q, 3, none⟩ = some (.int .i64 l.o)) w4 := ⟨H4.out.row.cell 0, R4.out.cell 2, R4.out.cell 3⟩
      clear h4 hm H3 R3 hs2
      go_wp2_with fail
      refine hK.out _ _ ?_ (fun hHeld => ?_)
      focus exact hs4
      clear hK K
      (try simp only [Act.put, sAr, sZe, sSu])
      refine tkY 10 (at_lit rfl) (v := ?_) (Or.inl ⟨by rfl, ?_⟩) ?_
      rotate_left
      focus (intro _ h; (try dsimp only at h); go_simp; (try with_reducible rfl); done)
      (try simp only [Act.put, sAr, sZe, sSu])
      refine tkY 11 (at_lit rfl) (v := ?_) (Or.inl ⟨by rfl, ?_⟩) ?_
      rotate_left
      focus (intro _ h; (try dsimp only at h); go_simp; (try with_reducible rfl); done)
      (try simp only [Act.put, sAr, sZe, sSu])
      refine tkY 12 (at_lit rfl) (v := ?_) (Or.inl ⟨by rfl, ?_⟩) ?_
      rotate_left
      focus (intro _ h; (try dsimp only at h); go_simp; (try with_reducible rfl); done)
      (try simp only [Act.put, sAr, sZe, sSu])
      obtain ⟨eb, heb⟩ : ∃ eb, eb = w4.heap.size := ⟨_, rfl⟩
      have HEL : Hid (w.heap.size ≤ eb) := by show _ ≤ _; rw [heb]; exact H4.out.below.size
      obtain ⟨w6, hw6⟩ : ∃ w6, w6 = w4.alloc (.cells #[.int .i64 0, .bool false, .bool false, .bool false, .bool false, .bool false, .bool false] 28) := ⟨_, rfl⟩
      have H6 := Lib.hid (H4.out.call (hw6 ▸ below_new w4 _ _))
      have E6 : Hid (Row w6 eb 28 [.int .i64 0, .bool false, .bool false, .bool false, .bool false, .bool false, .bool false]) := by show Row _ _ _ _; rw [hw6, heb]; exact Row.new w4 _ _
      have R6 : Hid (Row w6 q 52 (acCells l)) := R4.out.below (hw6 ▸ below_new w4 _ _) R4.out.lt
      refine wpAnyH_ready (rs := [13]) (by kernel_rfl) (by simp) ?_
      refine AllReadyH.cons (o := _) (at_lit rfl) (fun K hK => ?_) AllReadyH.nil
      go_simp
      refine hK.out _ _ ?_ (fun hHeld => ?_)
      focus (have h6 := R6.out; rw [hw6] at h6; have g6 := H6.out.row; rw [hw6] at g6; exact ⟨g6.cell 0, h6.cell 2, h6.cell 3⟩)
      clear hK K hs4
      rw [← hw6] at hHeld ⊢
      rw [← heb]
      clear hw6 heb H4 R4
      have H7 := Lib.hid (H6.out.entry E6.out HEL.out (foot_seven w6 eb (.int .i64 f) (.bool b0) (.bool b1) (.bool b7) (.bool b9) (.bool b5) (.bool b6)))
      have E7 := Lib.hid (row_seven (y0 := .int .i64 f) (y1 := .bool b0) (y2 := .bool b1) (y3 := .bool b7) (y4 := .bool b9) (y5 := .bool b5) (y6 := .bool b6) E6.out)
      have R7 := Lib.hid ((foot_seven w6 eb (.int .i64 f) (.bool b0) (.bool b1) (.bool b7) (.bool b9) (.bool b5) (.bool b6)).row R6.out (R6.out.apart E6.out (by decide)))
      obtain ⟨⟨e0, e1, e2, e3, e4, e5, e6⟩, ef⟩ := E6.out.seven
      (try simp only [Act.put, sAr, sZe, sSu])
      refine wpAnyH_ready (rs := [14]) (by kernel_rfl) (by simp) ?_
      refine AllReadyH.cons (o := _) (at_lit rfl) (fun K hK => ?_) AllReadyH.nil
      go_simp
      go_wp2_with fail
      refine hK.out _ _ ?_ (fun hHeld => ?_)
      focus exact ⟨H7.out.row.cell 0, R7.out.cell 2, R7.out.cell 3⟩
      clear hK K e0 e1 e2 e3 e4 e5 e6 ef
      (try simp only [Act.put, sAr, sZe, sSu])
      refine tkY 15 (at_lit rfl) (v := ?_) (Or.inl ⟨by rfl, ?_⟩) ?_
      rotate_left
      focus (intro _ h; (try dsimp only at h); go_simp; (try with_reducible rfl); done)
      (try simp only [Act.put, sAr, sZe, sSu])
      refine wpAnyH_done (by kernel_rfl) ?_ _
      refine NoPanic.normal ?_
      go_wp2_with fail
      go_meet
      exact ⟨eb, er, v4, ws4, L4, f, b0, b1, b7, b9, b5, b6, rfl, rfl, H7.out, R7.out, E7.out, HEL.out⟩
    · go_simp
      obtain ⟨eb, heb⟩ : ∃ eb, eb = w3.heap.size := ⟨_, rfl⟩
      have HEL : Hid (w.heap.size ≤ eb) := by show _ ≤ _; rw [heb]; exact H3.out.below.size
      obtain ⟨w6, hw6⟩ : ∃ w6, w6 = w3.alloc (.cells #[.int .i64 0, .bool false, .bool false, .bool false, .bool false, .bool false, .bool false] 28) := ⟨_, rfl⟩
      have H6 := Lib.hid (H3.out.call (hw6 ▸ below_new w3 _ _))
      have E6 : Hid (Row w6 eb 28 [.int .i64 0, .bool false, .bool false, .bool false, .bool false, .bool false, .bool false]) := by show Row _ _ _ _; rw [hw6, heb]; exact Row.new w3 _ _
      have R6 : Hid (Row w6 q 52 (acCells l)) := R3.out.below (hw6 ▸ below_new w3 _ _) R3.out.lt
      refine hK.out _ _ ?_ (fun hHeld => ?_)
      focus (have h6 := R6.out; rw [hw6] at h6; have g6 := H6.out.row; rw [hw6] at g6; exact ⟨g6.cell 0, h6.cell 2, h6.cell 3⟩)
      clear hK K hs2
      rw [← hw6] at hHeld ⊢
      rw [← heb]
      clear hw6 heb H3 R3
      (try simp only [Act.put, sAr, sZe, sSu])
      refine wpAnyH_ready (rs := [9]) (by kernel_rfl) (by simp) ?_
      refine AllReadyH.cons (o := _) (at_lit rfl) (fun K hK => ?_) AllReadyH.nil
      go_simp
      go_at_call 15
      refine ((lw_unmap H6.out hn true hr l.pg l.o HL.out.2.2.1).mono ?_)
      rintro e w8 ⟨f, b0, b1, b7, b9, b5, b6, er, rfl, v4, ws4, L4, h4, -, -, hm⟩
      have H8 := Lib.hid h4
      have R8 := Lib.hid (H6.out.tab.row hm R6.out (by decide) (by decide) (by decide))
      have E8 := Lib.hid (H6.out.tab.row hm E6.out (by decide) (by decide) (by decide))
      clear h4 hm H6 R6 E6
      go_wp2_with fail
      refine hK.out _ _ ?_ (fun hHeld => ?_)
      focus exact ⟨H8.out.row.cell 0, R8.out.cell 2, R8.out.cell 3⟩
      clear hK K
      (try simp only [Act.put, sAr, sZe, sSu])
      refine tkY 10 (at_lit rfl) (v := ?_) (Or.inl ⟨by rfl, ?_⟩) ?_
      rotate_left
      focus (intro _ h; (try dsimp only at h); go_simp; (try with_reducible rfl); done)
      (try simp only [Act.put, sAr, sZe, sSu])
      refine tkY 11 (at_lit rfl) (v := ?_) (Or.inl ⟨by rfl, ?_⟩) ?_
      rotate_left
      focus (intro _ h; (try dsimp only at h); go_simp; (try with_reducible rfl); done)
      (try simp only [Act.put, sAr, sZe, sSu])
      refine tkY 12 (at_lit rfl) (v := ?_) (Or.inl ⟨by rfl, ?_⟩) ?_
      rotate_left
      focus (intro _ h; (try dsimp only at h); go_simp; (try with_reducible rfl); done)
      (try simp only [Act.put, sAr, sZe, sSu])
      have H7 := Lib.hid (H8.out.entry E8.out HEL.out (foot_seven w8 eb (.int .i64 f) (.bool b0) (.bool b1) (.bool b7) (.bool b9) (.bool b5) (.bool b6)))
      have E7 := Lib.hid (row_seven (y0 := .int .i64 f) (y1 := .bool b0) (y2 := .bool b1) (y3 := .bool b7) (y4 := .bool b9) (y5 := .bool b5) (y6 := .bool b6) E8.out)
      have R7 := Lib.hid ((foot_seven w8 eb (.int .i64 f) (.bool b0) (.bool b1) (.bool b7) (.bool b9) (.bool b5) (.bool b6)).row R8.out (R8.out.apart E8.out (by decide)))
      obtain ⟨⟨e0, e1, e2, e3, e4, e5, e6⟩, ef⟩ := E8.out.seven
      (try simp only [Act.put, sAr, sZe, sSu])
      refine wpAnyH_ready (rs := [14]) (by kernel_rfl) (by simp) ?_
      refine AllReadyH.cons (o := _) (at_lit rfl) (fun K hK => ?_) AllReadyH.nil
      go_simp
      go_wp2_with fail
      refine hK.out _ _ ?_ (fun hHeld => ?_)
      focus exact ⟨H7.out.row.cell 0, R7.out.cell 2, R7.out.cell 3⟩
      clear hK K e0 e1 e2 e3 e4 e5 e6 ef
      (try simp only [Act.put, sAr, sZe, sSu])
      refine tkY 15 (at_lit rfl) (v := ?_) (Or.inl ⟨by rfl, ?_⟩) ?_
      rotate_left
      focus (intro _ h; (try dsimp only at h); go_simp; (try with_reducible rfl); done)
      (try simp only [Act.put, sAr, sZe, sSu])
      refine wpAnyH_done (by kernel_rfl) ?_ _
      refine NoPanic.normal ?_
      go_wp2_with fail
      go_meet
      exact ⟨eb, er, v4, ws4, L4, f, b0, b1, b7, b9, b5, b6, rfl, rfl, H7.out, R7.out, E7.out, HEL.out⟩
  case rest =>
    obtain ⟨eb, er, v4, ws4, L4, f, b0, b1, b7, b9, b5, b6, rfl, rfl, h7, r7, e7, hel⟩ := hcut
    have H7 := Lib.hid h7
    have R7 := Lib.hid r7
    have E7 := Lib.hid e7
    have HEL := Lib.hid hel
    have q2 : wc.cell? ⟨q, 2, none⟩ = some (.int .i64 l.pg) := r7.cell 2
    have q3 : wc.cell? ⟨q, 3, none⟩ = some (.int .i64 l.o) := r7.cell 3
    have hC := cut8_any (C := w.heap.size) h7.row h7.ref1 h7.below.size l.pg l.o
    clear h7 r7 e7 hel H2 R2
    go_wp2_with fail
    refine hC.mono ?_
    rintro e w9 ⟨⟨f', c0, c1, c7, c9, c5, c6, er', rfl⟩, hf⟩
    have hf := hf.more
    obtain ⟨v05, L05, v15, L15, lf5, h9⟩ := H7.out.fair1 hf
    obtain ⟨-, -, -, -, -, -, hft, -⟩ := hf
    have e9 := hft.row E7.out (by rintro (e | e); exact E7.out.apart (show Row _ _ _ _ from H7.out.row) (by decide) e; exact E7.out.apart H7.out.ref1.top (by decide) e)
    obtain ⟨z, hz⟩ : ∃ z, z = w9.heap.size := ⟨_, rfl⟩
    obtain ⟨w10, hw10⟩ : ∃ w10, w10 = w9.alloc (.cells #[.int .i64 f', .bool c0, .bool c1, .bool c7, .bool c9, .bool c5, .bool c6] 28) := ⟨_, rfl⟩
    have H10 := Lib.hid (h9.call (hw10 ▸ below_new w9 _ _))
    have e10 := e9.below (hw10 ▸ below_new w9 _ _) e9.lt
    have z10 : Row w10 z 28 [.int .i64 f', .bool c0, .bool c1, .bool c7, .bool c9, .bool c5, .bool c6] := by rw [hw10, hz]; exact Row.new w9 _ _
    clear hC q2 q3 hft e9 h9 H7 R7 E7
    go_upto_region 7 with (fail)
    rw [← hw10, ← hz]
    obtain ⟨⟨e0, e1, e2, e3, e4, e5, e6⟩, -⟩ := e10.seven
    obtain ⟨⟨z0, z1, z2, z3, z4, z5, z6⟩, -⟩ := z10.seven
    clear hw10 hz e10 z10
    clear hn hr
    go_wp2_with fail
    all_goals
      go_ret
      exact ⟨⟨_, rfl⟩, _, _, _, _, _, _, _, _, H10.out⟩
end
end Go.Proofs.Ytpcpcgbejinlmaa
