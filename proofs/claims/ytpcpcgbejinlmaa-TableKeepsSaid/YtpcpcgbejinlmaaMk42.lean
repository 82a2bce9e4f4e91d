/- The law's World.one over the state. -/
import Derived.Test.YtpcpcgbejinlmaaMk41
namespace Go.Proofs.Ytpcpcgbejinlmaa
open Go.RowKit
def Run (w W : World) (k : Lk) (K : Nat) : Prop := ∃ v ws L v0 L0 v1 L1 lf, Lw w W k v ws L v0 L0 v1 L1 lf K
theorem and_one (x : Int) : bits .and .i64 x 1 = 0 ∨ bits .and .i64 x 1 = 1 := by
  have e : bits .and .i64 x 1 = IntKind.i64.wrap ((BitVec.ofInt 64 x &&& BitVec.ofInt 64 1).toNat : Int) := rfl
  have h : (BitVec.ofInt 64 x &&& BitVec.ofInt 64 1).toNat = (BitVec.ofInt 64 x).toNat % 2 := by
    rw [BitVec.toNat_and, show (BitVec.ofInt 64 1).toNat = 1 from rfl, Nat.and_one_is_mod]
  rw [e, h, IntWalk.i64_in _ (by omega)]
  omega
section
variable {w W : World} {k : Lk} {v : Value} {ws L : List Int} {v0 : Value} {L0 : List Mp} {v1 : Value} {L1 : List Mp} {lf : Int} {K : Nat}
theorem Fair.more {C g x j : Nat} {p : Nat → Value} {W' : World} (h : Fair W C g x j p v L0 W') (hj : j ≤ 8 := by omega) : Fair W C g x 8 p v L0 W' := by
  obtain ⟨a, b, c, d, e, f, g', i⟩ := h
  exact ⟨a, b, c, d, e, by omega, g', i⟩
theorem Run.call {W' : World} (h : Run w W k K) (hb : Below W.heap.size W W') : Run w W' k K := by
  obtain ⟨v, ws, L, v0, L0, v1, L1, lf, h⟩ := h
  exact ⟨v, ws, L, v0, L0, v1, L1, lf, h.call hb⟩
set_option maxRecDepth 100000 in
set_option maxHeartbeats 4000000 in
theorem one_split0 (h : Lw w W k v ws L v0 L0 v1 L1 lf K) (hK : K + 8 ≤ 5000) (hn : k.n ≤ 100) (hr : Fits k.r0) (l : Ac) (hl : IsAc l) (hb : bits .and .i64 l.r 1 = 0) (hk : l.kd = 5) : Calls Try.prog 43 #[.pointer (some ⟨k.g, 0, none⟩), .agg (acCells l).toArray] W fun e W' => (∃ b, e = .returned (.bool b)) ∧ Run w W' k (K + 8) := by
  obtain ⟨q, hq⟩ : ∃ q, q = W.heap.size := ⟨_, rfl⟩
  have HQ := Lib.hid hq
  obtain ⟨w1, hw1⟩ : ∃ w1, w1 = W.alloc (.cells #[.int .i64 l.kd, .int .i64 l.r, .int .i64 l.pg, .int .i64 l.o, .int .i64 l.n, .int .i64 l.f, .bool l.p, .bool l.w, .bool l.h, .bool l.k, .bool l.u, .bool l.d] 52) := ⟨_, rfl⟩
  have HW1 := Lib.hid hw1
  have r1 : Row w1 q 52 (acCells l) := by rw [hw1, hq]; exact Row.new W _ (acCells l)
  have R1 := Lib.hid r1
  have h1 := h.call (hw1 ▸ below_new W _ _)
  have c0 : w1.cell? ⟨q, 0, none⟩ = some (.int .i64 l.kd) := r1.cell 0
  have c1 : w1.cell? ⟨q, 1, none⟩ = some (.int .i64 l.r) := r1.cell 1
  have g3 : w1.cell? ⟨k.g, 3, none⟩ = some (.int .i64 k.r0) := h1.row.cell 3
  have g5 : w1.cell? ⟨k.g, 5, none⟩ = some (.pointer (some ⟨k.x0, 0, none⟩)) := h1.row.cell 5
  have H1 := Lib.hid h1
  have HL := Lib.hid hl
  have HHK := Lib.hid hK
  rw [hk] at c0
  have HKD := Lib.hid hk
  clear hk
  unfold acCells
  clear hq hw1 r1 h h1 hl
  go_enter Try.func43, Try.ntmps43
  go_upto_region 1 with (fail)
  rw [← HW1.out, ← HQ.out]
  go_upto_region 2 with (fail)
  clear hb
  go_quiet (fail)
  have H2 := Lib.hid (H1.out.call (drewN_b (Below.refl _ _) nq))
  have R2 : Hid (Row (w1.drewN nq) q 52 (acCells l)) := R1.out
  have c0 : (w1.drewN nq).cell? ⟨q, 0, none⟩ = some (.int .i64 5) := HKD.out ▸ R2.out.cell 0
  generalize w1.drewN nq = w2 at H2 R2 c0 ⊢
  clear c1 g3 g5 H1 R1 HW1
  go_upto_region 23 with (fail)
  have hs2 : (fun v => v.cell? ⟨k.g, 0, none⟩ = some (.pointer (some ⟨k.s.x, 0, none⟩)) ∧ v.cell? ⟨q, 2, none⟩ = some (.int .i64 l.pg)) w2.drew := ⟨H2.out.row.cell 0, R2.out.cell 2⟩
  refine wp_region_held_drew (S := (fun v => v.cell? ⟨k.g, 0, none⟩ = some (.pointer (some ⟨k.s.x, 0, none⟩)) ∧ v.cell? ⟨q, 2, none⟩ = some (.int .i64 l.pg))) (by kernel_rfl) hs2 (fun hHeld => ?_)
  have H3 := Lib.hid (H2.out.call (drewN_b (Below.refl _ _) 1))
  have H3 : Hid (Lw w w2.drew k v ws L v0 L0 v1 L1 lf K) := H3
  have R3 : Hid (Row w2.drew q 52 (acCells l)) := R2.out
  generalize w2.drew = w3 at hHeld hs2 H3 R3 ⊢
  clear c0 H2 R2
  refine tkY 0 (at_lit rfl) (v := ?_) (Or.inl ⟨by rfl, ?_⟩) ?_
  rotate_left
  focus (intro _ h; (try dsimp only at h); go_simp; (try with_reducible rfl); done)
  (try simp only [Act.put, sAr, sZe, sSu])
  refine tkY 1 (at_lit rfl) (v := ?_) (Or.inl ⟨by rfl, ?_⟩) ?_
  rotate_left
  focus (intro _ h; (try dsimp only at h); go_simp; (try with_reducible rfl); done)
  (try simp only [Act.put, sAr, sZe, sSu])
  refine tkY 2 (at_lit rfl) (v := ?_) (Or.inl ⟨by rfl, ?_⟩) ?_
  rotate_left
  focus (intro _ h; (try dsimp only at h); go_simp; (try with_reducible rfl); done)
  (try simp only [Act.put, sAr, sZe, sSu])
  refine tkY 3 (at_lit rfl) (v := ?_) (Or.inl ⟨by rfl, ?_⟩) ?_
  rotate_left
  focus (intro _ h; (try dsimp only at h); go_simp; (try with_reducible rfl); done)
  (try simp only [Act.put, sAr, sZe, sSu])
  refine tkY 4 (at_lit rfl) (v := ?_) (Or.inl ⟨by rfl, ?_⟩) ?_
  rotate_left
  focus (intro _ h; (try dsimp only at h); go_simp; (try with_reducible rfl); done)
  (try simp only [Act.put, sAr, sZe, sSu])
  refine tkY 5 (at_lit rfl) (v := ?_) (Or.inl ⟨by rfl, ?_⟩) ?_
  rotate_left
  focus (intro _ h; (try dsimp only at h); go_simp; (try with_reducible rfl); done)
  (try simp only [Act.put, sAr, sZe, sSu])
  refine tkY 6 (at_lit rfl) (v := ?_) (Or.inl ⟨by rfl, ?_⟩) ?_
  rotate_left
  focus (intro _ h; (try dsimp only at h); go_simp; (try with_reducible rfl); done)
  (try simp only [Act.put, sAr, sZe, sSu])
  refine tkY 8 (at_lit rfl) (v := ?_) (Or.inl ⟨by rfl, ?_⟩) ?_
  rotate_left
  focus (intro _ h; (try dsimp only at h); go_simp; (try with_reducible rfl); done)
  (try simp only [Act.put, sAr, sZe, sSu])
  refine tkY 9 (at_lit rfl) (v := ?_) (Or.inl ⟨by rfl, ?_⟩) ?_
  rotate_left
  focus (intro _ h; (try dsimp only at h); go_simp; (try with_reducible rfl); done)
  (try simp only [Act.put, sAr, sZe, sSu])
  refine tkY 10 (at_lit rfl) (v := ?_) (Or.inl ⟨by rfl, ?_⟩) ?_
  rotate_left
  focus (intro _ h; (try dsimp only at h); go_simp; (try with_reducible rfl); done)
  (try simp only [Act.put, sAr, sZe, sSu])
  refine tkY 11 (at_lit rfl) (v := ?_) (Or.inl ⟨by rfl, ?_⟩) ?_
  rotate_left
  focus (intro _ h; (try dsimp only at h); go_simp; (try with_reducible rfl); done)
  (try simp only [Act.put, sAr, sZe, sSu])
  refine wpAnyH_ready (rs := [7]) (by kernel_rfl) (by simp) ?_
  refine AllReadyH.cons (o := _) (at_lit rfl) (fun K hK => ?_) AllReadyH.nil
  go_simp
  go_at_call 10
  refine ((lw_split H3.out hn false hr l.pg).mono ?_)
  rintro e w4 ⟨er, rfl, v4, ws4, L4, h4, -, -, hm⟩
  have H4 := Lib.hid h4
  have R4 := Lib.hid (H3.out.tab.row hm R3.out (by decide) (by decide) (by decide))
  have hs4 : (fun v => v.cell? ⟨k.g, 0, none⟩ = some (.pointer (some ⟨k.s.x, 0, none⟩)) ∧ v.cell? ⟨q, 2, none⟩ = some (.int .i64 l.pg)) w4 := ⟨H4.out.row.cell 0, R4.out.cell 2⟩
  clear h4 hm
  go_wp2_with fail
  refine hK.out _ _ ?_ (fun hHeld => ?_)
  focus exact hs4
  clear hK K
  (try simp only [Act.put, sAr, sZe, sSu])
  refine wpAnyH_ready (rs := [12]) (by kernel_rfl) (by simp) ?_
  refine AllReadyH.cons (o := _) (at_lit rfl) (fun K hK => ?_) AllReadyH.nil
  go_simp
  go_at_call 63
  refine (turn_split (C := w.heap.size) H4.out.row H4.out.ref0 (by have := H4.out.len0; have := HHK.out; omega) H4.out.below.size l.pg).mono ?_
  rintro e w5 ⟨⟨er5, rfl⟩, hf⟩
  obtain ⟨v05, L05, v15, L15, lf5, h5⟩ := H4.out.fair0 hf
  have H5 := Lib.hid h5
  have R5 : Hid (Row w5 q 52 (acCells l)) := by
    obtain ⟨-, -, -, -, -, -, hft, -⟩ := hf
    exact hft.row R4.out (by rintro (e | e); exact R4.out.apart (show Row _ _ _ _ from H4.out.row) (by decide) e; exact R4.out.apart H4.out.ref0.top (by decide) e)
  have hs5 : (fun v => v.cell? ⟨k.g, 0, none⟩ = some (.pointer (some ⟨k.s.x, 0, none⟩)) ∧ v.cell? ⟨q, 2, none⟩ = some (.int .i64 l.pg)) w5 := ⟨H5.out.row.cell 0, R5.out.cell 2⟩
  clear hf h5
  go_wp2_with fail
  refine hK.out _ _ ?_ (fun hHeld => ?_)
  focus exact hs5
  clear hK K
  (try simp only [Act.put, sAr, sZe, sSu])
  refine tkY 13 (at_lit rfl) (v := ?_) (Or.inl ⟨by rfl, ?_⟩) ?_
  rotate_left
  focus (intro _ h; (try dsimp only at h); go_simp; (try with_reducible rfl); done)
  (try simp only [Act.put, sAr, sZe, sSu])
  refine tkY 14 (at_lit rfl) (v := ?_) (Or.inl ⟨by rfl, ?_⟩) ?_
  rotate_left
  focus (intro _ h; (try dsimp only at h); go_simp; (try with_reducible rfl); done)
  (try simp only [Act.put, sAr, sZe, sSu])
  refine wpAnyH_done (by kernel_rfl) ?_ _
  go_wp2_with fail
  go_ret
  exact ⟨⟨_, rfl⟩, _, _, _, _, _, _, _, _, H5.out⟩
set_option maxRecDepth 100000 in
set_option maxHeartbeats 4000000 in
theorem one_merge0 (h : Lw w W k v ws L v0 L0 v1 L1 lf K) (hK : K + 8 ≤ 5000) (hn : k.n ≤ 100) (hr : Fits k.r0) (l : Ac) (hl : IsAc l) (hb : bits .and .i64 l.r 1 = 0) (hk : l.kd = 6) : Calls Try.prog 43 #[.pointer (some ⟨k.g, 0, none⟩), .agg (acCells l).toArray] W fun e W' => (∃ b, e = .returned (.bool b)) ∧ Run w W' k (K + 8) := by
  obtain ⟨q, hq⟩ : ∃ q, q = W.heap.size := ⟨_, rfl⟩
  have HQ := Lib.hid hq
  obtain ⟨w1, hw1⟩ : ∃ w1, w1 = W.alloc (.cells #[.int .i64 l.kd, .int .i64 l.r, .int .i64 l.pg, .int .i64 l.o, .int .i64 l.n, .int .i64 l.f, .bool l.p, .bool l.w, .bool l.h, .bool l.k, .bool l.u, .bool l.d] 52) := ⟨_, rfl⟩
  have HW1 := Lib.hid hw1
  have r1 : Row w1 q 52 (acCells l) := by rw [hw1, hq]; exact Row.new W _ (acCells l)
  have R1 := Lib.hid r1
  have h1 := h.call (hw1 ▸ below_new W _ _)
  have c0 : w1.cell? ⟨q, 0, none⟩ = some (.int .i64 l.kd) := r1.cell 0
  have c1 : w1.cell? ⟨q, 1, none⟩ = some (.int .i64 l.r) := r1.cell 1
  have g3 : w1.cell? ⟨k.g, 3, none⟩ = some (.int .i64 k.r0) := h1.row.cell 3
  have g5 : w1.cell? ⟨k.g, 5, none⟩ = some (.pointer (some ⟨k.x0, 0, none⟩)) := h1.row.cell 5
  have H1 := Lib.hid h1
  have HL := Lib.hid hl
  have HHK := Lib.hid hK
  rw [hk] at c0
  have HKD := Lib.hid hk
  clear hk
  unfold acCells
  clear hq hw1 r1 h h1 hl
  go_enter Try.func43, Try.ntmps43
  go_upto_region 1 with (fail)
  rw [← HW1.out, ← HQ.out]
  go_upto_region 2 with (fail)
  clear hb
  go_quiet (fail)
  have H2 := Lib.hid (H1.out.call (drewN_b (Below.refl _ _) nq))
  have R2 : Hid (Row (w1.drewN nq) q 52 (acCells l)) := R1.out
  have c0 : (w1.drewN nq).cell? ⟨q, 0, none⟩ = some (.int .i64 6) := HKD.out ▸ R2.out.cell 0
  generalize w1.drewN nq = w2 at H2 R2 c0 ⊢
  clear c1 g3 g5 H1 R1 HW1
  go_upto_region 25 with (fail)
  have hs2 : (fun v => v.cell? ⟨k.g, 0, none⟩ = some (.pointer (some ⟨k.s.x, 0, none⟩)) ∧ v.cell? ⟨q, 2, none⟩ = some (.int .i64 l.pg)) w2.drew := ⟨H2.out.row.cell 0, R2.out.cell 2⟩
  refine wp_region_held_drew (S := (fun v => v.cell? ⟨k.g, 0, none⟩ = some (.pointer (some ⟨k.s.x, 0, none⟩)) ∧ v.cell? ⟨q, 2, none⟩ = some (.int .i64 l.pg))) (by kernel_rfl) hs2 (fun hHeld => ?_)
  have H3 := Lib.hid (H2.out.call (drewN_b (Below.refl _ _) 1))
  have H3 : Hid (Lw w w2.drew k v ws L v0 L0 v1 L1 lf K) := H3
  have R3 : Hid (Row w2.drew q 52 (acCells l)) := R2.out
  generalize w2.drew = w3 at hHeld hs2 H3 R3 ⊢
  clear c0 H2 R2
  refine tkY 0 (at_lit rfl) (v := ?_) (Or.inl ⟨by rfl, ?_⟩) ?_
  rotate_left
  focus (intro _ h; (try dsimp only at h); go_simp; (try with_reducible rfl); done)
  (try simp only [Act.put, sAr, sZe, sSu])
  refine tkY 1 (at_lit rfl) (v := ?_) (Or.inl ⟨by rfl, ?_⟩) ?_
  rotate_left
  focus (intro _ h; (try dsimp only at h); go_simp; (try with_reducible rfl); done)
  (try simp only [Act.put, sAr, sZe, sSu])
  refine tkY 2 (at_lit rfl) (v := ?_) (Or.inl ⟨by rfl, ?_⟩) ?_
  rotate_left
  focus (intro _ h; (try dsimp only at h); go_simp; (try with_reducible rfl); done)
  (try simp only [Act.put, sAr, sZe, sSu])
  refine tkY 3 (at_lit rfl) (v := ?_) (Or.inl ⟨by rfl, ?_⟩) ?_
  rotate_left
  focus (intro _ h; (try dsimp only at h); go_simp; (try with_reducible rfl); done)
  (try simp only [Act.put, sAr, sZe, sSu])
  refine tkY 4 (at_lit rfl) (v := ?_) (Or.inl ⟨by rfl, ?_⟩) ?_
  rotate_left
  focus (intro _ h; (try dsimp only at h); go_simp; (try with_reducible rfl); done)
  (try simp only [Act.put, sAr, sZe, sSu])
  refine tkY 5 (at_lit rfl) (v := ?_) (Or.inl ⟨by rfl, ?_⟩) ?_
  rotate_left
  focus (intro _ h; (try dsimp only at h); go_simp; (try with_reducible rfl); done)
  (try simp only [Act.put, sAr, sZe, sSu])
  refine tkY 6 (at_lit rfl) (v := ?_) (Or.inl ⟨by rfl, ?_⟩) ?_
  rotate_left
  focus (intro _ h; (try dsimp only at h); go_simp; (try with_reducible rfl); done)
  (try simp only [Act.put, sAr, sZe, sSu])
  refine tkY 8 (at_lit rfl) (v := ?_) (Or.inl ⟨by rfl, ?_⟩) ?_
  rotate_left
  focus (intro _ h; (try dsimp only at h); go_simp; (try with_reducible rfl); done)
  (try simp only [Act.put, sAr, sZe, sSu])
  refine tkY 9 (at_lit rfl) (v := ?_) (Or.inl ⟨by rfl, ?_⟩) ?_
  rotate_left
  focus (intro _ h; (try dsimp only at h); go_simp; (try with_reducible rfl); done)
  (try simp only [Act.put, sAr, sZe, sSu])
  refine tkY 10 (at_lit rfl) (v := ?_) (Or.inl ⟨by rfl, ?_⟩) ?_
  rotate_left
  focus (intro _ h; (try dsimp only at h); go_simp; (try with_reducible rfl); done)
  (try simp only [Act.put, sAr, sZe, sSu])
  refine tkY 11 (at_lit rfl) (v := ?_) (Or.inl ⟨by rfl, ?_⟩) ?_
  rotate_left
  focus (intro _ h; (try dsimp only at h); go_simp; (try with_reducible rfl); done)
  (try simp only [Act.put, sAr, sZe, sSu])
  refine wpAnyH_ready (rs := [7]) (by kernel_rfl) (by simp) ?_
  refine AllReadyH.cons (o := _) (at_lit rfl) (fun K hK => ?_) AllReadyH.nil
  go_simp
  go_at_call 11
  refine ((lw_merge H3.out hn false hr l.pg HL.out.2.2.1).mono ?_)
  rintro e w4 ⟨er, rfl, v4, ws4, L4, h4, -, -, hm⟩
  have H4 := Lib.hid h4
  have R4 := Lib.hid (H3.out.tab.row hm R3.out (by decide) (by decide) (by decide))
  have hs4 : (fun v => v.cell? ⟨k.g, 0, none⟩ = some (.pointer (some ⟨k.s.x, 0, none⟩)) ∧ v.cell? ⟨q, 2, none⟩ = some (.int .i64 l.pg)) w4 := ⟨H4.out.row.cell 0, R4.out.cell 2⟩
  clear h4 hm
  go_wp2_with fail
  refine hK.out _ _ ?_ (fun hHeld => ?_)
  focus exact hs4
  clear hK K
  (try simp only [Act.put, sAr, sZe, sSu])
  refine wpAnyH_ready (rs := [12]) (by kernel_rfl) (by simp) ?_
  refine AllReadyH.cons (o := _) (at_lit rfl) (fun K hK => ?_) AllReadyH.nil
  go_simp
  go_at_call 63
  refine (turn_merge (C := w.heap.size) H4.out.row H4.out.ref0 (by have := H4.out.len0; have := HHK.out; omega) H4.out.below.size l.pg).mono ?_
  rintro e w5 ⟨⟨er5, rfl⟩, hf⟩
  obtain ⟨v05, L05, v15, L15, lf5, h5⟩ := H4.out.fair0 hf
  have H5 := Lib.hid h5
  have R5 : Hid (Row w5 q 52 (acCells l)) := by
    obtain ⟨-, -, -, -, -, -, hft, -⟩ := hf
    exact hft.row R4.out (by rintro (e | e); exact R4.out.apart (show Row _ _ _ _ from H4.out.row) (by decide) e; exact R4.out.apart H4.out.ref0.top (by decide) e)
  have hs5 : (fun v => v.cell? ⟨k.g, 0, none⟩ = some (.pointer (some ⟨k.s.x, 0, none⟩)) ∧ v.cell? ⟨q, 2, none⟩ = some (.int .i64 l.pg)) w5 := ⟨H5.out.row.cell 0, R5.out.cell 2⟩
  clear hf h5
  go_wp2_with fail
  refine hK.out _ _ ?_ (fun hHeld => ?_)
  focus exact hs5
  clear hK K
  (try simp only [Act.put, sAr, sZe, sSu])
  refine tkY 13 (at_lit rfl) (v := ?_) (Or.inl ⟨by rfl, ?_⟩) ?_
  rotate_left
  focus (intro _ h; (try dsimp only at h); go_simp; (try with_reducible rfl); done)
  (try simp only [Act.put, sAr, sZe, sSu])
  refine tkY 14 (at_lit rfl) (v := ?_) (Or.inl ⟨by rfl, ?_⟩) ?_
  rotate_left
  focus (intro _ h; (try dsimp only at h); go_simp; (try with_reducible rfl); done)
  (try simp only [Act.put, sAr, sZe, sSu])
  refine wpAnyH_done (by kernel_rfl) ?_ _
  go_wp2_with fail
  go_ret
  exact ⟨⟨_, rfl⟩, _, _, _, _, _, _, _, _, H5.out⟩
set_option maxRecDepth 100000 in
set_option maxHeartbeats 4000000 in
theorem one_map0 (h : Lw w W k v ws L v0 L0 v1 L1 lf K) (hK : K + 8 ≤ 5000) (hn : k.n ≤ 100) (hr : Fits k.r0) (l : Ac) (hl : IsAc l) (hb : bits .and .i64 l.r 1 = 0) (h3 : (l.kd == 3) = false) (h4 : (l.kd == 4) = false) (h5 : (l.kd == 5) = false) (h6 : (l.kd == 6) = false) : Calls Try.prog 43 #[.pointer (some ⟨k.g, 0, none⟩), .agg (acCells l).toArray] W fun e W' => (∃ b, e = .returned (.bool b)) ∧ Run w W' k (K + 8) := by
  obtain ⟨q, hq⟩ : ∃ q, q = W.heap.size := ⟨_, rfl⟩
  have HQ := Lib.hid hq
  obtain ⟨w1, hw1⟩ : ∃ w1, w1 = W.alloc (.cells #[.int .i64 l.kd, .int .i64 l.r, .int .i64 l.pg, .int .i64 l.o, .int .i64 l.n, .int .i64 l.f, .bool l.p, .bool l.w, .bool l.h, .bool l.k, .bool l.u, .bool l.d] 52) := ⟨_, rfl⟩
  have HW1 := Lib.hid hw1
  have r1 : Row w1 q 52 (acCells l) := by rw [hw1, hq]; exact Row.new W _ (acCells l)
  have R1 := Lib.hid r1
  have h1 := h.call (hw1 ▸ below_new W _ _)
  have c0 : w1.cell? ⟨q, 0, none⟩ = some (.int .i64 l.kd) := r1.cell 0
  have c1 : w1.cell? ⟨q, 1, none⟩ = some (.int .i64 l.r) := r1.cell 1
  have g3 : w1.cell? ⟨k.g, 3, none⟩ = some (.int .i64 k.r0) := h1.row.cell 3
  have g5 : w1.cell? ⟨k.g, 5, none⟩ = some (.pointer (some ⟨k.x0, 0, none⟩)) := h1.row.cell 5
  have H1 := Lib.hid h1
  have HL := Lib.hid hl
  have HHK := Lib.hid hK
  unfold acCells
  clear hq hw1 r1 h h1 hl
  go_enter Try.func43, Try.ntmps43
  go_upto_region 1 with (fail)
  rw [← HW1.out, ← HQ.out]
  go_upto_region 2 with (fail)
  clear hb
  go_quiet (fail)
  have H2 := Lib.hid (H1.out.call (drewN_b (Below.refl _ _) nq))
  have R2 : Hid (Row (w1.drewN nq) q 52 (acCells l)) := R1.out
  have c0 : (w1.drewN nq).cell? ⟨q, 0, none⟩ = some (.int .i64 l.kd) := R2.out.cell 0
  generalize w1.drewN nq = w2 at H2 R2 c0 ⊢
  clear c1 g3 g5 H1 R1 HW1
  go_upto_region 26 with (fail)
  have hs2 : (fun v => v.cell? ⟨k.g, 0, none⟩ = some (.pointer (some ⟨k.s.x, 0, none⟩)) ∧ v.cell? ⟨q, 0, none⟩ = some (.int .i64 l.kd) ∧ v.cell? ⟨q, 1, none⟩ = some (.int .i64 l.r) ∧ v.cell? ⟨q, 2, none⟩ = some (.int .i64 l.pg) ∧ v.cell? ⟨q, 3, none⟩ = some (.int .i64 l.o) ∧ v.cell? ⟨q, 4, none⟩ = some (.int .i64 l.n) ∧ v.cell? ⟨q, 5, none⟩ = some (.int .i64 l.f) ∧ v.cell? ⟨q, 6, none⟩ = some (.bool l.p) ∧ v.cell? ⟨q, 7, none⟩ = some (.bool l.w) ∧ v.cell? ⟨q, 8, none⟩ = some (.bool l.h) ∧ v.cell? ⟨q, 9, none⟩ = some (.bool l.k) ∧ v.cell? ⟨q, 10, none⟩ = some (.bool l.u) ∧ v.cell? ⟨q, 11, none⟩ = some (.bool l.d)) w2.drew := ⟨H2.out.row.cell 0, R2.out.cell 0, R2.out.cell 1, R2.out.cell 2, R2.out.cell 3, R2.out.cell 4, R2.out.cell 5, R2.out.cell 6, R2.out.cell 7, R2.out.cell 8, R2.out.cell 9, R2.out.cell 10, R2.out.cell 11⟩
  refine wp_region_held_drew (S := (fun v => v.cell? ⟨k.g, 0, none⟩ = some (.pointer (some ⟨k.s.x, 0, none⟩)) ∧ v.cell? ⟨q, 0, none⟩ = some (.int .i64 l.kd) ∧ v.cell? ⟨q, 1, none⟩ = some (.int .i64 l.r) ∧ v.cell? ⟨q, 2, none⟩ = some (.int .i64 l.pg) ∧ v.cell? ⟨q, 3, none⟩ = some (.int .i64 l.o) ∧ v.cell? ⟨q, 4, none⟩ = some (.int .i64 l.n) ∧ v.cell? ⟨q, 5, none⟩ = some (.int .i64 l.f) ∧ v.cell? ⟨q, 6, none⟩ = some (.bool l.p) ∧ v.cell? ⟨q, 7, none⟩ = some (.bool l.w) ∧ v.cell? ⟨q, 8, none⟩ = some (.bool l.h) ∧ v.cell? ⟨q, 9, none⟩ = some (.bool l.k) ∧ v.cell? ⟨q, 10, none⟩ = some (.bool l.u) ∧ v.cell? ⟨q, 11, none⟩ = some (.bool l.d))) (by kernel_rfl) hs2 (fun hHeld => ?_)
  have H3 := Lib.hid (H2.out.call (drewN_b (Below.refl _ _) 1))
  have H3 : Hid (Lw w w2.drew k v ws L v0 L0 v1 L1 lf K) := H3
  have R3 : Hid (Row w2.drew q 52 (acCells l)) := R2.out
  generalize w2.drew = w3 at hHeld hs2 H3 R3 ⊢
  clear c0 H2 R2 h3 h4 h5 h6
  refine tkY 0 (at_lit rfl) (v := ?_) (Or.inl ⟨by rfl, ?_⟩) ?_
  rotate_left
  focus (intro _ h; (try dsimp only at h); go_simp; (try with_reducible rfl); done)
  (try simp only [Act.put, sAr, sZe, sSu])
  refine tkY 1 (at_lit rfl) (v := ?_) (Or.inl ⟨by rfl, ?_⟩) ?_
  rotate_left
  focus (intro _ h; (try dsimp only at h); go_simp; (try with_reducible rfl); done)
  (try simp only [Act.put, sAr, sZe, sSu])
  refine tkY 2 (at_lit rfl) (v := ?_) (Or.inl ⟨by rfl, ?_⟩) ?_
  rotate_left
  focus (intro _ h; (try dsimp only at h); go_simp; (try with_reducible rfl); done)
  (try simp only [Act.put, sAr, sZe, sSu])
  refine tkY 3 (at_lit rfl) (v := ?_) (Or.inl ⟨by rfl, ?_⟩) ?_
  rotate_left
  focus (intro _ h; (try dsimp only at h); go_simp; (try with_reducible rfl); done)
  (try simp only [Act.put, sAr, sZe, sSu])
  refine tkY 4 (at_lit rfl) (v := ?_) (Or.inl ⟨by rfl, ?_⟩) ?_
  rotate_left
  focus (intro _ h; (try dsimp only at h); go_simp; (try with_reducible rfl); done)
  (try simp only [Act.put, sAr, sZe, sSu])
  refine tkY 5 (at_lit rfl) (v := ?_) (Or.inl ⟨by rfl, ?_⟩) ?_
  rotate_left
  focus (intro _ h; (try dsimp only at h); go_simp; (try with_reducible rfl); done)
  (try simp only [Act.put, sAr, sZe, sSu])
  refine tkY 6 (at_lit rfl) (v := ?_) (Or.inl ⟨by rfl, ?_⟩) ?_
  rotate_left
  focus (intro _ h; (try dsimp only at h); go_simp; (try with_reducible rfl); done)
  (try simp only [Act.put, sAr, sZe, sSu])
  refine tkY 7 (at_lit rfl) (v := ?_) (Or.inl ⟨by rfl, ?_⟩) ?_
  rotate_left
  focus (intro _ h; (try dsimp only at h); go_simp; (try with_reducible rfl); done)
  (try simp only [Act.put, sAr, sZe, sSu])
  refine tkY 8 (at_lit rfl) (v := ?_) (Or.inl ⟨by rfl, ?_⟩) ?_
  rotate_left
  focus (intro _ h; (try dsimp only at h); go_simp; (try with_reducible rfl); done)
  (try simp only [Act.put, sAr, sZe, sSu])
  refine tkY 9 (at_lit rfl) (v := ?_) (Or.inl ⟨by rfl, ?_⟩) ?_
  rotate_left
  focus (intro _ h; (try dsimp only at h); go_simp; (try with_reducible rfl); done)
  (try simp only [Act.put, sAr, sZe, sSu])
  refine tkY 10 (at_lit rfl) (v := ?_) (Or.inl ⟨by rfl, ?_⟩) ?_
  rotate_left
  focus (intro _ h; (try dsimp only at h); go_simp; (try with_reducible rfl); done)
  (try simp only [Act.put, sAr, sZe, sSu])
  refine tkY 12 (at_lit rfl) (v := ?_) (Or.inl ⟨by rfl, ?_⟩) ?_
  rotate_left
  focus (intro _ h; (try dsimp only at h); go_simp; (try with_reducible rfl); done)
  (try simp only [Act.put, sAr, sZe, sSu])
  refine tkY 13 (at_lit rfl) (v := ?_) (Or.inl ⟨by rfl, ?_⟩) ?_
  rotate_left
  focus (intro _ h; (try dsimp only at h); go_simp; (try with_reducible rfl); done)
  (try simp only [Act.put, sAr, sZe, sSu])
  refine tkY 14 (at_lit rfl) (v := ?_) (Or.inl ⟨by rfl, ?_⟩) ?_
  rotate_left
  focus (intro _ h; (try dsimp only at h); go_simp; (try with_reducible rfl); done)
  (try simp only [Act.put, sAr, sZe, sSu])
  refine wpAnyH_ready (rs := [11]) (by kernel_rfl) (by simp) ?_
  refine AllReadyH.cons (o := _) (at_lit rfl) (fun K hK => ?_) AllReadyH.nil
  go_simp
  go_at_call 17
  refine ((lw_map H3.out hn false hr l.pg l.o l.f l.p l.w l.h l.k l.u l.d HL.out.2.2.1 HL.out.2.2.2.2.2).mono ?_)
  rintro e w4 ⟨er, rfl, v4, ws4, L4, h4, -, -, hm⟩
  have H4 := Lib.hid h4
  have R4 := Lib.hid (H3.out.tab.row hm R3.out (by decide) (by decide) (by decide))
  have hs4 : (fun v => v.cell? ⟨k.g, 0, none⟩ = some (.pointer (some ⟨k.s.x, 0, none⟩)) ∧ v.cell? ⟨q, 0, none⟩ = some (.int .i64 l.kd) ∧ v.cell? ⟨q, 1, none⟩ = some (.int .i64 l.r) ∧ v.cell? ⟨q, 2, none⟩ = some (.int .i64 l.pg) ∧ v.cell? ⟨q, 3, none⟩ = some (.int .i64 l.o) ∧ v.cell? ⟨q, 4, none⟩ = some (.int .i64 l.n) ∧ v.cell? ⟨q, 5, none⟩ = some (.int .i64 l.f) ∧ v.cell? ⟨q, 6, none⟩ = some (.bool l.p) ∧ v.cell? ⟨q, 7, none⟩ = some (.bool l.w) ∧ v.cell? ⟨q, 8, none⟩ = some (.bool l.h) ∧ v.cell? ⟨q, 9, none⟩ = some (.bool l.k) ∧ v.cell? ⟨q, 10, none⟩ = some (.bool l.u) ∧ v.cell? ⟨q, 11, none⟩ = some (.bool l.d)) w4 := ⟨H4.out.row.cell 0, R4.out.cell 0, R4.out.cell 1, R4.out.cell 2, R4.out.cell 3, R4.out.cell 4, R4.out.cell 5, R4.out.cell 6, R4.out.cell 7, R4.out.cell 8, R4.out.cell 9, R4.out.cell 10, R4.out.cell 11⟩
  clear h4 hm
  go_wp2_with fail
  refine hK.out _ _ ?_ (fun hHeld => ?_)
  focus exact hs4
  clear hK K
  (try simp only [Act.put, sAr, sZe, sSu])
  refine wpAnyH_ready (rs := [15]) (by kernel_rfl) (by simp) ?_
  refine AllReadyH.cons (o := _) (at_lit rfl) (fun K hK => ?_) AllReadyH.nil
  go_simp
  go_at_call 64
  refine (add8_any (C := w.heap.size) H4.out.row H4.out.ref0 (by have := H4.out.len0; have := HHK.out; omega) H4.out.below.size l).mono ?_
  rintro e w5 ⟨⟨er5, rfl⟩, hf⟩
  have hf := hf.more
  obtain ⟨v05, L05, v15, L15, lf5, h5⟩ := H4.out.fair0 hf
  have H5 := Lib.hid h5
  have R5 : Hid (Row w5 q 52 (acCells l)) := by
    obtain ⟨-, -, -, -, -, -, hft, -⟩ := hf
    exact hft.row R4.out (by rintro (e | e); exact R4.out.apart (show Row _ _ _ _ from H4.out.row) (by decide) e; exact R4.out.apart H4.out.ref0.top (by decide) e)
  have hs5 : (fun v => v.cell? ⟨k.g, 0, none⟩ = some (.pointer (some ⟨k.s.x, 0, none⟩)) ∧ v.cell? ⟨q, 0, none⟩ = some (.int .i64 l.kd) ∧ v.cell? ⟨q, 1, none⟩ = some (.int .i64 l.r) ∧ v.cell? ⟨q, 2, none⟩ = some (.int .i64 l.pg) ∧ v.cell? ⟨q, 3, none⟩ = some (.int .i64 l.o) ∧ v.cell? ⟨q, 4, none⟩ = some (.int .i64 l.n) ∧ v.cell? ⟨q, 5, none⟩ = some (.int .i64 l.f) ∧ v.cell? ⟨q, 6, none⟩ = some (.bool l.p) ∧ v.cell? ⟨q, 7, none⟩ = some (.bool l.w) ∧ v.cell? ⟨q, 8, none⟩ = some (.bool l.h) ∧ v.cell? ⟨q, 9, none⟩ = some (.bool l.k) ∧ v.cell? ⟨q, 10, none⟩ = some (.bool l.u) ∧ v.cell? ⟨q, 11, none⟩ = some (.bool l.d)) w5 := ⟨H5.out.row.cell 0, R5.out.cell 0, R5.out.cell 1, R5.out.cell 2, R5.out.cell 3, R5.out.cell 4, R5.out.cell 5, R5.out.cell 6, R5.out.cell 7, R5.out.cell 8, R5.out.cell 9, R5.out.cell 10, R5.out.cell 11⟩
  clear hf h5
  go_wp2_with fail
  refine hK.out _ _ ?_ (fun hHeld => ?_)
  focus exact hs5
  clear hK K
  (try simp only [Act.put, sAr, sZe, sSu])
  refine tkY 16 (at_lit rfl) (v := ?_) (Or.inl ⟨by rfl, ?_⟩) ?_
  rotate_left
  focus (intro _ h; (try dsimp only at h); go_simp; (try with_reducible rfl); done)
  (try simp only [Act.put, sAr, sZe, sSu])
  refine tkY 17 (at_lit rfl) (v := ?_) (Or.inl ⟨by rfl, ?_⟩) ?_
  rotate_left
  focus (intro _ h; (try dsimp only at h); go_simp; (try with_reducible rfl); done)
  (try simp only [Act.put, sAr, sZe, sSu])
  refine wpAnyH_done (by kernel_rfl) ?_ _
  go_wp2_with fail
  go_ret
  exact ⟨⟨_, rfl⟩, _, _, _, _, _, _, _, _, H5.out⟩
set_option maxRecDepth 100000 in
set_option maxHeartbeats 4000000 in
theorem one_split1 (h : Lw w W k v ws L v0 L0 v1 L1 lf K) (hK : K + 8 ≤ 5000) (hn : k.n ≤ 100) (hr : Fits k.r1) (l : Ac) (hl : IsAc l) (hb : bits .and .i64 l.r 1 = 1) (hk : l.kd = 5) : Calls Try.prog 43 #[.pointer (some ⟨k.g, 0, none⟩), .agg (acCells l).toArray] W fun e W' => (∃ b, e = .returned (.bool b)) ∧ Run w W' k (K + 8) := by
  obtain ⟨q, hq⟩ : ∃ q, q = W.heap.size := ⟨_, rfl⟩
  have HQ := Lib.hid hq
  obtain ⟨w1, hw1⟩ : ∃ w1, w1 = W.alloc (.cells #[.int .i64 l.kd, .int .i64 l.r, .int .i64 l.pg, .int .i64 l.o, .int .i64 l.n, .int .i64 l.f, .bool l.p, .bool l.w, .bool l.h, .bool l.k, .bool l.u, .bool l.d] 52) := ⟨_, rfl⟩
  have HW1 := Lib.hid hw1
  have r1 : Row w1 q 52 (acCells l) := by rw [hw1, hq]; exact Row.new W _ (acCells l)
  have R1 := Lib.hid r1
  have h1 := h.call (hw1 ▸ below_new W _ _)
  have c0 : w1.cell? ⟨q, 0, none⟩ = some (.int .i64 l.kd) := r1.cell 0
  have c1 : w1.cell? ⟨q, 1, none⟩ = some (.int .i64 l.r) := r1.cell 1
  have g3 : w1.cell? ⟨k.g, 4, none⟩ = some (.int .i64 k.r1) := h1.row.cell 4
  have g5 : w1.cell? ⟨k.g, 6, none⟩ = some (.pointer (some ⟨k.x1, 0, none⟩)) := h1.row.cell 6
  have H1 := Lib.hid h1
  have HL := Lib.hid hl
  have HHK := Lib.hid hK
  rw [hk] at c0
  have HKD := Lib.hid hk
  clear hk
  unfold acCells
  clear hq hw1 r1 h h1 hl
  go_enter Try.func43, Try.ntmps43
  go_upto_region 1 with (fail)
  rw [← HW1.out, ← HQ.out]
  go_upto_region 2 with (fail)
  clear hb
  go_quiet (fail)
  have H2 := Lib.hid (H1.out.call (drewN_b (Below.refl _ _) nq))
  have R2 : Hid (Row (w1.drewN nq) q 52 (acCells l)) := R1.out
  have c0 : (w1.drewN nq).cell? ⟨q, 0, none⟩ = some (.int .i64 5) := HKD.out ▸ R2.out.cell 0
  generalize w1.drewN nq = w2 at H2 R2 c0 ⊢
  clear c1 g3 g5 H1 R1 HW1
  go_upto_region 23 with (fail)
  have hs2 : (fun v => v.cell? ⟨k.g, 0, none⟩ = some (.pointer (some ⟨k.s.x, 0, none⟩)) ∧ v.cell? ⟨q, 2, none⟩ = some (.int .i64 l.pg)) w2.drew := ⟨H2.out.row.cell 0, R2.out.cell 2⟩
  refine wp_region_held_drew (S := (fun v => v.cell? ⟨k.g, 0, none⟩ = some (.pointer (some ⟨k.s.x, 0, none⟩)) ∧ v.cell? ⟨q, 2, none⟩ = some (.int .i64 l.pg))) (by kernel_rfl) hs2 (fun hHeld => ?_)
  have H3 := Lib.hid (H2.out.call (drewN_b (Below.refl _ _) 1))
  have H3 : Hid (Lw w w2.drew k v ws L v0 L0 v1 L1 lf K) := H3
  have R3 : Hid (Row w2.drew q 52 (acCells l)) := R2.out
  generalize w2.drew = w3 at hHeld hs2 H3 R3 ⊢
  clear c0 H2 R2
  refine tkY 0 (at_lit rfl) (v := ?_) (Or.inl ⟨by rfl, ?_⟩) ?_
  rotate_left
  focus (intro _ h; (try dsimp only at h); go_simp; (try with_reducible rfl); done)
  (try simp only [Act.put, sAr, sZe, sSu])
  refine tkY 1 (at_lit rfl) (v := ?_) (Or.inl ⟨by rfl, ?_⟩) ?_
  rotate_left
  focus (intro _ h; (try dsimp only at h); go_simp; (try with_reducible rfl); done)
  (try simp only [Act.put, sAr, sZe, sSu])
  refine tkY 2 (at_lit rfl) (v := ?_) (Or.inl ⟨by rfl, ?_⟩) ?_
  rotate_left
  focus (intro _ h; (try dsimp only at h); go_simp; (try with_reducible rfl); done)
  (try simp only [Act.put, sAr, sZe, sSu])
  refine tkY 3 (at_lit rfl) (v := ?_) (Or.inl ⟨by rfl, ?_⟩) ?_
  rotate_left
  focus (intro _ h; (try dsimp only at h); go_simp; (try with_reducible rfl); done)
  (try simp only [Act.put, sAr, sZe, sSu])
  refine tkY 4 (at_lit rfl) (v := ?_) (Or.inl ⟨by rfl, ?_⟩) ?_
  rotate_left
  focus (intro _ h; (try dsimp only at h); go_simp; (try with_reducible rfl); done)
  (try simp only [Act.put, sAr, sZe, sSu])
  refine tkY 5 (at_lit rfl) (v := ?_) (Or.inl ⟨by rfl, ?_⟩) ?_
  rotate_left
  focus (intro _ h; (try dsimp only at h); go_simp; (try with_reducible rfl); done)
  (try simp only [Act.put, sAr, sZe, sSu])
  refine tkY 6 (at_lit rfl) (v := ?_) (Or.inl ⟨by rfl, ?_⟩) ?_
  rotate_left
  focus (intro _ h; (try dsimp only at h); go_simp; (try with_reducible rfl); done)
  (try simp only [Act.put, sAr, sZe, sSu])
  refine tkY 8 (at_lit rfl) (v := ?_) (Or.inl ⟨by rfl, ?_⟩) ?_
  rotate_left
  focus (intro _ h; (try dsimp only at h); go_simp; (try with_reducible rfl); done)
  (try simp only [Act.put, sAr, sZe, sSu])
  refine tkY 9 (at_lit rfl) (v := ?_) (Or.inl ⟨by rfl, ?_⟩) ?_
  rotate_left
  focus (intro _ h; (try dsimp only at h); go_simp; (try with_reducible rfl); done)
  (try simp only [Act.put, sAr, sZe, sSu])
  refine tkY 10 (at_lit rfl) (v := ?_) (Or.inl ⟨by rfl, ?_⟩) ?_
  rotate_left
  focus (intro _ h; (try dsimp only at h); go_simp; (try with_reducible rfl); done)
  (try simp only [Act.put, sAr, sZe, sSu])
  refine tkY 11 (at_lit rfl) (v := ?_) (Or.inl ⟨by rfl, ?_⟩) ?_
  rotate_left
  focus (intro _ h; (try dsimp only at h); go_simp; (try with_reducible rfl); done)
  (try simp only [Act.put, sAr, sZe, sSu])
  refine wpAnyH_ready (rs := [7]) (by kernel_rfl) (by simp) ?_
  refine AllReadyH.cons (o := _) (at_lit rfl) (fun K hK => ?_) AllReadyH.nil
  go_simp
  go_at_call 10
  refine ((lw_split H3.out hn true hr l.pg).mono ?_)
  rintro e w4 ⟨er, rfl, v4, ws4, L4, h4, -, -, hm⟩
  have H4 := Lib.hid h4
  have R4 := Lib.hid (H3.out.tab.row hm R3.out (by decide) (by decide) (by decide))
  have hs4 : (fun v => v.cell? ⟨k.g, 0, none⟩ = some (.pointer (some ⟨k.s.x, 0, none⟩)) ∧ v.cell? ⟨q, 2, none⟩ = some (.int .i64 l.pg)) w4 := ⟨H4.out.row.cell 0, R4.out.cell 2⟩
  clear h4 hm
  go_wp2_with fail
  refine hK.out _ _ ?_ (fun hHeld => ?_)
  focus exact hs4
  clear hK K
  (try simp only [Act.put, sAr, sZe, sSu])
  refine wpAnyH_ready (rs := [12]) (by kernel_rfl) (by simp) ?_
  refine AllReadyH.cons (o := _) (at_lit rfl) (fun K hK => ?_) AllReadyH.nil
  go_simp
  go_at_call 63
  refine (turn_split (C := w.heap.size) H4.out.row H4.out.ref1 (by have := H4.out.len1; have := HHK.out; omega) H4.out.below.size l.pg).mono ?_
  rintro e w5 ⟨⟨er5, rfl⟩, hf⟩
  obtain ⟨v05, L05, v15, L15, lf5, h5⟩ := H4.out.fair1 hf
  have H5 := Lib.hid h5
  have R5 : Hid (Row w5 q 52 (acCells l)) := by
    obtain ⟨-, -, -, -, -, -, hft, -⟩ := hf
    exact hft.row R4.out (by rintro (e | e); exact R4.out.apart (show Row _ _ _ _ from H4.out.row) (by decide) e; exact R4.out.apart H4.out.ref1.top (by decide) e)
  have hs5 : (fun v => v.cell? ⟨k.g, 0, none⟩ = some (.pointer (some ⟨k.s.x, 0, none⟩)) ∧ v.cell? ⟨q, 2, none⟩ = some (.int .i64 l.pg)) w5 := ⟨H5.out.row.cell 0, R5.out.cell 2⟩
  clear hf h5
  go_wp2_with fail
  refine hK.out _ _ ?_ (fun hHeld => ?_)
  focus exact hs5
  clear hK K
  (try simp only [Act.put, sAr, sZe, sSu])
  refine tkY 13 (at_lit rfl) (v := ?_) (Or.inl ⟨by rfl, ?_⟩) ?_
  rotate_left
  focus (intro _ h; (try dsimp only at h); go_simp; (try with_reducible rfl); done)
  (try simp only [Act.put, sAr, sZe, sSu])
  refine tkY 14 (at_lit rfl) (v := ?_) (Or.inl ⟨by rfl, ?_⟩) ?_
  rotate_left
  focus (intro _ h; (try dsimp only at h); go_simp; (try with_reducible rfl); done)
  (try simp only [Act.put, sAr, sZe, sSu])
  refine wpAnyH_done (by kernel_rfl) ?_ _
  go_wp2_with fail
  go_ret
  exact ⟨⟨_, rfl⟩, _, _, _, _, _, _, _, _, H5.out⟩
set_option maxRecDepth 100000 in
set_option maxHeartbeats 4000000 in
theorem one_merge1 (h : Lw w W k v ws L v0 L0 v1 L1 lf K) (hK : K + 8 ≤ 5000) (hn : k.n ≤ 100) (hr : Fits k.r1) (l : Ac) (hl : IsAc l) (hb : bits .and .i64 l.r 1 = 1) (hk : l.kd = 6) : Calls Try.prog 43 #[.pointer (some ⟨k.g, 0, none⟩), .agg (acCells l).toArray] W fun e W' => (∃ b, e = .returned (.bool b)) ∧ Run w W' k (K + 8) := by
  obtain ⟨q, hq⟩ : ∃ q, q = W.heap.size := ⟨_, rfl⟩
  have HQ := Lib.hid hq
  obtain ⟨w1, hw1⟩ : ∃ w1, w1 = W.alloc (.cells #[.int .i64 l.kd, .int .i64 l.r, .int .i64 l.pg, .int .i64 l.o, .int .i64 l.n, .int .i64 l.f, .bool l.p, .bool l.w, .bool l.h, .bool l.k, .bool l.u, .bool l.d] 52) := ⟨_, rfl⟩
  have HW1 := Lib.hid hw1
  have r1 : Row w1 q 52 (acCells l) := by rw [hw1, hq]; exact Row.new W _ (acCells l)
  have R1 := Lib.hid r1
  have h1 := h.call (hw1 ▸ below_new W _ _)
  have c0 : w1.cell? ⟨q, 0, none⟩ = some (.int .i64 l.kd) := r1.cell 0
  have c1 : w1.cell? ⟨q, 1, none⟩ = some (.int .i64 l.r) := r1.cell 1
  have g3 : w1.cell? ⟨k.g, 4, none⟩ = some (.int .i64 k.r1) := h1.row.cell 4
  have g5 : w1.cell? ⟨k.g, 6, none⟩ = some (.pointer (some ⟨k.x1, 0, none⟩)) := h1.row.cell 6
  have H1 := Lib.hid h1
  have HL := Lib.hid hl
  have HHK := Lib.hid hK
  rw [hk] at c0
  have HKD := Lib.hid hk
  clear hk
  unfold acCells
  clear hq hw1 r1 h h1 hl
  go_enter Try.func43, Try.ntmps43
  go_upto_region 1 with (fail)
  rw [← HW1.out, ← HQ.out]
  go_upto_region 2 with (fail)
  clear hb
  go_quiet (fail)
  have H2 := Lib.hid (H1.out.call (drewN_b (Below.refl _ _) nq))
  have R2 : Hid (Row (w1.drewN nq) q 52 (acCells l)) := R1.out
  have c0 : (w1.drewN nq).cell? ⟨q, 0, none⟩ = some (.int .i64 6) := HKD.out ▸ R2.out.cell 0
  generalize w1.drewN nq = w2 at H2 R2 c0 ⊢
  clear c1 g3 g5 H1 R1 HW1
  go_upto_region 25 with (fail)
  have hs2 : (fun v => v.cell? ⟨k.g, 0, none⟩ = some (.pointer (some ⟨k.s.x, 0, none⟩)) ∧ v.cell? ⟨q, 2, none⟩ = some (.int .i64 l.pg)) w2.drew := ⟨H2.out.row.cell 0, R2.out.cell 2⟩
  refine wp_region_held_drew (S := (fun v => v.cell? ⟨k.g, 0, none⟩ = some (.pointer (some ⟨k.s.x, 0, none⟩)) ∧ v.cell? ⟨q, 2, none⟩ = some (.int .i64 l.pg))) (by kernel_rfl) hs2 (fun hHeld => ?_)
  have H3 := Lib.hid (H2.out.call (drewN_b (Below.refl _ _) 1))
  have H3 : Hid (Lw w w2.drew k v ws L v0 L0 v1 L1 lf K) := H3
  have R3 : Hid (Row w2.drew q 52 (acCells l)) := R2.out
  generalize w2.drew = w3 at hHeld hs2 H3 R3 ⊢
  clear c0 H2 R2
  refine tkY 0 (at_lit rfl) (v := ?_) (Or.inl ⟨by rfl, ?_⟩) ?_
  rotate_left
  focus (intro _ h; (try dsimp only at h); go_simp; (try with_reducible rfl); done)
  (try simp only [Act.put, sAr, sZe, sSu])
  refine tkY 1 (at_lit rfl) (v := ?_) (Or.inl ⟨by rfl, ?_⟩) ?_
  rotate_left
  focus (intro _ h; (try dsimp only at h); go_simp; (try with_reducible rfl); done)
  (try simp only [Act.put, sAr, sZe, sSu])
  refine tkY 2 (at_lit rfl) (v := ?_) (Or.inl ⟨by rfl, ?_⟩) ?_
  rotate_left
  focus (intro _ h; (try dsimp only at h); go_simp; (try with_reducible rfl); done)
  (try simp only [Act.put, sAr, sZe, sSu])
  refine tkY 3 (at_lit rfl) (v := ?_) (Or.inl ⟨by rfl, ?_⟩) ?_
  rotate_left
  focus (intro _ h; (try dsimp only at h); go_simp; (try with_reducible rfl); done)
  (try simp only [Act.put, sAr, sZe, sSu])
  refine tkY 4 (at_lit rfl) (v := ?_) (Or.inl ⟨by rfl, ?_⟩) ?_
  rotate_left
  focus (intro _ h; (try dsimp only at h); go_simp; (try with_reducible rfl); done)
  (try simp only [Act.put, sAr, sZe, sSu])
  refine tkY 5 (at_lit rfl) (v := ?_) (Or.inl ⟨by rfl, ?_⟩) ?_
  rotate_left
  focus (intro _ h; (try dsimp only at h); go_simp; (try with_reducible rfl); done)
  (try simp only [Act.put, sAr, sZe, sSu])
  refine tkY 6 (at_lit rfl) (v := ?_) (Or.inl ⟨by rfl, ?_⟩) ?_
  rotate_left
  focus (intro _ h; (try dsimp only at h); go_simp; (try with_reducible rfl); done)
  (try simp only [Act.put, sAr, sZe, sSu])
  refine tkY 8 (at_lit rfl) (v := ?_) (Or.inl ⟨by rfl, ?_⟩) ?_
  rotate_left
  focus (intro _ h; (try dsimp only at h); go_simp; (try with_reducible rfl); done)
  (try simp only [Act.put, sAr, sZe, sSu])
  refine tkY 9 (at_lit rfl) (v := ?_) (Or.inl ⟨by rfl, ?_⟩) ?_
  rotate_left
  focus (intro _ h; (try dsimp only at h); go_simp; (try with_reducible rfl); done)
  (try simp only [Act.put, sAr, sZe, sSu])
  refine tkY 10 (at_lit rfl) (v := ?_) (Or.inl ⟨by rfl, ?_⟩) ?_
  rotate_left
  focus (intro _ h; (try dsimp only at h); go_simp; (try with_reducible rfl); done)
  (try simp only [Act.put, sAr, sZe, sSu])
  refine tkY 11 (at_lit rfl) (v := ?_) (Or.inl ⟨by rfl, ?_⟩) ?_
  rotate_left
  focus (intro _ h; (try dsimp only at h); go_simp; (try with_reducible rfl); done)
  (try simp only [Act.put, sAr, sZe, sSu])
  refine wpAnyH_ready (rs := [7]) (by kernel_rfl) (by simp) ?_
  refine AllReadyH.cons (o := _) (at_lit rfl) (fun K hK => ?_) AllReadyH.nil
  go_simp
  go_at_call 11
  refine ((lw_merge H3.out hn true hr l.pg HL.out.2.2.1).mono ?_)
  rintro e w4 ⟨er, rfl, v4, ws4, L4, h4, -, -, hm⟩
  have H4 := Lib.hid h4
  have R4 := Lib.hid (H3.out.tab.row hm R3.out (by decide) (by decide) (by decide))
  have hs4 : (fun v => v.cell? ⟨k.g, 0, none⟩ = some (.pointer (some ⟨k.s.x, 0, none⟩)) ∧ v.cell? ⟨q, 2, none⟩ = some (.int .i64 l.pg)) w4 := ⟨H4.out.row.cell 0, R4.out.cell 2⟩
  clear h4 hm
  go_wp2_with fail
  refine hK.out _ _ ?_ (fun hHeld => ?_)
  focus exact hs4
  clear hK K
  (try simp only [Act.put, sAr, sZe, sSu])
  refine wpAnyH_ready (rs := [12]) (by kernel_rfl) (by simp) ?_
  refine AllReadyH.cons (o := _) (at_lit rfl) (fun K hK => ?_) AllReadyH.nil
  go_simp
  go_at_call 63
  refine (turn_merge (C := w.heap.size) H4.out.row H4.out.ref1 (by have := H4.out.len1; have := HHK.out; omega) H4.out.below.size l.pg).mono ?_
  rintro e w5 ⟨⟨er5, rfl⟩, hf⟩
  obtain ⟨v05, L05, v15, L15, lf5, h5⟩ := H4.out.fair1 hf
  have H5 := Lib.hid h5
  have R5 : Hid (Row w5 q 52 (acCells l)) := by
    obtain ⟨-, -, -, -, -, -, hft, -⟩ := hf
    exact hft.row R4.out (by rintro (e | e); exact R4.out.apart (show Row _ _ _ _ from H4.out.row) (by decide) e; exact R4.out.apart H4.out.ref1.top (by decide) e)
  have hs5 : (fun v => v.cell? ⟨k.g, 0, none⟩ = some (.pointer (some ⟨k.s.x, 0, none⟩)) ∧ v.cell? ⟨q, 2, none⟩ = some (.int .i64 l.pg)) w5 := ⟨H5.out.row.cell 0, R5.out.cell 2⟩
  clear hf h5
  go_wp2_with fail
  refine hK.out _ _ ?_ (fun hHeld => ?_)
  focus exact hs5
  clear hK K
  (try simp only [Act.put, sAr, sZe, sSu])
  refine tkY 13 (at_lit rfl) (v := ?_) (Or.inl ⟨by rfl, ?_⟩) ?_
  rotate_left
  focus (intro _ h; (try dsimp only at h); go_simp; (try with_reducible rfl); done)
  (try simp only [Act.put, sAr, sZe, sSu])
  refine tkY 14 (at_lit rfl) (v := ?_) (Or.inl ⟨by rfl, ?_⟩) ?_
  rotate_left
  focus (intro _ h; (try dsimp only at h); go_simp; (try with_reducible rfl); done)
  (try simp only [Act.put, sAr, sZe, sSu])
  refine wpAnyH_done (by kernel_rfl) ?_ _
  go_wp2_with fail
  go_ret
  exact ⟨⟨_, rfl⟩, _, _, _, _, _, _, _, _, H5.out⟩
set_option maxRecDepth 100000 in
set_option maxHeartbeats 4000000 in
theorem one_map1 (h : Lw w W k v ws L v0 L0 v1 L1 lf K) (hK : K + 8 ≤ 5000) (hn : k.n ≤ 100) (hr : Fits k.r1) (l : Ac) (hl : IsAc l) (hb : bits .and .i64 l.r 1 = 1) (h3 : (l.kd == 3) = false) (h4 : (l.kd == 4) = false) (h5 : (l.kd == 5) = false) (h6 : (l.kd == 6) = false) : Calls Try.prog 43 #[.pointer (some ⟨k.g, 0, none⟩), .agg (acCells l).toArray] W fun e W' => (∃ b, e = .returned (.bool b)) ∧ Run w W' k (K + 8) := by
  obtain ⟨q, hq⟩ : ∃ q, q = W.heap.size := ⟨_, rfl⟩
  have HQ := Lib.hid hq
  obtain ⟨w1, hw1⟩ : ∃ w1, w1 = W.alloc (.cells #[.int .i64 l.kd, .int .i64 l.r, .int .i64 l.pg, .int .i64 l.o, .int .i64 l.n, .int .i64 l.f, .bool l.p, .bool l.w, .bool l.h, .bool l.k, .bool l.u, .bool l.d] 52) := ⟨_, rfl⟩
  have HW1 := Lib.hid hw1
  have r1 : Row w1 q 52 (acCells l) := by rw [hw1, hq]; exact Row.new W _ (acCells l)
  have R1 := Lib.hid r1
  have h1 := h.call (hw1 ▸ below_new W _ _)
  have c0 : w1.cell? ⟨q, 0, none⟩ = some (.int .i64 l.kd) := r1.cell 0
  have c1 : w1.cell? ⟨q, 1, none⟩ = some (.int .i64 l.r) := r1.cell 1
  have g3 : w1.cell? ⟨k.g, 4, none⟩ = some (.int .i64 k.r1) := h1.row.cell 4
  have g5 : w1.cell? ⟨k.g, 6, none⟩ = some (.pointer (some ⟨k.x1, 0, none⟩)) := h1.row.cell 6
  have H1 := Lib.hid h1
  have HL := Lib.hid hl
  have HHK := Lib.hid hK
  unfold acCells
  clear hq hw1 r1 h h1 hl
  go_enter Try.func43, Try.ntmps43
  go_upto_region 1 with (fail)
  rw [← HW1.out, ← HQ.out]
  go_upto_region 2 with (fail)
  clear hb
  go_quiet (fail)
  have H2 := Lib.hid (H1.out.call (drewN_b (Below.refl _ _) nq))
  have R2 : Hid (Row (w1.drewN nq) q 52 (acCells l)) := R1.out
  have c0 : (w1.drewN nq).cell? ⟨q, 0, none⟩ = some (.int .i64 l.kd) := R2.out.cell 0
  generalize w1.drewN nq = w2 at H2 R2 c0 ⊢
  clear c1 g3 g5 H1 R1 HW1
  go_upto_region 26 with (fail)
  have hs2 : (fun v => v.cell? ⟨k.g, 0, none⟩ = some (.pointer (some ⟨k.s.x, 0, none⟩)) ∧ v.cell? ⟨q, 0, none⟩ = some (.int .i64 l.kd) ∧ v.cell? ⟨q, 1, none⟩ = some (.int .i64 l.r) ∧ v.cell? ⟨q, 2, none⟩ = some (.int .i64 l.pg) ∧ v.cell? ⟨q, 3, none⟩ = some (.int .i64 l.o) ∧ v.cell? ⟨q, 4, none⟩ = some (.int .i64 l.n) ∧ v.cell? ⟨q, 5, none⟩ = some (.int .i64 l.f) ∧ v.cell? ⟨q, 6, none⟩ = some (.bool l.p) ∧ v.cell? ⟨q, 7, none⟩ = some (.bool l.w) ∧ v.cell? ⟨q, 8, none⟩ = some (.bool l.h) ∧ v.cell? ⟨q, 9, none⟩ = some (.bool l.k) ∧ v.cell? ⟨q, 10, none⟩ = some (.bool l.u) ∧ v.cell? ⟨q, 11, none⟩ = some (.bool l.d)) w2.drew := ⟨H2.out.row.cell 0, R2.out.cell 0, R2.out.cell 1, R2.out.cell 2, R2.out.cell 3, R2.out.cell 4, R2.out.cell 5, R2.out.cell 6, R2.out.cell 7, R2.out.cell 8, R2.out.cell 9, R2.out.cell 10, R2.out.cell 11⟩
  refine wp_region_held_drew (S := (fun v => v.cell? ⟨k.g, 0, none⟩ = some (.pointer (some ⟨k.s.x, 0, none⟩)) ∧ v.cell? ⟨q, 0, none⟩ = some (.int .i64 l.kd) ∧ v.cell? ⟨q, 1, none⟩ = some (.int .i64 l.r) ∧ v.cell? ⟨q, 2, none⟩ = some (.int .i64 l.pg) ∧ v.cell? ⟨q, 3, none⟩ = some (.int .i64 l.o) ∧ v.cell? ⟨q, 4, none⟩ = some (.int .i64 l.n) ∧ v.cell? ⟨q, 5, none⟩ = some (.int .i64 l.f) ∧ v.cell? ⟨q, 6, none⟩ = some (.bool l.p) ∧ v.cell? ⟨q, 7, none⟩ = some (.bool l.w) ∧ v.cell? ⟨q, 8, none⟩ = some (.bool l.h) ∧ v.cell? ⟨q, 9, none⟩ = some (.bool l.k) ∧ v.cell? ⟨q, 10, none⟩ = some (.bool l.u) ∧ v.cell? ⟨q, 11, none⟩ = some (.bool l.d))) (by kernel_rfl) hs2 (fun hHeld => ?_)
  have H3 := Lib.hid (H2.out.call (drewN_b (Below.refl _ _) 1))
  have H3 : Hid (Lw w w2.drew k v ws L v0 L0 v1 L1 lf K) := H3
  have R3 : Hid (Row w2.drew q 52 (acCells l)) := R2.out
  generalize w2.drew = w3 at hHeld hs2 H3 R3 ⊢
  clear c0 H2 R2 h3 h4 h5 h6
  refine tkY 0 (at_lit rfl) (v := ?_) (Or.inl ⟨by rfl, ?_⟩) ?_
  rotate_left
  focus (intro _ h; (try dsimp only at h); go_simp; (try with_reducible rfl); done)
  (try simp only [Act.put, sAr, sZe, sSu])
  refine tkY 1 (at_lit rfl) (v := ?_) (Or.inl ⟨by rfl, ?_⟩) ?_
  rotate_left
  focus (intro _ h; (try dsimp only at h); go_simp; (try with_reducible rfl); done)
  (try simp only [Act.put, sAr, sZe, sSu])
  refine tkY 2 (at_lit rfl) (v := ?_) (Or.inl ⟨by rfl, ?_⟩) ?_
  rotate_left
  focus (intro _ h; (try dsimp only at h); go_simp; (try with_reducible rfl); done)
  (try simp only [Act.put, sAr, sZe, sSu])
  refine tkY 3 (at_lit rfl) (v := ?_) (Or.inl ⟨by rfl, ?_⟩) ?_
  rotate_left
  focus (intro _ h; (try dsimp only at h); go_simp; (try with_reducible rfl); done)
  (try simp only [Act.put, sAr, sZe, sSu])
  refine tkY 4 (at_lit rfl) (v := ?_) (Or.inl ⟨by rfl, ?_⟩) ?_
  rotate_left
  focus (intro _ h; (try dsimp only at h); go_simp; (try with_reducible rfl); done)
  (try simp only [Act.put, sAr, sZe, sSu])
  refine tkY 5 (at_lit rfl) (v := ?_) (Or.inl ⟨by rfl, ?_⟩) ?_
  rotate_left
  focus (intro _ h; (try dsimp only at h); go_simp; (try with_reducible rfl); done)
  (try simp only [Act.put, sAr, sZe, sSu])
  refine tkY 6 (at_lit rfl) (v := ?_) (Or.inl ⟨by rfl, ?_⟩) ?_
  rotate_left
  focus (intro _ h; (try dsimp only at h); go_simp; (try with_reducible rfl); done)
  (try simp only [Act.put, sAr, sZe, sSu])
  refine tkY 7 (at_lit rfl) (v := ?_) (Or.inl ⟨by rfl, ?_⟩) ?_
  rotate_left
  focus (intro _ h; (try dsimp only at h); go_simp; (try with_reducible rfl); done)
  (try simp only [Act.put, sAr, sZe, sSu])
  refine tkY 8 (at_lit rfl) (v := ?_) (Or.inl ⟨by rfl, ?_⟩) ?_
  rotate_left
  focus (intro _ h; (try dsimp only at h); go_simp; (try with_reducible rfl); done)
  (try simp only [Act.put, sAr, sZe, sSu])
  refine tkY 9 (at_lit rfl) (v := ?_) (Or.inl ⟨by rfl, ?_⟩) ?_
  rotate_left
  focus (intro _ h; (try dsimp only at h); go_simp; (try with_reducible rfl); done)
  (try simp only [Act.put, sAr, sZe, sSu])
  refine tkY 10 (at_lit rfl) (v := ?_) (Or.inl ⟨by rfl, ?_⟩) ?_
  rotate_left
  focus (intro _ h; (try dsimp only at h); go_simp; (try with_reducible rfl); done)
  (try simp only [Act.put, sAr, sZe, sSu])
  refine tkY 12 (at_lit rfl) (v := ?_) (Or.inl ⟨by rfl, ?_⟩) ?_
  rotate_left
  focus (intro _ h; (try dsimp only at h); go_simp; (try with_reducible rfl); done)
  (try simp only [Act.put, sAr, sZe, sSu])
  refine tkY 13 (at_lit rfl) (v := ?_) (Or.inl ⟨by rfl, ?_⟩) ?_
  rotate_left
  focus (intro _ h; (try dsimp only at h); go_simp; (try with_reducible rfl); done)
  (try simp only [Act.put, sAr, sZe, sSu])
  refine tkY 14 (at_lit rfl) (v := ?_) (Or.inl ⟨by rfl, ?_⟩) ?_
  rotate_left
  focus (intro _ h; (try dsimp only at h); go_simp; (try with_reducible rfl); done)
  (try simp only [Act.put, sAr, sZe, sSu])
  refine wpAnyH_ready (rs := [11]) (by kernel_rfl) (by simp) ?_
  refine AllReadyH.cons (o := _) (at_lit rfl) (fun K hK => ?_) AllReadyH.nil
  go_simp
  go_at_call 17
  refine ((lw_map H3.out hn true hr l.pg l.o l.f l.p l.w l.h l.k l.u l.d HL.out.2.2.1 HL.out.2.2.2.2.2).mono ?_)
  rintro e w4 ⟨er, rfl, v4, ws4, L4, h4, -, -, hm⟩
  have H4 := Lib.hid h4
  have R4 := Lib.hid (H3.out.tab.row hm R3.out (by decide) (by decide) (by decide))
  have hs4 : (fun v => v.cell? ⟨k.g, 0, none⟩ = some (.pointer (some ⟨k.s.x, 0, none⟩)) ∧ v.cell? ⟨q, 0, none⟩ = some (.int .i64 l.kd) ∧ v.cell? ⟨q, 1, none⟩ = some (.int .i64 l.r) ∧ v.cell? ⟨q, 2, none⟩ = some (.int .i64 l.pg) ∧ v.cell? ⟨q, 3, none⟩ = some (.int .i64 l.o) ∧ v.cell? ⟨q, 4, none⟩ = some (.int .i64 l.n) ∧ v.cell? ⟨q, 5, none⟩ = some (.int .i64 l.f) ∧ v.cell? ⟨q, 6, none⟩ = some (.bool l.p) ∧ v.cell? ⟨q, 7, none⟩ = some (.bool l.w) ∧ v.cell? ⟨q, 8, none⟩ = some (.bool l.h) ∧ v.cell? ⟨q, 9, none⟩ = some (.bool l.k) ∧ v.cell? ⟨q, 10, none⟩ = some (.bool l.u) ∧ v.cell? ⟨q, 11, none⟩ = some (.bool l.d)) w4 := ⟨H4.out.row.cell 0, R4.out.cell 0, R4.out.cell 1, R4.out.cell 2, R4.out.cell 3, R4.out.cell 4, R4.out.cell 5, R4.out.cell 6, R4.out.cell 7, R4.out.cell 8, R4.out.cell 9, R4.out.cell 10, R4.out.cell 11⟩
  clear h4 hm
  go_wp2_with fail
  refine hK.out _ _ ?_ (fun hHeld => ?_)
  focus exact hs4
  clear hK K
  (try simp only [Act.put, sAr, sZe, sSu])
  refine wpAnyH_ready (rs := [15]) (by kernel_rfl) (by simp) ?_
  refine AllReadyH.cons (o := _) (at_lit rfl) (fun K hK => ?_) AllReadyH.nil
  go_simp
  go_at_call 64
  refine (add8_any (C := w.heap.size) H4.out.row H4.out.ref1 (by have := H4.out.len1; have := HHK.out; omega) H4.out.below.size l).mono ?_
  rintro e w5 ⟨⟨er5, rfl⟩, hf⟩
  have hf := hf.more
  obtain ⟨v05, L05, v15, L15, lf5, h5⟩ := H4.out.fair1 hf
  have H5 := Lib.hid h5
  have R5 : Hid (Row w5 q 52 (acCells l)) := by
    obtain ⟨-, -, -, -, -, -, hft, -⟩ := hf
    exact hft.row R4.out (by rintro (e | e); exact R4.out.apart (show Row _ _ _ _ from H4.out.row) (by decide) e; exact R4.out.apart H4.out.ref1.top (by decide) e)
  have hs5 : (fun v => v.cell? ⟨k.g, 0, none⟩ = some (.pointer (some ⟨k.s.x, 0, none⟩)) ∧ v.cell? ⟨q, 0, none⟩ = some (.int .i64 l.kd) ∧ v.cell? ⟨q, 1, none⟩ = some (.int .i64 l.r) ∧ v.cell? ⟨q, 2, none⟩ = some (.int .i64 l.pg) ∧ v.cell? ⟨q, 3, none⟩ = some (.int .i64 l.o) ∧ v.cell? ⟨q, 4, none⟩ = some (.int .i64 l.n) ∧ v.cell? ⟨q, 5, none⟩ = some (.int .i64 l.f) ∧ v.cell? ⟨q, 6, none⟩ = some (.bool l.p) ∧ v.cell? ⟨q, 7, none⟩ = some (.bool l.w) ∧ v.cell? ⟨q, 8, none⟩ = some (.bool l.h) ∧ v.cell? ⟨q, 9, none⟩ = some (.bool l.k) ∧ v.cell? ⟨q, 10, none⟩ = some (.bool l.u) ∧ v.cell? ⟨q, 11, none⟩ = some (.bool l.d)) w5 := ⟨H5.out.row.cell 0, R5.out.cell 0, R5.out.cell 1, R5.out.cell 2, R5.out.cell 3, R5.out.cell 4, R5.out.cell 5, R5.out.cell 6, R5.out.cell 7, R5.out.cell 8, R5.out.cell 9, R5.out.cell 10, R5.out.cell 11⟩
  clear hf h5
  go_wp2_with fail
  refine hK.out _ _ ?_ (fun hHeld => ?_)
  focus exact hs5
  clear hK K
  (try simp only [Act.put, sAr, sZe, sSu])
  refine tkY 16 (at_lit rfl) (v := ?_) (Or.inl ⟨by rfl, ?_⟩) ?_
  rotate_left
  focus (intro _ h; (try dsimp only at h); go_simp; (try with_reducible rfl); done)
  (try simp only [Act.put, sAr, sZe, sSu])
  refine tkY 17 (at_lit rfl) (v := ?_) (Or.inl ⟨by rfl, ?_⟩) ?_
  rotate_left
  focus (intro _ h; (try dsimp only at h); go_simp; (try with_reducible rfl); done)
  (try simp only [Act.put, sAr, sZe, sSu])
  refine wpAnyH_done (by kernel_rfl) ?_ _
  go_wp2_with fail
  go_ret
  exact ⟨⟨_, rfl⟩, _, _, _, _, _, _, _, _, H5.out⟩
end
end Go.Proofs.Ytpcpcgbejinlmaa
