/- The reference of package table: the parts of a leaf. -/
import Derived.Test.YtpcpcgbejinlmaaMk32
import Derived.Deep.Cut
import Derived.Test.YtpcpcgbejinlmaaProg
import Derived.WalkKit
import Derived.WalkSpells
import Derived.Below
import Derived.ProofKit
import Derived.OpenShut
import Derived.Lib.SmallJoins
import Derived.Deep.Slices
import Derived.Deep.Fields
import Derived.ChangeSame
import Derived.Carry
import Derived.Test.YtpcpcgbejinlmaaMk17
namespace Go.Proofs.Ytpcpcgbejinlmaa
open Go.RowKit
section
variable {w : World}
theorem operwp_append_run {P : Program} {o : Oper} {a : Act} {K : Act → World → Prop} {Q : Exit → Act → World → Prop}
    (d x : Operand) (t : TypeId) (hop : o.op = Op.call { callee := Callee.builtin Builtin.append, args := #[d, x], argTypes := #[t, t] })
    (v u : Value) (hd : a.eval d = v) (hx : a.eval x = u) {v' : Value} {w' : World} (hr : (Builtin.append_ #[t, t] o.type #[v, u]).run P w = .ok v' w') (h : K (a.put o.dst v') w') : Oper.wp P o a w K Q := by
  unfold Oper.wp
  simp [execOp, hop, resolve, invoke, builtin, hd, hx, hr, Result.andThen]
  exact h
theorem Ms.keep8 {w' : World} {C : Nat} {v : Value} {L : List Mp} (h : Ms w C v L) (hk : ∀ g, v.ownBlock = some g → w'.heap[g]? = w.heap[g]?) : Ms w' C v L := by
  refine ⟨h.1, ?_⟩
  rcases h.2 with hn | ⟨g, cap, cur, e, h1, h2, h3⟩
  · exact Or.inl hn
  · exact Or.inr ⟨g, cap, cur, e, h1, (hk g (by rw [e]; rfl)).trans h2, h3⟩
theorem Ms.typed {C : Nat} {v : Value} {L : List Mp} (h : Ms w C v L) {g : Nat} (hg : v.ownBlock = some g) : ∃ cur, w.heap[g]? = some (.cells cur 94 (0, 0)) := by
  rcases h.2 with ⟨h1, _⟩ | ⟨g', cap, cur, h1, _, h3, _⟩
  · rw [h1] at hg; cases hg
  · rw [h1] at hg; injection hg with hg; subst hg; exact ⟨cur, h3⟩
set_option maxRecDepth 100000 in
set_option maxHeartbeats 4000000 in
theorem parts8_gen (m : Mp) (k sz : Int) (kb : Bool) (ho : IntKind.i64.wrap (m.o - 3) = k) (hkb : decide (0 < k) = kb) (hsz : szO k = sz) (hs : sz = 1 ∨ sz = 8) (hg0 : 0 ≤ m.g) (hg1 : m.g + 8 * sz ≤ 4096) (hmk : ∀ j : Nat, j < 8 → ∀ f, MK ⟨m.g + (j : Int) * sz, k, f, m.p, m.w, kb, m.k, m.u, m.d⟩) :
    Calls Try.prog 84 #[.agg (mcell m).toArray] w (Told w fun M => M.length = 8 ∧ ∀ x ∈ M, MK x) := by
  obtain ⟨q, hq⟩ : ∃ q, q = w.heap.size := ⟨_, rfl⟩
  have HQ := Lib.hid hq
  obtain ⟨w0, hw0⟩ : ∃ w0, w0 = w.alloc (.cells #[.int .i64 m.g, .int .i64 m.o, .int .i64 m.f, .bool m.p, .bool m.w, .bool m.h, .bool m.k, .bool m.u, .bool m.d] 94) := ⟨_, rfl⟩
  have HW0 := Lib.hid hw0
  have r0 : Row w0 q 94 (mcell m) := by rw [hw0, hq]; exact Row.new w _ (mcell m)
  have b0 : Below w.heap.size w w0 := by rw [hw0]; exact (Below.refl _ _).alloc (Nat.le_refl _) _
  have hD : q + 1 ≤ w0.heap.size := r0.lt
  have hqw := Lib.hid (show w.heap.size ≤ q + 1 by omega)
  have c1 : w0.cell? ⟨q, 1, none⟩ = some (.int .i64 m.o) := r0.cell 1
  have hsq : ∀ W : World, Calls Try.prog 79 #[.int .i64 k] W fun e W' => e = .returned (.int .i64 sz) ∧ W' = W := fun W => by rw [← hsz]; exact size8_q k W
  have HMK := Lib.hid hmk
  unfold mcell
  clear hq hw0 hsz hmk
  go_enter Try.func84, Try.ntmps84
  go_upto_region 1 with (fail)
  rw [← HW0.out, ← HQ.out]
  go_wp2
  clear c1
  go_loopw [3, 5] (fun out i wr => ∃ (j : Nat) (M : List Mp), j ≤ 8 ∧ i = .int .i64 j ∧ Ms wr (q + 1) out M ∧ M.length = j ∧ (∀ x ∈ M, MK x) ∧ Row wr q 94 (mcell m) ∧ Below w.heap.size w wr ∧ q + 1 ≤ wr.heap.size) (fun _ i _ => 8 - (intOf i).toNat)
  case atStart => exact ⟨0, [], by omega, rfl, Ms.nil _ _, rfl, (fun m hm => absurd hm (by simp)), r0, b0, hD⟩
  case round =>
    obtain ⟨j, M, hj, rfl, hm, hml, hmem, hr, hb, hsz⟩ := hrel
    clear r0 b0 hD
    by_cases hlt : j < 8
    · have x2 : wr.cell? ⟨q, 2, none⟩ = some (.int .i64 m.f) := hr.cell 2
      have x3 : wr.cell? ⟨q, 3, none⟩ = some (.bool m.p) := hr.cell 3
      have x4 : wr.cell? ⟨q, 4, none⟩ = some (.bool m.w) := hr.cell 4
      have x5 : wr.cell? ⟨q, 5, none⟩ = some (.bool m.h) := hr.cell 5
      have x6 : wr.cell? ⟨q, 6, none⟩ = some (.bool m.k) := hr.cell 6
      have x7 : wr.cell? ⟨q, 7, none⟩ = some (.bool m.u) := hr.cell 7
      have x8 : wr.cell? ⟨q, 8, none⟩ = some (.bool m.d) := hr.cell 8
      obtain ⟨u, hu⟩ : ∃ u, u = wr.heap.size := ⟨_, rfl⟩
      obtain ⟨w1, hw1⟩ : ∃ w1, w1 = wr.alloc (.cells #[.int .i64 m.f, .bool m.p, .bool m.w, .bool kb, .bool m.k, .bool m.u, .bool m.d] 28) := ⟨_, rfl⟩
      have hb1 : Below wr.heap.size wr w1 := by rw [hw1]; exact (Below.refl _ _).alloc (Nat.le_refl _) _
      have HR1 : Hid (Row w1 u 28 [.int .i64 m.f, .bool m.p, .bool m.w, .bool kb, .bool m.k, .bool m.u, .bool m.d]) := by show Row _ _ _ _; rw [hw1, hu]; exact Row.new wr _ _
      have HM1 := Lib.hid (hm.call hb1)
      have HRQ := Lib.hid (hr.below hb1 hr.lt)
      have HB1 := Lib.hid (hb.trans (hb1.mono hb.size))
      have HS1 : Hid (q + 1 ≤ u) := by show _ ≤ _; omega
      have HML := Lib.hid hml
      have HMEM := Lib.hid hmem
      have HU := Lib.hid hu
      have HW1 := Lib.hid hw1
      clear hm hml hmem hr hb hsz hu hw1 hb1
      go_upto_region 8 with (fail)
      rw [← HW1.out, ← HU.out]
      clear x2 x3 x4 x5 x6 x7 x8
      obtain ⟨w2, e2⟩ : ∃ w2, w2 = w1.drew := ⟨_, rfl⟩
      have HR2 : Hid (Row w2 u 28 [.int .i64 m.f, .bool m.p, .bool m.w, .bool kb, .bool m.k, .bool m.u, .bool m.d]) := e2 ▸ HR1.out
      have HM2 : Hid (Ms w2 (q + 1) u3 M) := e2 ▸ HM1.out.call (drewN_b (Below.refl _ _) 1)
      have HRQ2 : Hid (Row w2 q 94 (mcell m)) := e2 ▸ HRQ.out
      have HB2 : Hid (Below w.heap.size w w2) := e2 ▸ HB1.out.drew
      obtain ⟨js, hjs⟩ : ∃ js, js = (j : Int) * sz := ⟨_, rfl⟩
      have hjb : 0 ≤ js ∧ js ≤ 7 * sz := by rcases hs with e | e <;> rw [e] at hjs ⊢ <;> omega
      have hsb : sz ≤ 8 := by omega
      obtain ⟨hj0, hj7⟩ := hjb
      have hwj : IntKind.i64.wrap ((j : Int) * sz) = js := by rw [← hjs]; exact IntWalk.i64_in _ (by omega)
      have hwj2 : wrap64 ((j : Int) * sz) = js := (IntWalk.i64_left _).symm.trans hwj
      have hwg : IntKind.i64.wrap (m.g + js) = m.g + js := IntWalk.i64_in _ (by omega)
      obtain ⟨f2, hf2⟩ : ∃ f2, IntKind.i64.wrap (m.f + js) = f2 := ⟨_, rfl⟩
      have hf3 : wrap64 (m.f + js) = f2 := (IntWalk.i64_left _).symm.trans hf2
      have HJS := Lib.hid hjs
      clear hjs
      have y0 : w1.cell? ⟨u, 0, none⟩ = some (.int .i64 m.f) := HR1.out.cell 0
      have z0 : w2.cell? ⟨u, 0, none⟩ = some (.int .i64 m.f) := HR2.out.cell 0
      have zf : w2.frozen? ⟨u, 0, none⟩ = false := HR2.out.frozen 0
      go_still_tail 8, (by kernel_rfl)
      still_call (hsq _)
      repeat still_step
      refine wpStill_nil ?_
      change wpList _ _ _ _ _ w1.drew
      rw [← e2]
      clear e2 HW1 HR1 HM1 HRQ HB1 y0
      obtain ⟨w3, e3⟩ : ∃ w3, w3 = w2.setCell ⟨u, 0, none⟩ (.int .i64 f2) := ⟨_, rfl⟩
      have HR3 : Hid (Row w3 u 28 [.int .i64 f2, .bool m.p, .bool m.w, .bool kb, .bool m.k, .bool m.u, .bool m.d]) := e3 ▸ HR2.out.set_ 0 _
      have hqu : q ≠ u := by have := HS1.out; omega
      have HRQ3 : Hid (Row w3 q 94 (mcell m)) := e3 ▸ HRQ2.out.far (p := ⟨u, 0, none⟩) hqu _
      have HB3 : Hid (Below w.heap.size w w3) := e3 ▸ HB2.out.setCell (p := ⟨u, 0, none⟩) (by have := HS1.out; have := hqw.out; show _ ≤ u; omega) _
      have HS3 : Hid (q + 1 ≤ w3.heap.size) := Nat.le_trans HS1.out (Nat.le_of_lt HR3.out.lt)
      have HM3 : Hid (Ms w3 (q + 1) u3 M) := by
        show Ms _ _ _ _
        rw [e3]
        refine HM2.out.keep8 fun g hg => Below.heap_setCell _ _ _ g ?_
        rintro rfl
        obtain ⟨vs, hv⟩ := HM2.out.typed hg
        have := HR2.out
        unfold Row at this
        rw [this] at hv
        injection hv with hv
        injection hv with _ hv
        exact absurd hv (by decide)
      clear HR2 HM2 HRQ2 HB2
      go_upto_region 9 with (fail)
      rw [← e3]
      clear e3 z0 zf
      have y0 : w3.cell? ⟨q, 0, none⟩ = some (.int .i64 m.g) := HRQ3.out.cell 0
      obtain ⟨⟨d0, d1, d2, d3, d4, d5, d6⟩, -⟩ := HR3.out.seven
      obtain ⟨w4, e4⟩ : ∃ w4, w4 = w3.drew := ⟨_, rfl⟩
      have HRQ4 : Hid (Row w4 q 94 (mcell m)) := e4 ▸ HRQ3.out
      have HB4 : Hid (Below w.heap.size w w4) := e4 ▸ HB3.out.drew
      have HM4 : Hid (Ms w4 (q + 1) u3 M) := e4 ▸ HM3.out.call (drewN_b (Below.refl _ _) 1)
      have HS4 : Hid (q + 1 ≤ w4.heap.size) := e4 ▸ HS3.out
      have HR4 : Hid (Row w4 u 28 [.int .i64 f2, .bool m.p, .bool m.w, .bool kb, .bool m.k, .bool m.u, .bool m.d]) := e4 ▸ HR3.out
      have hs4 : (fun v => v.cell? ⟨q, 0, none⟩ = some (.int .i64 m.g) ∧ v.cell? ⟨u, 0, none⟩ = some (.int .i64 f2) ∧ v.cell? ⟨u, 1, none⟩ = some (.bool m.p) ∧ v.cell? ⟨u, 2, none⟩ = some (.bool m.w) ∧ v.cell? ⟨u, 3, none⟩ = some (.bool kb) ∧ v.cell? ⟨u, 4, none⟩ = some (.bool m.k) ∧ v.cell? ⟨u, 5, none⟩ = some (.bool m.u) ∧ v.cell? ⟨u, 6, none⟩ = some (.bool m.d)) w3.drew := ⟨HRQ3.out.cell 0, HR3.out.cell 0, HR3.out.cell 1, HR3.out.cell 2, HR3.out.cell 3, HR3.out.cell 4, HR3.out.cell 5, HR3.out.cell 6⟩
      refine wp_region_held_drew (S := (fun v => v.cell? ⟨q, 0, none⟩ = some (.int .i64 m.g) ∧ v.cell? ⟨u, 0, none⟩ = some (.int .i64 f2) ∧ v.cell? ⟨u, 1, none⟩ = some (.bool m.p) ∧ v.cell? ⟨u, 2, none⟩ = some (.bool m.w) ∧ v.cell? ⟨u, 3, none⟩ = some (.bool kb) ∧ v.cell? ⟨u, 4, none⟩ = some (.bool m.k) ∧ v.cell? ⟨u, 5, none⟩ = some (.bool m.u) ∧ v.cell? ⟨u, 6, none⟩ = some (.bool m.d))) (by kernel_rfl) hs4 (fun hHeld => ?_)
      rw [← e4] at hHeld hs4 ⊢
      clear e4 HR3 HRQ3 HB3 HM3 HS3 y0 d0 d1 d2 d3 d4 d5 d6
      obtain ⟨A, c, rfl⟩ := HM4.out.form
      have hMl := HML.out
      obtain ⟨A5, c5, w5, r5, o5, g5⟩ := HM4.out.app HS4.out (by omega) ⟨m.g + js, k, f2, m.p, m.w, kb, m.k, m.u, m.d⟩
      simp only [mcell] at r5
      obtain ⟨K5, hK5⟩ : ∃ K5, K5 = M.length := ⟨_, rfl⟩
      rw [← hK5] at r5 o5 g5 HM4 ⊢
      have hne : some u ≠ (Value.slice A K5 c).ownBlock := fun e => by
        rw [hK5] at e
        obtain ⟨vs, hv⟩ := Ms.typed (by rw [← hK5]; exact HM4.out) e.symm
        have := HR4.out
        unfold Row at this
        rw [this] at hv
        injection hv with hv
        injection hv with _ hv
        exact absurd hv (by decide)
      have hnq : some q ≠ (Value.slice A K5 c).ownBlock := fun e => by have := (HM4.out.lt _ e.symm).1; omega
      have hrq5 := HRQ4.out.grown g5 hnq
      have hs5 : (fun v => v.cell? ⟨q, 0, none⟩ = some (.int .i64 m.g) ∧ v.cell? ⟨u, 0, none⟩ = some (.int .i64 f2) ∧ v.cell? ⟨u, 1, none⟩ = some (.bool m.p) ∧ v.cell? ⟨u, 2, none⟩ = some (.bool m.w) ∧ v.cell? ⟨u, 3, none⟩ = some (.bool kb) ∧ v.cell? ⟨u, 4, none⟩ = some (.bool m.k) ∧ v.cell? ⟨u, 5, none⟩ = some (.bool m.u) ∧ v.cell? ⟨u, 6, none⟩ = some (.bool m.d)) w5 := ⟨hrq5.cell 0, (HR4.out.grown g5 hne).cell 0, (HR4.out.grown g5 hne).cell 1, (HR4.out.grown g5 hne).cell 2, (HR4.out.grown g5 hne).cell 3, (HR4.out.grown g5 hne).cell 4, (HR4.out.grown g5 hne).cell 5, (HR4.out.grown g5 hne).cell 6⟩
      have hb5 : Below w.heap.size w w5 := (HB4.out).grown g5 (by have := HS4.out; have := hqw.out; omega) fun k e => by have := (HM4.out.lt _ e).1; have := hqw.out; omega
      have HQ5 := Lib.hid hrq5
      have HB5 := Lib.hid hb5
      have HO5 := Lib.hid o5
      have HS5 : Hid (q + 1 ≤ w5.heap.size) := Nat.le_trans HS4.out g5.size
      have hsA : (fun v => v.cell? ⟨q, 0, none⟩ = some (.int .i64 m.g) ∧ v.cell? ⟨u, 0, none⟩ = some (.int .i64 f2) ∧ v.cell? ⟨u, 1, none⟩ = some (.bool m.p) ∧ v.cell? ⟨u, 2, none⟩ = some (.bool m.w) ∧ v.cell? ⟨u, 3, none⟩ = some (.bool kb) ∧ v.cell? ⟨u, 4, none⟩ = some (.bool m.k) ∧ v.cell? ⟨u, 5, none⟩ = some (.bool m.u) ∧ v.cell? ⟨u, 6, none⟩ = some (.bool m.d)) (w4.alloc (.cells #[.int .i64 (m.g + js), .int .i64 k, .int .i64 f2, .bool m.p, .bool m.w, .bool kb, .bool m.k, .bool m.u, .bool m.d] 94)) := ⟨(HRQ4.out.alloc _).cell 0, (HR4.out.alloc _).cell 0, (HR4.out.alloc _).cell 1, (HR4.out.alloc _).cell 2, (HR4.out.alloc _).cell 3, (HR4.out.alloc _).cell 4, (HR4.out.alloc _).cell 5, (HR4.out.alloc _).cell 6⟩
      have HK5 := Lib.hid hK5
      clear hne hnq hrq5 hb5 o5 g5 hK5 hMl
      refine tkY 0 (at_lit rfl) (v := ?_) (Or.inl ⟨by rfl, ?_⟩) ?_
      rotate_left
      focus (intro _ h; (try dsimp only at h); go_simp; (try with_reducible rfl); done)
      (try simp only [Act.put, sAr, sZe, sSu])
      refine tkY 1 (at_lit rfl) (v := ?_) (Or.inl ⟨by rfl, ?_⟩) ?_
      rotate_left
      focus (intro _ h; (try dsimp only at h); go_simp; (try with_reducible rfl); done)
      (try simp only [Act.put, sAr, sZe, sSu])
      refine tkY 2 (at_lit rfl) (v := ?_) (Or.inl ⟨by rfl, ?_⟩) ?_
      rotate_left
      focus (intro _ h; (try dsimp only at h); go_simp; (try with_reducible rfl); done)
      (try simp only [Act.put, sAr, sZe, sSu])
      refine tkY 3 (at_lit rfl) (v := ?_) (Or.inl ⟨by rfl, ?_⟩) ?_
      rotate_left
      focus (intro _ h; (try dsimp only at h); go_simp; (try with_reducible rfl); done)
      (try simp only [Act.put, sAr, sZe, sSu])
      refine tkY 4 (at_lit rfl) (v := ?_) (Or.inl ⟨by rfl, ?_⟩) ?_
      rotate_left
      focus (intro _ h; (try dsimp only at h); go_simp; (try with_reducible rfl); done)
      (try simp only [Act.put, sAr, sZe, sSu])
      refine tkY 8 (at_lit rfl) (v := ?_) (Or.inl ⟨by rfl, ?_⟩) ?_
      rotate_left
      focus (intro _ h; (try dsimp only at h); go_simp; (try with_reducible rfl); done)
      (try simp only [Act.put, sAr, sZe, sSu])
      refine tkY 9 (at_lit rfl) (v := ?_) (Or.inl ⟨by rfl, ?_⟩) ?_
      rotate_left
      focus (intro _ h; (try dsimp only at h); go_simp; (try with_reducible rfl); done)
      (try simp only [Act.put, sAr, sZe, sSu])
      refine wpAnyH_ready (rs := [5]) (by kernel_rfl) (by simp) ?_
      refine AllReadyH.cons (o := _) (at_lit rfl) (fun K hK => ?_) AllReadyH.nil
      go_simp
      go_at_call 79
      refine (hsq _).mono ?_
      rintro e w7 ⟨rfl, rfl⟩
      go_wp2_with fail
      refine hK.out _ _ ?_ (fun hHeld => ?_)
      focus exact hs4
      clear hK K
      (try simp only [Act.put, sAr, sZe, sSu])
      refine tkY 6 (at_lit rfl) (v := ?_) (Or.inl ⟨by rfl, ?_⟩) ?_
      rotate_left
      focus (intro _ h; (try dsimp only at h); go_simp; (try with_reducible rfl); done)
      (try simp only [Act.put, sAr, sZe, sSu])
      refine tkY 7 (at_lit rfl) (v := ?_) (Or.inl ⟨by rfl, ?_⟩) ?_
      rotate_left
      focus (intro _ h; (try dsimp only at h); go_simp; (try with_reducible rfl); done)
      (try simp only [Act.put, sAr, sZe, sSu])
      refine tkY 10 (at_lit rfl) (v := ?_) (Or.inl ⟨by rfl, ?_⟩) ?_
      rotate_left
      focus (intro _ h; (try dsimp only at h); go_simp; (try with_reducible rfl); done)
      (try simp only [Act.put, sAr, sZe, sSu])
      refine wpAnyH_ready (rs := [11]) (by kernel_rfl) (by simp) ?_
      refine AllReadyH.cons (o := _) (at_lit rfl) (fun K hK => ?_) AllReadyH.nil
      go_simp
      go_wp2_with fail
      refine hK.out _ _ ?_ (fun hHeld => ?_)
      focus exact hsA
      clear hK K
      (try simp only [Act.put, sAr, sZe, sSu])
      refine wpAnyH_ready (rs := [12]) (by kernel_rfl) (by simp) ?_
      refine AllReadyH.cons (o := _) (at_lit rfl) (fun K hK => ?_) AllReadyH.nil
      rw [if_pos (by rfl)]
      refine operwp_append_run _ _ 53 rfl (.slice A K5 c) (.slice (some ⟨w7.heap.size, 0, none⟩) 1 1) rfl rfl r5 ?_
      refine hK.out _ _ ?_ (fun hHeld => ?_)
      focus exact hs5
      clear hK K r5 hs4 hsA hs5
      (try simp only [Act.put, sAr, sZe, sSu])
      refine tkY 13 (at_lit rfl) (v := ?_) (Or.inl ⟨by rfl, ?_⟩) ?_
      rotate_left
      focus (intro _ h; (try dsimp only at h); go_simp; (try with_reducible rfl); done)
      (try simp only [Act.put, sAr, sZe, sSu])
      refine wpAnyH_done (by kernel_rfl) ?_ _
      go_wp2_with fail
      go_roundw
      case rel => exact ⟨j + 1, M ++ [⟨m.g + js, k, f2, m.p, m.w, kb, m.k, m.u, m.d⟩], by omega, by go_num, HO5.out, by rw [List.length_append, HML.out]; rfl, (fun y hy => by
        rcases List.mem_append.1 hy with h | h
        · exact HMEM.out y h
        · rw [List.mem_singleton.1 h, HJS.out]; exact HMK.out j hlt f2), HQ5.out, HB5.out, HS5.out⟩
      case measure => simp [intOf]; omega
    · obtain rfl : j = 8 := by omega
      have HX : Hid (M.length = 8 ∧ ∀ m ∈ M, MK m) := ⟨hml, hmem⟩
      have HMS := Lib.hid hm
      have HB := Lib.hid hb
      clear hm hmem hb hml
      go_wp2_with fail
      go_ret
      exact ⟨_, M, rfl, HMS.out.base hqw.out, HX.out, HB.out⟩
theorem parts8_any (m : Mp) (h : MK m) (ho : m.o = 3 ∨ m.o = 6) : Calls Try.prog 84 #[.agg (mcell m).toArray] w (Told w fun M => M.length = 8 ∧ ∀ x ∈ M, MK x) := by
  have h0 := h.g0
  have h1 := h.g1
  have he := h.even
  rcases ho with e | e
  · have hz : szO m.o = 8 := by rw [e]; rfl
    rw [hz] at he
    refine parts8_gen m 0 1 false (by rw [e]; rfl) (by decide) rfl (Or.inl rfl) h0 (by omega) fun j hj f => ⟨?_, ?_, Or.inl rfl, ?_⟩
    · show 0 ≤ m.g + (j : Int) * 1; omega
    · show m.g + (j : Int) * 1 ≤ 4095; omega
    · show (m.g + (j : Int) * 1) % 1 = 0; omega
  · have hz : szO m.o = 64 := by rw [e]; rfl
    rw [hz] at he
    refine parts8_gen m 3 8 true (by rw [e]; rfl) (by decide) rfl (Or.inr rfl) h0 (by omega) fun j hj f => ⟨?_, ?_, Or.inr (Or.inl rfl), ?_⟩
    · show 0 ≤ m.g + (j : Int) * 8; omega
    · show m.g + (j : Int) * 8 ≤ 4095; omega
    · show (m.g + (j : Int) * 8) % 8 = 0; omega
end
end Go.Proofs.Ytpcpcgbejinlmaa
/- What comes in, opened: a call (five numbers and an entry). -/
namespace Go.Proofs.Ytpcpcgbejinlmaa
open Go.RowKit
theorem laidOut : laidOutB Try.prog = true := by kernel_rfl
theorem own : ownKnob Try.prog.godebug = none := by kernel_rfl
theorem cellsAct8 : Try.prog.cellsOf 52 = 12 := by kernel_rfl
theorem i64_in8 {n : Int} (h : (Lit.int .i64 n).wf = true) : -9223372036854775808 ≤ n ∧ n ≤ 9223372036854775807 := by
  simp [Lit.wf, IntKind.min, IntKind.max, IntKind.signed, IntKind.bits] at h
  omega
structure Ac where
  kd : Int
  r : Int
  pg : Int
  o : Int
  n : Int
  f : Int
  p : Bool
  w : Bool
  h : Bool
  k : Bool
  u : Bool
  d : Bool
def acCells (l : Ac) : List Value := [.int .i64 l.kd, .int .i64 l.r, .int .i64 l.pg, .int .i64 l.o, .int .i64 l.n, .int .i64 l.f, .bool l.p, .bool l.w, .bool l.h, .bool l.k, .bool l.u, .bool l.d]
def In64 (x : Int) : Prop := -9223372036854775808 ≤ x ∧ x ≤ 9223372036854775807
def IsAc (l : Ac) : Prop := In64 l.kd ∧ In64 l.r ∧ In64 l.pg ∧ In64 l.o ∧ In64 l.n ∧ In64 l.f
section
open Go.Joins Go.ChangeShapes Go.WideShapes Go.ChangeAt Go.RowKit Go.Deep
variable {H : Type} {enc : TypeId × Value → H} {P : Program} {w : World} {base : Nat} {spare : Nat → Bool} {held : Bool}
theorem field_reads {e : TypeId} {fs : Array Field} {fuel : Nat} {cs : List Value} {x : DataW H × List MemPlace} (he : P.underlying e = some (.struct fs))
    (h : DataW.trod enc P w base spare held fuel e cs = some x) (j : Nat) (f : Field) (hj : fs[j]? = some f) (o c : Nat) (ho : f.offset = o) (hc : P.cellsOf f.type = c) : ∃ n y, DataW.trod enc P w base spare held n f.type ((cs.drop o).take c) = some y := by
  subst ho hc
  obtain ⟨xs, n, _, _, hl, hxl, hf⟩ := DataW.trod_struct he h
  have hjl : j < fs.size := (Array.getElem?_eq_some_iff.1 hj).1
  have hr := hf j f hj
  rw [List.getElem?_eq_getElem (by omega)] at hr
  exact ⟨n, _, hr⟩
end
section
open Go.Joins Go.ChangeShapes Go.WideShapes Go.ChangeAt Go.RowKit Go.Deep
variable {H : Type} {enc : TypeId × Value → H} {w : World} {base : Nat} {spare : Nat → Bool} {held : Bool}
theorem entry_cells8 {fuel : Nat} {c0 c1 c2 c3 c4 c5 c6 : Value} {x : DataW H × List MemPlace} (h : DataW.trod enc Try.prog w base spare held fuel 28 [c0, c1, c2, c3, c4, c5, c6] = some x) :
    ∃ (f : Int) (p w' h' k u d : Bool), In64 f ∧ c0 = .int .i64 f ∧ c1 = .bool p ∧ c2 = .bool w' ∧ c3 = .bool h' ∧ c4 = .bool k ∧ c5 = .bool u ∧ c6 = .bool d := by
  obtain ⟨n0, y0, h0⟩ := field_reads Try.underlying28 h 0 _ rfl 0 1 rfl (by kernel_rfl)
  obtain ⟨n1, y1, h1⟩ := field_reads Try.underlying28 h 1 _ rfl 1 1 rfl (by kernel_rfl)
  obtain ⟨n2, y2, h2⟩ := field_reads Try.underlying28 h 2 _ rfl 2 1 rfl (by kernel_rfl)
  obtain ⟨n3, y3, h3⟩ := field_reads Try.underlying28 h 3 _ rfl 3 1 rfl (by kernel_rfl)
  obtain ⟨n4, y4, h4⟩ := field_reads Try.underlying28 h 4 _ rfl 4 1 rfl (by kernel_rfl)
  obtain ⟨n5, y5, h5⟩ := field_reads Try.underlying28 h 5 _ rfl 5 1 rfl (by kernel_rfl)
  obtain ⟨n6, y6, h6⟩ := field_reads Try.underlying28 h 6 _ rfl 6 1 rfl (by kernel_rfl)
  obtain ⟨f, e0, _, wf⟩ := DataW.trod_int Try.underlying3 h0
  obtain ⟨b1, e1, _⟩ := DataW.trod_bool Try.underlying4 h1
  obtain ⟨b2, e2, _⟩ := DataW.trod_bool Try.underlying4 h2
  obtain ⟨b3, e3, _⟩ := DataW.trod_bool Try.underlying4 h3
  obtain ⟨b4, e4, _⟩ := DataW.trod_bool Try.underlying4 h4
  obtain ⟨b5, e5, _⟩ := DataW.trod_bool Try.underlying4 h5
  obtain ⟨b6, e6, _⟩ := DataW.trod_bool Try.underlying4 h6
  simp at e0 e1 e2 e3 e4 e5 e6
  exact ⟨f, b1, b2, b3, b4, b5, b6, i64_in8 wf, e0, e1, e2, e3, e4, e5, e6⟩
end
end Go.Proofs.Ytpcpcgbejinlmaa
/- The law's world: a leaf by the document. -/
namespace Go.Proofs.Ytpcpcgbejinlmaa
open Go.RowKit
def WRow (w : World) (g : Nat) (p : Nat → Value) (lf : Int) : Prop := Row w g 41 [p 0, p 1, p 2, p 3, p 4, p 5, p 6, .int .i64 lf]
def Fair (w : World) (C g x k : Nat) (p : Nat → Value) (v : Value) (L : List Mp) (w' : World) : Prop :=
  ∃ v' L' lf', WRow w' g p lf' ∧ RfT w' C x v' L' ∧ L'.length ≤ L.length + k ∧ Foot (fun b => b = g ∨ b = x) w w' ∧ ∀ b, v'.ownBlock = some b → v.ownBlock = some b ∨ w.heap.size ≤ b
section
variable {w : World} {C g x : Nat} {p : Nat → Value} {v : Value} {L : List Mp} {lf : Int}
theorem Fair.still {w' : World} {k : Nat} (h : WRow w g p lf) (hr : RfT w C x v L) (hb : Below w.heap.size w w') : Fair w C g x k p v L w' :=
  ⟨v, L, lf, h.below hb h.lt, hr.call hb, by omega, Foot.of_below hb, fun _ h => Or.inl h⟩
set_option maxRecDepth 100000 in
set_option maxHeartbeats 4000000 in
theorem add8_any (h : WRow w g p lf) (hr : RfT w C x v L) (hL : L.length + 1 ≤ 5000) (hC : C ≤ w.heap.size) (l : Ac) : Calls Try.prog 64 #[.pointer (some ⟨g, 0, none⟩), .pointer (some ⟨x, 0, none⟩), .agg (acCells l).toArray] w fun e w' => (∃ er, e = .returned (.int .i64 er)) ∧ Fair w C g x 1 p v L w' := by
  obtain ⟨q, hq⟩ : ∃ q, q = w.heap.size := ⟨_, rfl⟩
  have HQ := Lib.hid hq
  obtain ⟨w1, hw1⟩ : ∃ w1, w1 = w.alloc (.cells #[.int .i64 l.kd, .int .i64 l.r, .int .i64 l.pg, .int .i64 l.o, .int .i64 l.n, .int .i64 l.f, .bool l.p, .bool l.w, .bool l.h, .bool l.k, .bool l.u, .bool l.d] 52) := ⟨_, rfl⟩
  have HW1 := Lib.hid hw1
  have b1 : Below w.heap.size w w1 := hw1 ▸ below_new w _ _
  have r1 : Row w1 q 52 (acCells l) := by rw [hw1, hq]; exact Row.new w _ (acCells l)
  have R1 := Lib.hid r1
  have B1 := Lib.hid b1
  have c2 : w1.cell? ⟨q, 2, none⟩ = some (.int .i64 l.pg) := r1.cell 2
  have c3 : w1.cell? ⟨q, 3, none⟩ = some (.int .i64 l.o) := r1.cell 3
  have H := Lib.hid h
  have HR := Lib.hid hr
  have hwr := wrong8_any l.pg l.o
  unfold acCells
  clear hq hw1 b1 r1 h hr
  by_cases hz : wrO l.pg l.o = 0
  · have HZ := Lib.hid hz
    rw [hz] at hwr
    clear hz
    go_enter Try.func64, Try.ntmps64
    go_upto_region 1 with (fail)
    rw [← HW1.out, ← HQ.out]
    go_wp2_with fail
    refine (hwr _).mono ?_
    rintro e w2 ⟨rfl, rfl⟩
    have c5 : w1.cell? ⟨q, 5, none⟩ = some (.int .i64 l.f) := R1.out.cell 5
    have c6 : w1.cell? ⟨q, 6, none⟩ = some (.bool l.p) := R1.out.cell 6
    have c7 : w1.cell? ⟨q, 7, none⟩ = some (.bool l.w) := R1.out.cell 7
    have c8 : w1.cell? ⟨q, 8, none⟩ = some (.bool l.h) := R1.out.cell 8
    have c9 : w1.cell? ⟨q, 9, none⟩ = some (.bool l.k) := R1.out.cell 9
    have c10 : w1.cell? ⟨q, 10, none⟩ = some (.bool l.u) := R1.out.cell 10
    have c11 : w1.cell? ⟨q, 11, none⟩ = some (.bool l.d) := R1.out.cell 11
    clear hwr
    go_wp2_with fail
    refine (leaf8_any l.o l.f l.p l.w l.h l.k l.u l.d).mono ?_
    rintro e w2 ⟨b, rfl, hb2⟩
    obtain ⟨hb, hhb⟩ : ∃ hb, hb = decide (0 < l.o) := ⟨_, rfl⟩
    rw [← hhb]
    clear hhb c2 c3 c5 c6 c7 c8 c9 c10 c11
    obtain ⟨u, hu⟩ : ∃ u, u = w2.heap.size := ⟨_, rfl⟩
    obtain ⟨w3, hw3⟩ : ∃ w3, w3 = w2.alloc (.cells #[.int .i64 l.f, .bool l.p, .bool l.w, .bool hb, .bool l.k, .bool l.u, .bool l.d] 28) := ⟨_, rfl⟩
    have b3 : Below w1.heap.size w1 w3 := hw3 ▸ hb2.alloc hb2.size _
    have HU3 : Hid (Row w3 u 28 [.int .i64 l.f, .bool l.p, .bool l.w, .bool hb, .bool l.k, .bool l.u, .bool l.d]) := by show Row _ _ _ _; rw [hw3, hu]; exact Row.new w2 _ _
    have HQ3 := Lib.hid (R1.out.below b3 R1.out.lt)
    have HB3 := Lib.hid (B1.out.trans (b3.mono B1.out.size))
    have HU := Lib.hid hu
    have HW3 := Lib.hid hw3
    clear hu hw3 b3 hb2 R1 B1
    go_upto_region 5 with (fail)
    rw [← HW3.out, ← HU.out]
    cases b
    · go_wp2_with fail
      go_ret
      exact ⟨⟨_, rfl⟩, Fair.still H.out HR.out HB3.out⟩
    · have c2 : w3.cell? ⟨q, 2, none⟩ = some (.int .i64 l.pg) := HQ3.out.cell 2
      have c3 : w3.cell? ⟨q, 3, none⟩ = some (.int .i64 l.o) := HQ3.out.cell 3
      go_wp2_with fail
      refine (need8_any (HR.out.call HB3.out) l.pg l.o).mono ?_
      rintro e w4 ⟨n, er, rfl, -, b4⟩
      have HQ4 := Lib.hid (HQ3.out.below b4 HQ3.out.lt)
      have HU4 := Lib.hid (HU3.out.below b4 HU3.out.lt)
      have HB4 := Lib.hid (HB3.out.trans (b4.mono HB3.out.size))
      clear b4 c2 c3 HQ3 HU3 HW3
      by_cases he : er = 0
      · subst he
        have g7 : w4.cell? ⟨g, 7, none⟩ = some (.int .i64 lf) := (H.out.below HB4.out H.out.lt).cell 7
        have gf : w4.frozen? ⟨g, 7, none⟩ = false := (H.out.below HB4.out H.out.lt).frozen 7
        by_cases hn : lf < n
        · go_wp2_with fail
          go_ret
          exact ⟨⟨_, rfl⟩, Fair.still H.out HR.out HB4.out⟩
        · obtain ⟨l2, hl2⟩ : ∃ l2, wrap64 (lf - n) = l2 := ⟨_, rfl⟩
          have hl3 : IntKind.i64.wrap (lf - n) = l2 := (IntWalk.i64_left _).trans hl2
          obtain ⟨A, c, rfl⟩ := HR.out.ms.form
          have hxg : x ≠ g := HR.out.top.apart H.out (by decide)
          have hqg : q ≠ g := HQ4.out.apart (H.out.below HB4.out H.out.lt) (by decide)
          have hug : u ≠ g := HU4.out.apart (H.out.below HB4.out H.out.lt) (by decide)
          have hqx : q ≠ x := HQ4.out.apart (HR.out.top.below HB4.out HR.out.top.lt) (by decide)
          have hux : u ≠ x := HU4.out.apart (HR.out.top.below HB4.out HR.out.top.lt) (by decide)
          obtain ⟨w5, e5⟩ : ∃ w5, w5 = w4.setCell ⟨g, 7, none⟩ (.int .i64 l2) := ⟨_, rfl⟩
          have G5 : Hid (WRow w5 g p l2) := e5 ▸ (H.out.below HB4.out H.out.lt).set_ 7 (.int .i64 l2)
          have Q5 : Hid (Row w5 q 52 (acCells l)) := e5 ▸ HQ4.out.far (p := ⟨g, 7, none⟩) hqg _
          have U5 : Hid (Row w5 u 28 [.int .i64 l.f, .bool l.p, .bool l.w, .bool hb, .bool l.k, .bool l.u, .bool l.d]) := e5 ▸ HU4.out.far (p := ⟨g, 7, none⟩) hug _
          have R4 := HR.out.call HB4.out
          have R5 : Hid (RfT w5 C x (.slice A L.length c) L) := by
            refine ⟨e5 ▸ R4.top.far (p := ⟨g, 7, none⟩) hxg _, ?_, R4.ok, R4.len⟩
            rw [e5]
            refine R4.ms.keep8 fun k hk => Below.heap_setCell _ _ _ k ?_
            rintro rfl
            obtain ⟨vs, hv⟩ := R4.ms.typed hk
            have hg4 : Row _ _ _ _ := H.out.below HB4.out H.out.lt
            unfold Row at hg4
            rw [hg4] at hv
            injection hv with hv
            injection hv with _ hv
            exact absurd hv (by decide)
          have F5 : Hid (Foot (fun b => b = g ∨ b = x) w w5) := (Foot.of_below HB4.out).trans (Y := fun b => b = g) (e5 ▸ Foot.grown (b := g) (grown_set _ _ _ _) rfl) fun b hb _ => Or.inl hb
          clear R4
          go_upto_region 13 with (fail)
          rw [← e5]
          clear e5 g7 gf HQ4 HU4 HB4
          have hs5 : (fun v => v.cell? ⟨q, 2, none⟩ = some (.int .i64 l.pg) ∧ v.cell? ⟨q, 3, none⟩ = some (.int .i64 l.o) ∧ v.cell? ⟨u, 0, none⟩ = some (.int .i64 l.f) ∧ v.cell? ⟨u, 1, none⟩ = some (.bool l.p) ∧ v.cell? ⟨u, 2, none⟩ = some (.bool l.w) ∧ v.cell? ⟨u, 3, none⟩ = some (.bool hb) ∧ v.cell? ⟨u, 4, none⟩ = some (.bool l.k) ∧ v.cell? ⟨u, 5, none⟩ = some (.bool l.u) ∧ v.cell? ⟨u, 6, none⟩ = some (.bool l.d)) w5.drew := ⟨Q5.out.cell 2, Q5.out.cell 3, U5.out.cell 0, U5.out.cell 1, U5.out.cell 2, U5.out.cell 3, U5.out.cell 4, U5.out.cell 5, U5.out.cell 6⟩
          refine wp_region_held_drew (S := (fun v => v.cell? ⟨q, 2, none⟩ = some (.int .i64 l.pg) ∧ v.cell? ⟨q, 3, none⟩ = some (.int .i64 l.o) ∧ v.cell? ⟨u, 0, none⟩ = some (.int .i64 l.f) ∧ v.cell? ⟨u, 1, none⟩ = some (.bool l.p) ∧ v.cell? ⟨u, 2, none⟩ = some (.bool l.w) ∧ v.cell? ⟨u, 3, none⟩ = some (.bool hb) ∧ v.cell? ⟨u, 4, none⟩ = some (.bool l.k) ∧ v.cell? ⟨u, 5, none⟩ = some (.bool l.u) ∧ v.cell? ⟨u, 6, none⟩ = some (.bool l.d))) (by kernel_rfl) hs5 (fun hHeld => ?_)
          have Q6 : Hid (Row w5.drew q 52 (acCells l)) := Q5.out
          have U6 : Hid (Row w5.drew u 28 [.int .i64 l.f, .bool l.p, .bool l.w, .bool hb, .bool l.k, .bool l.u, .bool l.d]) := U5.out
          have G6 : Hid (WRow w5.drew g p l2) := G5.out
          have R6 : Hid (RfT w5.drew C x (.slice A L.length c) L) := R5.out.call (drewN_b (Below.refl _ _) 1)
          have F6 : Hid (Foot (fun b => b = g ∨ b = x) w w5.drew) := F5.out.trans (Y := fun _ => False) (Foot.of_below (drewN_b (Below.refl _ _) 1)) (fun _ h _ => h.elim)
          generalize w5.drew = w6 at hHeld hs5 Q6 U6 G6 R6 F6 ⊢
          clear Q5 U5 G5 R5 F5
          obtain ⟨N, hN⟩ : ∃ N, N = L.length := ⟨_, rfl⟩
          have hx6 : w6.cell? ⟨x, 0, none⟩ = some (.slice A N c) := by rw [hN]; exact R6.out.top.cell 0
          have HN := Lib.hid hN
          clear hN
          refine tkY 0 (at_lit rfl) (v := ?_) (Or.inl ⟨by rfl, ?_⟩) ?_
          rotate_left
          focus (intro _ h; (try dsimp only at h); go_simp; (try with_reducible rfl); done)
          (try simp only [Act.put, sAr, sZe, sSu])
          refine tkY 1 (at_lit rfl) (v := ?_) (Or.inl ⟨by rfl, ?_⟩) ?_
          rotate_left
          focus (intro _ h; (try dsimp only at h); go_simp; (try with_reducible rfl); done)
          (try simp only [Act.put, sAr, sZe, sSu])
          refine tkY 2 (at_lit rfl) (v := ?_) (Or.inl ⟨by rfl, ?_⟩) ?_
          rotate_left
          focus (intro _ h; (try dsimp only at h); go_simp; (try with_reducible rfl); done)
          (try simp only [Act.put, sAr, sZe, sSu])
          refine tkY 3 (at_lit rfl) (v := ?_) (Or.inl ⟨by rfl, ?_⟩) ?_
          rotate_left
          focus (intro _ h; (try dsimp only at h); go_simp; (try with_reducible rfl); done)
          (try simp only [Act.put, sAr, sZe, sSu])
          refine tkY 5 (at_lit rfl) (v := ?_) (Or.inl ⟨by rfl, ?_⟩) ?_
          rotate_left
          focus (intro _ h; (try dsimp only at h); go_simp; (try with_reducible rfl); done)
          (try simp only [Act.put, sAr, sZe, sSu])
          refine tkY 6 (at_lit rfl) (v := ?_) (Or.inl ⟨by rfl, ?_⟩) ?_
          rotate_left
          focus (intro _ h; (try dsimp only at h); go_simp; (try with_reducible rfl); done)
          (try simp only [Act.put, sAr, sZe, sSu])
          refine tkY 7 (at_lit rfl) (v := ?_) (Or.inl ⟨by rfl, ?_⟩) ?_
          rotate_left
          focus (intro _ h; (try dsimp only at h); go_simp; (try with_reducible rfl); done)
          (try simp only [Act.put, sAr, sZe, sSu])
          refine tkY 8 (at_lit rfl) (v := ?_) (Or.inl ⟨by rfl, ?_⟩) ?_
          rotate_left
          focus (intro _ h; (try dsimp only at h); go_simp; (try with_reducible rfl); done)
          (try simp only [Act.put, sAr, sZe, sSu])
          refine tkY 9 (at_lit rfl) (v := ?_) (Or.inl ⟨by rfl, ?_⟩) ?_
          rotate_left
          focus (intro _ h; (try dsimp only at h); go_simp; (try with_reducible rfl); done)
          (try simp only [Act.put, sAr, sZe, sSu])
          refine tkY 10 (at_lit rfl) (v := ?_) (Or.inl ⟨by rfl, ?_⟩) ?_
          rotate_left
          focus (intro _ h; (try dsimp only at h); go_simp; (try with_reducible rfl); done)
          (try simp only [Act.put, sAr, sZe, sSu])
          refine wpAnyH_ready (rs := [4]) (by kernel_rfl) (by simp) ?_
          refine AllReadyH.cons (o := _) (at_lit rfl) (fun K hK => ?_) AllReadyH.nil
          go_simp
          refine hK.out _ _ ?_ (fun hHeld => ?_)
          focus exact hs5
          clear hK K hx6
          (try simp only [Act.put, sAr, sZe, sSu])
          rw [HN.out]
          refine wpAnyH_ready (rs := [11]) (by kernel_rfl) (by simp) ?_
          refine AllReadyH.cons (o := _) (at_lit rfl) (fun K hK => ?_) AllReadyH.nil
          go_simp
          go_at_call 83
          refine (with_any R6.out.ms R6.out.ok R6.out.len ⟨l.pg, l.o, l.f, l.p, l.w, hb, l.k, l.u, l.d⟩).mono ?_
          rintro e w7 ⟨v7, M, rfl, m7, hM, b7⟩
          obtain ⟨A7, c7, rfl⟩ := m7.form
          have Q7 := Lib.hid (Q6.out.below b7 Q6.out.lt)
          have U7 := Lib.hid (U6.out.below b7 U6.out.lt)
          have G7 : Hid (WRow w7 g p l2) := G6.out.below b7 G6.out.lt
          have T7 := R6.out.top.below b7 R6.out.top.lt
          have F7 := Lib.hid (F6.out.trans (Y := fun _ => False) (Foot.of_below b7) (fun _ h _ => h.elim))
          have M7 := Lib.hid m7
          have HM := Lib.hid hM
          have hs7 : (fun v => v.cell? ⟨q, 2, none⟩ = some (.int .i64 l.pg) ∧ v.cell? ⟨q, 3, none⟩ = some (.int .i64 l.o) ∧ v.cell? ⟨u, 0, none⟩ = some (.int .i64 l.f) ∧ v.cell? ⟨u, 1, none⟩ = some (.bool l.p) ∧ v.cell? ⟨u, 2, none⟩ = some (.bool l.w) ∧ v.cell? ⟨u, 3, none⟩ = some (.bool hb) ∧ v.cell? ⟨u, 4, none⟩ = some (.bool l.k) ∧ v.cell? ⟨u, 5, none⟩ = some (.bool l.u) ∧ v.cell? ⟨u, 6, none⟩ = some (.bool l.d)) w7 := ⟨Q7.out.cell 2, Q7.out.cell 3, U7.out.cell 0, U7.out.cell 1, U7.out.cell 2, U7.out.cell 3, U7.out.cell 4, U7.out.cell 5, U7.out.cell 6⟩
          have hsz := Lib.hid b7.size
          clear b7 m7 hM
          go_wp2_with fail
          refine hK.out _ _ ?_ (fun hHeld => ?_)
          focus exact hs7
          clear hK K
          (try simp only [Act.put, sAr, sZe, sSu])
          refine tkY 12 (at_lit rfl) (v := ?_) (Or.inl ⟨by rfl, ?_⟩) ?_
          rotate_left
          focus (intro _ h; (try dsimp only at h); go_simp; (try with_reducible rfl); done)
          (try simp only [Act.put, sAr, sZe, sSu])
          refine tkY 13 (at_lit rfl) (v := ?_) (Or.inl ⟨by rfl, ?_⟩) ?_
          rotate_left
          focus (intro _ h; (try dsimp only at h); go_simp; (try with_reducible rfl); done)
          (try simp only [Act.put, sAr, sZe, sSu])
          have hx7 : w7.cell? ⟨x, 0, none⟩ = some (.slice A L.length c) := T7.cell 0
          have hf7 : w7.frozen? ⟨x, 0, none⟩ = false := T7.frozen 0
          refine wpAnyH_ready (rs := [14]) (by kernel_rfl) (by simp) ?_
          refine AllReadyH.cons (o := _) (at_lit rfl) (fun K hK => ?_) AllReadyH.nil
          go_simp
          go_wp2_with fail
          refine hK.out _ _ ?_ (fun hHeld => ?_)
          focus exact ⟨(Q7.out.far (p := ⟨x, 0, none⟩) hqx _).cell 2, (Q7.out.far (p := ⟨x, 0, none⟩) hqx _).cell 3, (U7.out.far (p := ⟨x, 0, none⟩) hux _).cell 0, (U7.out.far (p := ⟨x, 0, none⟩) hux _).cell 1, (U7.out.far (p := ⟨x, 0, none⟩) hux _).cell 2, (U7.out.far (p := ⟨x, 0, none⟩) hux _).cell 3, (U7.out.far (p := ⟨x, 0, none⟩) hux _).cell 4, (U7.out.far (p := ⟨x, 0, none⟩) hux _).cell 5, (U7.out.far (p := ⟨x, 0, none⟩) hux _).cell 6⟩
          clear hK K
          (try simp only [Act.put, sAr, sZe, sSu])
          refine wpAnyH_done (by kernel_rfl) ?_ _
          go_wp2_with fail
          go_ret
          have hw := wrO_ok HZ.out
          have hk7 : (w7.setCell ⟨x, 0, none⟩ (.slice A7 M.length c7)).heap.size = w7.heap.size := by simp [World.setCell]
          have hCw : C ≤ w6.heap.size := Nat.le_trans hC F6.out.size
          refine ⟨⟨_, rfl⟩, .slice A7 M.length c7, M, l2, G7.out.far (p := ⟨x, 0, none⟩) hxg.symm _, ⟨T7.set_ 0 _, ?_, with_ok R6.out.ok ⟨hw.2.1, hw.2.2.1, hw.1, hw.2.2.2⟩ HM.out, by have := HM.out.1; omega⟩, by have := HM.out.1; omega, F7.out.trans (Y := fun b => b = x) (Foot.grown (b := x) (grown_set _ _ _ _) rfl) fun b hb _ => Or.inr hb, fun b hb => Or.inr ?_⟩
          · refine (M7.out.base hCw).keep8 fun k hk => Below.heap_setCell _ _ _ k ?_
            rintro rfl
            have := (M7.out.lt _ hk).1
            have := R6.out.top.lt
            omega
          · have := (M7.out.lt _ hb).1
            have := F6.out.size
            omega
      · have hen : (er != 0) = true := by simpa using he
        go_wp2_with fail
        go_ret
        exact ⟨⟨_, rfl⟩, Fair.still H.out HR.out HB4.out⟩
  · have hzn : (wrO l.pg l.o != 0) = true := by simpa using hz
    go_enter Try.func64, Try.ntmps64
    go_upto_region 1 with (fail)
    rw [← HW1.out, ← HQ.out]
    go_wp2_with fail
    refine (hwr _).mono ?_
    rintro e w2 ⟨rfl, rfl⟩
    go_wp2_with fail
    go_ret
    exact ⟨⟨_, rfl⟩, Fair.still H.out HR.out B1.out⟩
end
end Go.Proofs.Ytpcpcgbejinlmaa
