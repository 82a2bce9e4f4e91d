/- The law's world: a split, a merge by the document. -/
import Derived.Test.YtpcpcgbejinlmaaMk35
namespace Go.Proofs.Ytpcpcgbejinlmaa
open Go.RowKit
def Trn (w W : World) (C g x u : Nat) (p : Nat → Value) (v : Value) (L : List Mp) (lf : Int) (ms : List Value) : Prop :=
  (WRow W g p lf ∧ RfT W C x v L ∧ Row W u 94 ms) ∧ Foot (fun b => b = g ∨ b = x) w W
section
variable {w W W' : World} {C g x u : Nat} {p : Nat → Value} {v : Value} {L : List Mp} {lf : Int} {ms : List Value}
theorem Trn.call (h : Trn w W C g x u p v L lf ms) (hb : Below W.heap.size W W') : Trn w W' C g x u p v L lf ms :=
  ⟨⟨h.1.1.below hb h.1.1.lt, h.1.2.1.call hb, h.1.2.2.below hb h.1.2.2.lt⟩, h.2.trans (Y := fun _ => False) (Foot.of_below hb) fun _ h _ => h.elim⟩
theorem Trn.count (h : Trn w W C g x u p v L lf ms) (n : Int) : Trn w (W.setCell ⟨g, 7, none⟩ (.int .i64 n)) C g x u p v L n ms := by
  obtain ⟨⟨a, b, d⟩, f⟩ := h
  have hxg : x ≠ g := b.top.apart a (by decide)
  refine ⟨⟨a.set_ 7 _, ⟨b.top.far (p := ⟨g, 7, none⟩) hxg _, b.ms.keep8 fun k hk => Below.heap_setCell _ _ _ k ?_, b.ok, b.len⟩, d.far (p := ⟨g, 7, none⟩) (d.apart a (by decide)) _⟩, f.trans (Y := fun b => b = g) (Foot.grown (b := g) (grown_set _ _ _ _) rfl) fun _ hb _ => Or.inl hb⟩
  rintro rfl
  obtain ⟨vs, hv⟩ := b.ms.typed hk
  have ha : Row _ _ _ _ := a
  unfold Row at ha
  rw [ha] at hv
  injection hv with hv
  injection hv with _ hv
  exact absurd hv (by decide)
theorem Trn.put {M : List Mp} {A : Option Addr} {c D : Nat} (h : Trn w W C g x u p v L lf ms) (hm : Ms W D (.slice A M.length c) M) (hD : C ≤ D ∧ x < D) (hM : ∀ m ∈ M, MK m) (hl : M.length ≤ 5000) : Trn w (W.setCell ⟨x, 0, none⟩ (.slice A M.length c)) C g x u p (.slice A M.length c) M lf ms := by
  obtain ⟨⟨a, b, d⟩, f⟩ := h
  refine ⟨⟨a.far (p := ⟨x, 0, none⟩) (b.top.apart a (by decide)).symm _, ⟨b.top.set_ 0 _, (hm.base hD.1).keep8 fun k hk => Below.heap_setCell _ _ _ k ?_, hM, hl⟩, d.far (p := ⟨x, 0, none⟩) (d.apart b.top (by decide)) _⟩, f.trans (Y := fun b => b = x) (Foot.grown (b := x) (grown_set _ _ _ _) rfl) fun _ hb _ => Or.inr hb⟩
  rintro rfl
  have := (hm.lt _ hk).1
  omega
theorem Trn.fair {k : Nat} {v0 : Value} {L0 : List Mp} (h : Trn w W C g x u p v L lf ms) (hL : L.length ≤ L0.length + k) (ho : ∀ b, v.ownBlock = some b → v0.ownBlock = some b ∨ w.heap.size ≤ b) : Fair w C g x k p v0 L0 W :=
  ⟨v, L, lf, h.1.1, h.1.2.1, hL, h.2, ho⟩
set_option maxRecDepth 100000 in
set_option maxHeartbeats 16000000 in
theorem turn_merge (h : WRow w g p lf) (hr : RfT w C x v L) (hL : L.length + 8 ≤ 5000) (hC : C ≤ w.heap.size) (pg : Int) : Calls Try.prog 63 #[.pointer (some ⟨g, 0, none⟩), .pointer (some ⟨x, 0, none⟩), .int .i64 pg, .bool false] w fun e w' => (∃ er, e = .returned (.int .i64 er)) ∧ Fair w C g x 8 p v L w' := by
  have hwr := wrong8_any pg 0
  by_cases hz : wrO pg 0 = 0
  · have hw := wrO_ok hz
    rw [hz] at hwr
    clear hz
    have hmg := merged8_any hr pg hw.2.1 hw.2.2.1
    have HB := Lib.hid (And.intro h hr)
    clear h hr hw
    go_enter Try.func63, Try.ntmps63
    go_wp2_with fail
    refine (hwr _).mono ?_
    rintro e w2 ⟨rfl, rfl⟩
    go_wp2_with fail
    refine hmg.mono ?_
    rintro e w3 ⟨m, er, rfl, hmk, b3⟩
    obtain ⟨u, hu⟩ : ∃ u, u = w3.heap.size := ⟨_, rfl⟩
    obtain ⟨w4, hw4⟩ : ∃ w4, w4 = w3.alloc (.cells #[.int .i64 m.g, .int .i64 m.o, .int .i64 m.f, .bool m.p, .bool m.w, .bool m.h, .bool m.k, .bool m.u, .bool m.d] 94) := ⟨_, rfl⟩
    have K4 : Hid (Trn w w4 C g x u p v L lf (mcell m)) := by
      have b4 : Below w.heap.size w w4 := hw4 ▸ b3.alloc b3.size _
      exact ⟨⟨HB.out.1.below b4 HB.out.1.lt, HB.out.2.call b4, by rw [hw4, hu]; exact Row.new w3 _ (mcell m)⟩, Foot.of_below b4⟩
    have HU := Lib.hid hu
    have HW4 := Lib.hid hw4
    have HMK := Lib.hid hmk
    clear hu hw4 hwr hmg b3 hmk
    unfold mcell
    go_upto_region 6 with (fail)
    rw [← HW4.out, ← HU.out]
    by_cases he : er = 0
    · subst he
      have hm := HMK.out rfl
      obtain ⟨A, c, rfl⟩ := K4.out.1.2.1.ms.form
      go_upto_region 7 with (fail)
      have hs4 : (fun v => v.cell? ⟨u, 0, none⟩ = some (.int .i64 m.g) ∧ v.cell? ⟨u, 1, none⟩ = some (.int .i64 m.o) ∧ v.cell? ⟨u, 2, none⟩ = some (.int .i64 m.f) ∧ v.cell? ⟨u, 3, none⟩ = some (.bool m.p) ∧ v.cell? ⟨u, 4, none⟩ = some (.bool m.w) ∧ v.cell? ⟨u, 5, none⟩ = some (.bool m.h) ∧ v.cell? ⟨u, 6, none⟩ = some (.bool m.k) ∧ v.cell? ⟨u, 7, none⟩ = some (.bool m.u) ∧ v.cell? ⟨u, 8, none⟩ = some (.bool m.d)) w4.drew := ⟨K4.out.1.2.2.cell 0, K4.out.1.2.2.cell 1, K4.out.1.2.2.cell 2, K4.out.1.2.2.cell 3, K4.out.1.2.2.cell 4, K4.out.1.2.2.cell 5, K4.out.1.2.2.cell 6, K4.out.1.2.2.cell 7, K4.out.1.2.2.cell 8⟩
      refine wp_region_held_drew (S := (fun v => v.cell? ⟨u, 0, none⟩ = some (.int .i64 m.g) ∧ v.cell? ⟨u, 1, none⟩ = some (.int .i64 m.o) ∧ v.cell? ⟨u, 2, none⟩ = some (.int .i64 m.f) ∧ v.cell? ⟨u, 3, none⟩ = some (.bool m.p) ∧ v.cell? ⟨u, 4, none⟩ = some (.bool m.w) ∧ v.cell? ⟨u, 5, none⟩ = some (.bool m.h) ∧ v.cell? ⟨u, 6, none⟩ = some (.bool m.k) ∧ v.cell? ⟨u, 7, none⟩ = some (.bool m.u) ∧ v.cell? ⟨u, 8, none⟩ = some (.bool m.d))) (by kernel_rfl) hs4 (fun hHeld => ?_)
      have K5 : Hid (Trn w w4.drew C g x u p (.slice A L.length c) L lf (mcell m)) := K4.out.call (drewN_b (Below.refl _ _) 1)
      have HS5 : Hid ((C ≤ w4.drew.heap.size ∧ x < w4.drew.heap.size) ∧ w.heap.size ≤ w4.drew.heap.size) := ⟨⟨Nat.le_trans hC K5.out.2.size, K5.out.1.2.1.top.lt⟩, K5.out.2.size⟩
      generalize w4.drew = w5 at hHeld hs4 K5 HS5 ⊢
      clear K4 HW4
      have hx5 : w5.cell? ⟨x, 0, none⟩ = some (.slice A L.length c) := K5.out.1.2.1.top.cell 0
      refine tkY 0 (at_lit rfl) (v := ?_) (Or.inl ⟨by rfl, ?_⟩) ?_
      rotate_left
      focus (intro _ h; (try dsimp only at h); go_simp; (try with_reducible rfl); done)
      (try simp only [Act.put, sAr, sZe, sSu])
      refine tkY 1 (at_lit rfl) (v := ?_) (Or.inl ⟨by rfl, ?_⟩) ?_
      rotate_left
      focus (intro _ h; (try dsimp only at h); go_simp; (try with_reducible rfl); done)
      (try simp only [Act.put, sAr, sZe, sSu])
      refine tkY 2 (at_lit rfl) (v := ?_) (Or.inl ⟨by rfl, ?_⟩) ?_
      rotate_left
      focus (intro _ h; (try dsimp only at h); go_simp; (try with_reducible rfl); done)
      (try simp only [Act.put, sAr, sZe, sSu])
      refine tkY 3 (at_lit rfl) (v := ?_) (Or.inl ⟨by rfl, ?_⟩) ?_
      rotate_left
      focus (intro _ h; (try dsimp only at h); go_simp; (try with_reducible rfl); done)
      (try simp only [Act.put, sAr, sZe, sSu])
      refine tkY 5 (at_lit rfl) (v := ?_) (Or.inl ⟨by rfl, ?_⟩) ?_
      rotate_left
      focus (intro _ h; (try dsimp only at h); go_simp; (try with_reducible rfl); done)
      (try simp only [Act.put, sAr, sZe, sSu])
      refine tkY 6 (at_lit rfl) (v := ?_) (Or.inl ⟨by rfl, ?_⟩) ?_
      rotate_left
      focus (intro _ h; (try dsimp only at h); go_simp; (try with_reducible rfl); done)
      (try simp only [Act.put, sAr, sZe, sSu])
      refine tkY 8 (at_lit rfl) (v := ?_) (Or.inl ⟨by rfl, ?_⟩) ?_
      rotate_left
      focus (intro _ h; (try dsimp only at h); go_simp; (try with_reducible rfl); done)
      (try simp only [Act.put, sAr, sZe, sSu])
      refine wpAnyH_ready (rs := [4]) (by kernel_rfl) (by simp) ?_
      refine AllReadyH.cons (o := _) (at_lit rfl) (fun K hK => ?_) AllReadyH.nil
      go_simp
      refine hK.out _ _ ?_ (fun hHeld => ?_)
      focus exact hs4
      clear hK K hx5
      (try simp only [Act.put, sAr, sZe, sSu])
      refine wpAnyH_ready (rs := [7]) (by kernel_rfl) (by simp) ?_
      refine AllReadyH.cons (o := _) (at_lit rfl) (fun K hK => ?_) AllReadyH.nil
      go_simp
      go_at_call 78
      refine (without_any K5.out.1.2.1.ms K5.out.1.2.1.ok K5.out.1.2.1.len m.g 8 hm.g0 (by have := hm.g1; omega)).mono ?_
      rintro e w6 ⟨v6, M, rfl, m6, hM, b6⟩
      obtain ⟨A6, c6, rfl⟩ := m6.form
      have K6 := Lib.hid (K5.out.call b6)
      have M6 := Lib.hid m6
      have HM := Lib.hid hM
      have HB6 := Lib.hid b6.size
      have hs6 : (fun v => v.cell? ⟨u, 0, none⟩ = some (.int .i64 m.g) ∧ v.cell? ⟨u, 1, none⟩ = some (.int .i64 m.o) ∧ v.cell? ⟨u, 2, none⟩ = some (.int .i64 m.f) ∧ v.cell? ⟨u, 3, none⟩ = some (.bool m.p) ∧ v.cell? ⟨u, 4, none⟩ = some (.bool m.w) ∧ v.cell? ⟨u, 5, none⟩ = some (.bool m.h) ∧ v.cell? ⟨u, 6, none⟩ = some (.bool m.k) ∧ v.cell? ⟨u, 7, none⟩ = some (.bool m.u) ∧ v.cell? ⟨u, 8, none⟩ = some (.bool m.d)) w6 := ⟨K6.out.1.2.2.cell 0, K6.out.1.2.2.cell 1, K6.out.1.2.2.cell 2, K6.out.1.2.2.cell 3, K6.out.1.2.2.cell 4, K6.out.1.2.2.cell 5, K6.out.1.2.2.cell 6, K6.out.1.2.2.cell 7, K6.out.1.2.2.cell 8⟩
      clear b6 m6 hM
      go_wp2_with fail
      refine hK.out _ _ ?_ (fun hHeld => ?_)
      focus exact hs6
      clear hK K
      (try simp only [Act.put, sAr, sZe, sSu])
      refine wpAnyH_ready (rs := [9]) (by kernel_rfl) (by simp) ?_
      refine AllReadyH.cons (o := _) (at_lit rfl) (fun K hK => ?_) AllReadyH.nil
      go_simp
      go_at_call 83
      refine (with_any M6.out (fun y hy => K5.out.1.2.1.ok y (HM.out.2 y hy)) (Nat.le_trans HM.out.1 K5.out.1.2.1.len) m).mono ?_
      rintro e w7 ⟨v7, M2, rfl, m7, hM2, b7⟩
      obtain ⟨A7, c7, rfl⟩ := m7.form
      have K7 := Lib.hid (K6.out.call b7)
      have M7 := Lib.hid m7
      have HM2 := Lib.hid hM2
      have hs7 : (fun v => v.cell? ⟨u, 0, none⟩ = some (.int .i64 m.g) ∧ v.cell? ⟨u, 1, none⟩ = some (.int .i64 m.o) ∧ v.cell? ⟨u, 2, none⟩ = some (.int .i64 m.f) ∧ v.cell? ⟨u, 3, none⟩ = some (.bool m.p) ∧ v.cell? ⟨u, 4, none⟩ = some (.bool m.w) ∧ v.cell? ⟨u, 5, none⟩ = some (.bool m.h) ∧ v.cell? ⟨u, 6, none⟩ = some (.bool m.k) ∧ v.cell? ⟨u, 7, none⟩ = some (.bool m.u) ∧ v.cell? ⟨u, 8, none⟩ = some (.bool m.d)) w7 := ⟨K7.out.1.2.2.cell 0, K7.out.1.2.2.cell 1, K7.out.1.2.2.cell 2, K7.out.1.2.2.cell 3, K7.out.1.2.2.cell 4, K7.out.1.2.2.cell 5, K7.out.1.2.2.cell 6, K7.out.1.2.2.cell 7, K7.out.1.2.2.cell 8⟩
      clear b7 m7 hM2
      go_wp2_with fail
      refine hK.out _ _ ?_ (fun hHeld => ?_)
      focus exact hs7
      clear hK K
      (try simp only [Act.put, sAr, sZe, sSu])
      refine tkY 10 (at_lit rfl) (v := ?_) (Or.inl ⟨by rfl, ?_⟩) ?_
      rotate_left
      focus (intro _ h; (try dsimp only at h); go_simp; (try with_reducible rfl); done)
      (try simp only [Act.put, sAr, sZe, sSu])
      refine tkY 11 (at_lit rfl) (v := ?_) (Or.inl ⟨by rfl, ?_⟩) ?_
      rotate_left
      focus (intro _ h; (try dsimp only at h); go_simp; (try with_reducible rfl); done)
      (try simp only [Act.put, sAr, sZe, sSu])
      have hx7 : w7.cell? ⟨x, 0, none⟩ = some (.slice A L.length c) := K7.out.1.2.1.top.cell 0
      have hf7 : w7.frozen? ⟨x, 0, none⟩ = false := K7.out.1.2.1.top.frozen 0
      have hl7 : M2.length ≤ L.length + 1 := by have := HM.out.1; have := HM2.out.1; omega
      have K8 := Lib.hid (K7.out.put M7.out ⟨Nat.le_trans HS5.out.1.1 HB6.out, Nat.lt_of_lt_of_le HS5.out.1.2 HB6.out⟩ (with_ok (fun y hy => K5.out.1.2.1.ok y (HM.out.2 y hy)) hm HM2.out) (by omega))
      refine wpAnyH_ready (rs := [12]) (by kernel_rfl) (by simp) ?_
      refine AllReadyH.cons (o := _) (at_lit rfl) (fun K hK => ?_) AllReadyH.nil
      go_simp
      go_wp2_with fail
      refine hK.out _ _ ?_ (fun hHeld => ?_)
      focus exact ⟨K8.out.1.2.2.cell 0, K8.out.1.2.2.cell 1, K8.out.1.2.2.cell 2, K8.out.1.2.2.cell 3, K8.out.1.2.2.cell 4, K8.out.1.2.2.cell 5, K8.out.1.2.2.cell 6, K8.out.1.2.2.cell 7, K8.out.1.2.2.cell 8⟩
      clear hK K
      (try simp only [Act.put, sAr, sZe, sSu])
      refine wpAnyH_done (by kernel_rfl) ?_ _
      go_upto_region 8 with (fail)
      have HO7 : Hid (∀ b, (Value.slice A7 M2.length c7).ownBlock = some b → w.heap.size ≤ b) := fun b hb => Nat.le_trans (Nat.le_trans HS5.out.2 HB6.out) (M7.out.lt b hb).1
      generalize w7.setCell ⟨x, 0, none⟩ (.slice A7 M2.length c7) = w8 at K8 ⊢
      have g8 : w8.cell? ⟨g, 7, none⟩ = some (.int .i64 lf) := K8.out.1.1.cell 7
      have gf : w8.frozen? ⟨g, 7, none⟩ = false := K8.out.1.1.frozen 7
      go_wp2_with fail
      go_ret
      exact ⟨⟨_, rfl⟩, (K8.out.count _).fair (by omega) fun b hb => Or.inr (HO7.out b hb)⟩
    · have hen : (er == 0) = false := by simpa using he
      have hen2 : ¬ er = 0 := he
      go_wp2_with fail
      go_ret
      exact ⟨⟨_, rfl⟩, K4.out.fair (by omega) fun b hb => Or.inl hb⟩
  · have hzn : (wrO pg 0 != 0) = true := by simpa using hz
    go_enter Try.func63, Try.ntmps63
    go_wp2_with fail
    refine (hwr _).mono ?_
    rintro e w2 ⟨rfl, rfl⟩
    go_wp2_with fail
    go_ret
    exact ⟨⟨_, rfl⟩, Fair.still h hr (Below.refl _ _)⟩
set_option maxRecDepth 100000 in
set_option maxHeartbeats 16000000 in
theorem turn_split (h : WRow w g p lf) (hr : RfT w C x v L) (hL : L.length + 8 ≤ 5000) (hC : C ≤ w.heap.size) (pg : Int) : Calls Try.prog 63 #[.pointer (some ⟨g, 0, none⟩), .pointer (some ⟨x, 0, none⟩), .int .i64 pg, .bool true] w fun e w' => (∃ er, e = .returned (.int .i64 er)) ∧ Fair w C g x 8 p v L w' := by
  have hwr := wrong8_any pg 0
  by_cases hz : wrO pg 0 = 0
  · have hw := wrO_ok hz
    rw [hz] at hwr
    clear hz
    have hho := holds_is hr pg hw.2.1 (by have := hw.2.2.1; omega)
    have HB := Lib.hid (And.intro h hr)
    clear h hr hw
    go_enter Try.func63, Try.ntmps63
    go_wp2_with fail
    refine (hwr _).mono ?_
    rintro e w2 ⟨rfl, rfl⟩
    go_wp2_with fail
    refine hho.mono ?_
    rintro e w2 ⟨rfl, nd, rfl⟩
    have HB2 : Hid (WRow (w.drewN nd) g p lf ∧ RfT (w.drewN nd) C x v L ∧ Below w.heap.size w (w.drewN nd)) := ⟨HB.out.1.below (drewN_b (Below.refl _ _) nd) HB.out.1.lt, HB.out.2.call (drewN_b (Below.refl _ _) nd), drewN_b (Below.refl _ _) nd⟩
    generalize w.drewN nd = w2 at HB2 ⊢
    clear hwr hho HB
    rcases ho_found L pg with hf | ⟨k, hf, hk, -⟩
    · rw [hf]
      clear hf
      go_wp2_with fail
      go_ret
      exact ⟨⟨_, rfl⟩, v, L, lf, HB2.out.1, HB2.out.2.1, by omega, Foot.of_below HB2.out.2.2, fun _ h => Or.inl h⟩
    · rw [hf]
      clear hf
      obtain ⟨m, hm⟩ : ∃ m, m = L[k] := ⟨_, rfl⟩
      have hmk : MK m := hm ▸ HB2.out.2.1.ok _ (List.getElem_mem hk)
      obtain ⟨A, c, rfl⟩ := HB2.out.2.1.ms.form
      obtain ⟨ad, rfl, -, -, hat⟩ := HB2.out.2.1.ms.at_ k hk
      rw [← hm] at hat
      obtain ⟨N, hN⟩ : ∃ N, N = L.length := ⟨_, rfl⟩
      have hx2 : w2.cell? ⟨x, 0, none⟩ = some (.slice (some ad) N c) := by rw [hN]; exact HB2.out.2.1.top.cell 0
      have hkN : k < N := by rw [hN]; exact hk
      have hkNi : (k : Int) < N := by omega
      have hk0 : ¬ (k : Int) < 0 := by omega
      obtain ⟨a0, a1, a2, a3, a4, a5, a6, a7, a8⟩ := hat
      have HN := Lib.hid hN
      have HMK := Lib.hid hmk
      clear hm hN hmk
      have g7 : w2.cell? ⟨g, 7, none⟩ = some (.int .i64 lf) := HB2.out.1.cell 7
      by_cases ho : m.o = 0
      · rw [ho] at a1
        go_wp2_with fail
        go_ret
        exact ⟨⟨_, rfl⟩, _, L, lf, HB2.out.1, HB2.out.2.1, by omega, Foot.of_below HB2.out.2.2, fun _ h => Or.inl h⟩
      · have hon : (m.o == 0) = false := by simpa using ho
        by_cases hlf : lf = 0
        · rw [hlf] at g7
          go_wp2_with fail
          go_ret
          exact ⟨⟨_, rfl⟩, _, L, lf, HB2.out.1, HB2.out.2.1, by omega, Foot.of_below HB2.out.2.2, fun _ h => Or.inl h⟩
        · have hlfn : (lf == 0) = false := by simpa using hlf
          have hmo : m.o = 3 ∨ m.o = 6 := by have := HMK.out.o; omega
          obtain ⟨u, hu⟩ : ∃ u, u = w2.heap.size := ⟨_, rfl⟩
          obtain ⟨w4, hw4⟩ : ∃ w4, w4 = w2.alloc (.cells #[.int .i64 m.g, .int .i64 m.o, .int .i64 m.f, .bool m.p, .bool m.w, .bool m.h, .bool m.k, .bool m.u, .bool m.d] 94) := ⟨_, rfl⟩
          have K4 : Hid (Trn w w4 C g x u p (.slice (some ad) L.length c) L lf (mcell m)) := by
            have b4 : Below w2.heap.size w2 w4 := hw4 ▸ below_new w2 _ _
            exact ⟨⟨HB2.out.1.below b4 HB2.out.1.lt, HB2.out.2.1.call b4, by rw [hw4, hu]; exact Row.new w2 _ (mcell m)⟩, Foot.of_below (HB2.out.2.2.trans (b4.mono HB2.out.2.2.size))⟩
          have HU := Lib.hid hu
          have HW4 := Lib.hid hw4
          clear hu hw4
          go_upto_region 18 with (fail)
          rw [← HW4.out, ← HU.out]
          clear a0 a1 a2 a3 a4 a5 a6 a7 a8 hx2 g7
          obtain ⟨A, hA⟩ : ∃ A, A = some ad := ⟨_, rfl⟩
          rw [← hA] at K4
          clear hA
          have hs4 : (fun v => v.cell? ⟨x, 0, none⟩ = some (.slice A L.length c) ∧ v.cell? ⟨u, 0, none⟩ = some (.int .i64 m.g) ∧ v.cell? ⟨u, 1, none⟩ = some (.int .i64 m.o)) w4.drew := ⟨K4.out.1.2.1.top.cell 0, K4.out.1.2.2.cell 0, K4.out.1.2.2.cell 1⟩
          refine wp_region_noPanic ?_
          refine wp_region_held_drew (S := (fun v => v.cell? ⟨x, 0, none⟩ = some (.slice A L.length c) ∧ v.cell? ⟨u, 0, none⟩ = some (.int .i64 m.g) ∧ v.cell? ⟨u, 1, none⟩ = some (.int .i64 m.o))) (by kernel_rfl) hs4 (fun hHeld => ?_)
          have K5 : Hid (Trn w w4.drew C g x u p (.slice A L.length c) L lf (mcell m)) := K4.out.call (drewN_b (Below.refl _ _) 1)
          have HS5 : Hid ((C ≤ w4.drew.heap.size ∧ x < w4.drew.heap.size) ∧ w.heap.size ≤ w4.drew.heap.size) := ⟨⟨Nat.le_trans hC K5.out.2.size, K5.out.1.2.1.top.lt⟩, K5.out.2.size⟩
          generalize w4.drew = w5 at hHeld hs4 K5 HS5 ⊢
          clear K4 HW4 HB2
          refine tkY 0 (at_lit rfl) (v := ?_) (Or.inl ⟨by rfl, ?_⟩) ?_
          rotate_left
          focus (intro _ h; (try dsimp only at h); go_simp; (try with_reducible rfl); done)
          (try simp only [Act.put, sAr, sZe, sSu])
          refine tkY 1 (at_lit rfl) (v := ?_) (Or.inl ⟨by rfl, ?_⟩) ?_
          rotate_left
          focus (intro _ h; (try dsimp only at h); go_simp; (try with_reducible rfl); done)
          (try simp only [Act.put, sAr, sZe, sSu])
          refine tkY 2 (at_lit rfl) (v := ?_) (Or.inl ⟨by rfl, ?_⟩) ?_
          rotate_left
          focus (intro _ h; (try dsimp only at h); go_simp; (try with_reducible rfl); done)
          (try simp only [Act.put, sAr, sZe, sSu])
          refine tkY 3 (at_lit rfl) (v := ?_) (Or.inl ⟨by rfl, ?_⟩) ?_
          rotate_left
          focus (intro _ h; (try dsimp only at h); go_simp; (try with_reducible rfl); done)
          (try simp only [Act.put, sAr, sZe, sSu])
          refine tkY 4 (at_lit rfl) (v := ?_) (Or.inl ⟨by rfl, ?_⟩) ?_
          rotate_left
          focus (intro _ h; (try dsimp only at h); go_simp; (try with_reducible rfl); done)
          (try simp only [Act.put, sAr, sZe, sSu])
          refine tkY 5 (at_lit rfl) (v := ?_) (Or.inl ⟨by rfl, ?_⟩) ?_
          rotate_left
          focus (intro _ h; (try dsimp only at h); go_simp; (try with_reducible rfl); done)
          (try simp only [Act.put, sAr, sZe, sSu])
          refine tkY 6 (at_lit rfl) (v := ?_) (Or.inl ⟨by rfl, ?_⟩) ?_
          rotate_left
          focus (intro _ h; (try dsimp only at h); go_simp; (try with_reducible rfl); done)
          (try simp only [Act.put, sAr, sZe, sSu])
          refine tkY 7 (at_lit rfl) (v := ?_) (Or.inl ⟨by rfl, ?_⟩) ?_
          rotate_left
          focus (intro _ h; (try dsimp only at h); go_simp; (try with_reducible rfl); done)
          (try simp only [Act.put, sAr, sZe, sSu])
          refine wpAnyH_ready (rs := [8]) (by kernel_rfl) (by simp) ?_
          refine AllReadyH.cons (o := _) (at_lit rfl) (fun K hK => ?_) AllReadyH.nil
          go_simp
          go_at_call 79
          refine (size8_any m.o _).mono ?_
          rintro e w8 ⟨rfl, rfl⟩
          go_wp2_with fail
          refine hK.out _ _ ?_ (fun hHeld => ?_)
          focus exact hs4
          clear hK K
          (try simp only [Act.put, sAr, sZe, sSu])
          refine wpAnyH_ready (rs := [9]) (by kernel_rfl) (by simp) ?_
          refine AllReadyH.cons (o := _) (at_lit rfl) (fun K hK => ?_) AllReadyH.nil
          go_simp
          go_at_call 78
          refine (without_any K5.out.1.2.1.ms K5.out.1.2.1.ok K5.out.1.2.1.len m.g (szO m.o) HMK.out.g0 (by have := HMK.out.g1; omega)).mono ?_
          rintro e w6 ⟨v6, M, rfl, m6, hM, b6⟩
          obtain ⟨A6, c6, rfl⟩ := m6.form
          have K6 := Lib.hid (K5.out.call b6)
          have M6 := Lib.hid (m6.base HS5.out.2)
          have HM6 : Hid (Ms w6 w5.heap.size (.slice A6 M.length c6) M) := m6
          have HMok : Hid (∀ y ∈ M, MK y) := fun y hy => K5.out.1.2.1.ok y (hM.2 y hy)
          have HMl := Lib.hid hM.1
          have HB6 := Lib.hid b6.size
          have hs6 : (fun v => v.cell? ⟨x, 0, none⟩ = some (.slice A L.length c) ∧ v.cell? ⟨u, 0, none⟩ = some (.int .i64 m.g) ∧ v.cell? ⟨u, 1, none⟩ = some (.int .i64 m.o)) w6 := ⟨K6.out.1.2.1.top.cell 0, K6.out.1.2.2.cell 0, K6.out.1.2.2.cell 1⟩
          clear b6 m6 hM
          go_wp2_with fail
          refine hK.out _ _ ?_ (fun hHeld => ?_)
          focus exact hs6
          clear hK K
          (try simp only [Act.put, sAr, sZe, sSu])
          refine tkY 10 (at_lit rfl) (v := ?_) (Or.inl ⟨by rfl, ?_⟩) ?_
          rotate_left
          focus (intro _ h; (try dsimp only at h); go_simp; (try with_reducible rfl); done)
          (try simp only [Act.put, sAr, sZe, sSu])
          refine wpAnyH_done (by kernel_rfl) ?_ _
          refine NoPanic.normal ?_
          obtain ⟨⟨d0, d1, d2, d3, d4, d5, d6, d7, d8⟩, -⟩ := Row.nineM (x0 := .int .i64 m.g) (x1 := .int .i64 m.o) (x2 := .int .i64 m.f) (x3 := .bool m.p) (x4 := .bool m.w) (x5 := .bool m.h) (x6 := .bool m.k) (x7 := .bool m.u) (x8 := .bool m.d) K6.out.1.2.2
          have hpt := parts8_any (w := w6) m HMK.out hmo
          unfold mcell at hpt
          go_wp2_with fail
          refine hpt.mono ?_
          rintro e w7 ⟨v7, P, rfl, m7, ⟨hPl, hPk⟩, b7⟩
          obtain ⟨A7, c7, rfl⟩ := m7.form
          rw [hPl] at m7 ⊢
          have K7 := Lib.hid (K6.out.call b7)
          have M7 : Hid (Ms w7 w5.heap.size (.slice A6 M.length c6) M) := HM6.out.call b7
          have HP7 : Hid (Ms w7 w6.heap.size (.slice A7 8 c7) P) := m7
          have HPL := Lib.hid hPl
          have HPK := Lib.hid hPk
          have HB7 : Hid (w5.heap.size ≤ w7.heap.size) := Nat.le_trans HB6.out b7.size
          clear hpt d0 d1 d2 d3 d4 d5 d6 d7 d8 hPl hPk m7 b7 M6 K6 HM6 hs6
          go_wp2_with fail
          go_loopw [14, 16] (fun sl i wr => ∃ (j : Nat) (M' : List Mp) (A' : Option Addr) (c' : Nat), j ≤ 8 ∧ i = .int .i64 j ∧ sl = .slice A' M'.length c' ∧ Hid (Ms wr w5.heap.size (.slice A' M'.length c') M' ∧ M'.length ≤ L.length + j ∧ (∀ y ∈ M', MK y) ∧ Trn w wr C g x u p (.slice A L.length c) L lf (mcell m) ∧ Ms wr w6.heap.size (.slice A7 8 c7) P ∧ w5.heap.size ≤ wr.heap.size)) (fun _ i _ => 8 - (intOf i).toNat)
          case atStart => exact ⟨0, M, A6, c6, by omega, rfl, rfl, Lib.hid ⟨M7.out, HMl.out, HMok.out, K7.out, HP7.out, HB7.out⟩⟩
          case round =>
            obtain ⟨j, M', A', c', hj, rfl, rfl, HL⟩ := hrel
            by_cases hlt : j < 8
            · have hjP : j < P.length := by rw [HPL.out]; exact hlt
              obtain ⟨y, hy⟩ : ∃ y, y = P[j] := ⟨_, rfl⟩
              have hyk : MK y := hy ▸ HPK.out _ (List.getElem_mem hjP)
              have HYK := Lib.hid hyk
              have hP := HL.out.2.2.2.2.1
              rw [← HPL.out] at hP
              obtain ⟨ap, rfl, -, -, hat⟩ := hP.at_ j hjP
              rw [← hy] at hat
              obtain ⟨a0, a1, a2, a3, a4, a5, a6, a7, a8⟩ := hat
              have hji : (j : Int) < 8 := by omega
              have hjd : decide ((j : Int) < 8) = true := by simp; omega
              have hwt := with_any (w := wr) HL.out.1 HL.out.2.2.1 (by have := HL.out.2.1; omega) y
              unfold mcell at hwt
              clear hP hy hyk
              go_wp2_with fail
              refine hwt.mono ?_
              rintro e w8 ⟨v8, M8, rfl, m8, hM8, b8⟩
              obtain ⟨A8, c8, rfl⟩ := m8.form
              have HN8 := Lib.hid (And.intro (m8.base HL.out.2.2.2.2.2) (And.intro (show M8.length ≤ L.length + (j + 1) by have := hM8.1; have := HL.out.2.1; omega) (And.intro (with_ok HL.out.2.2.1 HYK.out hM8) (And.intro (HL.out.2.2.2.1.call b8) (And.intro (HL.out.2.2.2.2.1.call b8) (Nat.le_trans HL.out.2.2.2.2.2 b8.size))))))
              clear hwt m8 hM8 b8 a0 a1 a2 a3 a4 a5 a6 a7 a8
              go_wp2_with fail
              go_roundw
              case rel => exact ⟨j + 1, M8, A8, c8, by omega, by go_num, rfl, HN8⟩
              case measure => simp [intOf]; omega
            · obtain rfl : j = 8 := by omega
              have hji : ¬ ((8 : Nat) : Int) < 8 := by omega
              have T8 := HL.out.2.2.2.1
              have hx8 : wr.cell? ⟨x, 0, none⟩ = some (.slice A L.length c) := T8.1.2.1.top.cell 0
              have hf8 : wr.frozen? ⟨x, 0, none⟩ = false := T8.1.2.1.top.frozen 0
              have K8 := Lib.hid (T8.put HL.out.1 HS5.out.1 HL.out.2.2.1 (by have := HL.out.2.1; omega))
              have HO8 : Hid (∀ b, (Value.slice A' M'.length c').ownBlock = some b → w.heap.size ≤ b) := fun b hb => Nat.le_trans HS5.out.2 (HL.out.1.lt b hb).1
              have HLL := Lib.hid HL.out.2.1
              clear T8
              go_upto_region 25 with (fail)
              generalize wr.setCell ⟨x, 0, none⟩ (.slice A' M'.length c') = w8 at K8 ⊢
              have g8 : w8.cell? ⟨g, 7, none⟩ = some (.int .i64 lf) := K8.out.1.1.cell 7
              have gf : w8.frozen? ⟨g, 7, none⟩ = false := K8.out.1.1.frozen 7
              clear hx8 hf8
              go_wp2_with fail
              go_ret
              exact ⟨⟨_, rfl⟩, (K8.out.count _).fair HLL.out fun b hb => Or.inr (HO8.out b hb)⟩
  · have hzn : (wrO pg 0 != 0) = true := by simpa using hz
    go_enter Try.func63, Try.ntmps63
    go_wp2_with fail
    refine (hwr _).mono ?_
    rintro e w2 ⟨rfl, rfl⟩
    go_wp2_with fail
    go_ret
    exact ⟨⟨_, rfl⟩, Fair.still h hr (Below.refl _ _)⟩
end
end Go.Proofs.Ytpcpcgbejinlmaa
