/- The law's world: a leaf is gone, by the document. -/
import Derived.Test.YtpcpcgbejinlmaaMk33
import Derived.Test.YtpcpcgbejinlmaaMk34
namespace Go.Proofs.Ytpcpcgbejinlmaa
open Go.RowKit
def Gone8 (e : Ending) : Prop := ∃ (f : Int) (p w h k u d : Bool) (er : Int), e = .returned (.tuple #[.agg #[.int .i64 f, .bool p, .bool w, .bool h, .bool k, .bool u, .bool d], .int .i64 er])
def Cut8 (w W : World) (C g x q u : Nat) (p : Nat → Value) (v : Value) (L : List Mp) (lf : Int) (zs es : List Value) : Prop :=
  (WRow W g p lf ∧ RfT W C x v L ∧ Row W q 28 zs ∧ Row W u 28 es) ∧ Foot (fun b => b = g ∨ b = x) w W
section
variable {w W W' : World} {C g x q u : Nat} {p : Nat → Value} {v : Value} {L : List Mp} {lf : Int} {zs es : List Value}
theorem Cut8.call (h : Cut8 w W C g x q u p v L lf zs es) (hb : Below W.heap.size W W') : Cut8 w W' C g x q u p v L lf zs es :=
  ⟨⟨h.1.1.below hb h.1.1.lt, h.1.2.1.call hb, h.1.2.2.1.below hb h.1.2.2.1.lt, h.1.2.2.2.below hb h.1.2.2.2.lt⟩, h.2.trans (Y := fun _ => False) (Foot.of_below hb) fun _ h _ => h.elim⟩
theorem Cut8.count (h : Cut8 w W C g x q u p v L lf zs es) (n : Int) : Cut8 w (W.setCell ⟨g, 7, none⟩ (.int .i64 n)) C g x q u p v L n zs es := by
  obtain ⟨⟨a, b, c, d⟩, f⟩ := h
  have hxg : x ≠ g := b.top.apart a (by decide)
  refine ⟨⟨a.set_ 7 _, ⟨b.top.far (p := ⟨g, 7, none⟩) hxg _, b.ms.keep8 fun k hk => Below.heap_setCell _ _ _ k ?_, b.ok, b.len⟩, c.far (p := ⟨g, 7, none⟩) (c.apart a (by decide)) _, d.far (p := ⟨g, 7, none⟩) (d.apart a (by decide)) _⟩, f.trans (Y := fun b => b = g) (Foot.grown (b := g) (grown_set _ _ _ _) rfl) fun _ hb _ => Or.inl hb⟩
  rintro rfl
  obtain ⟨vs, hv⟩ := b.ms.typed hk
  have ha : Row _ _ _ _ := a
  unfold Row at ha
  rw [ha] at hv
  injection hv with hv
  injection hv with _ hv
  exact absurd hv (by decide)
theorem Cut8.put {M : List Mp} {A : Option Addr} {c D : Nat} (h : Cut8 w W C g x q u p v L lf zs es) (hm : Ms W D (.slice A M.length c) M) (hD : C ≤ D ∧ x < D) (hM : M.length ≤ L.length ∧ ∀ m ∈ M, m ∈ L) : Cut8 w (W.setCell ⟨x, 0, none⟩ (.slice A M.length c)) C g x q u p (.slice A M.length c) M lf zs es := by
  obtain ⟨⟨a, b, e, d⟩, f⟩ := h
  refine ⟨⟨a.far (p := ⟨x, 0, none⟩) (b.top.apart a (by decide)).symm _, ⟨b.top.set_ 0 _, (hm.base hD.1).keep8 fun k hk => Below.heap_setCell _ _ _ k ?_, fun m hm => b.ok m (hM.2 m hm), by have := b.len; omega⟩, e.far (p := ⟨x, 0, none⟩) (e.apart b.top (by decide)) _, d.far (p := ⟨x, 0, none⟩) (d.apart b.top (by decide)) _⟩, f.trans (Y := fun b => b = x) (Foot.grown (b := x) (grown_set _ _ _ _) rfl) fun _ hb _ => Or.inr hb⟩
  rintro rfl
  have := (hm.lt _ hk).1
  omega
theorem fair_end7 {k : Nat} {v0 : Value} {L0 : List Mp} {y0 y1 y2 y3 y4 y5 y6 : Value} (h : Cut8 w W C g x q u p v L lf zs es) (hL : L.length ≤ L0.length + k) (hq : w.heap.size ≤ q) (ho : ∀ b, v.ownBlock = some b → v0.ownBlock = some b ∨ w.heap.size ≤ b) :
    Fair w C g x k p v0 L0 (((((((W.setCell ⟨q, 0, none⟩ y0).setCell ⟨q, 1, none⟩ y1).setCell ⟨q, 2, none⟩ y2).setCell ⟨q, 3, none⟩ y3).setCell ⟨q, 4, none⟩ y4).setCell ⟨q, 5, none⟩ y5).setCell ⟨q, 6, none⟩ y6) := by
  have kk := fun k hk => seven_heap W q y0 y1 y2 y3 y4 y5 y6 (k := k) hk
  have b := below_7 (x0 := y0) (x1 := y1) (x2 := y2) (x3 := y3) (x4 := y4) (x5 := y5) (x6 := y6) (Below.refl q W) (Nat.le_refl q)
  generalize (((((((W.setCell ⟨q, 0, none⟩ y0).setCell ⟨q, 1, none⟩ y1).setCell ⟨q, 2, none⟩ y2).setCell ⟨q, 3, none⟩ y3).setCell ⟨q, 4, none⟩ y4).setCell ⟨q, 5, none⟩ y5).setCell ⟨q, 6, none⟩ y6) = W' at kk b ⊢
  obtain ⟨⟨a, r, e, d⟩, f⟩ := h
  have hgq : g ≠ q := Row.apart a e (by decide)
  have hxq : x ≠ q := r.top.apart e (by decide)
  refine ⟨v, L, lf, (kk g hgq).trans a, ⟨(kk x hxq).trans r.top, r.ms.keep8 fun z hz => kk z ?_, r.ok, r.len⟩, hL, ⟨b.os.trans f.os, b.tape.trans f.tape, b.output.trans f.output, Nat.le_trans f.size b.size, fun z hz hn => (kk z (by omega)).trans (f.keep z hz hn)⟩, ho⟩
  rintro rfl
  obtain ⟨vs, hv⟩ := r.ms.typed hz
  unfold Row at e
  rw [e] at hv
  injection hv with hv
  injection hv with _ hv
  exact absurd hv (by decide)
set_option maxRecDepth 100000 in
set_option maxHeartbeats 16000000 in
theorem cut8_any (h : WRow w g p lf) (hr : RfT w C x v L) (hC : C ≤ w.heap.size) (pg o : Int) : Calls Try.prog 59 #[.pointer (some ⟨g, 0, none⟩), .pointer (some ⟨x, 0, none⟩), .int .i64 pg, .int .i64 o] w fun e w' => Gone8 e ∧ Fair w C g x 0 p v L w' := by
  obtain ⟨q, hq⟩ : ∃ q, q = w.heap.size := ⟨_, rfl⟩
  obtain ⟨w1, hw1⟩ : ∃ w1, w1 = w.alloc (.cells #[.int .i64 0, .bool false, .bool false, .bool false, .bool false, .bool false, .bool false] 28) := ⟨_, rfl⟩
  have b1 : Below w.heap.size w w1 := hw1 ▸ below_new w _ _
  have r1 : Row w1 q 28 [.int .i64 0, .bool false, .bool false, .bool false, .bool false, .bool false, .bool false] := by rw [hw1, hq]; exact Row.new w _ _
  have K1 : Hid (Cut8 w w1 C g x q q p v L lf [.int .i64 0, .bool false, .bool false, .bool false, .bool false, .bool false, .bool false] [.int .i64 0, .bool false, .bool false, .bool false, .bool false, .bool false, .bool false]) := ⟨⟨h.below b1 h.lt, hr.call b1, r1, r1⟩, Foot.of_below b1⟩
  have HQ := Lib.hid hq
  have HW1 := Lib.hid hw1
  have HQL : Hid (w.heap.size ≤ q) := Nat.le_of_eq hq.symm
  have hwr := wrong8_any pg o
  have HXW := Lib.hid hr.top.lt
  clear hq hw1 b1 r1 h hr
  by_cases hz : wrO pg o = 0
  · have hw := wrO_ok hz
    rw [hz] at hwr
    clear hz
    obtain ⟨A, c, rfl⟩ := K1.out.1.2.1.ms.form
    go_enter Try.func59, Try.ntmps59
    go_upto_region 1 with (fail)
    rw [← HW1.out, ← HQ.out]
    go_wp2_with fail
    refine (hwr _).mono ?_
    rintro e w2 ⟨rfl, rfl⟩
    clear hwr
    go_wp2_with fail
    refine (at_is K1.out.1.2.1 pg o hw.2.1 (by have := hw.2.2.1; omega)).mono ?_
    rintro e w2 ⟨rfl, nd, rfl⟩
    have K2 := Lib.hid (K1.out.call (drewN_b (Below.refl _ _) nd))
    generalize w1.drewN nd = w2 at K2 ⊢
    clear K1 HW1
    rcases at_found L pg o with hf | ⟨k, hk, hf, -, -⟩
    · rw [hf]
      clear hf
      obtain ⟨⟨d0, d1, d2, d3, d4, d5, d6⟩, df⟩ := K2.out.1.2.2.1.seven
      go_wp2_with fail
      exact bodyPost_ret (v := .tuple #[.agg #[.int .i64 0, .bool false, .bool false, .bool false, .bool false, .bool false, .bool false], .int .i64 6]) (by simp [results, Try.results59, go_sem, *]) rfl ⟨⟨_, _, _, _, _, _, _, _, rfl⟩, fair_end7 K2.out (Nat.le_add_right _ _) HQL.out fun _ h => Or.inl h⟩
    · rw [hf]
      clear hf
      obtain ⟨m, hm⟩ : ∃ m, m = L[k] := ⟨_, rfl⟩
      obtain ⟨ad, rfl, -, -, hat⟩ := K2.out.1.2.1.ms.at_ k hk
      rw [← hm] at hat
      obtain ⟨N, hN⟩ : ∃ N, N = L.length := ⟨_, rfl⟩
      have hx2 : w2.cell? ⟨x, 0, none⟩ = some (.slice (some ad) N c) := by rw [hN]; exact K2.out.1.2.1.top.cell 0
      have hkN : k < N := by rw [hN]; exact hk
      have hkNi : (k : Int) < N := by omega
      have hk0 : ¬ (k : Int) < 0 := by omega
      obtain ⟨a0, a1, a2, a3, a4, a5, a6, a7, a8⟩ := hat
      obtain ⟨u, hu⟩ : ∃ u, u = w2.heap.size := ⟨_, rfl⟩
      obtain ⟨w3, hw3⟩ : ∃ w3, w3 = w2.alloc (.cells #[.int .i64 m.f, .bool m.p, .bool m.w, .bool m.h, .bool m.k, .bool m.u, .bool m.d] 28) := ⟨_, rfl⟩
      have K3 : Hid (Cut8 w w3 C g x q u p (.slice (some ad) L.length c) L lf [.int .i64 0, .bool false, .bool false, .bool false, .bool false, .bool false, .bool false] [.int .i64 m.f, .bool m.p, .bool m.w, .bool m.h, .bool m.k, .bool m.u, .bool m.d]) := by
        have t := K2.out.call (hw3 ▸ below_new w2 _ _)
        exact ⟨⟨t.1.1, t.1.2.1, t.1.2.2.1, by rw [hw3, hu]; exact Row.new w2 _ _⟩, t.2⟩
      have HN := Lib.hid hN
      have HU := Lib.hid hu
      have HW3 := Lib.hid hw3
      clear hm hN hu hw3
      go_upto_region 8 with (fail)
      rw [← HW3.out, ← HU.out]
      clear hx2 a0 a1 a2 a3 a4 a5 a6 a7 a8 K2 HW3
      go_wp2_with fail
      refine (count8_any K3.out.1.2.1).mono ?_
      rintro e w4 ⟨⟨n4, rfl, hn4⟩, b4⟩
      have K4 := Lib.hid (K3.out.call b4)
      clear b4 K3
      go_upto_region 9 with (fail)
      go_cut [] from 38 to 48 (fun wx => ∃ A' M c', Cut8 w wx C g x q u p (.slice A' M.length c') M lf [.int .i64 0, .bool false, .bool false, .bool false, .bool false, .bool false, .bool false] [.int .i64 m.f, .bool m.p, .bool m.w, .bool m.h, .bool m.k, .bool m.u, .bool m.d] ∧ M.length ≤ L.length ∧ ∀ b, (Value.slice A' M.length c').ownBlock = some b → w.heap.size ≤ b)
      case first =>
        refine wp_region_noPanic ?_
        refine wp_region_held_drew (S := (fun _ => True)) (by kernel_rfl) trivial (fun hHeld => ?_)
        have K8 := Lib.hid (K4.out.call (drewN_b (Below.refl _ _) 1))
        have K8 : Hid (Cut8 w w4.drew C g x q u p (.slice (some ad) L.length c) L lf [.int .i64 0, .bool false, .bool false, .bool false, .bool false, .bool false, .bool false] [.int .i64 m.f, .bool m.p, .bool m.w, .bool m.h, .bool m.k, .bool m.u, .bool m.d]) := K8
        clear K4
        have HS8 : Hid ((C ≤ w4.drew.heap.size ∧ x < w4.drew.heap.size) ∧ w.heap.size ≤ w4.drew.heap.size) := ⟨⟨Nat.le_trans hC K8.out.2.size, K8.out.1.2.1.top.lt⟩, K8.out.2.size⟩
        generalize w4.drew = w5 at K8 HS8 hHeld ⊢
        have hx5 : w5.cell? ⟨x, 0, none⟩ = some (.slice (some ad) L.length c) := K8.out.1.2.1.top.cell 0
        refine tkY 0 (at_lit rfl) (v := ?_) (Or.inl ⟨by rfl, ?_⟩) ?_
        rotate_left
        focus (intro _ h; (try dsimp only at h); go_simp; (try with_reducible rfl); done)
        (try simp only [Act.put, sAr, sZe, sSu])
        refine tkY 1 (at_lit rfl) (v := ?_) (Or.inl ⟨by rfl, ?_⟩) ?_
        rotate_left
        focus (intro _ h; (try dsimp only at h); go_simp; (try with_reducible rfl); done)
        (try simp only [Act.put, sAr, sZe, sSu])
        refine tkY 2 (at_lit rfl) (v := ?_) (Or.inl ⟨by rfl, ?_⟩) ?_
        rotate_left
        focus (intro _ h; (try dsimp only at h); go_simp; (try with_reducible rfl); done)
        (try simp only [Act.put, sAr, sZe, sSu])
        refine tkY 3 (at_lit rfl) (v := ?_) (Or.inl ⟨by rfl, ?_⟩) ?_
        rotate_left
        focus (intro _ h; (try dsimp only at h); go_simp; (try with_reducible rfl); done)
        (try simp only [Act.put, sAr, sZe, sSu])
        refine tkY 5 (at_lit rfl) (v := ?_) (Or.inl ⟨by rfl, ?_⟩) ?_
        rotate_left
        focus (intro _ h; (try dsimp only at h); go_simp; (try with_reducible rfl); done)
        (try simp only [Act.put, sAr, sZe, sSu])
        refine tkY 6 (at_lit rfl) (v := ?_) (Or.inl ⟨by rfl, ?_⟩) ?_
        rotate_left
        focus (intro _ h; (try dsimp only at h); go_simp; (try with_reducible rfl); done)
        (try simp only [Act.put, sAr, sZe, sSu])
        refine wpAnyH_ready (rs := [4, 7]) (by kernel_rfl) (by simp) ?_
        refine AllReadyH.cons (o := _) (at_lit rfl) (fun K hK => ?_) (AllReadyH.cons (o := _) (at_lit rfl) (fun K hK => ?_) AllReadyH.nil)
        · go_simp
          refine hK.out _ _ ?_ (fun hHeld => ?_)
          focus trivial
          clear hK K
          (try simp only [Act.put, sAr, sZe, sSu])
          refine wpAnyH_ready (rs := [7]) (by kernel_rfl) (by simp) ?_
          refine AllReadyH.cons (o := _) (at_lit rfl) (fun K hK => ?_) AllReadyH.nil
          go_simp
          go_at_call 79
          refine (size8_q o _).mono ?_
          rintro e w8 ⟨rfl, rfl⟩
          go_wp2_with fail
          refine hK.out _ _ ?_ (fun hHeld => ?_)
          focus trivial
          clear hK K
          (try simp only [Act.put, sAr, sZe, sSu])
          refine wpAnyH_ready (rs := [8]) (by kernel_rfl) (by simp) ?_
          refine AllReadyH.cons (o := _) (at_lit rfl) (fun K hK => ?_) AllReadyH.nil
          go_simp
          go_at_call 78
          refine (without_any K8.out.1.2.1.ms K8.out.1.2.1.ok K8.out.1.2.1.len pg (szO o) hw.2.1 (by have := hw.2.2.1; omega)).mono ?_
          rintro e w9 ⟨v9, M, rfl, m9, hM, b9⟩
          obtain ⟨A9, c9, rfl⟩ := m9.form
          have K9 := Lib.hid (K8.out.call b9)
          have M9 := Lib.hid m9
          have HM := Lib.hid hM
          clear b9 m9 hM
          go_wp2_with fail
          refine hK.out _ _ ?_ (fun hHeld => ?_)
          focus trivial
          clear hK K
          (try simp only [Act.put, sAr, sZe, sSu])
          refine tkY 9 (at_lit rfl) (v := ?_) (Or.inl ⟨by rfl, ?_⟩) ?_
          rotate_left
          focus (intro _ h; (try dsimp only at h); go_simp; (try with_reducible rfl); done)
          (try simp only [Act.put, sAr, sZe, sSu])
          refine tkY 10 (at_lit rfl) (v := ?_) (Or.inl ⟨by rfl, ?_⟩) ?_
          rotate_left
          focus (intro _ h; (try dsimp only at h); go_simp; (try with_reducible rfl); done)
          (try simp only [Act.put, sAr, sZe, sSu])
          have hx9 : w9.cell? ⟨x, 0, none⟩ = some (.slice (some ad) L.length c) := K9.out.1.2.1.top.cell 0
          have hf9 : w9.frozen? ⟨x, 0, none⟩ = false := K9.out.1.2.1.top.frozen 0
          refine wpAnyH_ready (rs := [11]) (by kernel_rfl) (by simp) ?_
          refine AllReadyH.cons (o := _) (at_lit rfl) (fun K hK => ?_) AllReadyH.nil
          go_simp
          go_wp2_with fail
          refine hK.out _ _ ?_ (fun hHeld => ?_)
          focus trivial
          clear hK K
          (try simp only [Act.put, sAr, sZe, sSu])
          refine wpAnyH_done (by kernel_rfl) ?_ _
          refine NoPanic.normal ?_
          go_wp2_with fail
          go_meet
          exact ⟨_, M, _, K9.out.put M9.out HS8.out.1 HM.out, HM.out.1, fun b hb => Nat.le_trans HS8.out.2 (M9.out.lt b hb).1⟩
        · go_simp
          go_at_call 79
          refine (size8_q o _).mono ?_
          rintro e w8 ⟨rfl, rfl⟩
          go_wp2_with fail
          refine hK.out _ _ ?_ (fun hHeld => ?_)
          focus trivial
          clear hK K
          (try simp only [Act.put, sAr, sZe, sSu])
          refine wpAnyH_ready (rs := [4]) (by kernel_rfl) (by simp) ?_
          refine AllReadyH.cons (o := _) (at_lit rfl) (fun K hK => ?_) AllReadyH.nil
          go_simp
          refine hK.out _ _ ?_ (fun hHeld => ?_)
          focus trivial
          clear hK K
          (try simp only [Act.put, sAr, sZe, sSu])
          refine wpAnyH_ready (rs := [8]) (by kernel_rfl) (by simp) ?_
          refine AllReadyH.cons (o := _) (at_lit rfl) (fun K hK => ?_) AllReadyH.nil
          go_simp
          go_at_call 78
          refine (without_any K8.out.1.2.1.ms K8.out.1.2.1.ok K8.out.1.2.1.len pg (szO o) hw.2.1 (by have := hw.2.2.1; omega)).mono ?_
          rintro e w9 ⟨v9, M, rfl, m9, hM, b9⟩
          obtain ⟨A9, c9, rfl⟩ := m9.form
          have K9 := Lib.hid (K8.out.call b9)
          have M9 := Lib.hid m9
          have HM := Lib.hid hM
          clear b9 m9 hM
          go_wp2_with fail
          refine hK.out _ _ ?_ (fun hHeld => ?_)
          focus trivial
          clear hK K
          (try simp only [Act.put, sAr, sZe, sSu])
          refine tkY 9 (at_lit rfl) (v := ?_) (Or.inl ⟨by rfl, ?_⟩) ?_
          rotate_left
          focus (intro _ h; (try dsimp only at h); go_simp; (try with_reducible rfl); done)
          (try simp only [Act.put, sAr, sZe, sSu])
          refine tkY 10 (at_lit rfl) (v := ?_) (Or.inl ⟨by rfl, ?_⟩) ?_
          rotate_left
          focus (intro _ h; (try dsimp only at h); go_simp; (try with_reducible rfl); done)
          (try simp only [Act.put, sAr, sZe, sSu])
          have hx9 : w9.cell? ⟨x, 0, none⟩ = some (.slice (some ad) L.length c) := K9.out.1.2.1.top.cell 0
          have hf9 : w9.frozen? ⟨x, 0, none⟩ = false := K9.out.1.2.1.top.frozen 0
          refine wpAnyH_ready (rs := [11]) (by kernel_rfl) (by simp) ?_
          refine AllReadyH.cons (o := _) (at_lit rfl) (fun K hK => ?_) AllReadyH.nil
          go_simp
          go_wp2_with fail
          refine hK.out _ _ ?_ (fun hHeld => ?_)
          focus trivial
          clear hK K
          (try simp only [Act.put, sAr, sZe, sSu])
          refine wpAnyH_done (by kernel_rfl) ?_ _
          refine NoPanic.normal ?_
          go_wp2_with fail
          go_meet
          exact ⟨_, M, _, K9.out.put M9.out HS8.out.1 HM.out, HM.out.1, fun b hb => Nat.le_trans HS8.out.2 (M9.out.lt b hb).1⟩
      case rest =>
        obtain ⟨A', M, c', K5, hMl, hown⟩ := hcut
        have K5 := Lib.hid K5
        have HMl := Lib.hid hMl
        have HOWN := Lib.hid hown
        clear hMl hown K4
        go_upto_region 10 with (fail)
        go_cut [] from 49 to 59 (fun wx => ∃ l2, Cut8 w wx C g x q u p (.slice A' M.length c') M l2 [.int .i64 0, .bool false, .bool false, .bool false, .bool false, .bool false, .bool false] [.int .i64 m.f, .bool m.p, .bool m.w, .bool m.h, .bool m.k, .bool m.u, .bool m.d])
        case first =>
          refine wp_region_noPanic ?_
          refine wp_region_held_drew (S := (fun _ => True)) (by kernel_rfl) trivial (fun hHeld => ?_)
          have K8 : Hid (Cut8 w wc.drew C g x q u p (.slice A' M.length c') M lf [.int .i64 0, .bool false, .bool false, .bool false, .bool false, .bool false, .bool false] [.int .i64 m.f, .bool m.p, .bool m.w, .bool m.h, .bool m.k, .bool m.u, .bool m.d]) := K5.out.call (drewN_b (Below.refl _ _) 1)
          generalize wc.drew = w5 at K8 hHeld ⊢
          clear K5
          have g7 : w5.cell? ⟨g, 7, none⟩ = some (.int .i64 lf) := K8.out.1.1.cell 7
          refine tkY 0 (at_lit rfl) (v := ?_) (Or.inl ⟨by rfl, ?_⟩) ?_
          rotate_left
          focus (intro _ h; (try dsimp only at h); go_simp; (try with_reducible rfl); done)
          (try simp only [Act.put, sAr, sZe, sSu])
          refine tkY 1 (at_lit rfl) (v := ?_) (Or.inl ⟨by rfl, ?_⟩) ?_
          rotate_left
          focus (intro _ h; (try dsimp only at h); go_simp; (try with_reducible rfl); done)
          (try simp only [Act.put, sAr, sZe, sSu])
          refine tkY 2 (at_lit rfl) (v := ?_) (Or.inl ⟨by rfl, ?_⟩) ?_
          rotate_left
          focus (intro _ h; (try dsimp only at h); go_simp; (try with_reducible rfl); done)
          (try simp only [Act.put, sAr, sZe, sSu])
          refine tkY 4 (at_lit rfl) (v := ?_) (Or.inl ⟨by rfl, ?_⟩) ?_
          rotate_left
          focus (intro _ h; (try dsimp only at h); go_simp; (try with_reducible rfl); done)
          (try simp only [Act.put, sAr, sZe, sSu])
          refine tkY 5 (at_lit rfl) (v := ?_) (Or.inl ⟨by rfl, ?_⟩) ?_
          rotate_left
          focus (intro _ h; (try dsimp only at h); go_simp; (try with_reducible rfl); done)
          (try simp only [Act.put, sAr, sZe, sSu])
          refine wpAnyH_ready (rs := [3, 6]) (by kernel_rfl) (by simp) ?_
          refine AllReadyH.cons (o := _) (at_lit rfl) (fun K hK => ?_) (AllReadyH.cons (o := _) (at_lit rfl) (fun K hK => ?_) AllReadyH.nil)
          · go_simp
            refine hK.out _ _ ?_ (fun hHeld => ?_)
            focus trivial
            clear hK K
            (try simp only [Act.put, sAr, sZe, sSu])
            refine wpAnyH_ready (rs := [6]) (by kernel_rfl) (by simp) ?_
            refine AllReadyH.cons (o := _) (at_lit rfl) (fun K hK => ?_) AllReadyH.nil
            go_simp
            go_at_call 77
            refine (count8_any K8.out.1.2.1).mono ?_
            rintro e w7 ⟨⟨n7, rfl, hn7⟩, b7⟩
            have K11 := Lib.hid (K8.out.call b7)
            clear b7
            go_wp2_with fail
            refine hK.out _ _ ?_ (fun hHeld => ?_)
            focus trivial
            clear hK K
            (try simp only [Act.put, sAr, sZe, sSu])
            refine tkY 7 (at_lit rfl) (v := ?_) (Or.inl ⟨by rfl, ?_⟩) ?_
            rotate_left
            focus (intro _ h; (try dsimp only at h); go_simp; (try with_reducible rfl); done)
            (try simp only [Act.put, sAr, sZe, sSu])
            refine tkY 8 (at_lit rfl) (v := ?_) (Or.inl ⟨by rfl, ?_⟩) ?_
            rotate_left
            focus (intro _ h; (try dsimp only at h); go_simp; (try with_reducible rfl); done)
            (try simp only [Act.put, sAr, sZe, sSu])
            refine tkY 9 (at_lit rfl) (v := ?_) (Or.inl ⟨by rfl, ?_⟩) ?_
            rotate_left
            focus (intro _ h; (try dsimp only at h); go_simp; (try with_reducible rfl); done)
            (try simp only [Act.put, sAr, sZe, sSu])
            refine tkY 10 (at_lit rfl) (v := ?_) (Or.inl ⟨by rfl, ?_⟩) ?_
            rotate_left
            focus (intro _ h; (try dsimp only at h); go_simp; (try with_reducible rfl); done)
            (try simp only [Act.put, sAr, sZe, sSu])
            have g8 : w7.cell? ⟨g, 7, none⟩ = some (.int .i64 lf) := K11.out.1.1.cell 7
            have gf : w7.frozen? ⟨g, 7, none⟩ = false := K11.out.1.1.frozen 7
            refine wpAnyH_ready (rs := [11]) (by kernel_rfl) (by simp) ?_
            refine AllReadyH.cons (o := _) (at_lit rfl) (fun K hK => ?_) AllReadyH.nil
            go_simp
            go_wp2_with fail
            refine hK.out _ _ ?_ (fun hHeld => ?_)
            focus trivial
            clear hK K
            (try simp only [Act.put, sAr, sZe, sSu])
            refine wpAnyH_done (by kernel_rfl) ?_ _
            refine NoPanic.normal ?_
            go_wp2_with fail
            go_meet
            exact ⟨_, K11.out.count _⟩
          · go_simp
            go_at_call 77
            refine (count8_any K8.out.1.2.1).mono ?_
            rintro e w7 ⟨⟨n7, rfl, hn7⟩, b7⟩
            have K11 := Lib.hid (K8.out.call b7)
            clear b7
            go_wp2_with fail
            refine hK.out _ _ ?_ (fun hHeld => ?_)
            focus trivial
            clear hK K
            (try simp only [Act.put, sAr, sZe, sSu])
            have g9 : w7.cell? ⟨g, 7, none⟩ = some (.int .i64 lf) := K11.out.1.1.cell 7
            refine tkY 7 (at_lit rfl) (v := ?_) (Or.inl ⟨by rfl, ?_⟩) ?_
            rotate_left
            focus (intro _ h; (try dsimp only at h); go_simp; (try with_reducible rfl); done)
            (try simp only [Act.put, sAr, sZe, sSu])
            refine wpAnyH_ready (rs := [3]) (by kernel_rfl) (by simp) ?_
            refine AllReadyH.cons (o := _) (at_lit rfl) (fun K hK => ?_) AllReadyH.nil
            go_simp
            refine hK.out _ _ ?_ (fun hHeld => ?_)
            focus trivial
            clear hK K
            (try simp only [Act.put, sAr, sZe, sSu])
            clear g9
            refine tkY 8 (at_lit rfl) (v := ?_) (Or.inl ⟨by rfl, ?_⟩) ?_
            rotate_left
            focus (intro _ h; (try dsimp only at h); go_simp; (try with_reducible rfl); done)
            (try simp only [Act.put, sAr, sZe, sSu])
            refine tkY 9 (at_lit rfl) (v := ?_) (Or.inl ⟨by rfl, ?_⟩) ?_
            rotate_left
            focus (intro _ h; (try dsimp only at h); go_simp; (try with_reducible rfl); done)
            (try simp only [Act.put, sAr, sZe, sSu])
            refine tkY 10 (at_lit rfl) (v := ?_) (Or.inl ⟨by rfl, ?_⟩) ?_
            rotate_left
            focus (intro _ h; (try dsimp only at h); go_simp; (try with_reducible rfl); done)
            (try simp only [Act.put, sAr, sZe, sSu])
            have g8 : w7.cell? ⟨g, 7, none⟩ = some (.int .i64 lf) := K11.out.1.1.cell 7
            have gf : w7.frozen? ⟨g, 7, none⟩ = false := K11.out.1.1.frozen 7
            refine wpAnyH_ready (rs := [11]) (by kernel_rfl) (by simp) ?_
            refine AllReadyH.cons (o := _) (at_lit rfl) (fun K hK => ?_) AllReadyH.nil
            go_simp
            go_wp2_with fail
            refine hK.out _ _ ?_ (fun hHeld => ?_)
            focus trivial
            clear hK K
            (try simp only [Act.put, sAr, sZe, sSu])
            refine wpAnyH_done (by kernel_rfl) ?_ _
            refine NoPanic.normal ?_
            go_wp2_with fail
            go_meet
            exact ⟨_, K11.out.count _⟩
        case rest =>
          obtain ⟨l2, K6⟩ := hcut
          have K6 := Lib.hid K6
          clear K5
          obtain ⟨⟨d0, d1, d2, d3, d4, d5, d6⟩, df⟩ := K6.out.1.2.2.1.seven
          obtain ⟨⟨e0, e1, e2, e3, e4, e5, e6⟩, -⟩ := K6.out.1.2.2.2.seven
          go_wp2_with fail
          exact bodyPost_ret (v := .tuple #[.agg #[.int .i64 m.f, .bool m.p, .bool m.w, .bool m.h, .bool m.k, .bool m.u, .bool m.d], .int .i64 0]) (by simp [results, Try.results59, go_sem, *]) rfl ⟨⟨_, _, _, _, _, _, _, _, rfl⟩, fair_end7 K6.out (Nat.le_trans HMl.out (Nat.le_add_right _ _)) HQL.out fun b h => Or.inr (HOWN.out b h)⟩
  · have hzn : (wrO pg o != 0) = true := by simpa using hz
    obtain ⟨z, hz2⟩ : ∃ z, z = wrO pg o := ⟨_, rfl⟩
    rw [← hz2] at hwr hzn
    clear hz hz2
    go_enter Try.func59, Try.ntmps59
    go_upto_region 1 with (fail)
    rw [← HW1.out, ← HQ.out]
    go_wp2_with fail
    refine (hwr _).mono ?_
    rintro e w2 ⟨rfl, rfl⟩
    obtain ⟨⟨d0, d1, d2, d3, d4, d5, d6⟩, df⟩ := K1.out.1.2.2.1.seven
    go_wp2_with fail
    exact bodyPost_ret (v := .tuple #[.agg #[.int .i64 0, .bool false, .bool false, .bool false, .bool false, .bool false, .bool false], .int .i64 z]) (by simp [results, Try.results59, go_sem, *]) rfl ⟨⟨_, _, _, _, _, _, _, _, rfl⟩, fair_end7 K1.out (Nat.le_add_right _ _) HQL.out fun _ h => Or.inl h⟩
end
end Go.Proofs.Ytpcpcgbejinlmaa
