/- Package table: TableBack, walked. -/
import Derived.Test.YtpcpcgbejinlmaaKb2
import Derived.Deep.OwnRows
namespace Go.Proofs.Ytpcpcgbejinlmaa
open Go.RowKit
theorem u8_of {n : Int} (h : (Lit.int .u8 n).wf = true) : 0 ≤ n ∧ n < 256 := by simp [Lit.wf, IntKind.min, IntKind.max, IntKind.signed, IntKind.bits] at h; omega
theorem info_bool8 : (Try.prog.info? 4).map (fun i => (i.zero, i.size, i.bytes)) = some (some (.bool false), 1, 1) := by kernel_rfl
theorem made_bools (n : Nat) : (madeCells #[Value.bool false] n).toList = List.replicate n (.bool false) := by
  apply List.ext_getElem?
  intro i
  rw [List.getElem?_replicate]
  simp only [madeCells, Array.getElem?_toList, Array.getElem?_map]
  by_cases hi : i < n
  · rw [if_pos hi]
    simp [hi, Nat.mod_one]
  · rw [if_neg hi]
    simp; omega
set_option maxRecDepth 100000 in
set_option maxHeartbeats 16000000 in
theorem back_walk (a : Int) (A : Option Addr) (n c : Nat) (a0 : 0 ≤ a) (w : World) (hA : Acs w w.heap.size A n) : Calls Try.prog 4 #[.int .u8 a, .slice A n c] w fun e w' => e = .returned (.bool true) ∧ Below w.heap.size w w' := by
  obtain ⟨m, hm⟩ : ∃ m : Nat, a % 90 = m := ⟨(a % 90).toNat, by omega⟩
  have hm90 : m < 90 := by omega
  have hmade := made_run m (by omega) w
  rw [show ((m + 2 : Nat) : Int) = (m : Int) + 2 by omega] at hmade
  have HA := Lib.hid hA
  have hrem : a.tmod 90 = (m : Int) := by rw [Int.tmod_eq_emod_of_nonneg a0]; exact hm
  have hw8 : IntKind.u8.wrap (m : Int) = (m : Int) := by
    have : IntKind.u8.wrap (m : Int) = (m : Int) % 256 := rfl
    rw [this]; omega
  have hw64 : IntKind.i64.wrap (m : Int) = (m : Int) := IntWalk.i64_in _ (by omega)
  have hw2 : IntKind.i64.wrap ((m : Int) + 2) = (m : Int) + 2 := IntWalk.i64_in _ (by omega)
  clear hA
  go_enter Try.func4, Try.ntmps4
  go_wp2_with fail
  refine hmade.mono ?_
  rintro e w1 ⟨k, rfl, ⟨hk, hkn⟩, v, lf0, hlw⟩
  have HN := Lib.hid hk
  have HKN := Lib.hid hkn
  have H1 := Lib.hid hlw
  have hak := awake_any w1
  clear hmade hlw hk hkn hw8 hw64 hrem hm
  go_wp2_with fail
  refine hak.mono ?_
  rintro e w2 ⟨rfl, hb2⟩
  have H2 := Lib.hid (H1.out.call hb2)
  obtain ⟨Ab, cb, hvb⟩ := own_form H2.out.tab.bag.row
  subst hvb
  have g2 : w2.cell? ⟨k.g, 2, none⟩ = some (.pointer (some ⟨k.s.y, 0, none⟩)) := H2.out.row.cell 2
  have y0 : w2.cell? ⟨k.s.y, 0, none⟩ = some (.slice Ab m cb) := by
    have := H2.out.tab.bag.top.cell 0
    rw [bagL_len] at this
    exact this
  have hpl := play_run (w := w) (k := k) (K := 0) ⟨_, _, _, _, _, _, _, _, H2.out⟩ (by omega) HN.out A n c HA.out
  clear hak hb2 H1 H2
  go_wp2_with fail
  refine hpl.mono ?_
  rintro e w3 ⟨⟨bb, rfl⟩, hr3⟩
  obtain ⟨v, ws, L, v0, L0, v1, L1, lf, h3⟩ := hr3
  have H3 := Lib.hid h3
  clear hpl h3 g2 y0
  go_wp2_with fail
  go_loopw [7] (fun i wr => (i = .int .i64 0 ∧ ∃ vr, Bk w wr k vr ws L lf 0) ∨ (i = .int .i64 1 ∧ ∃ vr, Bk w wr k vr ws L lf 1) ∨ (i = .int .i64 2 ∧ ∃ vr, Bk w wr k vr ws L lf 2)) (fun i _ => 2 - (RowKit.intOf i).toNat)
  case atStart => exact Or.inl ⟨rfl, v, H3.out.bk⟩
  case round =>
    rcases hrel with ⟨rfl, vr, hbk⟩ | ⟨rfl, vr, hbk⟩ | ⟨rfl, vr, hbk⟩
    · skip
      go_wp2_with fail
      have hs0 : (fun v => v.cell? ⟨k.g, 0, none⟩ = some (.pointer (some ⟨k.s.x, 0, none⟩)) ∧ v.cell? ⟨k.g, 3, none⟩ = some (.int .i64 k.r0) ∧ v.cell? ⟨k.g, 4, none⟩ = some (.int .i64 k.r1)) wr.drew := ⟨hbk.2.1.cell 0, hbk.2.1.cell 3, hbk.2.1.cell 4⟩
      refine wp_region_held_drew (S := (fun v => v.cell? ⟨k.g, 0, none⟩ = some (.pointer (some ⟨k.s.x, 0, none⟩)) ∧ v.cell? ⟨k.g, 3, none⟩ = some (.int .i64 k.r0) ∧ v.cell? ⟨k.g, 4, none⟩ = some (.int .i64 k.r1))) (by kernel_rfl) hs0 (fun hHeld => ?_)
      have hb1 := hbk.call (drewN_b (Below.refl wr.heap.size wr) 1)
      have hb1 : Bk w wr.drew k vr ws L lf 0 := hb1
      generalize wr.drew = w4 at hHeld hs0 hb1 ⊢
      have hd1 := bk_drop H3.out HN.out (j := 0) (by omega) hb1
      have HB1 := Lib.hid hb1
      clear hbk hb1
      refine tkY 0 (at_lit rfl) (v := ?_) (Or.inl ⟨by rfl, ?_⟩) ?_
      rotate_left
      focus (intro _ h; (try dsimp only at h); go_simp; (try with_reducible rfl); done)
      (try simp only [Act.put, sAr, sZe, sSu])
      refine tkY 1 (at_lit rfl) (v := ?_) (Or.inl ⟨by rfl, ?_⟩) ?_
      rotate_left
      focus (intro _ h; (try dsimp only at h); go_simp; (try with_reducible rfl); done)
      (try simp only [Act.put, sAr, sZe, sSu])
      refine tkY 2 (at_lit rfl) (v := ?_) (Or.inl ⟨by rfl, ?_⟩) ?_
      rotate_left
      focus (intro _ h; (try dsimp only at h); go_simp; (try with_reducible rfl); done)
      (try simp only [Act.put, sAr, sZe, sSu])
      refine tkY 3 (at_lit rfl) (v := ?_) (Or.inl ⟨by rfl, ?_⟩) ?_
      rotate_left
      focus (intro _ h; (try dsimp only at h); go_simp; (try with_reducible rfl); done)
      (try simp only [Act.put, sAr, sZe, sSu])
      refine tkY 4 (at_lit rfl) (v := ?_) (Or.inl ⟨by rfl, ?_⟩) ?_
      rotate_left
      focus (intro _ h; (try dsimp only at h); go_simp; (try with_reducible rfl); done)
      (try simp only [Act.put, sAr, sZe, sSu])
      refine tkY 5 (at_lit rfl) (v := ?_) (Or.inl ⟨by rfl, ?_⟩) ?_
      rotate_left
      focus (intro _ h; (try dsimp only at h); go_simp; (try with_reducible rfl); done)
      (try simp only [Act.put, sAr, sZe, sSu])
      refine tkY 6 (at_lit rfl) (v := ?_) (Or.inl ⟨by rfl, ?_⟩) ?_
      rotate_left
      focus (intro _ h; (try dsimp only at h); go_simp; (try with_reducible rfl); done)
      (try simp only [Act.put, sAr, sZe, sSu])
      refine tkY 7 (at_lit rfl) (v := ?_) (Or.inl ⟨by rfl, ?_⟩) ?_
      rotate_left
      focus (intro _ h; (try dsimp only at h); go_simp; (try with_reducible rfl); done)
      (try simp only [Act.put, sAr, sZe, sSu])
      refine tkY 8 (at_lit rfl) (v := ?_) (Or.inl ⟨by rfl, ?_⟩) ?_
      rotate_left
      focus (intro _ h; (try dsimp only at h); go_simp; (try with_reducible rfl); done)
      (try simp only [Act.put, sAr, sZe, sSu])
      refine tkY 9 (at_lit rfl) (v := ?_) (Or.inl ⟨by rfl, ?_⟩) ?_
      rotate_left
      focus (intro _ h; (try dsimp only at h); go_simp; (try with_reducible rfl); done)
      (try simp only [Act.put, sAr, sZe, sSu])
      refine wpAnyH_ready (rs := [10]) (by kernel_rfl) (by simp) ?_
      refine AllReadyH.cons (o := _) (at_lit rfl) (fun K hK => ?_) AllReadyH.nil
      go_simp
      go_at_call 12
      refine hd1.mono ?_
      rintro e w5 ⟨rfl, v5, hb5⟩
      have hs5 : (fun v => v.cell? ⟨k.g, 0, none⟩ = some (.pointer (some ⟨k.s.x, 0, none⟩)) ∧ v.cell? ⟨k.g, 3, none⟩ = some (.int .i64 k.r0) ∧ v.cell? ⟨k.g, 4, none⟩ = some (.int .i64 k.r1)) w5 := ⟨hb5.2.1.cell 0, hb5.2.1.cell 3, hb5.2.1.cell 4⟩
      have hd2 := bk_not H3.out HN.out (j := 0) (by omega) hb5
      have HB5 := Lib.hid hb5
      clear hd1 hb5 hs0
      go_wp2_with fail
      refine hK.out _ _ ?_ (fun hHeld => ?_)
      focus exact hs5
      clear hK K
      (try simp only [Act.put, sAr, sZe, sSu])
      refine tkY 11 (at_lit rfl) (v := ?_) (Or.inl ⟨by rfl, ?_⟩) ?_
      rotate_left
      focus (intro _ h; (try dsimp only at h); go_simp; (try with_reducible rfl); done)
      (try simp only [Act.put, sAr, sZe, sSu])
      refine tkY 12 (at_lit rfl) (v := ?_) (Or.inl ⟨by rfl, ?_⟩) ?_
      rotate_left
      focus (intro _ h; (try dsimp only at h); go_simp; (try with_reducible rfl); done)
      (try simp only [Act.put, sAr, sZe, sSu])
      refine tkY 13 (at_lit rfl) (v := ?_) (Or.inl ⟨by rfl, ?_⟩) ?_
      rotate_left
      focus (intro _ h; (try dsimp only at h); go_simp; (try with_reducible rfl); done)
      (try simp only [Act.put, sAr, sZe, sSu])
      refine tkY 14 (at_lit rfl) (v := ?_) (Or.inl ⟨by rfl, ?_⟩) ?_
      rotate_left
      focus (intro _ h; (try dsimp only at h); go_simp; (try with_reducible rfl); done)
      (try simp only [Act.put, sAr, sZe, sSu])
      refine tkY 15 (at_lit rfl) (v := ?_) (Or.inl ⟨by rfl, ?_⟩) ?_
      rotate_left
      focus (intro _ h; (try dsimp only at h); go_simp; (try with_reducible rfl); done)
      (try simp only [Act.put, sAr, sZe, sSu])
      refine tkY 16 (at_lit rfl) (v := ?_) (Or.inl ⟨by rfl, ?_⟩) ?_
      rotate_left
      focus (intro _ h; (try dsimp only at h); go_simp; (try with_reducible rfl); done)
      (try simp only [Act.put, sAr, sZe, sSu])
      refine tkY 17 (at_lit rfl) (v := ?_) (Or.inl ⟨by rfl, ?_⟩) ?_
      rotate_left
      focus (intro _ h; (try dsimp only at h); go_simp; (try with_reducible rfl); done)
      (try simp only [Act.put, sAr, sZe, sSu])
      refine tkY 18 (at_lit rfl) (v := ?_) (Or.inl ⟨by rfl, ?_⟩) ?_
      rotate_left
      focus (intro _ h; (try dsimp only at h); go_simp; (try with_reducible rfl); done)
      (try simp only [Act.put, sAr, sZe, sSu])
      refine tkY 19 (at_lit rfl) (v := ?_) (Or.inl ⟨by rfl, ?_⟩) ?_
      rotate_left
      focus (intro _ h; (try dsimp only at h); go_simp; (try with_reducible rfl); done)
      (try simp only [Act.put, sAr, sZe, sSu])
      refine tkY 20 (at_lit rfl) (v := ?_) (Or.inl ⟨by rfl, ?_⟩) ?_
      rotate_left
      focus (intro _ h; (try dsimp only at h); go_simp; (try with_reducible rfl); done)
      (try simp only [Act.put, sAr, sZe, sSu])
      refine tkY 21 (at_lit rfl) (v := ?_) (Or.inl ⟨by rfl, ?_⟩) ?_
      rotate_left
      focus (intro _ h; (try dsimp only at h); go_simp; (try with_reducible rfl); done)
      (try simp only [Act.put, sAr, sZe, sSu])
      refine tkY 22 (at_lit rfl) (v := ?_) (Or.inl ⟨by rfl, ?_⟩) ?_
      rotate_left
      focus (intro _ h; (try dsimp only at h); go_simp; (try with_reducible rfl); done)
      (try simp only [Act.put, sAr, sZe, sSu])
      refine wpAnyH_ready (rs := [23]) (by kernel_rfl) (by simp) ?_
      refine AllReadyH.cons (o := _) (at_lit rfl) (fun K hK => ?_) AllReadyH.nil
      go_simp
      go_at_call 12
      refine hd2.mono ?_
      rintro e w6 ⟨rfl, b6⟩
      have hb6 := HB5.out.call b6
      have hs6 : (fun v => v.cell? ⟨k.g, 0, none⟩ = some (.pointer (some ⟨k.s.x, 0, none⟩)) ∧ v.cell? ⟨k.g, 3, none⟩ = some (.int .i64 k.r0) ∧ v.cell? ⟨k.g, 4, none⟩ = some (.int .i64 k.r1)) w6 := ⟨hb6.2.1.cell 0, hb6.2.1.cell 3, hb6.2.1.cell 4⟩
      have hc := bk_count H3.out HN.out (j := 0) (by omega) hb6
      have HB6 := Lib.hid hb6
      clear hd2 hb6 hs5 b6
      go_wp2_with fail
      refine hK.out _ _ ?_ (fun hHeld => ?_)
      focus exact hs6
      clear hK K
      (try simp only [Act.put, sAr, sZe, sSu])
      refine tkY 24 (at_lit rfl) (v := ?_) (Or.inl ⟨by rfl, ?_⟩) ?_
      rotate_left
      focus (intro _ h; (try dsimp only at h); go_simp; (try with_reducible rfl); done)
      (try simp only [Act.put, sAr, sZe, sSu])
      refine tkY 25 (at_lit rfl) (v := ?_) (Or.inl ⟨by rfl, ?_⟩) ?_
      rotate_left
      focus (intro _ h; (try dsimp only at h); go_simp; (try with_reducible rfl); done)
      (try simp only [Act.put, sAr, sZe, sSu])
      refine tkY 26 (at_lit rfl) (v := ?_) (Or.inl ⟨by rfl, ?_⟩) ?_
      rotate_left
      focus (intro _ h; (try dsimp only at h); go_simp; (try with_reducible rfl); done)
      (try simp only [Act.put, sAr, sZe, sSu])
      refine tkY 27 (at_lit rfl) (v := ?_) (Or.inl ⟨by rfl, ?_⟩) ?_
      rotate_left
      focus (intro _ h; (try dsimp only at h); go_simp; (try with_reducible rfl); done)
      (try simp only [Act.put, sAr, sZe, sSu])
      refine tkY 28 (at_lit rfl) (v := ?_) (Or.inl ⟨by rfl, ?_⟩) ?_
      rotate_left
      focus (intro _ h; (try dsimp only at h); go_simp; (try with_reducible rfl); done)
      (try simp only [Act.put, sAr, sZe, sSu])
      refine tkY 29 (at_lit rfl) (v := ?_) (Or.inl ⟨by rfl, ?_⟩) ?_
      rotate_left
      focus (intro _ h; (try dsimp only at h); go_simp; (try with_reducible rfl); done)
      (try simp only [Act.put, sAr, sZe, sSu])
      refine tkY 30 (at_lit rfl) (v := ?_) (Or.inl ⟨by rfl, ?_⟩) ?_
      rotate_left
      focus (intro _ h; (try dsimp only at h); go_simp; (try with_reducible rfl); done)
      (try simp only [Act.put, sAr, sZe, sSu])
      refine tkY 31 (at_lit rfl) (v := ?_) (Or.inl ⟨by rfl, ?_⟩) ?_
      rotate_left
      focus (intro _ h; (try dsimp only at h); go_simp; (try with_reducible rfl); done)
      (try simp only [Act.put, sAr, sZe, sSu])
      refine tkY 32 (at_lit rfl) (v := ?_) (Or.inl ⟨by rfl, ?_⟩) ?_
      rotate_left
      focus (intro _ h; (try dsimp only at h); go_simp; (try with_reducible rfl); done)
      (try simp only [Act.put, sAr, sZe, sSu])
      refine tkY 33 (at_lit rfl) (v := ?_) (Or.inl ⟨by rfl, ?_⟩) ?_
      rotate_left
      focus (intro _ h; (try dsimp only at h); go_simp; (try with_reducible rfl); done)
      (try simp only [Act.put, sAr, sZe, sSu])
      refine tkY 34 (at_lit rfl) (v := ?_) (Or.inl ⟨by rfl, ?_⟩) ?_
      rotate_left
      focus (intro _ h; (try dsimp only at h); go_simp; (try with_reducible rfl); done)
      (try simp only [Act.put, sAr, sZe, sSu])
      refine tkY 35 (at_lit rfl) (v := ?_) (Or.inl ⟨by rfl, ?_⟩) ?_
      rotate_left
      focus (intro _ h; (try dsimp only at h); go_simp; (try with_reducible rfl); done)
      (try simp only [Act.put, sAr, sZe, sSu])
      refine tkY 36 (at_lit rfl) (v := ?_) (Or.inl ⟨by rfl, ?_⟩) ?_
      rotate_left
      focus (intro _ h; (try dsimp only at h); go_simp; (try with_reducible rfl); done)
      (try simp only [Act.put, sAr, sZe, sSu])
      refine wpAnyH_ready (rs := [37]) (by kernel_rfl) (by simp) ?_
      refine AllReadyH.cons (o := _) (at_lit rfl) (fun K hK => ?_) AllReadyH.nil
      go_simp
      go_at_call 13
      refine hc.mono ?_
      rintro e w7 ⟨rfl, b7⟩
      have hb7 := HB6.out.call b7
      have hs7 : (fun v => v.cell? ⟨k.g, 0, none⟩ = some (.pointer (some ⟨k.s.x, 0, none⟩)) ∧ v.cell? ⟨k.g, 3, none⟩ = some (.int .i64 k.r0) ∧ v.cell? ⟨k.g, 4, none⟩ = some (.int .i64 k.r1)) w7 := ⟨hb7.2.1.cell 0, hb7.2.1.cell 3, hb7.2.1.cell 4⟩
      have HB7 := Lib.hid hb7
      clear hc hb7 hs6 b7
      go_wp2_with fail
      refine hK.out _ _ ?_ (fun hHeld => ?_)
      focus exact hs7
      clear hK K
      (try simp only [Act.put, sAr, sZe, sSu])
      refine tkY 38 (at_lit rfl) (v := ?_) (Or.inl ⟨by rfl, ?_⟩) ?_
      rotate_left
      focus (intro _ h; (try dsimp only at h); go_simp; (try with_reducible rfl); done)
      (try simp only [Act.put, sAr, sZe, sSu])
      refine tkY 39 (at_lit rfl) (v := ?_) (Or.inl ⟨by rfl, ?_⟩) ?_
      rotate_left
      focus (intro _ h; (try dsimp only at h); go_simp; (try with_reducible rfl); done)
      (try simp only [Act.put, sAr, sZe, sSu])
      refine wpAnyH_done (by kernel_rfl) ?_ _
      go_wp2_with fail
      go_roundw
      case rel => exact Or.inr (Or.inl ⟨rfl, v5, HB7.out⟩)
      case measure => simp [RowKit.intOf]
    · skip
      go_wp2_with fail
      have hs0 : (fun v => v.cell? ⟨k.g, 0, none⟩ = some (.pointer (some ⟨k.s.x, 0, none⟩)) ∧ v.cell? ⟨k.g, 3, none⟩ = some (.int .i64 k.r0) ∧ v.cell? ⟨k.g, 4, none⟩ = some (.int .i64 k.r1)) wr.drew := ⟨hbk.2.1.cell 0, hbk.2.1.cell 3, hbk.2.1.cell 4⟩
      refine wp_region_held_drew (S := (fun v => v.cell? ⟨k.g, 0, none⟩ = some (.pointer (some ⟨k.s.x, 0, none⟩)) ∧ v.cell? ⟨k.g, 3, none⟩ = some (.int .i64 k.r0) ∧ v.cell? ⟨k.g, 4, none⟩ = some (.int .i64 k.r1))) (by kernel_rfl) hs0 (fun hHeld => ?_)
      have hb1 := hbk.call (drewN_b (Below.refl wr.heap.size wr) 1)
      have hb1 : Bk w wr.drew k vr ws L lf 1 := hb1
      generalize wr.drew = w4 at hHeld hs0 hb1 ⊢
      have hd1 := bk_drop H3.out HN.out (j := 1) (by omega) hb1
      have HB1 := Lib.hid hb1
      clear hbk hb1
      refine tkY 0 (at_lit rfl) (v := ?_) (Or.inl ⟨by rfl, ?_⟩) ?_
      rotate_left
      focus (intro _ h; (try dsimp only at h); go_simp; (try with_reducible rfl); done)
      (try simp only [Act.put, sAr, sZe, sSu])
      refine tkY 1 (at_lit rfl) (v := ?_) (Or.inl ⟨by rfl, ?_⟩) ?_
      rotate_left
      focus (intro _ h; (try dsimp only at h); go_simp; (try with_reducible rfl); done)
      (try simp only [Act.put, sAr, sZe, sSu])
      refine tkY 2 (at_lit rfl) (v := ?_) (Or.inl ⟨by rfl, ?_⟩) ?_
      rotate_left
      focus (intro _ h; (try dsimp only at h); go_simp; (try with_reducible rfl); done)
      (try simp only [Act.put, sAr, sZe, sSu])
      refine tkY 3 (at_lit rfl) (v := ?_) (Or.inl ⟨by rfl, ?_⟩) ?_
      rotate_left
      focus (intro _ h; (try dsimp only at h); go_simp; (try with_reducible rfl); done)
      (try simp only [Act.put, sAr, sZe, sSu])
      refine tkY 4 (at_lit rfl) (v := ?_) (Or.inl ⟨by rfl, ?_⟩) ?_
      rotate_left
      focus (intro _ h; (try dsimp only at h); go_simp; (try with_reducible rfl); done)
      (try simp only [Act.put, sAr, sZe, sSu])
      refine tkY 5 (at_lit rfl) (v := ?_) (Or.inl ⟨by rfl, ?_⟩) ?_
      rotate_left
      focus (intro _ h; (try dsimp only at h); go_simp; (try with_reducible rfl); done)
      (try simp only [Act.put, sAr, sZe, sSu])
      refine tkY 6 (at_lit rfl) (v := ?_) (Or.inl ⟨by rfl, ?_⟩) ?_
      rotate_left
      focus (intro _ h; (try dsimp only at h); go_simp; (try with_reducible rfl); done)
      (try simp only [Act.put, sAr, sZe, sSu])
      refine tkY 7 (at_lit rfl) (v := ?_) (Or.inl ⟨by rfl, ?_⟩) ?_
      rotate_left
      focus (intro _ h; (try dsimp only at h); go_simp; (try with_reducible rfl); done)
      (try simp only [Act.put, sAr, sZe, sSu])
      refine tkY 8 (at_lit rfl) (v := ?_) (Or.inl ⟨by rfl, ?_⟩) ?_
      rotate_left
      focus (intro _ h; (try dsimp only at h); go_simp; (try with_reducible rfl); done)
      (try simp only [Act.put, sAr, sZe, sSu])
      refine tkY 9 (at_lit rfl) (v := ?_) (Or.inl ⟨by rfl, ?_⟩) ?_
      rotate_left
      focus (intro _ h; (try dsimp only at h); go_simp; (try with_reducible rfl); done)
      (try simp only [Act.put, sAr, sZe, sSu])
      refine wpAnyH_ready (rs := [10]) (by kernel_rfl) (by simp) ?_
      refine AllReadyH.cons (o := _) (at_lit rfl) (fun K hK => ?_) AllReadyH.nil
      go_simp
      go_at_call 12
      refine hd1.mono ?_
      rintro e w5 ⟨rfl, v5, hb5⟩
      have hs5 : (fun v => v.cell? ⟨k.g, 0, none⟩ = some (.pointer (some ⟨k.s.x, 0, none⟩)) ∧ v.cell? ⟨k.g, 3, none⟩ = some (.int .i64 k.r0) ∧ v.cell? ⟨k.g, 4, none⟩ = some (.int .i64 k.r1)) w5 := ⟨hb5.2.1.cell 0, hb5.2.1.cell 3, hb5.2.1.cell 4⟩
      have hd2 := bk_not H3.out HN.out (j := 1) (by omega) hb5
      have HB5 := Lib.hid hb5
      clear hd1 hb5 hs0
      go_wp2_with fail
      refine hK.out _ _ ?_ (fun hHeld => ?_)
      focus exact hs5
      clear hK K
      (try simp only [Act.put, sAr, sZe, sSu])
      refine tkY 11 (at_lit rfl) (v := ?_) (Or.inl ⟨by rfl, ?_⟩) ?_
      rotate_left
      focus (intro _ h; (try dsimp only at h); go_simp; (try with_reducible rfl); done)
      (try simp only [Act.put, sAr, sZe, sSu])
      refine tkY 12 (at_lit rfl) (v := ?_) (Or.inl ⟨by rfl, ?_⟩) ?_
      rotate_left
      focus (intro _ h; (try dsimp only at h); go_simp; (try with_reducible rfl); done)
      (try simp only [Act.put, sAr, sZe, sSu])
      refine tkY 13 (at_lit rfl) (v := ?_) (Or.inl ⟨by rfl, ?_⟩) ?_
      rotate_left
      focus (intro _ h; (try dsimp only at h); go_simp; (try with_reducible rfl); done)
      (try simp only [Act.put, sAr, sZe, sSu])
      refine tkY 14 (at_lit rfl) (v := ?_) (Or.inl ⟨by rfl, ?_⟩) ?_
      rotate_left
      focus (intro _ h; (try dsimp only at h); go_simp; (try with_reducible rfl); done)
      (try simp only [Act.put, sAr, sZe, sSu])
      refine tkY 15 (at_lit rfl) (v := ?_) (Or.inl ⟨by rfl, ?_⟩) ?_
      rotate_left
      focus (intro _ h; (try dsimp only at h); go_simp; (try with_reducible rfl); done)
      (try simp only [Act.put, sAr, sZe, sSu])
      refine tkY 16 (at_lit rfl) (v := ?_) (Or.inl ⟨by rfl, ?_⟩) ?_
      rotate_left
      focus (intro _ h; (try dsimp only at h); go_simp; (try with_reducible rfl); done)
      (try simp only [Act.put, sAr, sZe, sSu])
      refine tkY 17 (at_lit rfl) (v := ?_) (Or.inl ⟨by rfl, ?_⟩) ?_
      rotate_left
      focus (intro _ h; (try dsimp only at h); go_simp; (try with_reducible rfl); done)
      (try simp only [Act.put, sAr, sZe, sSu])
      refine tkY 18 (at_lit rfl) (v := ?_) (Or.inl ⟨by rfl, ?_⟩) ?_
      rotate_left
      focus (intro _ h; (try dsimp only at h); go_simp; (try with_reducible rfl); done)
      (try simp only [Act.put, sAr, sZe, sSu])
      refine tkY 19 (at_lit rfl) (v := ?_) (Or.inl ⟨by rfl, ?_⟩) ?_
      rotate_left
      focus (intro _ h; (try dsimp only at h); go_simp; (try with_reducible rfl); done)
      (try simp only [Act.put, sAr, sZe, sSu])
      refine tkY 20 (at_lit rfl) (v := ?_) (Or.inl ⟨by rfl, ?_⟩) ?_
      rotate_left
      focus (intro _ h; (try dsimp only at h); go_simp; (try with_reducible rfl); done)
      (try simp only [Act.put, sAr, sZe, sSu])
      refine tkY 21 (at_lit rfl) (v := ?_) (Or.inl ⟨by rfl, ?_⟩) ?_
      rotate_left
      focus (intro _ h; (try dsimp only at h); go_simp; (try with_reducible rfl); done)
      (try simp only [Act.put, sAr, sZe, sSu])
      refine tkY 22 (at_lit rfl) (v := ?_) (Or.inl ⟨by rfl, ?_⟩) ?_
      rotate_left
      focus (intro _ h; (try dsimp only at h); go_simp; (try with_reducible rfl); done)
      (try simp only [Act.put, sAr, sZe, sSu])
      refine wpAnyH_ready (rs := [23]) (by kernel_rfl) (by simp) ?_
      refine AllReadyH.cons (o := _) (at_lit rfl) (fun K hK => ?_) AllReadyH.nil
      go_simp
      go_at_call 12
      refine hd2.mono ?_
      rintro e w6 ⟨rfl, b6⟩
      have hb6 := HB5.out.call b6
      have hs6 : (fun v => v.cell? ⟨k.g, 0, none⟩ = some (.pointer (some ⟨k.s.x, 0, none⟩)) ∧ v.cell? ⟨k.g, 3, none⟩ = some (.int .i64 k.r0) ∧ v.cell? ⟨k.g, 4, none⟩ = some (.int .i64 k.r1)) w6 := ⟨hb6.2.1.cell 0, hb6.2.1.cell 3, hb6.2.1.cell 4⟩
      have hc := bk_count H3.out HN.out (j := 1) (by omega) hb6
      have HB6 := Lib.hid hb6
      clear hd2 hb6 hs5 b6
      go_wp2_with fail
      refine hK.out _ _ ?_ (fun hHeld => ?_)
      focus exact hs6
      clear hK K
      (try simp only [Act.put, sAr, sZe, sSu])
      refine tkY 24 (at_lit rfl) (v := ?_) (Or.inl ⟨by rfl, ?_⟩) ?_
      rotate_left
      focus (intro _ h; (try dsimp only at h); go_simp; (try with_reducible rfl); done)
      (try simp only [Act.put, sAr, sZe, sSu])
      refine tkY 25 (at_lit rfl) (v := ?_) (Or.inl ⟨by rfl, ?_⟩) ?_
      rotate_left
      focus (intro _ h; (try dsimp only at h); go_simp; (try with_reducible rfl); done)
      (try simp only [Act.put, sAr, sZe, sSu])
      refine tkY 26 (at_lit rfl) (v := ?_) (Or.inl ⟨by rfl, ?_⟩) ?_
      rotate_left
      focus (intro _ h; (try dsimp only at h); go_simp; (try with_reducible rfl); done)
      (try simp only [Act.put, sAr, sZe, sSu])
      refine tkY 27 (at_lit rfl) (v := ?_) (Or.inl ⟨by rfl, ?_⟩) ?_
      rotate_left
      focus (intro _ h; (try dsimp only at h); go_simp; (try with_reducible rfl); done)
      (try simp only [Act.put, sAr, sZe, sSu])
      refine tkY 28 (at_lit rfl) (v := ?_) (Or.inl ⟨by rfl, ?_⟩) ?_
      rotate_left
      focus (intro _ h; (try dsimp only at h); go_simp; (try with_reducible rfl); done)
      (try simp only [Act.put, sAr, sZe, sSu])
      refine tkY 29 (at_lit rfl) (v := ?_) (Or.inl ⟨by rfl, ?_⟩) ?_
      rotate_left
      focus (intro _ h; (try dsimp only at h); go_simp; (try with_reducible rfl); done)
      (try simp only [Act.put, sAr, sZe, sSu])
      refine tkY 30 (at_lit rfl) (v := ?_) (Or.inl ⟨by rfl, ?_⟩) ?_
      rotate_left
      focus (intro _ h; (try dsimp only at h); go_simp; (try with_reducible rfl); done)
      (try simp only [Act.put, sAr, sZe, sSu])
      refine tkY 31 (at_lit rfl) (v := ?_) (Or.inl ⟨by rfl, ?_⟩) ?_
      rotate_left
      focus (intro _ h; (try dsimp only at h); go_simp; (try with_reducible rfl); done)
      (try simp only [Act.put, sAr, sZe, sSu])
      refine tkY 32 (at_lit rfl) (v := ?_) (Or.inl ⟨by rfl, ?_⟩) ?_
      rotate_left
      focus (intro _ h; (try dsimp only at h); go_simp; (try with_reducible rfl); done)
      (try simp only [Act.put, sAr, sZe, sSu])
      refine tkY 33 (at_lit rfl) (v := ?_) (Or.inl ⟨by rfl, ?_⟩) ?_
      rotate_left
      focus (intro _ h; (try dsimp only at h); go_simp; (try with_reducible rfl); done)
      (try simp only [Act.put, sAr, sZe, sSu])
      refine tkY 34 (at_lit rfl) (v := ?_) (Or.inl ⟨by rfl, ?_⟩) ?_
      rotate_left
      focus (intro _ h; (try dsimp only at h); go_simp; (try with_reducible rfl); done)
      (try simp only [Act.put, sAr, sZe, sSu])
      refine tkY 35 (at_lit rfl) (v := ?_) (Or.inl ⟨by rfl, ?_⟩) ?_
      rotate_left
      focus (intro _ h; (try dsimp only at h); go_simp; (try with_reducible rfl); done)
      (try simp only [Act.put, sAr, sZe, sSu])
      refine tkY 36 (at_lit rfl) (v := ?_) (Or.inl ⟨by rfl, ?_⟩) ?_
      rotate_left
      focus (intro _ h; (try dsimp only at h); go_simp; (try with_reducible rfl); done)
      (try simp only [Act.put, sAr, sZe, sSu])
      refine wpAnyH_ready (rs := [37]) (by kernel_rfl) (by simp) ?_
      refine AllReadyH.cons (o := _) (at_lit rfl) (fun K hK => ?_) AllReadyH.nil
      go_simp
      go_at_call 13
      refine hc.mono ?_
      rintro e w7 ⟨rfl, b7⟩
      have hb7 := HB6.out.call b7
      have hs7 : (fun v => v.cell? ⟨k.g, 0, none⟩ = some (.pointer (some ⟨k.s.x, 0, none⟩)) ∧ v.cell? ⟨k.g, 3, none⟩ = some (.int .i64 k.r0) ∧ v.cell? ⟨k.g, 4, none⟩ = some (.int .i64 k.r1)) w7 := ⟨hb7.2.1.cell 0, hb7.2.1.cell 3, hb7.2.1.cell 4⟩
      have HB7 := Lib.hid hb7
      clear hc hb7 hs6 b7
      go_wp2_with fail
      refine hK.out _ _ ?_ (fun hHeld => ?_)
      focus exact hs7
      clear hK K
      (try simp only [Act.put, sAr, sZe, sSu])
      refine tkY 38 (at_lit rfl) (v := ?_) (Or.inl ⟨by rfl, ?_⟩) ?_
      rotate_left
      focus (intro _ h; (try dsimp only at h); go_simp; (try with_reducible rfl); done)
      (try simp only [Act.put, sAr, sZe, sSu])
      refine tkY 39 (at_lit rfl) (v := ?_) (Or.inl ⟨by rfl, ?_⟩) ?_
      rotate_left
      focus (intro _ h; (try dsimp only at h); go_simp; (try with_reducible rfl); done)
      (try simp only [Act.put, sAr, sZe, sSu])
      refine wpAnyH_done (by kernel_rfl) ?_ _
      go_wp2_with fail
      go_roundw
      case rel => exact Or.inr (Or.inr ⟨rfl, v5, HB7.out⟩)
      case measure => simp [RowKit.intOf]
    · have hmk : (Instr.makeSlice 49 (.int .i64 512) (.int .i64 512)).run Try.prog wr = .ok (.slice (some ⟨wr.heap.size, 0, none⟩) 512 512) (wr.alloc (.cells (madeCells #[.bool false] 512) 4)) :=
        run_make_row' (P := Try.prog) 49 4 (.bool false) 1 Try.underlying49 info_bool8 rfl .i64 .i64 512 (by omega) (by omega) wr
      obtain ⟨mb, hmb⟩ : ∃ mb, mb = wr.heap.size := ⟨_, rfl⟩
      obtain ⟨w4, hw4⟩ : ∃ w4, w4 = wr.alloc (.cells (madeCells #[.bool false] 512) 4) := ⟨_, rfl⟩
      obtain ⟨M, hM⟩ : ∃ M, M = bkL k ws L 2 := ⟨_, rfl⟩
      have hmet : Row w4 mb 4 (metF M 0) := by
        rw [hw4, hmb, metF_zero, ← made_bools]
        simpa using Row.new wr 4 (madeCells #[Value.bool false] 512).toList
      have hb4 : Below wr.heap.size wr w4 := by rw [hw4]; exact (Below.refl _ _).alloc (Nat.le_refl _) _
      rw [← hw4, ← hmb] at hmk
      obtain ⟨q1, q2, q3⟩ := H3.out.backs
      rw [← hM] at q1 q2 q3
      have HM := Lib.hid (And.intro q1 (And.intro q2 q3))
      have HBK := Lib.hid hbk
      have HMM := Lib.hid hM
      have HMB : Hid (wr.heap.size ≤ mb) := Nat.le_of_eq hmb.symm
      have HMET := Lib.hid (And.intro hmet hb4)
      obtain ⟨N, hN⟩ : ∃ N, N = M.length := ⟨_, rfl⟩
      have HNN := Lib.hid hN
      have hNm : (N : Int) = (m : Int) + 2 := by have := HKN.out; have := q1; omega
      have HNM := Lib.hid hNm
      clear hw4 hmb hmet hb4 hbk q1 q2 q3 hM hN hNm
      go_wp2_with fail
      go_loopw [9] (fun i wx => ∃ j : Nat, j ≤ N ∧ i = .int .i64 j ∧ Row wx mb 4 (metF M j) ∧ Below wr.heap.size wr wx) (fun i _ => N - (RowKit.intOf i).toNat)
      case atStart => exact ⟨0, by omega, rfl, HMET.out.1, HMET.out.2⟩
      case round =>
        clear hmk
        obtain ⟨j, hj, rfl, hmet, hbx⟩ := hrel
        have hbk := HBK.out.call hbx
        have htab := hbk.1
        rw [← HMM.out] at htab
        obtain ⟨Ac, cc, hvc⟩ := own_form htab.bag.row
        subst hvc
        have g2 : wr.cell? ⟨k.g, 2, none⟩ = some (.pointer (some ⟨k.s.y, 0, none⟩)) := hbk.2.1.cell 2
        have y0 : wr.cell? ⟨k.s.y, 0, none⟩ = some (.slice Ac N cc) := by rw [HNN.out]; exact htab.bag.top.cell 0
        by_cases hlt : j < N
        · have hjM : j < M.length := by have := HNN.out; omega
          obtain ⟨ga, rfl⟩ : ∃ ga, Ac = some ⟨ga, 0, none⟩ := by
            rcases htab.bag.row.2 with ⟨e, _⟩ | ⟨g', cap, cur, e, _⟩
            · injection e with _ e2 _
              omega
            · injection e with e1 _ _
              exact ⟨g', e1⟩
          have hfm : M[j] ∈ M := List.getElem_mem hjM
          obtain ⟨f0, f1⟩ := HM.out.2.2 _ hfm
          obtain ⟨f, hf⟩ : ∃ f : Nat, M[j] = (f : Int) := ⟨M[j].toNat, by omega⟩
          have hfe : M[j]? = some (f : Int) := by rw [List.getElem?_eq_getElem hjM, hf]
          have hf5 : f < 512 := by omega
          have d0 : wr.cell? ⟨ga, j, none⟩ = some (.int .i64 (f : Int)) := by
            have := World.ownsRow.cellAt htab.bag.row j (by omega)
            rw [this, List.getElem?_map, hfe]; rfl
          have d1 : wr.cell? ⟨mb, f, none⟩ = some (.bool false) := by
            have := hmet.cell f
            rw [metF_get M j hf5, decide_eq_false (met_no HM.out.2.1 hfe)] at this
            exact this
          have y1 := hmet.frozen f
          have hnx := hmet.set_ f (.bool true)
          rw [metF_next hf5 hfe] at hnx
          have HK9 := Lib.hid (And.intro hnx (hbx.setCell (p := ⟨mb, f, none⟩) HMB.out (.bool true)))
          have j1 : (j : Int) < N := by omega
          have j0 : (0 : Int) ≤ j := by omega
          have fl : (f : Int) < 512 := by omega
          have fl0 : (0 : Int) ≤ f := by omega
          have fl1 : ¬ (f : Int) < 0 := by omega
          have hw3 : IntKind.i64.wrap ((j : Int) + 1) = (j : Int) + 1 := IntWalk.i64_in _ (by have := HNM.out; omega)
          clear hbk htab hmet hbx hnx hfm f0 f1 hf hfe hf5 hjM
          go_wp2_with fail
          go_roundw
          case rel => exact ⟨j + 1, by omega, by go_num, HK9.out.1, HK9.out.2⟩
          case measure => simp [RowKit.intOf]; omega
        · have hjN : j = N := by omega
          subst hjN
          have hEnd : Hid (Below w.heap.size w wr) := hbk.2.2
          have hnm := HNM.out
          clear hbk htab hmet hbx
          go_wp2_with fail
          go_ret
          exact ⟨ret_bool (by simp), hEnd.out⟩
end Go.Proofs.Ytpcpcgbejinlmaa
