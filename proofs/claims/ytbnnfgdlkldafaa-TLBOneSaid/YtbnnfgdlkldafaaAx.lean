/- The law TLBOne, walked. -/
import Derived.Test.YtbnnfgdlkldafaaAw
namespace Go.Proofs.Ytbnnfgdlkldafaa
open Go.RowKit
theorem CdAt.call {w w' : World} {g o : Nat} {c : Cd} (h : CdAt w ⟨g, o, none⟩ c) (hb : Below w.heap.size w w') (hg : g < w.heap.size) : CdAt w' ⟨g, o, none⟩ c := h.heap (hb.block g hg)
theorem far_at {L : List Cd} (h : L.Pairwise Far) {i k : Nat} (hi : i < L.length) (hk : k < i) : Far (L[k]'(by omega)) L[i] := (List.pairwise_iff_getElem.1 h) k i (by omega) hi hk
set_option maxHeartbeats 4000000 in
set_option maxRecDepth 100000 in
theorem one9_walk (A : Option Addr) (n c : Nat) (z : Int) (w : World) (hA : Kls w w.heap.size A n) (hz : 0 ≤ z ∧ z < 256) :
    Calls Try.prog 4 #[.int .u8 z, .slice A n c] w fun e w' => e = .returned (.bool true) ∧ Below w.heap.size w w' := by
  obtain ⟨m, rfl⟩ : ∃ m : Nat, z = m := ⟨z.toNat, by omega⟩
  have hm256 : (m : Int) < 256 := hz.2
  have HG0 := Lib.hid (Below.refl w.heap.size w)
  have hm := made_any (m % 64 + 1) (by omega) (by omega) A n c w.heap.size w hA (HG0.out).size
  rw [show ((m % 64 + 1 : Nat) : Int) = (m : Int) % 64 + 1 by omega] at hm
  have HM := Lib.hid hm
  have m0 : (0 : Int) ≤ (m : Int) % 64 := by omega
  have m64 : (m : Int) % 64 < 64 := by omega
  clear hm
  clear hA hz
  go_enter Try.func4, Try.ntmps4
  go_wp2_with fail
  refine HM.out.mono ?_
  rintro e w2 ⟨ta, xa, rfl, tv, xv, L, hst, hb2⟩
  have HST2 := Lib.hid hst
  have HZ2 := Lib.hid hb2
  have HB2 := Lib.hid ((HG0.out).trans (hb2.mono (HG0.out).size))
  clear hst hb2
  go_wp2_with fail
  refine (awake_any _).mono ?_
  rintro e w3 ⟨rfl, hb3⟩
  have HZ3 := Lib.hid hb3
  have HST3 := Lib.hid (HST2.out.call hb3)
  have HB3 := Lib.hid (HB2.out.trans (hb3.mono HB2.out.size))
  clear hb3
  have hln := lines_any HST3.out.t
  obtain ⟨nL, hnL⟩ : ∃ nL, nL = L.length := ⟨_, rfl⟩
  have hlz : (nL : Int) ≤ (m : Int) % 64 + 1 := by have := HST3.out.t.good.len; omega
  have HNL := Lib.hid hnL
  have HROK : Hid (∀ x ∈ L, ROk x) := HST3.out.t.good.ok
  have HFAR : Hid (L.Pairwise Far) := HST3.out.t.good.far
  rw [← hnL] at hln
  clear hnL
  go_wp2_with fail
  refine hln.mono ?_
  rintro e w4 ⟨A4, rfl, hl4, hb4⟩
  have HLN := Lib.hid hl4
  have HB4 := Lib.hid (HB3.out.trans (hb4.mono HB3.out.size))
  have HT4 := Lib.hid (HST3.out.call hb4).t
  clear hln hl4 hb4
  go_wp2_with fail
  go_loopw [9] (fun i wr => ∃ j : Nat, j ≤ nL ∧ i = .int .i64 j ∧ Below w4.heap.size w4 wr) (fun i _ => nL - (intOf i).toNat)
  case atStart => exact ⟨0, by omega, rfl, Below.refl _ _⟩
  case round =>
    obtain ⟨j, hj, rfl, hb⟩ := hrel
    have HB := Lib.hid hb
    by_cases hlt : j < nL
    · have hjl : j < L.length := by have := HNL.out; omega
      obtain ⟨g, rfl, hgl, -, hat⟩ := HLN.out (by omega)
      have HAT := Lib.hid hat
      have HGL := Lib.hid hgl
      obtain ⟨x, hx⟩ : ∃ x, x = L[j] := ⟨_, rfl⟩
      have hxo : ROk x := hx ▸ HROK.out _ (List.getElem_mem _)
      have HX := Lib.hid hx
      have HXO := Lib.hid hxo
      have HXA : Hid (∀ W, Below w4.heap.size w4 W → CdAt W ⟨g, j * 5, none⟩ x) := fun W hW => by rw [hx]; exact (hat j hjl).call hW hgl
      have HFX : Hid (∀ k (hk : k < j), hdB x (L[k]'(by omega)).s (L[k]'(by omega)).p = false ∧ hdB (L[k]'(by omega)) x.s x.p = false) := fun k hk => by
        have hf := far_at HFAR.out hjl hk
        rw [← hx] at hf
        exact ⟨hf.symm.one, hf.one⟩
      have HLK : Hid (lkP L x.s x.p = some x) := lk_mem HFAR.out (by rw [hx]; exact List.getElem_mem _)
      have hjN : (j : Int) < nL := by omega
      have hj0 : (0 : Int) ≤ j := by omega
      clear hat hgl hx hxo hb hj
      obtain ⟨xs, xp, xo, xf, xw⟩ := x
      go_wp2_with fail
      go_loopw [10] (fun i wr => ∃ k : Nat, k ≤ j ∧ i = .int .i64 k ∧ Below w4.heap.size w4 wr) (fun i _ => j - (intOf i).toNat)
      case atStart => exact ⟨0, by omega, rfl, HB.out⟩
      case round =>
        obtain ⟨k, hk, rfl, hb⟩ := hrel
        have HBK := Lib.hid hb
        by_cases hkj : k < j
        · have hkl : k < L.length := by omega
          obtain ⟨y, hy⟩ : ∃ y, y = L[k] := ⟨_, rfl⟩
          have hyo : ROk y := hy ▸ HROK.out _ (List.getElem_mem _)
          have hfxy := HFX.out k hkj
          rw [← hy] at hfxy
          have HYA : Hid (∀ W, Below w4.heap.size w4 W → CdAt W ⟨g, k * 5, none⟩ y) := fun W hW => by rw [hy]; exact (HAT.out k hkl).call hW HGL.out
          have hh1 := fun W => hold9_any HXO.out (s1 := y.s) (q := y.p) ⟨by have := hyo.2.2.1; omega, by have := hyo.2.2.2.1; omega⟩ W
          have hh2 := fun W => hold9_any hyo (s1 := xs) (q := xp) ⟨by have := HXO.out.2.2.1; simp at this; omega, by have := HXO.out.2.2.2.1; simp at this; omega⟩ W
          rw [hfxy.1] at hh1
          have hfxy2 := hfxy.2
          try dsimp only at hfxy2
          rw [hfxy2] at hh2
          clear hfxy2
          obtain ⟨ys, yp, yo, yf, yw⟩ := y
          dsimp only at hh1 hh2
          have hkj' : (k : Int) < j := by omega
          have hkN : (k : Int) < nL := by omega
          have hk0 : (0 : Int) ≤ k := by omega
          clear hy hyo hfxy hb hkl
          have hbd : Below w4.heap.size w4 wr.drew := below_dN HBK.out 1
          have ax0 := HXA.out _ hbd
          have ay0 := HYA.out _ hbd
          have HS0 : wr.drew.cell? ⟨g, j * 5, none⟩ = some (.int .i64 xs) ∧ wr.drew.cell? ⟨g, j * 5 + 1, none⟩ = some (.int .i64 xp) ∧ wr.drew.cell? ⟨g, j * 5 + 2, none⟩ = some (.int .i64 xo) ∧ wr.drew.cell? ⟨g, j * 5 + 3, none⟩ = some (.int .i64 xf) ∧ wr.drew.cell? ⟨g, j * 5 + 4, none⟩ = some (.bool xw) ∧ wr.drew.cell? ⟨g, k * 5, none⟩ = some (.int .i64 ys) ∧ wr.drew.cell? ⟨g, k * 5 + 1, none⟩ = some (.int .i64 yp) ∧ wr.drew.cell? ⟨g, k * 5 + 2, none⟩ = some (.int .i64 yo) ∧ wr.drew.cell? ⟨g, k * 5 + 3, none⟩ = some (.int .i64 yf) ∧ wr.drew.cell? ⟨g, k * 5 + 4, none⟩ = some (.bool yw) := ⟨ax0.c0, ax0.c1, ax0.c2, ax0.c3, ax0.c4, ay0.c0, ay0.c1, ay0.c2, ay0.c3, ay0.c4⟩
          go_wp2_with fail
          go_region_held3 (fun v => v.cell? ⟨g, j * 5, none⟩ = some (.int .i64 xs) ∧ v.cell? ⟨g, j * 5 + 1, none⟩ = some (.int .i64 xp) ∧ v.cell? ⟨g, j * 5 + 2, none⟩ = some (.int .i64 xo) ∧ v.cell? ⟨g, j * 5 + 3, none⟩ = some (.int .i64 xf) ∧ v.cell? ⟨g, j * 5 + 4, none⟩ = some (.bool xw) ∧ v.cell? ⟨g, k * 5, none⟩ = some (.int .i64 ys) ∧ v.cell? ⟨g, k * 5 + 1, none⟩ = some (.int .i64 yp) ∧ v.cell? ⟨g, k * 5 + 2, none⟩ = some (.int .i64 yo) ∧ v.cell? ⟨g, k * 5 + 3, none⟩ = some (.int .i64 yf) ∧ v.cell? ⟨g, k * 5 + 4, none⟩ = some (.bool yw))
            (first | exact HS0 | exact HS1 | exact HS2)
            (first | (go_at_call 15; with_reducible refine (hh1 _).mono ?_; rintro e w5 ⟨rfl, hb5⟩; have t5 := hbd.trans (hb5.mono hbd.size); have ax1 := HXA.out _ t5; have ay1 := HYA.out _ t5; have HS1 : w5.cell? ⟨g, j * 5, none⟩ = some (.int .i64 xs) ∧ w5.cell? ⟨g, j * 5 + 1, none⟩ = some (.int .i64 xp) ∧ w5.cell? ⟨g, j * 5 + 2, none⟩ = some (.int .i64 xo) ∧ w5.cell? ⟨g, j * 5 + 3, none⟩ = some (.int .i64 xf) ∧ w5.cell? ⟨g, j * 5 + 4, none⟩ = some (.bool xw) ∧ w5.cell? ⟨g, k * 5, none⟩ = some (.int .i64 ys) ∧ w5.cell? ⟨g, k * 5 + 1, none⟩ = some (.int .i64 yp) ∧ w5.cell? ⟨g, k * 5 + 2, none⟩ = some (.int .i64 yo) ∧ w5.cell? ⟨g, k * 5 + 3, none⟩ = some (.int .i64 yf) ∧ w5.cell? ⟨g, k * 5 + 4, none⟩ = some (.bool yw) := ⟨ax1.c0, ax1.c1, ax1.c2, ax1.c3, ax1.c4, ay1.c0, ay1.c1, ay1.c2, ay1.c3, ay1.c4⟩) | (go_at_call 15; with_reducible refine (hh2 _).mono ?_; rintro e w6 ⟨rfl, hb6⟩; have t6 := t5.trans (hb6.mono t5.size); have ax2 := HXA.out _ t6; have ay2 := HYA.out _ t6; have HS2 : w6.cell? ⟨g, j * 5, none⟩ = some (.int .i64 xs) ∧ w6.cell? ⟨g, j * 5 + 1, none⟩ = some (.int .i64 xp) ∧ w6.cell? ⟨g, j * 5 + 2, none⟩ = some (.int .i64 xo) ∧ w6.cell? ⟨g, j * 5 + 3, none⟩ = some (.int .i64 xf) ∧ w6.cell? ⟨g, j * 5 + 4, none⟩ = some (.bool xw) ∧ w6.cell? ⟨g, k * 5, none⟩ = some (.int .i64 ys) ∧ w6.cell? ⟨g, k * 5 + 1, none⟩ = some (.int .i64 yp) ∧ w6.cell? ⟨g, k * 5 + 2, none⟩ = some (.int .i64 yo) ∧ w6.cell? ⟨g, k * 5 + 3, none⟩ = some (.int .i64 yf) ∧ w6.cell? ⟨g, k * 5 + 4, none⟩ = some (.bool yw) := ⟨ax2.c0, ax2.c1, ax2.c2, ax2.c3, ax2.c4, ay2.c0, ay2.c1, ay2.c2, ay2.c3, ay2.c4⟩))
          have HT6 := Lib.hid t6
          clear HS0 HS1 HS2 ax0 ay0 ax1 ay1 ax2 ay2 t5 t6 hb5 hb6 hbd
          go_wp2_with fail
          go_roundw
          case rel => exact ⟨k + 1, by omega, by go_num, HT6.out⟩
          case measure => simp [intOf]; omega
        · have hd : ¬ (k : Int) < j := by omega
          have hbd : Below w4.heap.size w4 wr.drew := below_dN HBK.out 1
          have ax0 := HXA.out _ hbd
          have a0 : wr.drew.cell? ⟨g, j * 5, none⟩ = some (.int .i64 xs) := ax0.c0
          have a1 : wr.drew.cell? ⟨g, j * 5 + 1, none⟩ = some (.int .i64 xp) := ax0.c1
          have hlk := fun W (hW : Below w4.heap.size w4 W) => look_any (HT4.out.call hW) xs (q := xp) ⟨by have := HXO.out.2.2.1; simp at this; omega, by have := HXO.out.2.2.2.1; simp at this; omega⟩
          have hlk0 : lkP L xs xp = some ⟨xs, xp, xo, xf, xw⟩ := HLK.out
          simp only [hlk0] at hlk
          clear hlk0
          have HLO : Hid (∀ W, Below w4.heap.size w4 W → Calls Try.prog 11 #[.pointer (some ⟨ta, 0, none⟩), .int .i64 xs, .int .i64 xp] W fun e w' => e = .returned (.tuple #[.agg #[.int .i64 xs, .int .i64 xp, .int .i64 xo, .int .i64 xf, .bool xw], .bool true]) ∧ Below W.heap.size W w') := hlk
          have hrg : rgB ⟨xs, xp, xo, xf, xw⟩ = true := decide_eq_true HXO.out
          have hri := fun W => right9_any ⟨xs, xp, xo, xf, xw⟩ W
          rw [hrg] at hri
          clear hb hlk hrg ax0
          go_wp2_with fail
          go_cut [11, 12] from 78 to 92 (fun s11 s12 wx => ∃ sc, s11 = .pointer (some ⟨sc, 0, none⟩) ∧ s12 = .bool true ∧ Lrow wx sc 31 [.int .i64 xs, .int .i64 xp, .int .i64 xo, .int .i64 xf, .bool xw] ∧ Below w4.heap.size w4 wx)
          case first =>
            have hne : ¬ g = wr.heap.size := by have := HGL.out; have := HBK.out.size; omega
            have hbd2 : ∀ o, Below w4.heap.size w4 (wr.alloc o).drew := fun o => below_dN (HBK.out.alloc HBK.out.size o) 1
            have hbz := hbd2 (.cells #[.int .i64 0, .int .i64 0, .int .i64 0, .int .i64 0, .bool false] 31)
            have HLa := HLO.out _ hbd
            have HLb := HLO.out _ hbz
            have hZ1 : ∀ w6, Below (wr.alloc (.cells #[.int .i64 0, .int .i64 0, .int .i64 0, .int .i64 0, .bool false] 31)).drew.heap.size (wr.alloc (.cells #[.int .i64 0, .int .i64 0, .int .i64 0, .int .i64 0, .bool false] 31)).drew w6 → Below w4.heap.size w4 w6 := fun w6 hb6 => hbz.trans (hb6.mono hbz.size)
            have hZ2 : ∀ w6, Below (wr.alloc (.cells #[.int .i64 0, .int .i64 0, .int .i64 0, .int .i64 0, .bool false] 31)).drew.heap.size (wr.alloc (.cells #[.int .i64 0, .int .i64 0, .int .i64 0, .int .i64 0, .bool false] 31)).drew w6 → Lrow w6 wr.heap.size 31 [.int .i64 0, .int .i64 0, .int .i64 0, .int .i64 0, .bool false] := fun w6 hb6 => ((Lrow.new wr 31 [.int .i64 0, .int .i64 0, .int .i64 0, .int .i64 0, .bool false]).drewN 1).call hb6
            have hZ3 : ∀ w6, Below (wr.alloc (.cells #[.int .i64 0, .int .i64 0, .int .i64 0, .int .i64 0, .bool false] 31)).drew.heap.size (wr.alloc (.cells #[.int .i64 0, .int .i64 0, .int .i64 0, .int .i64 0, .bool false] 31)).drew w6 → w6.cell? ⟨g, j * 5, none⟩ = some (.int .i64 xs) ∧ w6.cell? ⟨g, j * 5 + 1, none⟩ = some (.int .i64 xp) := fun w6 hb6 => by { have := HXA.out _ (hZ1 w6 hb6); exact ⟨this.c0, this.c1⟩ }
            have hZ4 : ∀ w6, Below (wr.alloc (.cells #[.int .i64 0, .int .i64 0, .int .i64 0, .int .i64 0, .bool false] 31)).drew.heap.size (wr.alloc (.cells #[.int .i64 0, .int .i64 0, .int .i64 0, .int .i64 0, .bool false] 31)).drew w6 → w6.cell? ⟨wr.heap.size, 0, none⟩ = some (.int .i64 0) ∧ w6.cell? ⟨wr.heap.size, 1, none⟩ = some (.int .i64 0) ∧ w6.cell? ⟨wr.heap.size, 2, none⟩ = some (.int .i64 0) ∧ w6.cell? ⟨wr.heap.size, 3, none⟩ = some (.int .i64 0) ∧ w6.cell? ⟨wr.heap.size, 4, none⟩ = some (.bool false) ∧ ∀ i, w6.frozen? ⟨wr.heap.size, i, none⟩ = false := fun w6 hb6 => ⟨(hZ2 w6 hb6).cell 0, (hZ2 w6 hb6).cell 1, (hZ2 w6 hb6).cell 2, (hZ2 w6 hb6).cell 3, (hZ2 w6 hb6).cell 4, (hZ2 w6 hb6).frozen⟩
            have hZ5 : ∀ w6, Below (wr.alloc (.cells #[.int .i64 0, .int .i64 0, .int .i64 0, .int .i64 0, .bool false] 31)).drew.heap.size (wr.alloc (.cells #[.int .i64 0, .int .i64 0, .int .i64 0, .int .i64 0, .bool false] 31)).drew w6 → ∀ v0 v1 v2 v3 v4, (((((w6.setCell ⟨wr.heap.size, 0, none⟩ v0).setCell ⟨wr.heap.size, 1, none⟩ v1).setCell ⟨wr.heap.size, 2, none⟩ v2).setCell ⟨wr.heap.size, 3, none⟩ v3).setCell ⟨wr.heap.size, 4, none⟩ v4).cell? ⟨g, j * 5, none⟩ = some (.int .i64 xs) ∧ (((((w6.setCell ⟨wr.heap.size, 0, none⟩ v0).setCell ⟨wr.heap.size, 1, none⟩ v1).setCell ⟨wr.heap.size, 2, none⟩ v2).setCell ⟨wr.heap.size, 3, none⟩ v3).setCell ⟨wr.heap.size, 4, none⟩ v4).cell? ⟨g, j * 5 + 1, none⟩ = some (.int .i64 xp) := fun w6 hb6 v0 v1 v2 v3 v4 => by
              have hh := HXA.out _ ((((((hZ1 w6 hb6).setCell (p := ⟨wr.heap.size, 0, none⟩) HBK.out.size v0).setCell (p := ⟨wr.heap.size, 1, none⟩) HBK.out.size v1).setCell (p := ⟨wr.heap.size, 2, none⟩) HBK.out.size v2).setCell (p := ⟨wr.heap.size, 3, none⟩) HBK.out.size v3).setCell (p := ⟨wr.heap.size, 4, none⟩) HBK.out.size v4)
              exact ⟨hh.c0, hh.c1⟩
            have hs2 : ∀ o, (wr.alloc o).drew.cell? ⟨g, j * 5, none⟩ = some (.int .i64 xs) ∧ (wr.alloc o).drew.cell? ⟨g, j * 5 + 1, none⟩ = some (.int .i64 xp) := fun o => by { have := HXA.out _ (hbd2 o); exact ⟨this.c0, this.c1⟩ }
            go_region_held3 (fun v => v.cell? ⟨g, j * 5, none⟩ = some (.int .i64 xs) ∧ v.cell? ⟨g, j * 5 + 1, none⟩ = some (.int .i64 xp))
              (first | with_reducible exact ⟨a0, a1⟩ | with_reducible exact hs2 _ | with_reducible exact HS1 | with_reducible exact HSA _ | with_reducible exact HS6 | with_reducible exact HS7 _ _ _ _ _)
              (first | (go_at_call 11; with_reducible refine HLa.mono ?_; rintro e w5 ⟨rfl, hb5⟩; have t5 := hbd.trans (hb5.mono hbd.size); have ax1 := HXA.out _ t5; have HS1 : w5.cell? ⟨g, j * 5, none⟩ = some (.int .i64 xs) ∧ w5.cell? ⟨g, j * 5 + 1, none⟩ = some (.int .i64 xp) := ⟨ax1.c0, ax1.c1⟩; have HSA : ∀ o, (w5.alloc o).cell? ⟨g, j * 5, none⟩ = some (.int .i64 xs) ∧ (w5.alloc o).cell? ⟨g, j * 5 + 1, none⟩ = some (.int .i64 xp) := fun o => by { have := HXA.out _ (t5.alloc t5.size o); exact ⟨this.c0, this.c1⟩ }) | (go_at_call 11; with_reducible refine HLb.mono ?_; rintro e w6 ⟨rfl, hb6⟩; have t6 := hZ1 _ hb6; have rc6 := hZ2 _ hb6; have HS6 := hZ3 _ hb6; have HS7 := hZ5 _ hb6; obtain ⟨y0, y1, y2, y3, y4, yf⟩ := hZ4 _ hb6))
            all_goals
              go_wp2_with fail
              go_meet
              first
                | exact ⟨_, rfl, rfl, Lrow.new w5 _ _, t5.alloc t5.size _⟩
                | exact ⟨_, rfl, rfl, ((((rc6.set_ 0 _).set_ 1 _).set_ 2 _).set_ 3 _).set_ 4 _, ((((t6.setCell (p := ⟨wr.heap.size, 0, none⟩) HBK.out.size _).setCell (p := ⟨wr.heap.size, 1, none⟩) HBK.out.size _).setCell (p := ⟨wr.heap.size, 2, none⟩) HBK.out.size _).setCell (p := ⟨wr.heap.size, 3, none⟩) HBK.out.size _).setCell (p := ⟨wr.heap.size, 4, none⟩) HBK.out.size _⟩
          case rest =>
            obtain ⟨sc, rfl, rfl, hrc, hbc⟩ := hcut
            have hbcd := below_dN hbc 1
            have hrcd := hrc.drewN 1
            have ax0 := HXA.out _ hbcd
            clear hbc hrc
            go_wp2_with fail
            go_region_held3 (fun v => v.cell? ⟨g, j * 5, none⟩ = some (.int .i64 xs) ∧ v.cell? ⟨g, j * 5 + 1, none⟩ = some (.int .i64 xp) ∧ v.cell? ⟨g, j * 5 + 2, none⟩ = some (.int .i64 xo) ∧ v.cell? ⟨g, j * 5 + 3, none⟩ = some (.int .i64 xf) ∧ v.cell? ⟨g, j * 5 + 4, none⟩ = some (.bool xw) ∧ v.cell? ⟨sc, 0, none⟩ = some (.int .i64 xs) ∧ v.cell? ⟨sc, 1, none⟩ = some (.int .i64 xp) ∧ v.cell? ⟨sc, 2, none⟩ = some (.int .i64 xo) ∧ v.cell? ⟨sc, 3, none⟩ = some (.int .i64 xf) ∧ v.cell? ⟨sc, 4, none⟩ = some (.bool xw))
              (first | exact ⟨ax0.c0, ax0.c1, ax0.c2, ax0.c3, ax0.c4, hrcd.cell 0, hrcd.cell 1, hrcd.cell 2, hrcd.cell 3, hrcd.cell 4⟩ | exact HS1)
              (first | (go_at_call 16; refine (hri _).mono ?_; rintro e w7 ⟨rfl, hb7⟩; have t7 := hbcd.trans (hb7.mono hbcd.size); have ax7 := HXA.out _ t7; have hrc7 := hrcd.call hb7; have HS1 : w7.cell? ⟨g, j * 5, none⟩ = some (.int .i64 xs) ∧ w7.cell? ⟨g, j * 5 + 1, none⟩ = some (.int .i64 xp) ∧ w7.cell? ⟨g, j * 5 + 2, none⟩ = some (.int .i64 xo) ∧ w7.cell? ⟨g, j * 5 + 3, none⟩ = some (.int .i64 xf) ∧ w7.cell? ⟨g, j * 5 + 4, none⟩ = some (.bool xw) ∧ w7.cell? ⟨sc, 0, none⟩ = some (.int .i64 xs) ∧ w7.cell? ⟨sc, 1, none⟩ = some (.int .i64 xp) ∧ w7.cell? ⟨sc, 2, none⟩ = some (.int .i64 xo) ∧ w7.cell? ⟨sc, 3, none⟩ = some (.int .i64 xf) ∧ w7.cell? ⟨sc, 4, none⟩ = some (.bool xw) := ⟨ax7.c0, ax7.c1, ax7.c2, ax7.c3, ax7.c4, hrc7.cell 0, hrc7.cell 1, hrc7.cell 2, hrc7.cell 3, hrc7.cell 4⟩))
            all_goals
              have HT7 := Lib.hid t7
              clear HS1 ax0 ax7 hrc7 hrcd t7 hb7 hbcd
              go_wp2_with fail
              go_roundw
              case rel => exact ⟨j + 1, by omega, by go_num, HT7.out⟩
              case measure => simp [intOf]; omega
    · have hd : ¬ (j : Int) < nL := by omega
      obtain rfl : j = nL := by omega
      have hle : (j : Int) ≤ (m : Int) % 64 + 1 := hlz
      clear hb
      go_wp2_with fail
      go_ret
      exact ⟨rfl, HB4.out.trans (HB.out.mono HB4.out.size)⟩
end Go.Proofs.Ytbnnfgdlkldafaa
