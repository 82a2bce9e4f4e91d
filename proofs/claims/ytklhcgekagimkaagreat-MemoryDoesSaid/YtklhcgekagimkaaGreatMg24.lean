/- The reference by kinds: Pieces. -/
import Derived.Test.YtklhcgekagimkaaGreatMg23
import Derived.Test.YtklhcgekagimkaaGreatMg20
namespace Go.Proofs.YtklhcgekagimkaaGreat
open Go.RowKit

theorem iso_pre (S : List Nat) (f k : Nat) : iso S (f, k) = (List.range (2 ^ k)).any fun i => knd S (f + i) == 3 := rfl
theorem any_succ (p : Nat → Bool) (i : Nat) : (List.range (i + 1)).any p = ((List.range i).any p || p i) := by rw [List.range_succ, List.any_append]; simp
theorem own_drewN {w : World} {B : Nat} {v : Value} {m : Nat} {xs : List Value} (h : w.ownsRow B 92 2 v m xs) (q : Nat) : (w.drewN q).ownsRow B 92 2 v m xs := h
section
variable {w : World} {z x y h n : Nat} {F : List Bool} {S : List Nat}
set_option maxHeartbeats 2000000 in
set_option maxRecDepth 100000 in
theorem refPieces_any (hR : RefK w z x y h n F S) (hn : n ≤ 1024) : Calls Tryz.prog 101 #[.pointer (some ⟨z, 0, none⟩)] w (Lists (pcs F S) w) := by
  have h0 := hR.c0
  have hBL := refBlocks_any hR.ref
  obtain ⟨i0, hi0, hz0, hz1, hz2⟩ := info_parts info_block
  have HI := Lib.hid (And.intro hi0 (And.intro hz0 (And.intro hz1 hz2)))
  have HR := Lib.hid hR
  have HBL := Lib.hid hBL
  clear hR hBL hi0 hz0 hz1 hz2
  go_enter Tryz.func101, Tryz.ntmps101
  go_wp2_with fail
  refine Calls.mono HBL.out ?_
  rintro e w1 ⟨A, c, rfl, hA, hb1⟩
  have HA := Lib.hid hA
  have HB1 := Lib.hid hb1
  have HR1 := Lib.hid (HR.out.call hb1)
  clear hA hb1 HBL h0
  obtain ⟨m, hm⟩ : ∃ m, m = (bk F).length := ⟨_, rfl⟩
  have hm10 : m ≤ 1024 := by rw [hm]; have := bk_len F; have := HR.out.ref.len; omega
  rw [← hm]
  have HM := Lib.hid hm
  clear hm
  go_wp2_with fail
  go_loopw [4, 5] (fun v t wr => ∃ j : Nat, j ≤ m ∧ t = .int .i64 j ∧ wr.ownsRow w1.heap.size 92 2 v (pcsL S ((bk F).take j)).length (bcells (pcsL S ((bk F).take j))) ∧ Below w1.heap.size w1 wr) (fun _ t _ => m - (intOf t).toNat)
  case atStart => exact ⟨0, Nat.zero_le _, rfl, World.ownsRow_nil _ _ _ _, Below.refl _ _⟩
  case round =>
    obtain ⟨j, hj, rfl, hown, hb⟩ := hrel
    by_cases hlt : j < m
    · have hjl : j < (bk F).length := by rw [← HM.out]; exact hlt
      obtain ⟨gA, hAe, hgA, d0, d1⟩ := blk_cell (HA.out.below hb) hjl
      subst hAe
      have hmx : Mx F ((bk F)[j]).1 ((bk F)[j]).2 := bk_mem.1 (show (((bk F)[j]).1, ((bk F)[j]).2) ∈ bk F from List.getElem_mem hjl)
      have hle := mx_lt hmx
      have HNX : Hid (pcsL S ((bk F).take (j + 1)) = pcsL S ((bk F).take j) ++ pcs1 S (bk F)[j]) := by
        show _ = _
        rw [List.take_succ_eq_append_getElem hjl, pcsL_snoc]
      have hN1 := pcsL_take_len (F := F) S (j + 1)
      rw [HNX.out, List.length_append] at hN1
      obtain ⟨P0, hP0⟩ : ∃ P0, P0 = pcsL S ((bk F).take j) := ⟨_, rfl⟩
      rw [← hP0] at HNX hN1 hown
      obtain ⟨b, hx⟩ : ∃ b, b = (bk F)[j] := ⟨_, rfl⟩
      rw [← hx] at d0 d1 hmx hle HNX hN1
      obtain ⟨f, kk⟩ := b
      dsimp only at d0 d1 hmx hle
      have hk8 : kk ≤ 8 := hmx.1
      have hal : f % 2 ^ kk = 0 := hmx.2.1.1
      rw [HR.out.ref.len] at hle hN1
      have HN1 := Lib.hid hN1
      have hRr := HR1.out.call hb
      have hS := fun W => size_any hk8 W
      have hp0 := two_pos kk
      obtain ⟨M2, hM2⟩ : ∃ M2, M2 = 2 ^ kk := ⟨_, rfl⟩
      rw [← hM2] at hS hp0 hle
      have HM2 := Lib.hid hM2
      have hSq : ∀ W, Calls Tryz.prog 33 #[.int .i64 kk] W fun e w' => e = .returned (.int .i64 M2) ∧ w' = W := fun W => (hS W).mono fun _ _ ⟨h1, h2⟩ => ⟨h1, h2.symm⟩
      have HSQ := Lib.hid hSq
      have HRr := Lib.hid hRr
      have HO := Lib.hid hown
      have HB := Lib.hid hb
      have HAL := Lib.hid hal
      have hfs : IntKind.i64.wrap ((f : Int) + M2) = f + M2 := IntWalk.i64_in _ (by omega)
      have HXX : Hid (((bk F)[j]).1 = f ∧ ((bk F)[j]).2 = kk) := by show _ ∧ _; rw [← hx]; exact ⟨rfl, rfl⟩
      clear hS hM2 hSq hRr hown hb hmx hx hP0 hN1 hal
      go_wp2_with fail
      go_loopw [6, 7] (fun al t wi => ∃ i q : Nat, i ≤ M2 ∧ t = .int .i64 (f + i : Nat) ∧ al = .bool ((List.range i).any fun i => knd S (f + i) == 3) ∧ wi = wr.drewN q) (fun _ t _ => f + M2 - (intOf t).toNat)
      case atStart => exact ⟨0, 0, Nat.zero_le _, rfl, rfl, rfl⟩
      case round =>
        obtain ⟨i, q, hi, rfl, rfl, rfl⟩ := hrel
        obtain ⟨Wd, hWd⟩ : ∃ Wd, Wd = wr.drewN q := ⟨_, rfl⟩
        rw [← hWd]
        have e0 : Wd.cell? ⟨gA, j * 2, none⟩ = some (.int .i64 f) := by rw [hWd]; exact d0
        have e1 : Wd.cell? ⟨gA, j * 2 + 1, none⟩ = some (.int .i64 kk) := by rw [hWd]; exact d1
        have HWD := Lib.hid hWd
        have hSq := HSQ.out
        clear hWd
        go_wp2_with fail
        go_quiet ((go_at_call 33; exact Calls.quiet_of_same (hSq _)))
        clear hSq
        obtain ⟨W3, hW3⟩ : ∃ W3, W3 = Wd.drewN nq := ⟨_, rfl⟩
        have HW3 : Hid (W3 = wr.drewN (q + nq)) := by show _ = _; rw [hW3, HWD.out, drewN_add]
        rw [← hW3]
        clear hW3 e0 e1
        by_cases hli : i < M2
        · have hR3 := HRr.out.drewN (q + nq)
          rw [← HW3.out] at hR3
          have hO := refOf_any hR3 (f := f + i) (by omega) hn
          have HAN := Lib.hid (any_succ (fun i => knd S (f + i) == 3) i)
          obtain ⟨bl, hbl⟩ : ∃ bl, bl = (List.range i).any fun i => knd S (f + i) == 3 := ⟨_, rfl⟩
          rw [← hbl] at HAN ⊢
          obtain ⟨v, hv⟩ : ∃ v : Nat, v = knd S (f + i) := ⟨_, rfl⟩
          rw [← hv] at hO HAN
          clear hbl hv hR3
          cases bl with
          | true =>
            have HT : Hid ((List.range (i + 1)).any (fun i => knd S (f + i) == 3) = true) := by show _ = _; rw [HAN.out]; rfl
            clear HAN hO
            go_wp2_with fail
            go_roundw
            case rel => exact ⟨i + 1, q + nq, by omega, by go_num, by rw [HT.out], HW3.out⟩
            case measure => simp [intOf]; omega
          | false =>
            by_cases hv3 : v = 3
            · have HT : Hid ((List.range (i + 1)).any (fun i => knd S (f + i) == 3) = true) := by show _ = _; rw [HAN.out, hv3]; rfl
              subst hv3
              clear HAN
              go_wp2_with (go_at_call 13; refine hO.mono ?_; rintro e w' ⟨rfl, rfl⟩)
              go_roundw
              case rel => exact ⟨i + 1, q + nq, by omega, by go_num, by rw [HT.out], HW3.out⟩
              case measure => simp [intOf]; omega
            · have hvb : (v == 3) = false := by simpa using hv3
              have HT : Hid ((List.range (i + 1)).any (fun i => knd S (f + i) == 3) = false) := by show _ = _; rw [HAN.out, hvb]; rfl
              have hvi : ((v : Int) == 3) = false := by simp; omega
              clear HAN hv3 hvb
              go_wp2_with (go_at_call 13; refine hO.mono ?_; rintro e w' ⟨rfl, rfl⟩)
              go_roundw
              case rel => exact ⟨i + 1, q + nq, by omega, by go_num, by rw [HT.out], HW3.out⟩
              case measure => simp [intOf]; omega
        · obtain rfl : i = M2 := by omega
          have HIS : Hid (((List.range i).any fun i => knd S (f + i) == 3) = iso S (f, kk)) := by show _ = _; rw [iso_pre, HM2.out]
          rw [HIS.out]
          have e0 : W3.cell? ⟨gA, j * 2, none⟩ = some (.int .i64 f) := by rw [HW3.out]; exact d0
          have e1 : W3.cell? ⟨gA, j * 2 + 1, none⟩ = some (.int .i64 kk) := by rw [HW3.out]; exact d1
          have HO3 : Hid (W3.ownsRow w1.heap.size 92 2 u4 P0.length (bcells P0)) := by
            show World.ownsRow _ _ _ _ _ _ _
            rw [HW3.out]; exact HO.out
          have HB3 : Hid (Below w1.heap.size w1 W3) := by
            show Below _ _ _
            rw [HW3.out]; exact below_dN HB.out _
          have hgA3 : gA < W3.heap.size := by rw [HW3.out]; exact hgA
          have hgAn : ¬ gA = W3.heap.size := by omega
          clear d0 d1
          by_cases hone : kk ≤ 3 ∨ iso S (f, kk) = false
          · have HNE : Hid (pcsL S ((bk F).take (j + 1)) = P0 ++ [(f, kk)]) := by show _ = _; rw [HNX.out, pcs1_one hone]
            have hlen : P0.length + 1 ≤ n := by have := HN1.out; rw [pcs1_one hone] at this; exact this
            obtain ⟨hi0, hz0, hz1, hz2⟩ := HI.out
            have hownx := HO3.out
            have hsz := HB3.out.size
            have HB4 := Lib.hid (HB3.out.alloc hsz (.cells #[.int .i64 f, .int .i64 kk] 92))
            by_cases h3 : (kk : Int) ≤ 3
            · clear hone
              go_wp2_with (at_builtin; refine wpList_append_own _ rfl _ _ 50 rfl w1.heap.size 92 i0 (.agg #[.int .i64 0, .int .i64 0]) 2 16 Tryz.underlying50 hi0 hz0 hz1 hz2 rfl (by decide) _ P0.length (bcells P0) rfl (hownx.alloc _) ⟨W3.heap.size, 0, none⟩ 1 1 [.int .i64 f, .int .i64 kk] rfl rfl (new_cells W3 f kk) (two_one f kk) (by unfold maxLen; omega) (by omega) (by simp; omega) ?_; intro v' w2 hown2 hgr hn2)
              have HO5 := Lib.hid hown2
              have HB5 := Lib.hid (own_below HB4.out HB4.out.size (hownx.alloc _) hgr)
              clear hownx hown2 hgr hn2 hi0 hz0 hz1 hz2 hsz e0 e1
              go_wp2_with fail
              go_roundw
              case rel => exact ⟨j + 1, by omega, by go_num, by
                  have h1 := HO5.out
                  rw [HNE.out, bcells_append, List.length_append]
                  simpa [bcells] using h1, HB5.out⟩
              case measure => simp [intOf]; omega
            · have hiso : iso S (f, kk) = false := by
                rcases hone with g | g
                · omega
                · exact g
              rw [hiso]
              clear hone hiso
              go_wp2_with (at_builtin; refine wpList_append_own _ rfl _ _ 50 rfl w1.heap.size 92 i0 (.agg #[.int .i64 0, .int .i64 0]) 2 16 Tryz.underlying50 hi0 hz0 hz1 hz2 rfl (by decide) _ P0.length (bcells P0) rfl (hownx.alloc _) ⟨W3.heap.size, 0, none⟩ 1 1 [.int .i64 f, .int .i64 kk] rfl rfl (new_cells W3 f kk) (two_one f kk) (by unfold maxLen; omega) (by omega) (by simp; omega) ?_; intro v' w2 hown2 hgr hn2)
              have HO5 := Lib.hid hown2
              have HB5 := Lib.hid (own_below HB4.out HB4.out.size (hownx.alloc _) hgr)
              clear hownx hown2 hgr hn2 hi0 hz0 hz1 hz2 hsz e0 e1
              go_wp2_with fail
              go_roundw
              case rel => exact ⟨j + 1, by omega, by go_num, by
                  have h1 := HO5.out
                  rw [HNE.out, bcells_append, List.length_append]
                  simpa [bcells] using h1, HB5.out⟩
              case measure => simp [intOf]; omega
          · have h3 : ¬ (kk : Int) ≤ 3 := by omega
            have hk4 : 3 < kk := by omega
            have hiso : iso S (f, kk) = true := by
              cases hh : iso S (f, kk) with
              | true => rfl
              | false => exact absurd (Or.inr hh) hone
            obtain ⟨cnt, hcnt⟩ : ∃ cnt, cnt = 2 ^ (kk - 3) := ⟨_, rfl⟩
            have hM8 : i = cnt * 8 := by
              rw [HM2.out, hcnt]
              obtain ⟨d, rfl⟩ : ∃ d, kk = d + 3 := ⟨kk - 3, by omega⟩
              rw [Nat.add_sub_cancel, Nat.pow_add]
            have HPC : Hid (pcs1 S (f, kk) = (List.range cnt).map fun i => (f + i * 8, 3)) := by show _ = _; rw [pcs1_many hk4 hiso, hcnt]
            have hlen : P0.length + cnt ≤ n := by have := HN1.out; rw [HPC.out] at this; simpa using this
            rw [hiso]
            clear hone hk4 hiso hcnt
            go_wp2_with fail
            clear e0 e1
            go_loopw [4, 8] (fun v t wi => ∃ r : Nat, r ≤ cnt ∧ t = .int .i64 (f + r * 8 : Nat) ∧ wi.ownsRow w1.heap.size 92 2 v (P0 ++ (List.range r).map fun i => (f + i * 8, 3)).length (bcells (P0 ++ (List.range r).map fun i => (f + i * 8, 3))) ∧ Below w1.heap.size w1 wi) (fun _ t _ => f + i + 8 - (intOf t).toNat)
            case atStart => exact ⟨0, Nat.zero_le _, rfl, by simpa using HO3.out, HB3.out⟩
            case round =>
              obtain ⟨r, hr, rfl, hownr, hbr⟩ := hrel
              obtain ⟨gA', hAe', hgA', d0, d1⟩ := blk_cell (HA.out.below hbr) hjl
              injection hAe' with hAe'
              injection hAe' with hAe'
              subst hAe'
              have hxx : ((bk F)[j]).1 = f ∧ ((bk F)[j]).2 = kk := HXX.out
              rw [hxx.1] at d0
              rw [hxx.2] at d1
              have hSq := HSQ.out
              have HOR := Lib.hid hownr
              have HBR := Lib.hid hbr
              clear hownr hbr hxx
              go_wp2_with fail
              go_quiet ((go_at_call 33; exact Calls.quiet_of_same (hSq _)))
              clear hSq d0 d1
              obtain ⟨W5, hW5⟩ : ∃ W5, W5 = wr.drewN nq := ⟨_, rfl⟩
              have HO5 : Hid (W5.ownsRow w1.heap.size 92 2 u4 (P0 ++ (List.range r).map fun i => (f + i * 8, 3)).length (bcells (P0 ++ (List.range r).map fun i => (f + i * 8, 3)))) := by
                show World.ownsRow _ _ _ _ _ _ _
                rw [hW5]; exact HOR.out
              have HB5 : Hid (Below w1.heap.size w1 W5) := by
                show Below _ _ _
                rw [hW5]; exact below_dN HBR.out _
              rw [← hW5]
              clear hW5 HOR HBR
              by_cases hlr : r < cnt
              · have hlr8 : r * 8 < i := by omega
                obtain ⟨y8, hy8⟩ : ∃ y8, y8 = f + r * 8 := ⟨_, rfl⟩
                have HSN : Hid (P0 ++ (List.range (r + 1)).map (fun i => (f + i * 8, 3)) = (P0 ++ (List.range r).map fun i => (f + i * 8, 3)) ++ [(y8, 3)]) := by
                  show _ = _
                  rw [List.range_succ, List.map_append, hy8]; simp
                have hl9 : (P0 ++ (List.range r).map fun i => (f + i * 8, 3)).length ≤ 1024 := by simp; omega
                obtain ⟨P1, hP1⟩ : ∃ P1, P1 = P0 ++ (List.range r).map fun i => (f + i * 8, 3) := ⟨_, rfl⟩
                rw [← hP1] at HO5 HSN hl9
                have hyi : (f : Int) + (r : Int) * 8 = (y8 : Int) := by omega
                rw [hyi]
                have HY8 := Lib.hid hy8
                obtain ⟨hi0, hz0, hz1, hz2⟩ := HI.out
                have hownx := HO5.out
                have hsz := HB5.out.size
                have HB6 := Lib.hid (HB5.out.alloc hsz (.cells #[.int .i64 y8, .int .i64 3] 92))
                clear hP1 hy8 hyi
                have h38 : ((3 : Nat) : Int) = 3 := rfl
                have s8 : IntKind.i64.wrap ((y8 : Int) + 8) = y8 + 8 := IntWalk.i64_in _ (by have := HY8.out; omega)
                have hnc : ∀ (i : Nat) (u : Value), [Value.int .i64 y8, Value.int .i64 3][i]? = some u → (W5.alloc (.cells #[.int .i64 y8, .int .i64 3] 92)).cell? ((⟨W5.heap.size, 0, none⟩ : Addr).add i) = some u := new_cells W5 y8 3
                go_wp2_with (at_builtin; refine wpList_append_own _ rfl _ _ 50 rfl w1.heap.size 92 i0 (.agg #[.int .i64 0, .int .i64 0]) 2 16 Tryz.underlying50 hi0 hz0 hz1 hz2 rfl (by decide) _ P1.length (bcells P1) rfl (hownx.alloc _) ⟨W5.heap.size, 0, none⟩ 1 1 [.int .i64 y8, .int .i64 3] rfl rfl hnc (two_one y8 3) (by unfold maxLen; omega) (by omega) (by simp; omega) ?_; intro v' w2 hown2 hgr hn2)
                have HO7 := Lib.hid hown2
                have HB7 := Lib.hid (own_below HB6.out HB6.out.size (hownx.alloc _) hgr)
                clear hownx hown2 hgr hn2 hi0 hz0 hz1 hz2 hsz hnc
                go_wp2_with fail
                go_roundw
                case rel => exact ⟨r + 1, by omega, by rw [show f + (r + 1) * 8 = y8 + 8 by have := HY8.out; omega]; go_num, by
                    have h1 := HO7.out
                    rw [HSN.out, bcells_append, List.length_append]
                    simpa [bcells] using h1, HB7.out⟩
                case measure => have hy9 := HY8.out; simp [intOf]; omega
              · obtain rfl : r = cnt := by omega
                have hlr8 : ¬ r * 8 < i := by omega
                go_wp2_with fail
                go_roundw
                case rel => exact ⟨j + 1, by omega, by go_num, by rw [HNX.out, HPC.out]; exact HO5.out, HB5.out⟩
                case measure => simp [intOf]; omega
    · obtain rfl : j = m := by omega
      obtain ⟨A4, c4, hv⟩ := own_form hown
      subst hv
      rw [HM.out, List.take_length, pcsL_all] at hown
      obtain ⟨_, hrow, _⟩ := own_row hown
      have HRW := Lib.hid hrow
      have HBI := Lib.hid (HB1.out.trans (hb.mono HB1.out.size))
      have HLE : Hid ((pcsL S ((bk F).take j)).length = (pcs F S).length) := by show _ = _; rw [HM.out, List.take_length, pcsL_all]
      clear hown hrow hb
      go_wp2_with fail
      go_ret
      refine ⟨A4, c4, ?_, HRW.out, HBI.out⟩
      rw [← HLE.out]; rfl
end
end Go.Proofs.YtklhcgekagimkaaGreat
