/- The contract of FreeOf. -/
import Derived.Test.YtklhcgekagimkaaGreatMg22
namespace Go.Proofs.YtklhcgekagimkaaGreat
variable {Xc : Nat → Prop}
open Go.RowKit

section
variable {w : World} {B k a g n : Nat} {F : List Bool} {S : List Nat}
set_option maxHeartbeats 2000000 in
set_option maxRecDepth 100000 in
theorem kFreeOf_any (h : KinX Xc B w k a g n F S) (kd : Int) :
    Calls Tryz.prog 44 #[.pointer (some ⟨k, 0, none⟩), .int .i64 kd] w fun e w' => e = .returned (.int .i64 (frO F S kd : Nat)) ∧ Below w.heap.size w w' := by
  have hBL := kBlocks_any h
  have HK := Lib.hid h
  have hn10 := h.hi
  have HBL := Lib.hid hBL
  clear h hBL
  go_enter Tryz.func44, Tryz.ntmps44
  go_wp2_with fail
  refine Calls.mono HBL.out ?_
  rintro e w1 ⟨A, c, rfl, hA, hb1⟩
  have HA := Lib.hid hA
  have HB1 := Lib.hid hb1
  clear hA hb1 HBL
  obtain ⟨m, hm⟩ : ∃ m, m = (bk F).length := ⟨_, rfl⟩
  have hm10 : m ≤ 1024 := by rw [hm]; have := bk_len F; have := HK.out.len; omega
  rw [← hm]
  have HM := Lib.hid hm
  clear hm
  go_wp2_with fail
  go_loopw [5, 13] (fun u i wr => ∃ j : Nat, j ≤ m ∧ i = .int .i64 j ∧ u = .int .i64 (smB S kd ((bk F).take j) : Nat) ∧ Below w1.heap.size w1 wr) (fun _ i _ => m - (intOf i).toNat)
  case atStart => exact ⟨0, Nat.zero_le _, rfl, rfl, Below.refl _ _⟩
  case round =>
    obtain ⟨j, hj, rfl, rfl, hb⟩ := hrel
    by_cases hlt : j < m
    · have hjl : j < (bk F).length := by rw [← HM.out]; exact hlt
      obtain ⟨gA, hAe, hgA, d0, d1⟩ := blk_cell (HA.out.below hb) hjl
      subst hAe
      have hmx : Mx F ((bk F)[j]).1 ((bk F)[j]).2 := bk_mem.1 (show (((bk F)[j]).1, ((bk F)[j]).2) ∈ bk F from List.getElem_mem hjl)
      have hle := mx_lt hmx
      have HN : Hid (smB S kd ((bk F).take (j + 1)) = smB S kd ((bk F).take j) + cnR (kdP S kd) ((bk F)[j]).1 (2 ^ ((bk F)[j]).2)) := by
        show _ = _
        rw [List.take_succ_eq_append_getElem hjl, smB_snoc]
      have hN1 := smB_take_le (F := F) S kd (j + 1)
      rw [HN.out] at hN1
      obtain ⟨b0, hb0⟩ : ∃ b0, b0 = smB S kd ((bk F).take j) := ⟨_, rfl⟩
      rw [← hb0] at HN hN1 ⊢
      obtain ⟨x, hx⟩ : ∃ x, x = (bk F)[j] := ⟨_, rfl⟩
      rw [← hx] at d0 d1 hmx hle HN hN1
      obtain ⟨f, kk⟩ := x
      dsimp only at d0 d1 hmx hle HN hN1
      have hk8 : kk ≤ 8 := hmx.1
      rw [block_secs S kd hmx.2.1.1] at HN hN1
      rw [HK.out.len] at hle hN1
      have hKr := HK.out.call (HB1.out.trans (hb.mono HB1.out.size))
      obtain ⟨z, hz⟩ : ∃ z : Int, z = kk := ⟨_, rfl⟩
      rw [← hz] at d1
      obtain ⟨W4, hW4⟩ : ∃ W, W = wr.alloc (.cells #[.int .i64 f, .int .i64 z] 92) := ⟨_, rfl⟩
      obtain ⟨q, hq⟩ : ∃ q, q = wr.heap.size := ⟨_, rfl⟩
      have hb4 : Below wr.heap.size wr W4 := by rw [hW4]; exact (Below.refl _ _).alloc (Nat.le_refl _) _
      have hq4 : Lrow W4 q 92 [.int .i64 f, .int .i64 z] := by rw [hW4, hq]; exact Lrow.new wr _ _
      have hU := under_int (hKr.call hb4) hk8 hle z hz
      have hup := upr_le hle
      obtain ⟨cnt, hcnt⟩ : ∃ c, c = upr f kk - f / 8 := ⟨_, rfl⟩
      obtain ⟨s, hs⟩ : ∃ s, s = f / 8 := ⟨_, rfl⟩
      have hsc : s + cnt ≤ S.length := by rw [HK.out.cnt]; have := upr_gt f kk; omega
      rw [← hcnt] at HN hN1 hU
      rw [← hs] at HN hN1 hU
      have hS8 : S.length ≤ 128 := by have := HK.out.cnt; omega
      have HKr := Lib.hid hKr
      have HB4 := Lib.hid hb4
      have HQ4 := Lib.hid hq4
      have HU := Lib.hid hU
      have HB := Lib.hid hb
      have HW4 := Lib.hid hW4
      have HQE := Lib.hid hq
      have HZ := Lib.hid hz
      have HN1 := Lib.hid hN1
      clear hKr hb4 hq4 hU hb hW4 hq hmx hle hx hup hcnt hs hz hN1 hb0
      go_wp2_with fail
      rw [← HW4.out, ← HQE.out]
      have e0 : W4.cell? ⟨q, 0, none⟩ = some (.int .i64 f) := HQ4.out.cell 0
      have e1 : W4.cell? ⟨q, 1, none⟩ = some (.int .i64 z) := HQ4.out.cell 1
      clear d0 d1 hgA
      go_wp2_with fail
      refine HU.out.mono ?_
      rintro e W5 ⟨rfl, hb5⟩
      have hq5 := HQ4.out.call hb5
      have hb45 := HB4.out.trans (hb5.mono HB4.out.size)
      have HK5 := Lib.hid (HKr.out.call hb45)
      have HB5 : Hid (Below w1.heap.size w1 W5) := HB.out.trans (hb45.mono HB.out.size)
      have c1 : W5.cell? ⟨q, 1, none⟩ = some (.int .i64 z) := hq5.cell 1
      clear hq5 hb45 hb5 HU HKr HB HB4 e0 e1 HQ4 HW4 HQE
      go_wp2_with fail
      obtain ⟨W6, hW6⟩ : ∃ W6, W6 = W5 := ⟨_, rfl⟩
      rw [← hW6] at HK5 HB5 c1 ⊢
      clear hW6
      go_loop [5, 21] (fun u t => ∃ i : Nat, i ≤ cnt ∧ t = .int .i64 i ∧ u = .int .i64 (b0 + secN S kd s i * 2 ^ min kk 3 : Nat)) (fun _ t => cnt - (intOf t).toNat)
      case atStart => exact ⟨0, Nat.zero_le _, rfl, by simp [secN]⟩
      case round =>
        obtain ⟨i, hi, rfl, rfl⟩ := hrel
        by_cases hli : i < cnt
        · have hci : W6.cell? ⟨g, s + i, none⟩ = some (.int .i64 (S.getD (s + i) 0 : Nat)) := HK5.out.at_ (by omega)
          have HSN := Lib.hid (secN_succ S kd s i)
          have hmn := secN_mono S kd s (show i + 1 ≤ cnt by omega)
          obtain ⟨v, hv⟩ : ∃ v : Nat, v = S.getD (s + i) 0 := ⟨_, rfl⟩
          rw [← hv] at hci HSN
          have hN2 := HN1.out
          by_cases hvk : (v : Int) = kd
          · have HS2 : Hid (secN S kd s (i + 1) = secN S kd s i + 1) := by show _ = _; rw [HSN.out, if_pos hvk]
            rw [HS2.out] at hmn
            have hvb : ((v : Int) == kd) = true := by simp [hvk]
            generalize secN S kd s i = t0 at hmn HS2 ⊢
            generalize secN S kd s cnt = t1 at hmn hN2
            generalize ht2 : secN S kd s (i + 1) = t2 at HS2
            have HT2 := Lib.hid ht2
            clear ht2
            clear hv HSN
            rcases pow9 hk8 with rfl | rfl | rfl | rfl | rfl | rfl | rfl | rfl | rfl
            · obtain rfl : z = 0 := by simpa using HZ.out
              rw [show 2 ^ min 0 3 = 1 from rfl] at hN2 ⊢
              obtain ⟨t, ht⟩ : ∃ t, t = b0 + t0 * 1 := ⟨_, rfl⟩
              rw [← ht]
              have HT : Hid (b0 + t2 * 1 = t + 1) := by show _ = _; rw [HS2.out, ht]; omega
              have s1 : IntKind.i64.wrap ((t : Int) + 1) = t + 1 := IntWalk.i64_in _ (by omega)
              clear ht hN2 hmn hvk
              go_wp2
              go_round
              case rel => exact ⟨i + 1, by omega, by go_num, by rw [HT2.out, HT.out]; first | go_num | (rw [show wrap64 (2 ^ (min (0 : Int) 3).toNat) = 1 from by decide +kernel, show wrap64 ((t : Int) + 1) = t + 1 from (IntWalk.i64_left _).symm.trans s1]; go_num)⟩
              case measure => simp [intOf]; omega
            · obtain rfl : z = 1 := by simpa using HZ.out
              rw [show 2 ^ min 1 3 = 2 from rfl] at hN2 ⊢
              obtain ⟨t, ht⟩ : ∃ t, t = b0 + t0 * 2 := ⟨_, rfl⟩
              rw [← ht]
              have HT : Hid (b0 + t2 * 2 = t + 2) := by show _ = _; rw [HS2.out, ht]; omega
              have s1 : IntKind.i64.wrap ((t : Int) + 2) = t + 2 := IntWalk.i64_in _ (by omega)
              clear ht hN2 hmn hvk
              go_wp2
              go_round
              case rel => exact ⟨i + 1, by omega, by go_num, by rw [HT2.out, HT.out]; first | go_num | (rw [show wrap64 (2 ^ (min (1 : Int) 3).toNat) = 2 from by decide +kernel, show wrap64 ((t : Int) + 2) = t + 2 from (IntWalk.i64_left _).symm.trans s1]; go_num)⟩
              case measure => simp [intOf]; omega
            · obtain rfl : z = 2 := by simpa using HZ.out
              rw [show 2 ^ min 2 3 = 4 from rfl] at hN2 ⊢
              obtain ⟨t, ht⟩ : ∃ t, t = b0 + t0 * 4 := ⟨_, rfl⟩
              rw [← ht]
              have HT : Hid (b0 + t2 * 4 = t + 4) := by show _ = _; rw [HS2.out, ht]; omega
              have s1 : IntKind.i64.wrap ((t : Int) + 4) = t + 4 := IntWalk.i64_in _ (by omega)
              clear ht hN2 hmn hvk
              go_wp2
              go_round
              case rel => exact ⟨i + 1, by omega, by go_num, by rw [HT2.out, HT.out]; first | go_num | (rw [show wrap64 (2 ^ (min (2 : Int) 3).toNat) = 4 from by decide +kernel, show wrap64 ((t : Int) + 4) = t + 4 from (IntWalk.i64_left _).symm.trans s1]; go_num)⟩
              case measure => simp [intOf]; omega
            · obtain rfl : z = 3 := by simpa using HZ.out
              rw [show 2 ^ min 3 3 = 8 from rfl] at hN2 ⊢
              obtain ⟨t, ht⟩ : ∃ t, t = b0 + t0 * 8 := ⟨_, rfl⟩
              rw [← ht]
              have HT : Hid (b0 + t2 * 8 = t + 8) := by show _ = _; rw [HS2.out, ht]; omega
              have s1 : IntKind.i64.wrap ((t : Int) + 8) = t + 8 := IntWalk.i64_in _ (by omega)
              clear ht hN2 hmn hvk
              go_wp2
              go_round
              case rel => exact ⟨i + 1, by omega, by go_num, by rw [HT2.out, HT.out]; first | go_num | (rw [show wrap64 (2 ^ (min (3 : Int) 3).toNat) = 8 from by decide +kernel, show wrap64 ((t : Int) + 8) = t + 8 from (IntWalk.i64_left _).symm.trans s1]; go_num)⟩
              case measure => simp [intOf]; omega
            · obtain rfl : z = 4 := by simpa using HZ.out
              rw [show 2 ^ min 4 3 = 8 from rfl] at hN2 ⊢
              obtain ⟨t, ht⟩ : ∃ t, t = b0 + t0 * 8 := ⟨_, rfl⟩
              rw [← ht]
              have HT : Hid (b0 + t2 * 8 = t + 8) := by show _ = _; rw [HS2.out, ht]; omega
              have s1 : IntKind.i64.wrap ((t : Int) + 8) = t + 8 := IntWalk.i64_in _ (by omega)
              clear ht hN2 hmn hvk
              go_wp2
              go_round
              case rel => exact ⟨i + 1, by omega, by go_num, by rw [HT2.out, HT.out]; first | go_num | (rw [show wrap64 (2 ^ (min (4 : Int) 3).toNat) = 8 from by decide +kernel, show wrap64 ((t : Int) + 8) = t + 8 from (IntWalk.i64_left _).symm.trans s1]; go_num)⟩
              case measure => simp [intOf]; omega
            · obtain rfl : z = 5 := by simpa using HZ.out
              rw [show 2 ^ min 5 3 = 8 from rfl] at hN2 ⊢
              obtain ⟨t, ht⟩ : ∃ t, t = b0 + t0 * 8 := ⟨_, rfl⟩
              rw [← ht]
              have HT : Hid (b0 + t2 * 8 = t + 8) := by show _ = _; rw [HS2.out, ht]; omega
              have s1 : IntKind.i64.wrap ((t : Int) + 8) = t + 8 := IntWalk.i64_in _ (by omega)
              clear ht hN2 hmn hvk
              go_wp2
              go_round
              case rel => exact ⟨i + 1, by omega, by go_num, by rw [HT2.out, HT.out]; first | go_num | (rw [show wrap64 (2 ^ (min (5 : Int) 3).toNat) = 8 from by decide +kernel, show wrap64 ((t : Int) + 8) = t + 8 from (IntWalk.i64_left _).symm.trans s1]; go_num)⟩
              case measure => simp [intOf]; omega
            · obtain rfl : z = 6 := by simpa using HZ.out
              rw [show 2 ^ min 6 3 = 8 from rfl] at hN2 ⊢
              obtain ⟨t, ht⟩ : ∃ t, t = b0 + t0 * 8 := ⟨_, rfl⟩
              rw [← ht]
              have HT : Hid (b0 + t2 * 8 = t + 8) := by show _ = _; rw [HS2.out, ht]; omega
              have s1 : IntKind.i64.wrap ((t : Int) + 8) = t + 8 := IntWalk.i64_in _ (by omega)
              clear ht hN2 hmn hvk
              go_wp2
              go_round
              case rel => exact ⟨i + 1, by omega, by go_num, by rw [HT2.out, HT.out]; first | go_num | (rw [show wrap64 (2 ^ (min (6 : Int) 3).toNat) = 8 from by decide +kernel, show wrap64 ((t : Int) + 8) = t + 8 from (IntWalk.i64_left _).symm.trans s1]; go_num)⟩
              case measure => simp [intOf]; omega
            · obtain rfl : z = 7 := by simpa using HZ.out
              rw [show 2 ^ min 7 3 = 8 from rfl] at hN2 ⊢
              obtain ⟨t, ht⟩ : ∃ t, t = b0 + t0 * 8 := ⟨_, rfl⟩
              rw [← ht]
              have HT : Hid (b0 + t2 * 8 = t + 8) := by show _ = _; rw [HS2.out, ht]; omega
              have s1 : IntKind.i64.wrap ((t : Int) + 8) = t + 8 := IntWalk.i64_in _ (by omega)
              clear ht hN2 hmn hvk
              go_wp2
              go_round
              case rel => exact ⟨i + 1, by omega, by go_num, by rw [HT2.out, HT.out]; first | go_num | (rw [show wrap64 (2 ^ (min (7 : Int) 3).toNat) = 8 from by decide +kernel, show wrap64 ((t : Int) + 8) = t + 8 from (IntWalk.i64_left _).symm.trans s1]; go_num)⟩
              case measure => simp [intOf]; omega
            · obtain rfl : z = 8 := by simpa using HZ.out
              rw [show 2 ^ min 8 3 = 8 from rfl] at hN2 ⊢
              obtain ⟨t, ht⟩ : ∃ t, t = b0 + t0 * 8 := ⟨_, rfl⟩
              rw [← ht]
              have HT : Hid (b0 + t2 * 8 = t + 8) := by show _ = _; rw [HS2.out, ht]; omega
              have s1 : IntKind.i64.wrap ((t : Int) + 8) = t + 8 := IntWalk.i64_in _ (by omega)
              clear ht hN2 hmn hvk
              go_wp2
              go_round
              case rel => exact ⟨i + 1, by omega, by go_num, by rw [HT2.out, HT.out]; first | go_num | (rw [show wrap64 (2 ^ (min (8 : Int) 3).toNat) = 8 from by decide +kernel, show wrap64 ((t : Int) + 8) = t + 8 from (IntWalk.i64_left _).symm.trans s1]; go_num)⟩
              case measure => simp [intOf]; omega
          · have HS2 : Hid (secN S kd s (i + 1) = secN S kd s i) := by show _ = _; rw [HSN.out, if_neg hvk, Nat.add_zero]
            have hvb : ((v : Int) == kd) = false := by simpa using hvk
            clear hv HSN hN2 hmn hvk
            go_wp2
            go_round
            case rel => exact ⟨i + 1, by omega, by go_num, by rw [HS2.out]⟩
            case measure => simp [intOf]; omega
        · obtain rfl : i = cnt := by omega
          rw [← HN.out]
          clear c1
          go_wp2
          go_roundw
          case rel => exact ⟨j + 1, by omega, by go_num, rfl, HB5.out⟩
          case measure => simp [intOf]; omega
    · obtain rfl : j = m := by omega
      have HE : Hid (smB S kd ((bk F).take j) = frO F S kd) := by
        show _ = _
        rw [HM.out, List.take_length, frO_bk]
      have HBI := Lib.hid (HB1.out.trans (hb.mono HB1.out.size))
      clear hb
      go_wp2
      go_ret
      exact ⟨ret_int (by rw [HE.out]), HBI.out⟩
end
end Go.Proofs.YtklhcgekagimkaaGreat
