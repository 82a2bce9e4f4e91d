/- Both say the same. -/
import Derived.Test.YtfjphlickpgbnaaJf
import Derived.Test.YtfjphlickpgbnaaJg
namespace Go.Proofs.Ytfjphlickpgbnaa
open Go.RowKit

theorem hasB_some {F : List Bool} {i : Nat} {v : Bool} (h : F[i]? = some v) : hasB F i = v := by
  unfold hasB
  rw [Int.toNat_natCast, h]
  cases v <;> simp
theorem kdZ_nat {n i : Nat} (S : List Nat) (h : i < n) : kdZ n S i = (knd S i : Nat) := by unfold kdZ; rw [if_pos (by omega), Int.toNat_natCast]
section
variable {w : World} {A A' : Option Addr} {L M : List (Nat × Nat)} {c c' : Nat}
theorem same_same (h : BlkRow w A L) (h' : BlkRow w A' L) (hm : L.length ≤ 4096) : Calls Try.prog 20 #[.slice A L.length c, .slice A' L.length c'] w fun e w' => e = .returned (.bool true) ∧ ∃ q, w' = w.drewN q := by
  have H := Lib.hid h.at_
  have H' := Lib.hid h'.at_
  clear h h'
  obtain ⟨n, en⟩ : ∃ n, n = L.length := ⟨_, rfl⟩
  have HE := Lib.hid en
  rw [← en] at hm ⊢
  clear en
  go_enter Try.func20, Try.ntmps20
  go_wp2
  go_loopw [5] (fun i wr => ∃ j k : Nat, j ≤ n ∧ i = .int .i64 j ∧ wr = w.drewN k) (fun i _ => n - (intOf i).toNat)
  case atStart => exact ⟨0, 0, Nat.zero_le _, rfl, rfl⟩
  case round =>
    obtain ⟨j, k, hj, rfl, rfl⟩ := hrel
    by_cases hlt : j < n
    · obtain ⟨g, rfl, _, hc⟩ := (H.out.drewN k) (by rw [← HE.out]; omega)
      obtain ⟨g', rfl, _, hc'⟩ := (H'.out.drewN k) (by rw [← HE.out]; omega)
      obtain ⟨c0, c1⟩ := hc j (by rw [← HE.out]; omega)
      obtain ⟨e0, e1⟩ := hc' j (by rw [← HE.out]; omega)
      obtain ⟨x, ex⟩ : ∃ x, x = (L.getD j (0, 0)).1 := ⟨_, rfl⟩
      obtain ⟨y, ey⟩ : ∃ y, y = (L.getD j (0, 0)).2 := ⟨_, rfl⟩
      rw [← ex] at c0 e0
      rw [← ey] at c1 e1
      obtain ⟨w1, ew⟩ : ∃ w1, w1 = w.drewN k := ⟨_, rfl⟩
      rw [← ew] at c0 c1 e0 e1 ⊢
      have HW := Lib.hid ew
      clear ex ey ew hc hc'
      go_wp2_with fail
      go_quiet (fail)
      go_wp2_with fail
      go_roundw
      case rel => exact ⟨j + 1, k + _, by omega, by go_num, by rw [HW.out, drewN_add]⟩
      case measure => simp [intOf]; omega
    · go_wp2
      go_ret
      exact ⟨rfl, k, rfl⟩
end
section
variable {w : World} {B : Nat} {m : Nms} {F : List Bool} {S : List Nat} {T : List (Nat × Nat)} {tv : Value}
set_option maxHeartbeats 2000000 in
set_option maxRecDepth 100000 in
theorem same_any (h : St B w m F F S S T tv) : Calls Try.prog 11 #[.pointer (some ⟨m.s, 0, none⟩)] w fun e w' => e = .returned (.bool true) ∧ Below w.heap.size w w' := by
  have hn10 := h.kin.hi
  have HS := Lib.hid h
  clear h
  go_enter Try.func11, Try.ntmps11
  go_wp2_with fail
  go_loopw [3] (fun t wr => ∃ i : Nat, i ≤ 6 ∧ t = .int .i64 ((i : Int) - 1) ∧ St B wr m F F S S T tv ∧ Below w.heap.size w wr) (fun t _ => 6 - (intOf t + 1).toNat)
  case atStart => exact ⟨0, by omega, rfl, HS.out, Below.refl _ _⟩
  case round =>
    obtain ⟨i, hi, rfl, hst, hb⟩ := hrel
    by_cases hlt : i < 6
    · obtain ⟨kd, hkd⟩ : ∃ kd : Int, kd = (i : Int) - 1 := ⟨_, rfl⟩
      rw [← hkd]
      have HD := Lib.hid (hst.drewN 1)
      have hs1 := And.intro (hst.drewN 1).c0 (hst.drewN 1).c1
      have HB := Lib.hid (below_dN hb 1)
      have hF1 := kFreeOf_any (hst.drewN 1).kin kd
      have hF2 := fun w' (hr : RefK w' m.z m.x m.y m.h m.n F S) => refFreeOf_any hr kd
      generalize ((frO F S kd : Nat) : Int) = V at hF1 hF2
      have HF1 := Lib.hid hF1
      have HF2 := Lib.hid hF2
      have hk5 : kd < 5 := by omega
      have hks : IntKind.i64.wrap (kd + 1) = kd + 1 := IntWalk.i64_in _ (by omega)
      have HKD := Lib.hid hkd
      clear hst hb hF1 hF2 hkd
      go_wp2_with fail
      go_region_held3 (fun v => v.cell? ⟨m.s, 0, none⟩ = some (.pointer (some ⟨m.k, 0, none⟩)) ∧ v.cell? ⟨m.s, 1, none⟩ = some (.pointer (some ⟨m.z, 0, none⟩))) (first | exact hs1 | exact ⟨hst2.c0, hst2.c1⟩)
        (first | (go_at_call 25; refine HF1.out.mono ?_; rintro e w2 ⟨rfl, hb2⟩; have hst2 := HD.out.call hb2) | (go_at_call 14; refine (HF2.out _ hst2.ref).mono ?_; rintro e w' ⟨rfl, rfl⟩))
      have HS2 := Lib.hid hst2
      have HB2 := Lib.hid (HB.out.trans (hb2.mono HB.out.size))
      clear hst2 hb2 hs1
      go_wp2_with fail
      go_roundw
      case rel => exact ⟨i + 1, by omega, by have := HKD.out; go_num, HS2.out, HB2.out⟩
      case measure => have := HKD.out; simp [intOf]; omega
    · obtain rfl : i = 6 := by omega
      rw [show (((6 : Nat) : Int) - 1) = 5 from rfl]
      have HS1 := Lib.hid hst
      have HB1 := Lib.hid hb
      clear hst hb
      go_wp2_with fail
      go_loopw [2, 4] (fun _ t wr => ∃ j : Nat, j ≤ m.n ∧ t = .int .i64 j ∧ St B wr m F F S S T tv ∧ Below w.heap.size w wr) (fun _ t _ => m.n - (intOf t).toNat)
      case atStart => exact ⟨0, Nat.zero_le _, rfl, HS1.out, HB1.out⟩
      case round =>
        obtain ⟨j, hj, rfl, hst, hb⟩ := hrel
        have c1 := hst.c1
        have z0 := hst.ref.c0
        have x0 := hst.ref.ref.field
        by_cases hlj : j < m.n
        · have hD := hst.drewN 1
          obtain ⟨v, hv, hcv⟩ := hD.ref.ref.at_ hlj
          have hK := kind_any hD.kin j
          rw [kdZ_nat S hlj] at hK
          have hO := refOf_any hD.ref hlj hn10
          have hH := kHas_any hD.kin j (by omega) (by omega)
          rw [hasB_some hv] at hH
          generalize ((knd S j : Nat) : Int) = V at hK hO
          have HD := Lib.hid hD
          have HK := Lib.hid hK
          have HO := Lib.hid hO
          have HH := Lib.hid hH
          have HB := Lib.hid (below_dN hb 1)
          have HV := Lib.hid hv
          have hs1 := And.intro hD.c0 (And.intro hD.c1 (And.intro hD.ref.c0 (And.intro hD.ref.ref.field hcv)))
          have j0 : (0 : Int) ≤ j := by omega
          have jn : (j : Int) < m.n := by omega
          clear hst hb hD hK hO hH hv hcv
          go_wp2_with fail
          clear c1 z0 x0
          go_region_held3 (fun v' => v'.cell? ⟨m.s, 0, none⟩ = some (.pointer (some ⟨m.k, 0, none⟩)) ∧ v'.cell? ⟨m.s, 1, none⟩ = some (.pointer (some ⟨m.z, 0, none⟩)) ∧ v'.cell? ⟨m.z, 0, none⟩ = some (.pointer (some ⟨m.x, 0, none⟩)) ∧ v'.cell? ⟨m.x, 0, none⟩ = some (.slice (some ⟨m.y, 0, none⟩) m.n m.n) ∧ v'.cell? ⟨m.y, j, none⟩ = some (.bool v)) (first | exact hs1 | exact hs2)
            (first | (go_at_call 12; refine HK.out.mono ?_; rintro e w' ⟨rfl, rfl⟩) | (go_at_call 18; refine HO.out.mono ?_; rintro e w' ⟨rfl, rfl⟩) | (go_at_call 26; refine HH.out.mono ?_; rintro e w2 ⟨rfl, hb2⟩; have hst2 := HD.out.call hb2; have hs2 := And.intro hst2.c0 (And.intro hst2.c1 (And.intro hst2.ref.c0 (And.intro hst2.ref.ref.field ((hst2.ref.ref.row.cell j).trans (by rw [bcl_get, HV.out]; rfl : (bcl F)[j]? = some (.bool v)))))))) 
          have HS2 := Lib.hid hst2
          have HB2 := Lib.hid (HB.out.trans (hb2.mono HB.out.size))
          clear hst2 hb2 hs1 hs2
          go_wp2_with fail
          go_roundw
          case rel => exact ⟨j + 1, by omega, by go_num, HS2.out, HB2.out⟩
          case measure => simp [intOf]; omega
        · obtain rfl : j = m.n := by omega
          have hs9 := And.intro (hst.drewN 1).c0 (And.intro (hst.drewN 1).c1 (hst.drewN 1).ref.c0)
          have HS9 := Lib.hid (hst.drewN 1)
          have HB9 := Lib.hid (below_dN hb 1)
          have hml : (bk F).length ≤ 4096 := by have := bk_len F; have := hst.kin.len; omega
          clear hst hb
          go_wp2_with fail
          clear c1 z0 x0
          go_region_held3 (fun v => v.cell? ⟨m.s, 0, none⟩ = some (.pointer (some ⟨m.k, 0, none⟩)) ∧ v.cell? ⟨m.s, 1, none⟩ = some (.pointer (some ⟨m.z, 0, none⟩)) ∧ v.cell? ⟨m.z, 0, none⟩ = some (.pointer (some ⟨m.x, 0, none⟩))) (first | exact hs9 | exact hs10 | exact hs11 | exact hs12)
            (first | (go_at_call 21; refine (kFree_any HS9.out.kin).mono ?_; rintro e w' ⟨rfl, rfl⟩) | (go_at_call 13; refine (refFree_any HS9.out.ref.ref).mono ?_; rintro e w' ⟨rfl, rfl⟩) | (go_at_call 19; refine (kBlocks_any HS9.out.kin).mono ?_; rintro e w10 ⟨A1, c1, rfl, r1, hb10⟩; have k10 := HS9.out.call hb10; have hs10 := And.intro k10.c0 (And.intro k10.c1 k10.ref.c0)) | (go_at_call 33; refine (refBlocks_any k10.ref.ref).mono ?_; rintro e w11 ⟨A2, c2, rfl, r2, hb11⟩; have k11 := k10.call hb11; have r1' := r1.below hb11; have hs11 := And.intro k11.c0 (And.intro k11.c1 k11.ref.c0)) | (go_at_call 20; refine (same_same r1' r2 hml).mono ?_; rintro e w12 ⟨rfl, q, rfl⟩; have hs12 := And.intro (k11.drewN q).c0 (And.intro (k11.drewN q).c1 (k11.drewN q).ref.c0)))
          have HB11 := Lib.hid ((HB9.out.trans (hb10.mono HB9.out.size)).trans (hb11.mono (Nat.le_trans HB9.out.size hb10.size)))
          go_wp2
          go_ret
          exact ⟨rfl, below_dN HB11.out _⟩
end
end Go.Proofs.Ytfjphlickpgbnaa
