/- The law PickDrops, walked. -/
import Derived.Test.YtgkliffhdibghaaUx
namespace Go.Proofs.Ytgkliffhdibghaa
open Go.RowKit

set_option maxHeartbeats 4000000 in
set_option maxRecDepth 100000 in
theorem drops_walk (A : Option Addr) (n c : Nat) (A2 : Option Addr) (n3 c3 : Nat) (w : World) (hA : Acts w w.heap.size A n) (hO : Nums w w.heap.size A2 n3) :
    Calls Try.prog 6 #[.slice A n c, .slice A2 n3 c3] w fun e w' => e = .returned (.bool true) ∧ Below w.heap.size w w' := by
  have HA := Lib.hid hA
  have HO := Lib.hid hO
  clear hA hO
  go_enter Try.func6, Try.ntmps6
  go_wp2_with fail
  refine (new_any _).mono ?_
  rintro e w1 ⟨p, q, m, iv, rfl, h1, b1⟩
  go_wp2_with fail
  refine (awake_any _).mono ?_
  rintro e w2 ⟨rfl, b2⟩
  have HG : Hid (Going w.heap.size p q m w1.heap.size w 0 w2) := ⟨iv, _, [], (St.call (w := w1.alloc (.cells #[.slice none 0 0] 28)) ⟨h1.alloc _, RefX.new w1 b1.size, List.Pairwise.nil, b1.alloc b1.size _⟩ b2), Nat.le_refl _⟩
  generalize w1.heap.size = x at HG ⊢
  clear h1 b1 b2
  go_wp2_with fail
  go_loopw [7] (fun i wr => ∃ j : Nat, j ≤ n ∧ j ≤ 100 ∧ i = .int .i64 j ∧ Going w.heap.size p q m x w j wr) (fun i _ => n - (intOf i).toNat)
  case atStart => exact ⟨0, by omega, by omega, rfl, HG.out⟩
  case round =>
    obtain ⟨j, hj, hjl, rfl, hgo⟩ := hrel
    clear HG
    by_cases hboth : j < n ∧ j < 100
    · obtain ⟨hlt, hlim⟩ := hboth
      obtain ⟨ad, rfl, hab, ac, ok, c0, c1, c2⟩ := acts_now HA.out (Below.refl _ _) hlt
      obtain ⟨K, F, V⟩ := ac
      have HC : Hid (∀ v, Below w.heap.size w v → v.cell? ⟨(ad.add (j * 3)).block, (ad.add (j * 3)).off + 1, none⟩ = some (.int .i64 F) ∧ v.cell? ⟨(ad.add (j * 3)).block, (ad.add (j * 3)).off + 2, none⟩ = some (.int .i64 V)) := fun v hv => ⟨(hv.cell (p := ⟨_, _, none⟩) hab).trans c1, (hv.cell (p := ⟨_, _, none⟩) hab).trans c2⟩
      have HC0 : Hid (∀ v, Below w.heap.size w v → v.cell? (ad.add (j * 3)) = some (.int .i64 K)) := fun v hv => (hv.cell hab).trans c0
      obtain ⟨iv1, rv1, N, hst, hlN⟩ := hgo
      have HS := Lib.hid hst
      have HOK := Lib.hid ok
      have hjl : (j : Int) < n := by omega
      have hj0 : (0 : Int) ≤ j := by omega
      clear hst c0 c1 c2 ok hab
      go_wp2_with fail
      go_region_held3 (fun v => v.cell? ⟨(ad.add (j * 3)).block, (ad.add (j * 3)).off + 1, none⟩ = some (.int .i64 F) ∧ v.cell? ⟨(ad.add (j * 3)).block, (ad.add (j * 3)).off + 2, none⟩ = some (.int .i64 V)) (first | exact HC.out _ HS.out.drew.below | exact HC.out _ k1.below)
        (first | (go_at_call 11; refine (pickPut_any HS.out.drew.pick (fits_i64 HOK.out.2.2) (by omega)).mono ?_; intro e w3 hd; obtain ⟨rfl, iv2, k1, g1⟩ := HS.out.drew.half hd))
      have HK := Lib.hid k1
      clear k1 g1 hd
      go_wp2_with fail
      go_region_held3 (fun v => v.cell? ⟨(ad.add (j * 3)).block, (ad.add (j * 3)).off + 1, none⟩ = some (.int .i64 F) ∧ v.cell? ⟨(ad.add (j * 3)).block, (ad.add (j * 3)).off + 2, none⟩ = some (.int .i64 V)) (first | exact HC.out _ HK.out.drew.below | exact HC.out _ k2.below)
        (first | (go_at_call 12; refine (refPut_any HK.out.drew.ref (by omega) HK.out.dst F V).mono ?_; intro e w4 hd; obtain ⟨rfl, rv2, k2, g2⟩ := HK.out.drew.whole hd (HK.out.dst.put F V)))
      have hl2 := putL_len N F V
      have HZ : Hid (Going w.heap.size p q m x w (j + 1) w4) := ⟨_, _, _, k2, by omega⟩
      clear k2 g2 hd hl2
      go_wp2
      go_roundw
      case rel => exact ⟨j + 1, by omega, by omega, by go_num, HZ.out⟩
      case measure => simp [intOf]; omega
    · obtain ⟨iv1, rv1, N0, hst, hlN⟩ := hgo
      have hlN2 : N0.length ≤ 100 := by omega
      have HS0 := Lib.hid hst
      clear hst hlN HA
      by_cases hlt : j < n
      case' pos => have hlim : 100 ≤ j := by omega
      all_goals
        clear hboth hj
        have HR : Hid (Going w.heap.size p q m x w 100 wr) := ⟨_, _, _, HS0.out, hlN2⟩
        clear HS0 hlN2
        go_wp2_with fail
        go_loopw [8] (fun i wi => ∃ k : Nat, k ≤ n3 ∧ k ≤ 100 ∧ i = .int .i64 k ∧ Going w.heap.size p q m x w 100 wi) (fun i _ => n3 - (intOf i).toNat)
        case atStart => exact ⟨0, by omega, by omega, rfl, HR.out⟩
        case round =>
          obtain ⟨k, hk, hk100, rfl, iv2, rv2, N, hst, hlN⟩ := hrel
          clear HR
          have HS := Lib.hid hst
          have hl5 : N.length ≤ 5000 := by omega
          by_cases hb2 : k < n3 ∧ k < 100
          · obtain ⟨hlt2, hlim2⟩ := hb2
            obtain ⟨ad2, rfl, hab2, hc2⟩ := HO.out (by omega)
            obtain ⟨z, hz, hzc⟩ := hc2 k hlt2
            have HC : Hid (∀ v, Below w.heap.size w v → v.cell? (ad2.add k) = some (.int .i64 z)) := fun v hv => (hv.cell (by rw [block_add]; exact hab2)).trans hzc
            have HF := Lib.hid (fits_i64 hz)
            have k0 : (0 : Int) ≤ k := by omega
            have kl : (k : Int) < n3 := by omega
            clear hst hc2 hz hzc hab2
            go_wp2_with fail
            go_region_held3 (fun v => v.cell? (ad2.add k) = some (.int .i64 z)) (first | exact HC.out _ HS.out.drew.below | exact HC.out _ k1.below | exact HC.out _ k2.below)
              (first | (go_at_call 13; refine (pickDrop_any HS.out.drew.pick HF.out).mono ?_; intro e w3 hd; obtain ⟨rfl, iv3, k1, g1⟩ := HS.out.drew.half hd) | (go_at_call 14; refine (refDrop_any k1.ref hl5 z).mono ?_; intro e w4 hd4; obtain ⟨rfl, rv3, k2, g2⟩ := k1.whole hd4 (HS.out.dst.drop z)))
            have hl2 := dropL_le N z
            have HZ : Hid (Going w.heap.size p q m x w 100 w4) := ⟨_, _, _, k2, by omega⟩
            clear k1 k2 g1 g2 hd hd4 hl2
            go_wp2
            go_roundw
            case rel => exact ⟨k + 1, by omega, by omega, by go_num, HZ.out⟩
            case measure => simp [intOf]; omega
          · have HR : Hid (∃ iv rv N, St w.heap.size w wr p q m x iv rv N ∧ N.length ≤ 100) := ⟨_, _, _, HS.out, hlN⟩
            clear hst hlN hl5 HS HO
            by_cases hlt2 : k < n3
            case' pos => have hlim2 : 100 ≤ k := by omega
            all_goals
              clear hb2 hk
              go_wp2_with fail
              go_loopw [9] (fun i wi => ∃ (k : Nat) (iv rv : Value) (N : List It), i = .int .i64 k ∧ St w.heap.size w wi p q m x iv rv N ∧ N.length + k ≤ 100) (fun i _ => 100 - (intOf i).toNat)
              case atStart =>
                obtain ⟨iv, rv, N, g1, g2⟩ := HR.out
                exact ⟨0, iv, rv, N, rfl, g1, by omega⟩
              case round =>
                obtain ⟨k4, iv4, rv4, N4, rfl, hst, hlen⟩ := hrel
                clear HR
                have HS := Lib.hid hst
                have k11 : (k4 : Int) < 1100 := by omega
                by_cases hN : 0 < N4.length
                · have HP := pickPop_any hst.pick
                  rw [noE_pos hN] at HP
                  have hdl := dropL_in hst.dst (lst_mem hN)
                  have hde := lst_drops hN
                  obtain ⟨a, ea⟩ : ∃ a, a = (lst N4).1 := ⟨_, rfl⟩
                  obtain ⟨b, eb⟩ : ∃ b, b = (lst N4).2 := ⟨_, rfl⟩
                  rw [← ea, ← eb] at HP
                  rw [← ea] at hdl hde
                  have HP := Lib.hid HP
                  have HDE := Lib.hid hde
                  have hl5 : N4.length ≤ 5000 := by omega
                  clear hst ea eb hde hN
                  go_wp2_with fail
                  refine Calls.mono HP.out ?_
                  intro e w3 hd
                  obtain ⟨rfl, iv3, k1, g1⟩ := HS.out.half hd
                  have HK := Lib.hid k1
                  clear k1 g1 hd
                  have HRD := refDrop_any HK.out.ref hl5 a
                  rw [HDE.out] at HRD
                  have HRD := Lib.hid HRD
                  go_wp2_with fail
                  refine Calls.mono HRD.out ?_
                  intro e w4 hd
                  obtain ⟨rfl, rv3, k2, g2⟩ := HK.out.whole hd (HS.out.dst.drop a)
                  have HZ := Lib.hid k2
                  clear k2 g2 hd HRD
                  go_wp2
                  go_roundw
                  case rel => exact ⟨k4 + 1, _, _, _, by go_num, HZ.out, by omega⟩
                  case measure => simp [intOf]; omega
                · obtain rfl := nil_of hN
                  have HP := Lib.hid (pickPop_any hst.pick)
                  clear hst hN
                  go_wp2_with fail
                  refine Calls.mono HP.out ?_
                  intro e w3 hd
                  obtain ⟨rfl, iv3, k1, g1⟩ := HS.out.half hd
                  have HK := Lib.hid k1
                  obtain ⟨Ar, cr, er⟩ := own_form k1.ref.own
                  subst er
                  have hcx := k1.ref.c0
                  have HL := Lib.hid (pickLen_any k1.pick)
                  clear k1 g1 hd
                  go_wp2_with fail
                  refine Calls.mono HL.out ?_
                  rintro e w' ⟨rfl, rfl⟩
                  go_wp2
                  go_ret
                  exact ⟨rfl, HK.out.below⟩
end Go.Proofs.Ytgkliffhdibghaa
