/- The law PickRises, walked. -/
import Derived.Test.YtgkliffhdibghaaUx
namespace Go.Proofs.Ytgkliffhdibghaa
open Go.RowKit

set_option maxHeartbeats 4000000 in
set_option maxRecDepth 100000 in
theorem rises_walk (A : Option Addr) (n c : Nat) (w : World) (hA : Acts w w.heap.size A n) :
    Calls Try.prog 4 #[.slice A n c] w fun e w' => e = .returned (.bool true) ∧ Below w.heap.size w w' := by
  have HA := Lib.hid hA
  clear hA
  go_enter Try.func4, Try.ntmps4
  go_wp2_with fail
  refine (new_any _).mono ?_
  rintro e w1 ⟨p, q, m, iv, rfl, h1, b1⟩
  go_wp2_with fail
  refine (awake_any _).mono ?_
  rintro e w2 ⟨rfl, b2⟩
  have HG : Hid (Going w.heap.size p q m w1.heap.size w 0 w2) := ⟨iv, _, [], (St.call (w := w1.alloc (.cells #[.slice none 0 0] 28)) ⟨h1.alloc _, RefX.new w1 b1.size, List.Pairwise.nil, b1.alloc b1.size _⟩ b2), Nat.le_refl _⟩
  generalize w1.heap.size = x at HG ⊢
  clear h1 b1 b2
  go_wp2_with fail
  go_loopw [5] (fun i wr => ∃ j : Nat, j ≤ n ∧ j ≤ 200 ∧ i = .int .i64 j ∧ Going w.heap.size p q m x w j wr) (fun i _ => n - (intOf i).toNat)
  case atStart => exact ⟨0, by omega, by omega, rfl, HG.out⟩
  case round =>
    obtain ⟨j, hj, hjl, rfl, hgo⟩ := hrel
    clear HG
    by_cases hboth : j < n ∧ j < 200
    · obtain ⟨hlt, hlim⟩ := hboth
      obtain ⟨ad, rfl, hab, ac, ok, c0, c1, c2⟩ := acts_now HA.out (Below.refl _ _) hlt
      obtain ⟨K, F, V⟩ := ac
      have HC : Hid (∀ v, Below w.heap.size w v → v.cell? ⟨(ad.add (j * 3)).block, (ad.add (j * 3)).off + 1, none⟩ = some (.int .i64 F) ∧ v.cell? ⟨(ad.add (j * 3)).block, (ad.add (j * 3)).off + 2, none⟩ = some (.int .i64 V)) := fun v hv => ⟨(hv.cell (p := ⟨_, _, none⟩) hab).trans c1, (hv.cell (p := ⟨_, _, none⟩) hab).trans c2⟩
      have HC0 : Hid (∀ v, Below w.heap.size w v → v.cell? (ad.add (j * 3)) = some (.int .i64 K)) := fun v hv => (hv.cell hab).trans c0
      obtain ⟨iv1, rv1, N, hst, hlN⟩ := hgo
      have HS := Lib.hid hst
      have HOK := Lib.hid ok
      have hjl : (j : Int) < n := by omega
      have hj0 : (0 : Int) ≤ j := by omega
      clear hst c0 c1 c2 ok hab
      go_wp2_with fail
      go_region_held3 (fun v => v.cell? ⟨(ad.add (j * 3)).block, (ad.add (j * 3)).off + 1, none⟩ = some (.int .i64 F) ∧ v.cell? ⟨(ad.add (j * 3)).block, (ad.add (j * 3)).off + 2, none⟩ = some (.int .i64 V)) (first | exact HC.out _ HS.out.drew.below | exact HC.out _ k1.below)
        (first | (go_at_call 11; refine (pickPut_any HS.out.drew.pick (fits_i64 HOK.out.2.2) (by omega)).mono ?_; intro e w3 hd; obtain ⟨rfl, iv2, k1, g1⟩ := HS.out.drew.half hd))
      have HK := Lib.hid k1
      clear k1 g1 hd
      go_wp2_with fail
      go_region_held3 (fun v => v.cell? ⟨(ad.add (j * 3)).block, (ad.add (j * 3)).off + 1, none⟩ = some (.int .i64 F) ∧ v.cell? ⟨(ad.add (j * 3)).block, (ad.add (j * 3)).off + 2, none⟩ = some (.int .i64 V)) (first | exact HC.out _ HK.out.drew.below | exact HC.out _ k2.below)
        (first | (go_at_call 12; refine (refPut_any HK.out.drew.ref (by omega) HK.out.dst F V).mono ?_; intro e w4 hd; obtain ⟨rfl, rv2, k2, g2⟩ := HK.out.drew.whole hd (HK.out.dst.put F V)))
      have hl2 := putL_len N F V
      have HZ : Hid (Going w.heap.size p q m x w (j + 1) w4) := ⟨_, _, _, k2, by omega⟩
      clear k2 g2 hd hl2
      go_wp2
      go_roundw
      case rel => exact ⟨j + 1, by omega, by omega, by go_num, HZ.out⟩
      case measure => simp [intOf]; omega
    · obtain ⟨iv1, rv1, N0, hst, hlN⟩ := hgo
      have hlN2 : N0.length ≤ 200 := by omega
      have HS0 := Lib.hid hst
      clear hst hlN HA
      by_cases hlt : j < n
      case' pos => have hlim : 200 ≤ j := by omega
      all_goals
        clear hboth hj
        go_wp2_with fail
        refine (pickLen_any HS0.out.pick).mono ?_
        rintro e w' ⟨rfl, rfl⟩
        obtain ⟨n2, hn2⟩ : ∃ n2, n2 = N0.length := ⟨_, rfl⟩
        rw [← hn2] at hlN2 ⊢
        have HN2 := Lib.hid hn2
        clear hn2
        have HR : Hid (∃ iv rv N, St w.heap.size w wr p q m x iv rv N ∧ N.length + 0 = n2) := ⟨_, _, _, HS0.out, by rw [HN2.out]; rfl⟩
        clear HS0 HN2
        go_wp2_with fail
        go_loopw [7, 8, 9] (fun f v i wi => ∃ (k : Nat) (pf pw : Int), k ≤ n2 ∧ f = .int .i64 pf ∧ v = .int .i64 pw ∧ i = .int .i64 k ∧ ∃ iv rv N, St w.heap.size w wi p q m x iv rv N ∧ N.length + k = n2 ∧ Hid (0 < k → ∀ y ∈ N, ltB (pf, pw) y = true)) (fun _ _ i _ => n2 - (intOf i).toNat)
        case atStart =>
          obtain ⟨iv, rv, N, g1, g2⟩ := HR.out
          exact ⟨0, -1, 0, by omega, rfl, rfl, rfl, iv, rv, N, g1, g2, fun h => by omega⟩
        case round =>
          obtain ⟨k, pf, pw, hk, rfl, rfl, rfl, iv2, rv2, N, hst, hlen, hpr⟩ := hrel
          clear HR
          have HS := Lib.hid hst
          by_cases hlt2 : k < n2
          · have hN : 0 < N.length := by omega
            have HP := pickPop_any hst.pick
            rw [noE_pos hN] at HP
            have hdl := dropL_in hst.dst (lst_mem hN)
            have HB := Lib.hid (fun y hy => lst_before (N := N) (y := y) hy)
            have HPR := Lib.hid (fun h0 => hpr.out h0 _ (lst_mem hN))
            have hde := lst_drops hN
            obtain ⟨a, ea⟩ : ∃ a, a = (lst N).1 := ⟨_, rfl⟩
            obtain ⟨b, eb⟩ : ∃ b, b = (lst N).2 := ⟨_, rfl⟩
            rw [← ea, ← eb] at HP
            rw [← ea] at hdl hde
            have HBE : Hid (∀ y ∈ dropL N a, ltB (a, b) y = true) := fun y hy => by
              have := HB.out y (by rw [← ea]; exact hy)
              rw [ea, eb]; exact this
            have HP := Lib.hid HP
            have HDE := Lib.hid hde
            have hl5 : N.length ≤ 5000 := by omega
            have HWay : Hid (k = 0 ∨ 0 < k ∧ (pw < b ∨ pw = b ∧ pf < a)) := by
              show _ ∨ _
              by_cases h0 : k = 0
              · exact Or.inl h0
              · refine Or.inr ⟨by omega, ?_⟩
                have := HPR.out (by omega)
                rw [eb, ea]
                simpa [ltB] using this
            clear hst ea eb hde hpr HB HPR hN
            rcases HWay.out with h0 | ⟨h0, h1 | ⟨h1, h2⟩⟩
            case' inl => subst h0
            case' inr.inl => have h2 : ¬ b < pw := by omega
                             have h3 : (b == pw) = false := by simpa using (by omega : ¬ b = pw)
                             have h4 : (0 : Int) < k := by omega
            case' inr.inr => subst h1
                             have h3 : ¬ a ≤ pf := by omega
                             have h4 : (0 : Int) < k := by omega
            all_goals
              clear HWay
              go_wp2_with fail
              refine Calls.mono HP.out ?_
              intro e w3 hd
              obtain ⟨rfl, iv3, k1, g1⟩ := HS.out.half hd
              have HK := Lib.hid k1
              clear k1 g1 hd
              have HRD := refDrop_any HK.out.ref hl5 a
              rw [HDE.out] at HRD
              have HRD := Lib.hid HRD
              go_wp2_with fail
              refine Calls.mono HRD.out ?_
              intro e w4 hd
              obtain ⟨rfl, rv3, k2, g2⟩ := HK.out.whole hd (HS.out.dst.drop a)
              have HZ := Lib.hid k2
              clear k2 g2 hd HRD
              go_wp2
              go_roundw
              case rel => first | exact ⟨k + 1, a, _, by omega, rfl, rfl, by go_num, _, _, _, HZ.out, by omega, fun _ => HBE.out⟩ | exact ⟨0 + 1, a, _, by omega, rfl, rfl, by go_num, _, _, _, HZ.out, by omega, fun _ => HBE.out⟩
              case measure => simp [intOf]; omega
          · have hN0 : N.length = 0 := by omega
            have hn2k : ¬ (k : Int) < n2 := by omega
            obtain ⟨Ar, cr, er⟩ := own_form hst.ref.own
            subst er
            have hcx := hst.ref.c0
            have HL := pickLen_any hst.pick
            rw [hN0] at hcx HL
            have HL := Lib.hid HL
            clear hst hpr hlt2 hk hlen hN0
            go_wp2_with fail
            refine Calls.mono HL.out ?_
            rintro e w' ⟨rfl, rfl⟩
            go_wp2
            go_ret
            exact ⟨rfl, HS.out.below⟩
end Go.Proofs.Ytgkliffhdibghaa
