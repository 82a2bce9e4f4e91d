/- The law PickLeast, walked. -/
import Derived.Test.YtgkliffhdibghaaUd
namespace Go.Proofs.Ytgkliffhdibghaa
open Go.RowKit

set_option maxHeartbeats 4000000 in
set_option maxRecDepth 100000 in
theorem least_walk (A : Option Addr) (n c : Nat) (w : World) (hA : Acts w w.heap.size A n) :
    Calls Try.prog 8 #[.slice A n c] w fun e w' => e = .returned (.bool true) ∧ Below w.heap.size w w' := by
  have HA := Lib.hid hA
  clear hA
  go_enter Try.func8, Try.ntmps8
  go_wp2_with fail
  refine (new_any _).mono ?_
  rintro e w1 ⟨p, q, m, iv, rfl, h1, b1⟩
  go_wp2_with fail
  refine (awake_any _).mono ?_
  rintro e w2 ⟨rfl, b2⟩
  have HG : Hid (Going w.heap.size p q m w1.heap.size w 0 w2) := ⟨iv, _, [], (St.call (w := w1.alloc (.cells #[.slice none 0 0] 28)) ⟨h1.alloc _, RefX.new w1 b1.size, List.Pairwise.nil, b1.alloc b1.size _⟩ b2), Nat.le_refl _⟩
  generalize w1.heap.size = x at HG ⊢
  clear h1 b1 b2
  go_wp2_with fail
  go_loopw [5] (fun i wr => ∃ j : Nat, j ≤ n ∧ j ≤ 150 ∧ i = .int .i64 j ∧ Going w.heap.size p q m x w j wr) (fun i _ => n - (intOf i).toNat)
  case atStart => exact ⟨0, by omega, by omega, rfl, HG.out⟩
  case round =>
    obtain ⟨j, hj, hj150, rfl, hgo⟩ := hrel
    clear HG
    by_cases hboth : j < n ∧ j < 150
    · obtain ⟨hlt, hlim⟩ := hboth
      obtain ⟨ad, rfl, hab, ac, ok, c0, c1, c2⟩ := acts_now HA.out (Below.refl _ _) hlt
      obtain ⟨K, F, V⟩ := ac
      have HC : Hid (∀ v, Below w.heap.size w v → v.cell? ⟨(ad.add (j * 3)).block, (ad.add (j * 3)).off + 1, none⟩ = some (.int .i64 F) ∧ v.cell? ⟨(ad.add (j * 3)).block, (ad.add (j * 3)).off + 2, none⟩ = some (.int .i64 V)) := fun v hv => ⟨(hv.cell (p := ⟨_, _, none⟩) hab).trans c1, (hv.cell (p := ⟨_, _, none⟩) hab).trans c2⟩
      have HC0 : Hid (∀ v, Below w.heap.size w v → v.cell? (ad.add (j * 3)) = some (.int .i64 K)) := fun v hv => (hv.cell hab).trans c0
      obtain ⟨iv1, rv1, N, hst, hlN⟩ := hgo
      have HS := Lib.hid hst
      have HOK := Lib.hid ok
      have hjl : (j : Int) < n := by omega
      have hj0 : (0 : Int) ≤ j := by omega
      clear hst c0 c1 c2 ok hab
      go_wp2_with fail
      go_region_held3 (fun v => v.cell? ⟨(ad.add (j * 3)).block, (ad.add (j * 3)).off + 1, none⟩ = some (.int .i64 F) ∧ v.cell? ⟨(ad.add (j * 3)).block, (ad.add (j * 3)).off + 2, none⟩ = some (.int .i64 V)) (first | exact HC.out _ HS.out.drew.below | exact HC.out _ k1.below)
        (first | (go_at_call 11; refine (pickPut_any HS.out.drew.pick (fits_i64 HOK.out.2.2) (by omega)).mono ?_; intro e w3 hd; obtain ⟨rfl, iv2, k1, g1⟩ := HS.out.drew.half hd))
      have HK := Lib.hid k1
      clear k1 g1 hd
      go_wp2_with fail
      go_region_held3 (fun v => v.cell? ⟨(ad.add (j * 3)).block, (ad.add (j * 3)).off + 1, none⟩ = some (.int .i64 F) ∧ v.cell? ⟨(ad.add (j * 3)).block, (ad.add (j * 3)).off + 2, none⟩ = some (.int .i64 V)) (first | exact HC.out _ HK.out.drew.below | exact HC.out _ k2.below)
        (first | (go_at_call 12; refine (refPut_any HK.out.drew.ref (by omega) HK.out.dst F V).mono ?_; intro e w4 hd; obtain ⟨rfl, rv2, k2, g2⟩ := HK.out.drew.whole hd (HK.out.dst.put F V)))
      have hl2 := putL_len N F V
      have HZ : Hid (Going w.heap.size p q m x w (j + 1) w4) := ⟨_, _, _, k2, by omega⟩
      clear k2 g2 hd hl2
      go_wp2
      go_roundw
      case rel => exact ⟨j + 1, by omega, by omega, by go_num, HZ.out⟩
      case measure => simp [intOf]; omega
    · obtain ⟨iv1, rv1, N, hst, hlN⟩ := hgo
      have hlN2 : N.length ≤ 150 := by omega
      have HS := Lib.hid hst
      clear hst hlN HA
      by_cases hlt : j < n
      case' pos => have hlim : 150 ≤ j := by omega
      all_goals
        clear hboth hj
        go_wp2_with fail
        refine (pickFirst_any HS.out.pick).mono ?_
        rintro e w3 ⟨rfl, hb3⟩
        have HS3 := Lib.hid (HS.out.call hb3)
        clear hb3 HS
        obtain ⟨Ar, cr, er⟩ := own_form HS3.out.ref.own
        subst er
        have hcx := HS3.out.ref.c0
        by_cases hN : 0 < N.length
        · obtain ⟨g, hA, hgl, -, hit⟩ := HS3.out.ref.items hN
          subst hA
          rw [noE_pos hN]
          have hmem := lst_mem hN
          have HLE := Lib.hid (fun k (hk : k < N.length) => lst_le (at_mem hk))
          obtain ⟨l1, el1⟩ : ∃ z, z = (lst N).1 := ⟨_, rfl⟩
          obtain ⟨l2, el2⟩ : ∃ z, z = (lst N).2 := ⟨_, rfl⟩
          have hyes : hasF N l1 = true := hasF_iff.2 ⟨_, hmem, el1.symm⟩
          have hwv : worV N l1 = l2 := by unfold worV; rw [if_pos hyes, at_ix HS3.out.dst hmem el1.symm, el2]
          have hdv : dropE N l1 = 0 := by simp [dropE, hyes]
          have hav : atI N l1 = (ix N l1 : Int) := by simp [atI, hyes]
          have HIT := Lib.hid hit
          have hfit : Fits l1 := by
            obtain ⟨L, M, hq, _, hp⟩ := HS3.out.pick.qs
            rw [el1]
            exact fits_fr (hq.fit _ (hp.mem_iff.2 hmem)).1
          have HWO := fun v (hv : Below w3.heap.size w3 v) => pickWorth_any (HS3.out.pick.call hv) hfit
          have HAT := fun v (hv : Below w3.heap.size w3 v) => refAt_any (HS3.out.ref.call hv) (by omega) l1
          rw [hwv, hdv] at HWO
          rw [hav] at HAT
          have i0 : (0 : Int) ≤ (ix N l1 : Nat) := by omega
          have HWO := Lib.hid HWO
          have HAT := Lib.hid HAT
          generalize (ix N l1 : Nat) = ii at HAT i0
          rw [← el1, ← el2]
          have EL := Lib.hid (And.intro el1 el2)
          obtain ⟨n2, hn2⟩ : ∃ n2, n2 = N.length := ⟨_, rfl⟩
          rw [← hn2] at hcx hN hlN2
          have HN2 := Lib.hid hn2
          have HN := Lib.hid hN
          have nz : ((n2 : Int) == 0) = false := by simpa using (by omega : ¬ (n2 : Int) = 0)
          have n5 : (n2 : Int) ≤ 150 := by omega
          have hxl := HS3.out.ref.top.lt
          clear hit hmem hyes hwv hdv hav hfit el1 el2 hn2 hN
          go_wp2_with fail
          go_loopw [9] (fun i wr => ∃ j : Nat, j ≤ n2 ∧ i = .int .i64 j ∧ Below w3.heap.size w3 wr) (fun i _ => n2 - (intOf i).toNat)
          case atStart => exact ⟨0, Nat.zero_le _, rfl, Below.refl _ _⟩
          case round =>
            obtain ⟨k, hk, rfl, hbw⟩ := hrel
            have hcr : wr.cell? ⟨x, 0, none⟩ = some (.slice (some ⟨g, 0, none⟩) n2 cr) := (hbw.cell (p := ⟨x, 0, none⟩) hxl).trans hcx
            by_cases hlt2 : k < n2
            · obtain ⟨a1, a2⟩ := HIT.out k (by rw [← HN2.out]; exact hlt2)
              obtain ⟨y1, ey1⟩ : ∃ z, z = (at' N k).1 := ⟨_, rfl⟩
              obtain ⟨y2, ey2⟩ : ∃ z, z = (at' N k).2 := ⟨_, rfl⟩
              have hle := HLE.out k (by rw [← HN2.out]; exact hlt2)
              unfold le at hle
              have hel := EL.out
              rw [← ey1, ← ey2, ← hel.1, ← hel.2] at hle
              rw [← ey1] at a1
              rw [← ey2] at a2
              have b1 : wr.cell? ⟨g, k * 2, none⟩ = some (.int .i64 y1) := (hbw.cell (p := ⟨g, _, none⟩) hgl).trans a1
              have b2 : wr.cell? ⟨g, k * 2 + 1, none⟩ = some (.int .i64 y2) := (hbw.cell (p := ⟨g, _, none⟩) hgl).trans a2
              have k0 : (0 : Int) ≤ k := by omega
              have kl : (k : Int) < n2 := by omega
              have HBW := Lib.hid hbw
              clear a1 a2 ey1 ey2 hel hcx
              by_cases t1 : l2 < y2
              · have t2 : ¬ y2 < l2 := by omega
                have t3 : (y2 == l2) = false := by simpa using (by omega : ¬ y2 = l2)
                clear hle
                go_wp2
                go_roundw
                case rel => exact ⟨k + 1, by omega, by go_num, HBW.out.alloc HBW.out.size _⟩
                case measure => simp [intOf]; omega
              · obtain rfl : y2 = l2 := by omega
                have t3 : ¬ y1 < l1 := by omega
                clear hle t1
                go_wp2
                go_roundw
                case rel => exact ⟨k + 1, by omega, by go_num, HBW.out.alloc HBW.out.size _⟩
                case measure => simp [intOf]; omega
            · have hd : ¬ (k : Int) < n2 := by omega
              have HBW := Lib.hid hbw
              clear hcx hlt2 hk
              go_wp2_with (first | (go_at_call 18; refine (HWO.out _ HBW.out).mono ?_; rintro e w' ⟨rfl, rfl⟩) | (go_at_call 19; refine (HAT.out _ HBW.out).mono ?_; rintro e w' ⟨rfl, rfl⟩))
              go_ret
              exact ⟨rfl, HS3.out.below.trans (HBW.out.mono HS3.out.pick.lo)⟩
        · obtain rfl := nil_of hN
          have HB := Lib.hid HS3.out.below
          clear HS3 hlN2 hN
          go_wp2
          go_ret
          exact ⟨rfl, HB.out⟩
end Go.Proofs.Ytgkliffhdibghaa
