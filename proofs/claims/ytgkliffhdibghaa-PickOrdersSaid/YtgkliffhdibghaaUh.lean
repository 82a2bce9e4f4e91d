/- The law PickOrders, walked. -/
import Derived.Test.YtgkliffhdibghaaUy
import Derived.BigRegion
namespace Go.Proofs.Ytgkliffhdibghaa
open Go.RowKit

theorem RefX.drew' {w : World} {B x : Nat} {rv : Value} {N : List It} (h : RefX B w x rv N) : RefX B w.drew x rv N := h.drewN 1
set_option maxHeartbeats 16000000 in
set_option maxRecDepth 100000 in
theorem orders_walk (A : Option Addr) (n c : Nat) (frI : Int) (w : World) (hA : Acts w w.heap.size A n) (hf0 : 0 ≤ frI) (hf1 : frI < 256) :
    Calls Try.prog 5 #[.slice A n c, .int .u8 frI] w fun e w' => e = .returned (.bool true) ∧ Below w.heap.size w w' := by
  obtain ⟨fr, rfl⟩ : ∃ fr : Nat, frI = fr := ⟨frI.toNat, by omega⟩
  have hfr : fr < 256 := by omega
  have HA := Lib.hid hA
  clear hA hf0 hf1
  go_enter Try.func5, Try.ntmps5
  go_wp2_with fail
  refine (new_any _).mono ?_
  rintro e w1 ⟨pa, qa, ma, iva, rfl, h1, b1⟩
  go_wp2_with fail
  refine (new_any _).mono ?_
  rintro e w2 ⟨pb, qb, mb, ivb, rfl, h2, b2⟩
  go_wp2_with fail
  refine (awake_any _).mono ?_
  rintro e w3 ⟨rfl, b3⟩
  have HG : Hid (Tri w.heap.size w w3 pa qa ma pb qb mb w2.heap.size iva ivb (.slice none 0 0) [] [] []) := by
    refine Tri.call (w := w2.alloc (.cells #[.slice none 0 0] 28)) ⟨(h1.call b2).alloc _, (h2.base b1.size).alloc _, RefX.new w2 (Nat.le_trans b1.size b2.size), fun k hk hm => ?_, (b1.trans (b2.mono b1.size)).alloc (Nat.le_trans b1.size b2.size) _⟩ b3
    have := h2.qs.lo k hk
    have := h1.qs.lt k hm
    omega
  generalize w2.heap.size = x at HG ⊢
  clear h1 h2 b1 b2 b3
  go_wp2_with fail
  go_loopw [8] (fun i wr => ∃ j : Nat, j ≤ n ∧ j ≤ 100 ∧ i = .int .i64 j ∧ ∃ iva ivb rv N, Tri w.heap.size w wr pa qa ma pb qb mb x iva ivb rv N [] N ∧ Dst N ∧ N.length ≤ j) (fun i _ => n - (intOf i).toNat)
  case atStart => exact ⟨0, by omega, by omega, rfl, _, _, _, [], HG.out, List.Pairwise.nil, Nat.le_refl _⟩
  case round =>
    obtain ⟨j, hj, hjl, rfl, iva1, ivb1, rv1, N, hst, hd, hlN⟩ := hrel
    clear HG
    by_cases hboth : j < n ∧ j < 100
    · obtain ⟨hlt, hlim⟩ := hboth
      obtain ⟨ad, rfl, hab, ac, ok, c0, c1, c2⟩ := acts_now HA.out (Below.refl _ _) hlt
      obtain ⟨K, F, V⟩ := ac
      have HC : Hid (∀ v, Below w.heap.size w v → v.cell? ⟨(ad.add (j * 3)).block, (ad.add (j * 3)).off + 1, none⟩ = some (.int .i64 F) ∧ v.cell? ⟨(ad.add (j * 3)).block, (ad.add (j * 3)).off + 2, none⟩ = some (.int .i64 V)) := fun v hv => ⟨(hv.cell (p := ⟨_, _, none⟩) hab).trans c1, (hv.cell (p := ⟨_, _, none⟩) hab).trans c2⟩
      have HS := Lib.hid hst
      have HD := Lib.hid hd
      have HOK := Lib.hid ok
      have hjl : (j : Int) < n := by omega
      have hj0 : (0 : Int) ≤ j := by omega
      have hl4 : N.length < 5000 := by omega
      have hl5 : N.length ≤ 5000 := by omega
      have hl6 : N.length ≤ 6000 := by omega
      by_cases hh : hasF N F = true
      · have e3 : atI N F = (ix N F : Int) := by simp [atI, hh]
        have HAT : ∀ k, Calls Try.prog 19 #[.pointer (some ⟨x, 0, none⟩), .int .i64 F] (wr.drewN k) fun e w' => e = .returned (.int .i64 (ix N F : Nat)) ∧ w' = wr.drewN k := fun k => by
          have := refAt_any (hst.ref.drewN k) hl6 F
          rw [e3] at this
          exact this.mono fun _ _ h => ⟨h.1, h.2.symm⟩
        have i0 : (0 : Int) ≤ (ix N F : Nat) := by omega
        generalize (ix N F : Nat) = ii at HAT i0
        have hc1 := (HC.out _ HS.out.below).1
        have hc2 := (HC.out _ HS.out.below).2
        have hii : decide ((ii : Int) < 0) = false := by simp
        have HAT := Lib.hid HAT
        clear hst c0 c1 c2 ok hab hh e3 hd
        go_wp2_with fail
        go_quiet ((go_at_call 19; exact Calls.quiet_of_same (HAT.out _)))
        go_wp2
        go_roundw
        case rel => exact ⟨j + 1, by omega, by omega, by go_num, _, _, _, _, HS.out.drewN _, HD.out, by omega⟩
        case measure => simp [intOf]; omega
      · have hno : hasF N F = false := by simpa using hh
        have e3 : atI N F = -1 := by simp [atI, hno]
        have HAT := refAt_any hst.ref.drew' hl6 F
        rw [e3] at HAT
        have HAT := Lib.hid HAT
        have HNO := Lib.hid hno
        clear hst c0 c1 c2 ok hab hh hno e3 hd
        by_cases hfr : frB F = true
        · have hpe : putE F = 0 := by simp [putE, hfr]
          have hpl := putL_new (w := V) hfr HNO.out
          have HP := refPut_any HS.out.ref.drew' hl5 HD.out F V
          rw [hpe, hpl] at HP
          have HP := Lib.hid HP
          have HDN := Lib.hid (show Dst (N ++ [(F, V)]) by have := HD.out.put F V; rw [hpl] at this; exact this)
          have HPA := Lib.hid (fun v iva' (h : PickAt w.heap.size v pa qa ma iva' N) => by
            have := pickPut_any h (f := F) (fits_i64 HOK.out.2.2) hl4
            rw [hpl, hpe] at this
            exact this)
          clear hfr hpe hpl
          go_wp2_with fail
          go_region_held3 (fun v => v.cell? ⟨(ad.add (j * 3)).block, (ad.add (j * 3)).off + 1, none⟩ = some (.int .i64 F) ∧ v.cell? ⟨(ad.add (j * 3)).block, (ad.add (j * 3)).off + 2, none⟩ = some (.int .i64 V)) (first | exact HC.out _ HS.out.drew.below | exact HC.out _ k1.below)
            (first | (go_at_call 19; refine Calls.mono HAT.out ?_; rintro e w' ⟨rfl, rfl⟩) | (go_at_call 12; refine Calls.mono HP.out ?_; intro e w3 hd3; obtain ⟨rfl, rv2, k1, g1⟩ := HS.out.drew.callR hd3))
          have HK := Lib.hid k1
          clear k1 g1 hd3
          go_wp2_with fail
          go_region_held3 (fun v => v.cell? ⟨(ad.add (j * 3)).block, (ad.add (j * 3)).off + 1, none⟩ = some (.int .i64 F) ∧ v.cell? ⟨(ad.add (j * 3)).block, (ad.add (j * 3)).off + 2, none⟩ = some (.int .i64 V)) (first | exact HC.out _ HK.out.drew.below | exact HC.out _ k2.below)
            (first | (go_at_call 11; refine Calls.mono (HPA.out _ _ HK.out.drew.a) ?_; intro e w4 hd4; obtain ⟨rfl, iv2, k2, g2⟩ := HK.out.drew.callA hd4))
          have HZ := Lib.hid k2
          clear k2 g2 hd4
          go_wp2
          go_roundw
          case rel => exact ⟨j + 1, by omega, by omega, by go_num, _, _, _, _, HZ.out, HDN.out, by simp; omega⟩
          case measure => simp [intOf]; omega
        · have hfr2 : frB F = false := by simpa using hfr
          have hpe : putE F = 3 := by simp [putE, hfr2]
          have hpl := putL_no (N := N) (w := V) hfr2
          have HP := refPut_any HS.out.ref.drew' hl5 HD.out F V
          rw [hpe, hpl] at HP
          have HP := Lib.hid HP
          clear hfr hfr2 hpe hpl
          go_wp2_with fail
          go_region_held3 (fun v => v.cell? ⟨(ad.add (j * 3)).block, (ad.add (j * 3)).off + 1, none⟩ = some (.int .i64 F) ∧ v.cell? ⟨(ad.add (j * 3)).block, (ad.add (j * 3)).off + 2, none⟩ = some (.int .i64 V)) (first | exact HC.out _ HS.out.drew.below | exact HC.out _ k1.below)
            (first | (go_at_call 19; refine Calls.mono HAT.out ?_; rintro e w' ⟨rfl, rfl⟩) | (go_at_call 12; refine Calls.mono HP.out ?_; intro e w3 hd3; obtain ⟨rfl, rv2, k1, g1⟩ := HS.out.drew.callR hd3))
          have HK := Lib.hid k1
          clear k1 g1 hd3
          go_wp2
          go_roundw
          case rel => exact ⟨j + 1, by omega, by omega, by go_num, _, _, _, _, HK.out, HD.out, by omega⟩
          case measure => simp [intOf]; omega
    · have hlN2 : N.length ≤ 100 := by omega
      replace hlN := hlN2
      clear hlN2
      by_cases hlt : j < n
      case' pos => have hlim : 100 ≤ j := by omega
      all_goals
        clear hboth hj
        have HS := Lib.hid hst
        have HD := Lib.hid hd
        obtain ⟨Ar, cr, er⟩ := own_form hst.ref.own
        subst er
        have hcx := hst.ref.c0
        have HIN : Hid (∀ i j, i < N.length → j < N.length → (at' N i).1 = (at' N j).1 → i = j) := fun i j hi hj e => by
          obtain ⟨L, M, hq, _, hp⟩ := HS.out.a.qs
          have hd := HD.out
          unfold Dst at hd
          rw [List.pairwise_iff_getElem] at hd
          rcases Nat.lt_trichotomy i j with g | g | g
          · exact absurd (by rw [← at_of_get (List.getElem?_eq_getElem hi), ← at_of_get (List.getElem?_eq_getElem hj)]; exact e) (hd i j hi hj g)
          · exact g
          · exact absurd (by rw [← at_of_get (List.getElem?_eq_getElem hi), ← at_of_get (List.getElem?_eq_getElem hj)]; exact e.symm) (hd j i hj hi g)
        obtain ⟨n2, hn2⟩ : ∃ n2, n2 = N.length := ⟨_, rfl⟩
        rw [← hn2] at hcx hlN
        have HN2 := Lib.hid hn2
        clear hst hd hn2 HA
        have HR : Hid (∃ iva ivb rv Nb, Tri w.heap.size w wr pa qa ma pb qb mb x iva ivb rv N Nb N ∧ Dst Nb ∧ Nb.length = 0 ∧ ∀ y ∈ Nb, ∃ i, i < 0 ∧ y = at' N ((n2 - 1 - i + fr) % n2)) := ⟨_, _, _, [], HS.out, List.Pairwise.nil, rfl, fun y hy => (by cases hy)⟩
        clear HS
        go_wp2_with fail
        go_loopw [10] (fun i wi => ∃ k : Nat, k ≤ n2 ∧ i = .int .i64 k ∧ ∃ iva ivb rv Nb, Tri w.heap.size w wi pa qa ma pb qb mb x iva ivb rv N Nb N ∧ Dst Nb ∧ Nb.length = k ∧ Hid (∀ y ∈ Nb, ∃ i, i < k ∧ y = at' N ((n2 - 1 - i + fr) % n2))) (fun i _ => n2 - (intOf i).toNat)
        case atStart =>
          obtain ⟨iva, ivb, rv, Nb, g1, g2, g3, g4⟩ := HR.out
          exact ⟨0, Nat.zero_le _, rfl, iva, ivb, rv, Nb, g1, g2, g3, g4⟩
        case round =>
          obtain ⟨k, hk, rfl, iva2, ivb2, rv2, Nb, hst, hdb, hlb, hmem⟩ := hrel
          clear HR hcx
          have HS := Lib.hid hst
          have HDB := Lib.hid hdb
          by_cases hlt2 : k < n2
          · obtain ⟨Ar2, cr2, er2⟩ := own_form hst.ref.own
            subst er2
            have hcx := hst.ref.c0
            rw [← HN2.out] at hcx
            obtain ⟨r, er⟩ : ∃ r, r = (n2 - 1 - k + fr) % n2 := ⟨_, rfl⟩
            have hr : r < n2 := by rw [er]; exact Nat.mod_lt _ (by omega)
            obtain ⟨g, hA2, hgl, -, hit⟩ := hst.ref.items (by rw [← HN2.out]; omega)
            subst hA2
            obtain ⟨a1, a2⟩ := hit r (by rw [← HN2.out]; exact hr)
            have hfit := hst.fit (at_mem (L := N) (k := r) (by rw [← HN2.out]; exact hr))
            obtain ⟨y1, ey1⟩ : ∃ z, z = (at' N r).1 := ⟨_, rfl⟩
            obtain ⟨y2, ey2⟩ : ∃ z, z = (at' N r).2 := ⟨_, rfl⟩
            rw [← ey1, ← ey2] at hfit
            rw [← ey1] at a1
            rw [← ey2] at a2
            have hno : hasF Nb y1 = false := by
              rw [Bool.eq_false_iff]
              intro h
              obtain ⟨y, hy, e⟩ := hasF_iff.1 h
              obtain ⟨i, hi, e2⟩ := hmem.out y hy
              rw [e2, ey1, er] at e
              exact mod_inj hi hlt2 (HIN.out _ _ (by rw [← HN2.out]; exact Nat.mod_lt _ (by omega)) (by rw [← HN2.out]; exact Nat.mod_lt _ (by omega)) e)
            have hfr : frB y1 = true := by simp [frB, hfit.1]
            have hpl := putL_new (w := y2) hfr hno
            have HPB := Lib.hid (fun v ivb' (h : PickAt w.heap.size v pb qb mb ivb' Nb) => by
              have := pickPut_any h (f := y1) hfit.2 (by omega)
              rw [hpl] at this
              exact this)
            have HMN : Hid (∀ y ∈ Nb ++ [(y1, y2)], ∃ i, i < k + 1 ∧ y = at' N ((n2 - 1 - i + fr) % n2)) := fun y hy => by
              rcases List.mem_append.1 hy with hy | hy
              · obtain ⟨i, hi, e⟩ := hmem.out y hy
                exact ⟨i, by omega, e⟩
              · refine ⟨k, by omega, ?_⟩
                rw [List.mem_singleton.1 hy, ey1, ey2, er]
            have HDN := Lib.hid (show Dst (Nb ++ [(y1, y2)]) by have := hdb.put y1 y2; rw [hpl] at this; exact this)
            obtain ⟨m1, em1⟩ : ∃ m1, m1 = n2 - 1 := ⟨_, rfl⟩
            obtain ⟨m2, em2⟩ : ∃ m2, m2 = m1 - k := ⟨_, rfl⟩
            obtain ⟨m3, em3⟩ : ∃ m3, m3 = m2 + fr := ⟨_, rfl⟩
            have er' : r = m3 % n2 := by rw [er, em3, em2, em1]
            have f1 : (n2 : Int) - 1 = (m1 : Nat) := by omega
            have f2 : (m1 : Int) - k = (m2 : Nat) := by omega
            have f3 : (m2 : Int) + fr = (m3 : Nat) := by omega
            have f4 : (m3 : Int) % n2 = (r : Nat) := by rw [er']; simp
            have f5 : Int.tmod (m3 : Int) n2 = (r : Nat) := by rw [er']; exact (Int.ofNat_tmod m3 n2).symm
            have nz : ((n2 : Int) == 0) = false := by simpa using (by omega : ¬ (n2 : Int) = 0)
            have r0 : (0 : Int) ≤ r := by omega
            have rl : (r : Int) < n2 := by omega
            have m30 : (0 : Int) ≤ m3 := by omega
            have m35 : (m3 : Int) ≤ 5000 := by omega
            have n25 : (n2 : Int) ≤ 100 := by omega
            have k0 : (0 : Int) ≤ k := by omega
            have kl : (k : Int) < n2 := by omega
            have n20 : (0 : Int) < n2 := by omega
            have fr5 : (fr : Int) < 256 := by omega
            have w1 : IntKind.i64.wrap (m1 : Int) = m1 := IntWalk.i64_in _ (by omega)
            have w2 : IntKind.i64.wrap (m2 : Int) = m2 := IntWalk.i64_in _ (by omega)
            have w3' : IntKind.i64.wrap (m3 : Int) = m3 := IntWalk.i64_in _ (by omega)
            have w4 : IntKind.i64.wrap (fr : Int) = fr := IntWalk.i64_in _ (by omega)
            have w5 : IntKind.i64.wrap (r : Int) = r := IntWalk.i64_in _ (by omega)
            have n2z : ¬ n2 = 0 := by omega
            have hxl := hst.ref.top.lt
            have hxn : ¬ x = wr.heap.size := by omega
            have hgn : ¬ g = wr.heap.size := by omega
            clear hst hdb hmem hit hfit ey1 ey2 er er' hno hfr hpl em1 em2 em3 hr
            go_wp2_with fail
            go_region
            all_goals go_wp2_with fail
            have HT := Lib.hid (HS.out.call ((Below.refl _ _).alloc (Nat.le_refl _) (.cells #[.int .i64 y1, .int .i64 y2] 38))).drew
            refine Calls.mono (HPB.out _ _ HT.out.b) ?_
            intro e w4' hd4
            obtain ⟨rfl, ivb3, k2, g2⟩ := HT.out.callB hd4
            have HZ := Lib.hid k2
            clear k2 g2 hd4 HT w1 w2 w3' w4 w5 f1 f2 f3 f4 f5
            go_wp2
            go_roundw
            case rel => exact ⟨k + 1, by omega, by go_num, _, _, _, _, HZ.out, HDN.out, by simp; omega, HMN.out⟩
            case measure => simp [intOf]; omega
          · have hkn : k = n2 := by omega
            have hpm : Nb.Perm N := perm_of hdb (fun y hy => by
              obtain ⟨i, hi, e⟩ := hmem.out y hy
              rw [e]
              exact at_mem (by rw [← HN2.out]; exact Nat.mod_lt _ (by omega))) (by rw [← HN2.out]; omega)
            have HR : Hid (∃ iva ivb rv N' Nx, Tri w.heap.size w wr pa qa ma pb qb mb x iva ivb rv N' N' Nx) := ⟨_, _, _, _, _, HS.out.perm hpm⟩
            have hd2 : ¬ (k : Int) < n2 := by omega
            have n25 : (n2 : Int) ≤ 100 := by omega
            clear hst hdb hmem hpm HS HDB hkn hlb
            go_wp2_with fail
            go_loopw [12] (fun i wi => ∃ k : Nat, k ≤ n2 + 1 ∧ i = .int .i64 k ∧ ∃ iva ivb rv N' Nx, Tri w.heap.size w wi pa qa ma pb qb mb x iva ivb rv N' N' Nx) (fun i _ => n2 + 1 - (intOf i).toNat)
            case atStart => exact ⟨0, by omega, rfl, HR.out⟩
            case round =>
              obtain ⟨k3, hk3, rfl, iva5, ivb5, rv5, N5, Nx, hst5⟩ := hrel
              clear HR
              have HS5 := Lib.hid hst5
              by_cases hlt3 : k3 ≤ n2
              · have hlt3' : (k3 : Int) ≤ n2 := by omega
                have HPa := pickPop_any hst5.a
                have HPb := fun v iv' (h : PickAt w.heap.size v pb qb mb iv' N5) => pickPop_any h
                generalize (lst N5).1 = a at HPa HPb
                generalize (lst N5).2 = b at HPa HPb
                generalize noE N5 = ne at HPa HPb
                have HPa := Lib.hid HPa
                have HPb := Lib.hid HPb
                clear hst5
                go_wp2_with fail
                refine Calls.mono HPa.out ?_
                intro e w3 hd3
                obtain ⟨rfl, iva6, k1, g1⟩ := HS5.out.callA hd3
                have HK := Lib.hid k1
                clear k1 g1 hd3
                go_wp2_with fail
                refine Calls.mono (HPb.out _ _ HK.out.b) ?_
                intro e w4 hd4
                obtain ⟨rfl, ivb6, k2, g2⟩ := HK.out.callB hd4
                have HZ := Lib.hid k2
                clear k2 g2 hd4
                go_wp2
                go_roundw
                case rel => exact ⟨k3 + 1, by omega, by go_num, _, _, _, _, _, HZ.out⟩
                case measure => simp [intOf]; omega
              · have hd3 : ¬ (k3 : Int) ≤ n2 := by omega
                clear hst5
                go_wp2
                go_ret
                exact ⟨rfl, HS5.out.below⟩
end Go.Proofs.Ytgkliffhdibghaa
