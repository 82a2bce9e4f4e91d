/- The law KindsOwn. -/
import Derived.Test.YtfjphlickpgbnaaJh
import Derived.Test.YtfjphlickpgbnaaJi
import Derived.Test.YtfjphlickpgbnaaKm
import Derived.BigQuiet
namespace Go.Proofs.Ytfjphlickpgbnaa
open Go.RowKit

/-- While a piece of the kind is great enough, what is taken is of the kind. -/
theorem own_yes {F : List Bool} {S : List Nat} {o kd : Nat} (h : (pcs F S).any (selB S o kd) = true) : ∃ y, ktP F S o kd = some y ∧ knd S y.1 = kd := by
  obtain ⟨x, hx, hs⟩ := List.any_eq_true.1 h
  have hp : 0 < ((pcs F S).filter (selB S o kd)).length := List.length_pos_of_mem (List.mem_filter.2 ⟨hx, hs⟩)
  obtain ⟨y, hy⟩ := bst_some (great := false) hp
  refine ⟨y, ?_, ?_⟩
  · unfold ktP chs
    rw [putL_at, hy]
  · have := (List.mem_filter.1 (bst_mem hy)).2
    unfold selB at this
    rw [Bool.and_eq_true, beq_iff_eq] at this
    exact this.2
/-- When no piece of the kind is great enough, what is taken is not of the kind. -/
theorem own_no {F : List Bool} {S : List Nat} {o kd : Nat} (h : (pcs F S).any (selB S o kd) = false) {y : Nat × Nat} (hy : ktP F S o kd = some y) : knd S y.1 ≠ kd := by
  obtain ⟨h1, h2, _⟩ := ktP_fre hy
  intro e
  rw [List.any_eq_false] at h
  exact h y h1 (by unfold selB; rw [e]; simp [h2])
theorem any_take {p : Nat × Nat → Bool} {M : List (Nat × Nat)} {j : Nat} (h : j < M.length) : (M.take (j + 1)).any p = ((M.take j).any p || p (M.getD j (0, 0))) := by
  rw [List.take_succ_eq_append_getElem h, List.any_append, List.getD_eq_getElem?_getD, List.getElem?_eq_getElem h]
  simp
set_option maxHeartbeats 40000000 in
set_option maxRecDepth 100000 in
theorem own_walk (fr : Int) (A : Option Addr) (l0 c : Nat) (t kq : Int) (w : World) (hA : Acts w w.heap.size A l0) (hfr : I64 fr) (ht0 : 0 ≤ t) (_ : t < 256) (hq0 : 0 ≤ kq) (_ : kq < 256) :
    Calls Try.prog 5 #[.agg #[.int .i64 fr, .slice A l0 c, .int .u8 t, .int .u8 kq]] w fun e w' => e = .returned (.bool true) ∧ Below w.heap.size w w' := by
  have _ := hfr
  clear hfr
  obtain ⟨o, ho⟩ : ∃ o : Nat, t % 4 = o := ⟨(t % 4).toNat, by omega⟩
  have ho8 : o ≤ 8 := by omega
  have hot : t.tmod 4 = o := by rw [Int.tmod_eq_emod_of_nonneg ht0]; exact ho
  obtain ⟨k, hk⟩ : ∃ k : Nat, kq % 3 = k := ⟨(kq % 3).toNat, by omega⟩
  have hk2 : k ≤ 2 := by omega
  have hkt : kq.tmod 3 = k := by rw [Int.tmod_eq_emod_of_nonneg hq0]; exact hk
  by_cases hf : fr < 8 ∨ 1024 < fr
  · have hmd := fun W' => made_bad hf W'
    go_enter Try.func5, Try.ntmps5
    go_wp2_with fail
    go_quiet (fail)
    go_wp2_with (first | (go_at_call 8; refine (hmd _).mono ?_; rintro e w' ⟨rfl, rfl⟩))
    refine (awake_any _).mono ?_
    rintro e w1 ⟨rfl, hb1⟩
    go_wp2_with fail
    refine (awake_any _).mono ?_
    rintro e w2 ⟨rfl, hb2⟩
    go_wp2
    go_ret
    exact ⟨rfl, ((below_dN ((Below.refl w.heap.size w).alloc (Nat.le_refl _) _) _).trans (hb1.mono (by simp))).trans (hb2.mono (Nat.le_trans (by simp) hb1.size))⟩
  · obtain ⟨n, hn, h8, h150⟩ := smI_good hf
    have hmd := fun W' => made_any n hn h8 h150 W'
    have HA := Lib.hid hA
    clear hA hn hf
    go_enter Try.func5, Try.ntmps5
    go_wp2_with fail
    go_quiet (fail)
    go_wp2_with fail
    refine (hmd _).mono ?_
    intro e w1 h1
    obtain ⟨m, hmn, rfl, hg1, hb1⟩ := h1.going
    obtain ⟨B0, hBw, hg1, hb1⟩ : ∃ B0, w.heap.size ≤ B0 ∧ Going B0 m w1 w1 ∧ Below w.heap.size w w1 := ⟨_, by simp, hg1, (below_dN ((Below.refl w.heap.size w).alloc (Nat.le_refl _) _) _).trans (hb1.mono (by simp))⟩
    subst hmn
    clear h1 hmd
    go_wp2_with fail
    refine (awake_any _).mono ?_
    rintro e w2 ⟨rfl, hb2⟩
    have HG := Lib.hid (hg1.call hb2)
    have HB1 := Lib.hid hb1
    clear hg1 hb2 hb1
    go_wp2_with fail
    go_loopw [9] (fun i wr => ∃ j : Nat, j ≤ l0 ∧ i = .int .i64 j ∧ Going B0 m w1 wr) (fun i _ => l0 - (intOf i).toNat)
    case atStart => exact ⟨0, by omega, rfl, HG.out⟩
    case round =>
      obtain ⟨j, hj, rfl, hgo⟩ := hrel
      clear HG
      have hbw : Below w.heap.size w wr := HB1.out.trans (hgo.below.mono hBw)
      by_cases hboth : j < l0 ∧ j < 60
      · obtain ⟨hlt, hlim⟩ := hboth
        obtain ⟨ad, rfl, ac, ok, hat⟩ := acts_now HA.out hbw hlt
        obtain ⟨K, Fr, o, Of, N⟩ := ac
        have c0 := hat.c0
        have c1 := hat.c1
        have c2 := hat.c2
        have c3 := hat.c3
        have c4 := hat.c4
        clear hat
        go_wp2_with fail
        refine (hgo.do_ ok).mono ?_
        rintro e w' ⟨rfl, hgo'⟩
        clear hgo hbw c0 c1 c2 c3 c4
        go_wp2
        go_roundw
        case rel => exact ⟨j + 1, by omega, by go_num, hgo'⟩
        case measure => simp [intOf]; omega
      · obtain ⟨F, S, T, tv, hst, hhe, hsp⟩ := hgo
        have HST := Lib.hid hst
        have HH := Lib.hid hhe
        have HSP := Lib.hid hsp
        have HBW := Lib.hid hbw
        have hcz := hst.c1
        clear hst hhe hsp hbw HA
        by_cases hlt : j < l0
        case' pos => have hlim : 60 ≤ j := by omega
        all_goals
          clear hboth
          go_wp2_with fail
          clear HB1 HSP HH hlt hj
          try clear hlim
          obtain ⟨M, hM⟩ : ∃ M, M = pcs F S := ⟨_, rfl⟩
          have hP := refPieces_any HST.out.ref HST.out.kin.hi
          have hml := pcs_len F S
          rw [HST.out.kin.len] at hml
          rw [← hM] at hP hml
          have HM := Lib.hid hM
          clear hM
          refine hP.mono ?_
          rintro e w5 ⟨A5, c5, rfl, r5, hb5⟩
          obtain ⟨l, hl⟩ : ∃ l, l = M.length := ⟨_, rfl⟩
          rw [← hl] at hml ⊢
          have hmn := HST.out.kin.hi
          have hl10 : l ≤ 1024 := by omega
          have HL := Lib.hid hl
          have HS5 := Lib.hid (HST.out.call hb5)
          have HR5 := Lib.hid r5
          have HB5 := Lib.hid (HBW.out.trans (hb5.mono HBW.out.size))
          clear hl hP hb5 r5 HST HBW hcz hml
          go_wp2_with fail
          go_loopw [12, 14] (fun b i wr => ∃ j : Nat, j ≤ l ∧ i = .int .i64 j ∧ b = .bool ((M.take j).any (selB S o k)) ∧ St B0 wr m F F S S T tv ∧ BlkRow wr A5 M ∧ Below w.heap.size w wr) (fun _ i _ => l - (intOf i).toNat)
          case atStart => exact ⟨0, Nat.zero_le _, rfl, rfl, HS5.out, HR5.out, HB5.out⟩
          case round =>
            clear HS5 HR5 HB5
            obtain ⟨j, hj, rfl, rfl, hst, hr, hb⟩ := hrel
            by_cases hlt : j < l
            · have HS0 := Lib.hid hst
              have HR0 := Lib.hid hr
              have HB0 := Lib.hid hb
              obtain ⟨g, rfl, _, hc⟩ := hr.at_ (by rw [← HL.out]; omega)
              obtain ⟨hc0, hc1⟩ := hc j (by rw [← HL.out]; omega)
              have hmem : M.getD j (0, 0) ∈ pcs F S := by
                rw [← HM.out, List.getD_eq_getElem?_getD, List.getElem?_eq_getElem (by rw [← HL.out]; exact hlt)]
                exact List.getElem_mem _
              have hfit := (pcs_fre hmem).2.2
              have hnx := any_take (p := selB S o k) (M := M) (j := j) (by rw [← HL.out]; exact hlt)
              rw [show selB S o k (M.getD j (0, 0)) = (decide (o ≤ (M.getD j (0, 0)).2) && knd S (M.getD j (0, 0)).1 == k) from rfl] at hnx
              obtain ⟨x, ex⟩ : ∃ x, x = (M.getD j (0, 0)).1 := ⟨_, rfl⟩
              obtain ⟨y, ey⟩ : ∃ y, y = (M.getD j (0, 0)).2 := ⟨_, rfl⟩
              rw [← ex] at hc0 hfit hnx
              rw [← ey] at hc1 hfit hnx
              have hxn : x < m.n := by have := hst.kin.len; have := two_pos y; omega
              obtain ⟨kx, hkx⟩ : ∃ kx, kx = knd S x := ⟨_, rfl⟩
              have hO : ∀ q, Calls Try.prog 18 #[.pointer (some ⟨m.z, 0, none⟩), .int .i64 x] (wr.drewN q) fun e w' => e = .returned (.int .i64 kx) ∧ w' = wr.drewN q := fun q => by
                have := refOf_any (hst.drewN q).ref hxn hst.kin.hi
                rw [← hkx] at this
                exact this.mono fun _ _ h => ⟨h.1, h.2.symm⟩
              rw [← hkx] at hnx
              have HO := Lib.hid hO
              obtain ⟨b, hbb⟩ : ∃ b, b = (M.take j).any (selB S o k) := ⟨_, rfl⟩
              rw [← hbb] at hnx ⊢
              have HN := Lib.hid hnx
              have hcz := hst.c1
              clear hst hr hb hc hmem hfit ex ey hkx hO hnx hbb
              have hjl : (j : Int) < l := by omega
              have hj0 : (0 : Int) ≤ j := by omega
              cases b with
              | true =>
                go_wp2_with fail
                go_quiet ((go_at_call 18; exact Calls.quiet_of_same (HO.out _)))
                clear hc0 hc1 hcz
                go_wp2_with fail
                go_roundw
                case rel => exact ⟨j + 1, by omega, by go_num, by rw [HN.out]; rfl, HS0.out.drewN _, HR0.out.below (below_dN (Below.refl _ _) _), below_dN HB0.out _⟩
                case measure => simp [intOf]; omega
              | false =>
                by_cases hoy : o ≤ y
                · have hoy' : (o : Int) ≤ y := by omega
                  by_cases hkk : kx = k
                  · have hkb : ((kx : Int) == k) = true := by simp [hkk]
                    have HKK := Lib.hid hkk
                    clear hkk
                    go_wp2_with fail
                    go_quiet ((go_at_call 18; exact Calls.quiet_of_same (HO.out _)))
                    clear hc0 hc1 hcz
                    go_wp2_with fail
                    go_roundw
                    case rel => exact ⟨j + 1, by omega, by go_num, by rw [HN.out, HKK.out]; simp [hoy], HS0.out.drewN _, HR0.out.below (below_dN (Below.refl _ _) _), below_dN HB0.out _⟩
                    case measure => simp [intOf]; omega
                  · have hkb : ((kx : Int) == k) = false := by simp; omega
                    go_wp2_with fail
                    go_quiet ((go_at_call 18; exact Calls.quiet_of_same (HO.out _)))
                    clear hc0 hc1 hcz
                    go_wp2_with fail
                    go_roundw
                    case rel => exact ⟨j + 1, by omega, by go_num, by rw [HN.out]; simp [hkk], HS0.out.drewN _, HR0.out.below (below_dN (Below.refl _ _) _), below_dN HB0.out _⟩
                    case measure => simp [intOf]; omega
                · have hoy' : ¬ (o : Int) ≤ y := by omega
                  go_wp2_with fail
                  go_quiet ((go_at_call 18; exact Calls.quiet_of_same (HO.out _)))
                  clear hc0 hc1 hcz
                  go_wp2_with fail
                  go_roundw
                  case rel => exact ⟨j + 1, by omega, by go_num, by rw [HN.out]; simp [hoy], HS0.out.drewN _, HR0.out.below (below_dN (Below.refl _ _) _), below_dN HB0.out _⟩
                  case measure => simp [intOf]; omega
            · obtain rfl : j = l := by omega
              have htk : M.take j = M := List.take_of_length_le (by rw [HL.out]; exact Nat.le_refl _)
              rw [htk]
              obtain ⟨b, hbb⟩ : ∃ b, b = M.any (selB S o k) := ⟨_, rfl⟩
              rw [← hbb]
              rw [HM.out] at hbb
              have HBB := Lib.hid hbb
              have HST := Lib.hid hst
              have HB := Lib.hid hb
              have hcz := hst.c0
              have hT := kTake_any hst.kin o k
              clear hst hr hb hbb htk
              cases b with
              | false =>
                rcases hP : ktP F S o k with _ | y
                · obtain ⟨e1, e2, e3, e4⟩ := ktk_none ho8 hk2 hP
                  rw [e1, e2, e3, e4] at hT
                  have HT := Lib.hid hT
                  clear hT e1 e2 e3 e4 hP
                  go_wp2_with fail
                  refine HT.out.mono ?_
                  rintro e w6 ⟨rfl, ht, hx⟩
                  have HBF := Lib.hid (HB.out.trans (ht.below.mono hBw))
                  clear ht hx
                  go_wp2
                  go_ret
                  exact ⟨rfl, HBF.out⟩
                · obtain ⟨e1, e2, e3, e4⟩ := ktk_some ho8 hk2 hP
                  have hny := own_no HBB.out.symm hP
                  have hfit := (ktP_fre hP).2.2.2.2
                  rw [HST.out.kin.len] at hfit
                  have hfn : y.1 < m.n := by have := two_pos o; omega
                  obtain ⟨f, hf⟩ : ∃ f, f = y.1 := ⟨_, rfl⟩
                  rw [← hf] at e2 hny hfn
                  rw [e1, e2] at hT
                  have HT := Lib.hid hT
                  obtain ⟨kx, hkx⟩ : ∃ kx, kx = knd S f := ⟨_, rfl⟩
                  rw [← hkx] at hny
                  have hne : ((kx : Int) != k) = true := by simp; omega
                  have HKX := Lib.hid hkx
                  clear hT e1 e2 e3 e4 hP hny hfit hf hkx
                  go_wp2_with fail
                  refine HT.out.mono ?_
                  rintro e w6 ⟨rfl, ht, hx⟩
                  have HBF := Lib.hid (HB.out.trans (ht.below.mono hBw))
                  have hs6 := HST.out.kinTurn ht hx
                  have hO := refOf_any hs6.ref hfn hs6.kin.hi
                  rw [← HKX.out] at hO
                  have HO := Lib.hid hO
                  have hc6 := hs6.c1
                  clear ht hx hcz hs6 hO HST
                  go_wp2_with fail
                  refine HO.out.mono ?_
                  rintro e w7 ⟨rfl, rfl⟩
                  go_wp2
                  go_ret
                  exact ⟨rfl, HBF.out⟩
              | true =>
                obtain ⟨y, hP, hky⟩ := own_yes HBB.out.symm
                obtain ⟨e1, e2, e3, e4⟩ := ktk_some ho8 hk2 hP
                rw [if_neg (by rw [hky]; simp)] at e4
                have hfit := (ktP_fre hP).2.2.2.2
                rw [HST.out.kin.len] at hfit
                have hfn : y.1 < m.n := by have := two_pos o; omega
                obtain ⟨f, hf⟩ : ∃ f, f = y.1 := ⟨_, rfl⟩
                rw [← hf] at e2 hky hfn
                rw [e1, e2, e4] at hT
                generalize ktF F S o k = F2 at hT
                have HT := Lib.hid hT
                have HKY := Lib.hid hky
                clear hT e1 e2 e3 e4 hP hfit hf hky
                go_wp2_with fail
                refine HT.out.mono ?_
                rintro e w6 ⟨rfl, ht, hx⟩
                have HB6 := Lib.hid (HB.out.trans (ht.below.mono hBw))
                have HS6 := Lib.hid (HST.out.kinTurn ht hx)
                clear ht hx hcz HST HB
                go_wp2_with fail
                go_loopw [17] (fun i wr => ∃ j : Nat, j ≤ m.n ∧ i = .int .i64 j ∧ St B0 wr m F2 F S S T tv ∧ Below w.heap.size w wr) (fun i _ => m.n - (intOf i).toNat)
                case atStart => exact ⟨0, Nat.zero_le _, rfl, HS6.out, HB6.out⟩
                case round =>
                  clear HS6 HB6
                  obtain ⟨i, hi, rfl, hst, hb⟩ := hrel
                  have c1 := hst.c1
                  have z0 := hst.ref.c0
                  have x0 := hst.ref.ref.field
                  by_cases hlj : i < m.n
                  · have hD := hst.drewN 1
                    have hK := kind_any hD.kin i
                    rw [kdZ_nat S hlj] at hK
                    have hO := refOf_any hD.ref hlj hD.kin.hi
                    generalize ((knd S i : Nat) : Int) = V at hK hO
                    have HD := Lib.hid hD
                    have HK := Lib.hid hK
                    have HO := Lib.hid hO
                    have HB := Lib.hid (below_dN hb 1)
                    have hs1 := And.intro hD.c0 hD.c1
                    clear hst hb hD hK hO
                    go_wp2_with fail
                    clear c1 z0 x0
                    go_region_held3 (fun v => v.cell? ⟨m.s, 0, none⟩ = some (.pointer (some ⟨m.k, 0, none⟩)) ∧ v.cell? ⟨m.s, 1, none⟩ = some (.pointer (some ⟨m.z, 0, none⟩))) (first | exact hs1)
                      (first | (go_at_call 12; refine HK.out.mono ?_; rintro e w' ⟨rfl, rfl⟩) | (go_at_call 18; refine HO.out.mono ?_; rintro e w' ⟨rfl, rfl⟩))
                    clear hs1
                    go_wp2_with fail
                    go_roundw
                    case rel => exact ⟨i + 1, by omega, by go_num, HD.out, HB.out⟩
                    case measure => simp [intOf]; omega
                  · obtain rfl : i = m.n := by omega
                    have hO := refOf_any hst.ref hfn hst.kin.hi
                    rw [HKY.out] at hO
                    have HO := Lib.hid hO
                    have HB := Lib.hid hb
                    clear hst hb hO
                    go_wp2_with fail
                    refine HO.out.mono ?_
                    rintro e w7 ⟨rfl, rfl⟩
                    go_wp2
                    go_ret
                    exact ⟨rfl, HB.out⟩
end Go.Proofs.Ytfjphlickpgbnaa
