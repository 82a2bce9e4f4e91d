/- Objects: ObjectKept, walked. -/
import Derived.Test.YtnpacdbkmpchnaaP8
namespace Go.Proofs.Ytnpacdbkmpchnaa
open Go.RowKit
set_option maxHeartbeats 8000000 in
set_option maxRecDepth 100000 in
theorem kept_walk (I : ObI) {hh : Int} (A : Option Addr) (n c : Nat) (w : World) (h0 : 0 ≤ hh) (hA : Nums w w.heap.size A n) :
    Calls Try.prog 4 #[.int .u8 hh, .slice A n c] w fun e w' => e = .returned (.bool true) ∧ Below w.heap.size w w' := by
  have hnew := I.new w
  have HA := Lib.hid hA
  obtain ⟨k, hk⟩ : ∃ k : Nat, hh % 20 = k := ⟨(hh % 20).toNat, by omega⟩
  have hk19 : k ≤ 19 := by omega
  have hkt : hh.tmod 20 = k := by rw [Int.tmod_eq_emod_of_nonneg h0]; exact hk
  clear hA
  go_enter Try.func4, Try.ntmps4
  go_wp2_with fail
  refine hnew.mono ?_
  rintro e w1 ⟨s, X1, rfl, o1, hb1⟩
  have HB1 := Lib.hid hb1
  have HO1 := Lib.hid (show PrAt I w.heap.size w1 s [] [] from ⟨X1, o1⟩)
  clear hnew o1 hb1
  go_wp2_with fail
  refine (awake_any I _).mono ?_
  rintro e w2 ⟨rfl, hb2⟩
  have HB2 : Hid (Below w.heap.size w w2) := HB1.out.trans (hb2.mono HB1.out.size)
  obtain ⟨X2, o2⟩ := HO1.out.call hb2
  have HO2 := Lib.hid o2
  have hmk := I.make o2 (Bnd.nil.mono (by decide))
  rw [show mkH ([] : List Int) = [1] from rfl, show (([] : List Int).length : Int) = 0 from rfl] at hmk
  clear hb2 o2
  go_wp2_with fail
  refine hmk.mono ?_
  rintro e w3 ⟨rfl, hd⟩
  obtain ⟨⟨X3, o3⟩, kb⟩ := PrAt.did HO2.out hd
  have HB3 : Hid (Below w.heap.size w w3) := HB2.out.trans kb
  have HO3 := Lib.hid o3
  have hmk := I.make o3 (Bnd.nil.make.mono (by decide))
  rw [show mkH ([1] : List Int) = [1, 1] from rfl, show (([1] : List Int).length : Int) = 1 from rfl] at hmk
  clear hd kb o3
  go_wp2_with fail
  refine hmk.mono ?_
  rintro e w4 ⟨rfl, hd⟩
  obtain ⟨o4, kb⟩ := PrAt.did HO3.out hd
  have HB4 : Hid (Below w.heap.size w w4) := HB3.out.trans kb
  have HO4 := Lib.hid o4
  clear hmk hd kb o4 HB1 HO1 HB2 HO2 HB3 HO3
  go_wp2_with fail
  go_loopw [7, 8] (fun nn i wr => ∃ (j : Nat) (L : List Og), j ≤ n ∧ j ≤ 50 ∧ i = .int .i64 j ∧ nn = .int .i64 L.length ∧ Kp 1 L j ∧ PrAt I w.heap.size wr s [1, 1] L ∧ Below w.heap.size w wr) (fun _ i _ => n - (RowKit.intOf i).toNat)
  case atStart => exact ⟨0, [], by omega, by omega, rfl, rfl, Kp.start, HO4.out, HB4.out⟩
  case round =>
    obtain ⟨j, L, hj, hj50, rfl, rfl, hkp, ⟨X5, o5⟩, hb⟩ := hrel
    have HK := Lib.hid hkp
    have HB := Lib.hid hb
    have HO := Lib.hid o5
    have hj0 : 0 ≤ (j : Int) := by omega
    have hL50 : L.length ≤ 50 := by have := hkp.ll; omega
    clear HO4 HB4 hkp hb o5
    by_cases hboth : j < n ∧ j < 50
    · obtain ⟨hlt, hlim⟩ := hboth
      have hjl : (j : Int) < n := by omega
      have hjm : (j : Int) < 50 := by omega
      obtain ⟨ad, rfl, -, hc⟩ := (HA.out.below HB.out) (by omega)
      obtain ⟨z, hz, c0⟩ := hc j hlt
      have hst := I.set HO.out (HK.out.bnd (by omega) (by omega) (by omega)) 1 z (10 + (j : Int)) (by unfold Fits; omega) hz (by unfold Fits; omega)
      have HKS := Lib.hid (HK.out.set z (10 + (j : Int)))
      clear hc hz
      by_cases he : seE [1, 1] L 1 z (10 + (j : Int)) = 0
      · rw [he, seL_yes he] at hst
        have HN := Lib.hid (seL_yes he)
        go_wp2_with fail
        refine hst.mono ?_
        rintro e w6 ⟨rfl, hd⟩
        obtain ⟨o6, kb⟩ := PrAt.did HO.out hd
        have HZ := Lib.hid (And.intro o6 (HB.out.trans kb))
        clear hst hd o6 kb
        go_wp2_with fail
        go_roundw
        case rel => exact ⟨j + 1, L ++ [⟨1, z, 10 + (j : Int)⟩], by omega, by omega, by go_num, by rw [List.length_append]; go_num, by rw [← HN.out]; exact HKS.out, HZ.out.1, HZ.out.2⟩
        case measure => simp [RowKit.intOf]; omega
      · rw [seL_no he] at hst
        have HN := Lib.hid (seL_no he)
        generalize seE [1, 1] L 1 z (10 + (j : Int)) = ev at hst he
        go_wp2_with fail
        refine hst.mono ?_
        rintro e w6 ⟨rfl, hd⟩
        obtain ⟨o6, kb⟩ := PrAt.did HO.out hd
        have HZ := Lib.hid (And.intro o6 (HB.out.trans kb))
        clear hst hd o6 kb
        go_wp2_with fail
        go_roundw
        case rel => exact ⟨j + 1, L, by omega, by omega, by go_num, rfl, by rw [HN.out] at HKS; exact HKS.out, HZ.out.1, HZ.out.2⟩
        case measure => simp [RowKit.intOf]; omega
    · obtain ⟨l, hl⟩ : ∃ l, l = L.length := ⟨_, rfl⟩
      have HL := Lib.hid hl
      have HK50 : Hid (Kp 1 L 50) := ⟨HK.out.good, hL50, HK.out.all⟩
      have HOB := Lib.hid (show PrAt I w.heap.size wr s [1, 1] L from ⟨X5, HO.out⟩)
      rw [← hl] at hL50 ⊢
      have HCT : Hid (∀ (h : Int) (m : Nat), Kp h L m → (frs L 1).length = l) := fun h m q => q.count.trans hl.symm
      clear hl HA HO
      by_cases hlt : j < n
      case' pos => have hlim : ¬ (j : Int) < 50 := by omega
      all_goals
        clear hboth
        go_wp2_with fail
        go_loopw [10] (fun i wr => ∃ j : Nat, j ≤ k ∧ i = .int .i64 j ∧ Kp (1 + (j : Int)) L 50 ∧ PrAt I w.heap.size wr s [1, 1 + (j : Int)] L ∧ Below w.heap.size w wr) (fun i _ => k - (RowKit.intOf i).toNat)
        case atStart => exact ⟨0, by omega, rfl, HK50.out, HOB.out, HB.out⟩
        case round =>
          obtain ⟨q, hq, rfl, hkp, ⟨X7, o7⟩, hb⟩ := hrel
          have HKQ := Lib.hid hkp
          have HBQ := Lib.hid hb
          have HOQ := Lib.hid o7
          have hq0 : 0 ≤ (q : Int) := by omega
          clear hkp hb o7 HK HB HK50 HOB
          by_cases hqk : q < k
          · have hql : (q : Int) < k := by omega
            have hho := I.hold HOQ.out (HKQ.out.bnd (by omega) (by omega) (by omega)) 1 (by unfold Fits; omega)
            have e1 := ho_1 (show 0 < 1 + (q : Int) by omega)
            rw [e1.1, e1.2.1] at hho
            have HKN := Lib.hid (HKQ.out.hold (by omega))
            clear e1
            go_wp2_with fail
            refine hho.mono ?_
            rintro e w8 ⟨rfl, hd⟩
            obtain ⟨o8, kb⟩ := PrAt.did HOQ.out hd
            have HZ := Lib.hid (And.intro o8 (HBQ.out.trans kb))
            clear hho hd o8 kb
            go_wp2_with fail
            go_roundw
            case rel => exact ⟨q + 1, by omega, by go_num, by rw [show 1 + ((q + 1 : Nat) : Int) = 1 + (q : Int) + 1 by omega]; exact HKN.out, by rw [show 1 + ((q + 1 : Nat) : Int) = 1 + (q : Int) + 1 by omega]; exact HZ.out.1, HZ.out.2⟩
            case measure => simp [RowKit.intOf]; omega
          · have hql : ¬ (q : Int) < k := by omega
            obtain rfl : q = k := by omega
            have HOP := Lib.hid (show PrAt I w.heap.size wr s [1, 1 + (q : Int)] L from ⟨X7, HOQ.out⟩)
            clear HOQ
            go_wp2_with fail
            go_loopw [11] (fun i wr => ∃ (j : Nat), j ≤ q ∧ i = .int .i64 j ∧ Kp (1 + (q : Int) - j) L 50 ∧ PrAt I w.heap.size wr s [1, 1 + (q : Int) - j] L ∧ Below w.heap.size w wr) (fun i _ => q - (RowKit.intOf i).toNat)
            case atStart => exact ⟨0, by omega, rfl, by rw [show 1 + (q : Int) - ((0 : Nat) : Int) = 1 + (q : Int) by omega]; exact HKQ.out, by rw [show 1 + (q : Int) - ((0 : Nat) : Int) = 1 + (q : Int) by omega]; exact HOP.out, HBQ.out⟩
            case round =>
              obtain ⟨p, hp, rfl, hkp, ⟨X9, o9⟩, hb⟩ := hrel
              have HKP := Lib.hid hkp
              have HBP := Lib.hid hb
              have HO9 := Lib.hid o9
              have hp0 : 0 ≤ (p : Int) := by omega
              clear hkp hb o9 HKQ HOP HBQ
              by_cases hpq : p < q
              · have hpl : (p : Int) < q := by omega
                have hdr := I.drop HO9.out (HKP.out.bnd (by omega) (by omega) (by omega)) 1 (by unfold Fits; omega)
                have e1 := ho_1 (show 0 < 1 + (q : Int) - p by omega)
                have e2 := dr_more (show 1 < 1 + (q : Int) - p by omega) L
                rw [e1.1, e1.2.2, e2.1, e2.2] at hdr
                have HKN := Lib.hid (HKP.out.less (by omega))
                clear e1 e2
                go_wp2_with fail
                refine hdr.mono ?_
                rintro e w10 ⟨A10, c10, rfl, -, hd⟩
                obtain ⟨⟨X10, o10⟩, kb⟩ := PrAt.did HO9.out hd
                have hfs := I.frames o10 (HKN.out.bnd (by omega) (by omega) (by omega)) 1 (by unfold Fits; omega)
                unfold ToldI at hfs
                rw [HCT.out _ _ HKN.out] at hfs
                have HZ := Lib.hid (And.intro (show PrAt I w.heap.size w10 s _ _ from ⟨X10, o10⟩) (HBP.out.trans kb))
                clear hdr hd o10 kb
                simp only [List.length_nil]
                go_wp2_with fail
                refine hfs.mono ?_
                rintro e w11 ⟨A11, c11, rfl, -, hb11⟩
                have HY := Lib.hid (And.intro (HZ.out.1.call hb11) (HZ.out.2.trans (hb11.mono HZ.out.2.size)))
                clear hfs hb11
                go_wp2_with fail
                go_roundw
                case rel => exact ⟨p + 1, by omega, by go_num, by rw [show 1 + (q : Int) - ((p + 1 : Nat) : Int) = 1 + (q : Int) - p - 1 by omega]; exact HKN.out, by rw [show 1 + (q : Int) - ((p + 1 : Nat) : Int) = 1 + (q : Int) - p - 1 by omega]; exact HY.out.1, HY.out.2⟩
                case measure => simp [RowKit.intOf]; omega
              · have hpl : ¬ (p : Int) < q := by omega
                obtain rfl : p = q := by omega
                rw [show 1 + (p : Int) - p = 1 by omega] at HKP HO9
                have HKG := Lib.hid HKP.out.gone
                have hdr := I.drop HO9.out (HKP.out.bnd (by omega) (by omega) (by omega)) 1 (by unfold Fits; omega)
                rw [HKP.out.out.1, HKP.out.out.2, HCT.out _ _ HKP.out] at hdr
                have e1 := ho_1 (show (0 : Int) < 1 by omega)
                rw [e1.1, e1.2.2] at hdr
                rw [show (1 : Int) - 1 = 0 by omega] at hdr
                clear e1
                go_wp2_with fail
                refine hdr.mono ?_
                rintro e w12 ⟨A12, c12, rfl, -, hd⟩
                obtain ⟨⟨X12, o12⟩, kb⟩ := PrAt.did HO9.out hd
                have hdr2 := I.drop o12 (HKG.out.bnd (by omega) (by omega) (by omega)) 1 (by unfold Fits; omega)
                rw [none_1.1, none_1.2.1, none_1.2.2.1, none_1.2.2.2.1] at hdr2
                have HZ := Lib.hid (And.intro o12 (HBP.out.trans kb))
                clear hdr hd o12 kb
                go_wp2_with fail
                refine hdr2.mono ?_
                rintro e w13 ⟨A13, c13, rfl, -, hd⟩
                obtain ⟨⟨X13, o13⟩, kb⟩ := PrAt.did HZ.out.1 hd
                have HO13 := Lib.hid o13
                have HB13 := Lib.hid (HZ.out.2.trans kb)
                have hln := I.len o13 (HKG.out.bnd (by omega) (by omega) (by omega))
                rw [none_1.2.2.2.2.1] at hln
                clear hdr2 hd o13 kb
                go_wp2_with fail
                refine hln.mono ?_
                rintro e w14 ⟨rfl, hb14⟩
                have HB14 := Lib.hid (HB13.out.trans (hb14.mono HB13.out.size))
                have hho := I.hold (I.call HO13.out hb14) (HKG.out.bnd (by omega) (by omega) (by omega)) 1 (by unfold Fits; omega)
                have HO14 := Lib.hid (I.call HO13.out hb14)
                rw [none_1.1] at hho
                clear hln hb14
                go_wp2_with fail
                refine hho.mono ?_
                rintro e w15 ⟨rfl, hd⟩
                have HB15 := Lib.hid (HB14.out.trans (I.down HO14.out hd))
                clear hho hd
                go_wp2_with fail
                go_ret
                exact ⟨ret_bool (by simp), HB15.out⟩
end Go.Proofs.Ytnpacdbkmpchnaa
