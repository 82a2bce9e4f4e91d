/- Pools: PoolKept, walked. -/
import Derived.Test.YtllepijlebbjbaaPoN
import Derived.BigRegion
import Derived.Deep.OwnRows
namespace Go.Proofs.Ytllepijlebbjbaa
open Go.RowKit
theorem info_bool : (Try.prog.info? 4).map (fun i => (i.zero, i.size, i.bytes)) = some (some (.bool false), 1, 1) := by kernel_rfl
theorem made_bools (n : Nat) : (madeCells #[Value.bool false] n).toList = List.replicate n (.bool false) := by
  apply List.ext_getElem?
  intro i
  rw [List.getElem?_replicate]
  simp only [madeCells, Array.getElem?_toList, Array.getElem?_map]
  by_cases hi : i < n
  · rw [if_pos hi]
    simp [hi, Nat.mod_one]
  · rw [if_neg hi]
    simp; omega
theorem shS_P (S : Pk) : (shS S).P = S.P := by unfold shS stP; split <;> rfl
theorem taS_P (S : Pk) : (taS S false).P = S.P := by unfold taS; split <;> rfl
/-- A promised page is there. -/
theorem ta_there {S : Pk} (ok : POk S) (h : 0 < S.P) : ∃ i : Nat, taE S true = 0 ∧ taV S true = i ∧ i < 1024 ∧ S.I[i]? = some 1 ∧ taS S true = ⟨S.o, S.m, S.I.set i 2, S.P - 1, S.U⟩ := by
  have c : taE S true = 0 := by unfold taE; rw [if_neg (by rintro ⟨_, e⟩; omega), if_neg (by simp)]
  obtain ⟨t1, _, _⟩ := taE_ok ok c
  obtain ⟨i, _, l2, l3, l4⟩ := frL_head (I := S.I) t1
  exact ⟨i, c, by unfold taV; rw [if_pos c, l2], l3, l4, by unfold taS; rw [if_pos c, l2, Int.toNat_natCast, if_pos rfl]⟩
/-- What the first loop holds. -/
def KpAt (I : PoI) (B : Nat) (w0 w : World) (s p : Nat) : Prop := ∃ S X, POk S ∧ S.P = (p : Int) ∧ I.Ob B w s X S ∧ Below B w0 w
/-- What the second one holds: those that were met are in use. -/
def MtAt (I : PoI) (B : Nat) (w0 w : World) (s g p j : Nat) : Prop := ∃ S X bs, POk S ∧ S.P = (p : Int) - (j : Int) ∧ I.Ob B w s X S ∧ Below B w0 w ∧ Lrow w g 4 (List.map Value.bool bs) ∧ bs.length = 1024 ∧ (∀ k, X k → ¬ k = g) ∧ (∀ i : Nat, bs[i]? = some true → S.I[i]? = some 2) ∧ B ≤ g
set_option maxHeartbeats 8000000 in
set_option maxRecDepth 100000 in
theorem kept_walk (I : PoI) (A : Option Addr) (n c : Nat) (A2 : Option Addr) (n2 c2 : Nat) (w : World) (hA : Acs w w.heap.size A n) (hA2 : Acs w w.heap.size A2 n2) :
    Calls Try.prog 4 #[.slice A n c, .slice A2 n2 c2] w fun e w' => e = .returned (.bool true) ∧ Below w.heap.size w w' := by
  obtain ⟨M, hM, hls⟩ := hA.list
  have hm := made_any I A n c w.heap.size M w hM hls (Nat.le_refl _)
  have hok := mdE_ok M
  have htt := tot_mdE M
  generalize mdE M = S at hm hok htt
  obtain ⟨p, hp⟩ : ∃ p : Nat, S.P = p := ⟨S.P.toNat, by have := hok.p0; omega⟩
  have hp60 : p ≤ 60 := by have := hok.p1; unfold totP at htt; omega
  have HOK := Lib.hid (And.intro hok hp)
  have HA2 := Lib.hid hA2
  clear hA hM hls hok htt hp hA2
  go_enter Try.func4, Try.ntmps4
  go_wp2_with fail
  refine hm.mono ?_
  rintro e w1 ⟨s, x, rfl, hst, hb1⟩
  have HS1 := Lib.hid hst
  have HB1 := Lib.hid hb1
  have hak := awake_any I w1
  clear hm hst hb1
  go_wp2_with fail
  refine hak.mono ?_
  rintro e w2 ⟨rfl, hb2⟩
  have HB2 := Lib.hid (HB1.out.trans (hb2.mono HB1.out.size))
  obtain ⟨X, g, h1, -, -⟩ := HS1.out.call hb2
  have hc := I.promised h1 HOK.out.1
  rw [HOK.out.2] at hc
  have H1 := Lib.hid h1
  clear hak hb2 h1 HS1
  go_wp2_with fail
  refine hc.mono ?_
  rintro e w3 ⟨rfl, hb⟩
  have HK : Hid (KpAt I w.heap.size w w3 s p) := ⟨S, X, HOK.out.1, HOK.out.2, I.call H1.out hb, HB2.out.trans (hb.mono HB2.out.size)⟩
  clear hc hb H1 HB2 HB1 HOK
  go_wp2_with fail
  go_loopw [8] (fun i wr => ∃ j : Nat, j ≤ n2 ∧ j ≤ 40 ∧ i = .int .i64 j ∧ KpAt I w.heap.size w wr s p) (fun i _ => n2 - (RowKit.intOf i).toNat)
  case atStart => exact ⟨0, by omega, by omega, rfl, HK.out⟩
  case round =>
    obtain ⟨j, hj, hjl, rfl, hkp⟩ := hrel
    have HP := Lib.hid hkp
    clear HK hkp
    by_cases hboth : j < n2 ∧ j < 40
    · obtain ⟨hlt, hlim⟩ := hboth
      obtain ⟨S', X', ok, hsp, hob, hb⟩ := HP.out
      obtain ⟨ad, rfl, hab, l, lok, hat⟩ := ac_now HA2.out hb hlt
      have c0 := hat.c0
      have c1 := hat.c1
      have c2 := hat.c2
      have c3 := hat.c3
      have hjl' : (j : Int) < n2 := by omega
      have hjm : (j : Int) < 40 := by omega
      have hj0 : (0 : Int) ≤ j := by omega
      clear hat lok hab
      obtain ⟨K, Fr, Nn, Ye⟩ := l
      dsimp only at c0 c1 c2 c3
      obtain ⟨W, hW⟩ : ∃ W, W = wr.alloc (.cells #[.int .i64 K, .int .i64 Fr, .int .i64 Nn, .bool Ye] 33) := ⟨_, rfl⟩
      obtain ⟨ab, hab2⟩ : ∃ ab, ab = wr.heap.size := ⟨_, rfl⟩
      have hbn : Below wr.heap.size wr W := by rw [hW]; exact below_new _ _
      have HX : Hid (Lrow W ab 33 [.int .i64 K, .int .i64 Fr, .int .i64 Nn, .bool Ye]) := by
        show Lrow _ _ _ _
        rw [hW, hab2]; exact Lrow.new wr _ _
      have HO := Lib.hid (And.intro ok (And.intro hsp (And.intro (I.call hob hbn) (hb.trans (hbn.mono (I.lw hob))))))
      have HW := Lib.hid (And.intro hW hab2)
      clear ok hsp hob hb hW hab2 hbn HP
      go_upto_region 9 with (fail)
      rw [← HW.out.1, ← HW.out.2]
      clear c0 c1 c2 c3
      have e0 := HX.out.cell 0
      by_cases k2 : K = 2
      · subst k2
        obtain ⟨SS, hSS⟩ : ∃ SS, SS = shS S' := ⟨_, rfl⟩
        have hc := I.shrink HO.out.2.2.1 HO.out.1
        rw [← hSS] at hc
        have HSS : Hid (POk SS ∧ SS.P = (p : Int)) := by rw [hSS]; exact ⟨HO.out.1.shrink, by rw [shS_P]; exact HO.out.2.1⟩
        generalize shV S' = V at hc
        generalize shE S' = E at hc
        clear hSS
        go_wp2_with fail
        refine hc.mono ?_
        rintro e w4 ⟨rfl, hd⟩
        have hdn := I.down HO.out.2.2.1 hd
        obtain ⟨X4, d1, -, -⟩ := hd
        have HQ : Hid (POk SS ∧ SS.P = (p : Int) ∧ I.Ob w.heap.size w4 s X4 SS ∧ Below w.heap.size w w4) := ⟨HSS.out.1, HSS.out.2, d1, HO.out.2.2.2.trans hdn⟩
        clear hc hdn d1 e0
        have hc := I.promised HQ.out.2.2.1 HQ.out.1
        rw [HQ.out.2.1] at hc
        go_wp2_with fail
        refine hc.mono ?_
        rintro e w5 ⟨rfl, hb⟩
        have h5 := I.call HQ.out.2.2.1 hb
        have hB5 := HQ.out.2.2.2.trans (hb.mono (I.lw HQ.out.2.2.1))
        have hc := I.free h5 HQ.out.1
        unfold ToldI at hc
        rw [frL_len HQ.out.1.ln] at hc
        obtain ⟨d1, hd1⟩ : ∃ d1, d1 = SS.I.count 1 := ⟨_, rfl⟩
        have hdp : ¬ d1 < p := by have := HQ.out.1.p1; have := HQ.out.2.1; omega
        have hdd : decide (d1 < p) = false := decide_eq_false hdp
        have hdp2 : ¬ (d1 : Int) < p := by omega
        rw [← hd1] at hc
        have H5 := Lib.hid (And.intro h5 hB5)
        clear h5 hB5 hb hd1
        go_wp2_with fail
        refine hc.mono ?_
        rintro e w6 ⟨A6, c6, rfl, -, hb⟩
        have HE : Hid (KpAt I w.heap.size w w6 s p) := ⟨_, _, HQ.out.1, HQ.out.2.1, I.call H5.out.1 hb, H5.out.2.trans (hb.mono (I.lw H5.out.1))⟩
        clear hc hb
        go_wp2_with fail
        go_roundw
        case rel => exact ⟨j + 1, by omega, by omega, by go_num, HE.out⟩
        case measure => simp [RowKit.intOf]; omega
      · by_cases k56 : K = 5 ∨ K = 6
        · rcases k56 with rfl | rfl
          all_goals
            clear k2
            obtain ⟨SS, hSS⟩ : ∃ SS, SS = taS S' false := ⟨_, rfl⟩
            have hc := I.take HO.out.2.2.1 HO.out.1 false
            rw [← hSS] at hc
            have HSS : Hid (POk SS ∧ SS.P = (p : Int)) := by rw [hSS]; exact ⟨HO.out.1.take false, by rw [taS_P]; exact HO.out.2.1⟩
            generalize taV S' false = V at hc
            generalize taE S' false = E at hc
            clear hSS
            go_wp2_with fail
            refine hc.mono ?_
            rintro e w4 ⟨rfl, hd⟩
            have hdn := I.down HO.out.2.2.1 hd
            obtain ⟨X4, d1, -, -⟩ := hd
            have HQ : Hid (POk SS ∧ SS.P = (p : Int) ∧ I.Ob w.heap.size w4 s X4 SS ∧ Below w.heap.size w w4) := ⟨HSS.out.1, HSS.out.2, d1, HO.out.2.2.2.trans hdn⟩
            clear hc hdn d1 e0
            have hc := I.promised HQ.out.2.2.1 HQ.out.1
            rw [HQ.out.2.1] at hc
            go_wp2_with fail
            refine hc.mono ?_
            rintro e w5 ⟨rfl, hb⟩
            have h5 := I.call HQ.out.2.2.1 hb
            have hB5 := HQ.out.2.2.2.trans (hb.mono (I.lw HQ.out.2.2.1))
            have hc := I.free h5 HQ.out.1
            unfold ToldI at hc
            rw [frL_len HQ.out.1.ln] at hc
            obtain ⟨d1, hd1⟩ : ∃ d1, d1 = SS.I.count 1 := ⟨_, rfl⟩
            have hdp : ¬ d1 < p := by have := HQ.out.1.p1; have := HQ.out.2.1; omega
            have hdd : decide (d1 < p) = false := decide_eq_false hdp
            have hdp2 : ¬ (d1 : Int) < p := by omega
            rw [← hd1] at hc
            have H5 := Lib.hid (And.intro h5 hB5)
            clear h5 hB5 hb hd1
            go_wp2_with fail
            refine hc.mono ?_
            rintro e w6 ⟨A6, c6, rfl, -, hb⟩
            have HE : Hid (KpAt I w.heap.size w w6 s p) := ⟨_, _, HQ.out.1, HQ.out.2.1, I.call H5.out.1 hb, H5.out.2.trans (hb.mono (I.lw H5.out.1))⟩
            clear hc hb
            go_wp2_with fail
            go_roundw
            case rel => exact ⟨j + 1, by omega, by omega, by go_num, HE.out⟩
            case measure => simp [RowKit.intOf]; omega
        · have q2 : (K == 2) = false := by simpa using k2
          have q5 : (K == 5) = false := by simpa using (fun e => k56 (Or.inl e) : ¬ K = 5)
          have q6 : (K == 6) = false := by simpa using (fun e => k56 (Or.inr e) : ¬ K = 6)
          obtain ⟨SS, hSS⟩ : ∃ SS, SS = S' := ⟨_, rfl⟩
          have HQ : Hid (POk SS ∧ SS.P = (p : Int) ∧ I.Ob w.heap.size W s X' SS ∧ Below w.heap.size w W) := by rw [hSS]; exact HO.out
          clear hSS k2 k56
          have hc := I.promised HQ.out.2.2.1 HQ.out.1
          rw [HQ.out.2.1] at hc
          go_wp2_with fail
          refine hc.mono ?_
          rintro e w5 ⟨rfl, hb⟩
          have h5 := I.call HQ.out.2.2.1 hb
          have hB5 := HQ.out.2.2.2.trans (hb.mono (I.lw HQ.out.2.2.1))
          have hc := I.free h5 HQ.out.1
          unfold ToldI at hc
          rw [frL_len HQ.out.1.ln] at hc
          obtain ⟨d1, hd1⟩ : ∃ d1, d1 = SS.I.count 1 := ⟨_, rfl⟩
          have hdp : ¬ d1 < p := by have := HQ.out.1.p1; have := HQ.out.2.1; omega
          have hdd : decide (d1 < p) = false := decide_eq_false hdp
          have hdp2 : ¬ (d1 : Int) < p := by omega
          rw [← hd1] at hc
          have H5 := Lib.hid (And.intro h5 hB5)
          clear h5 hB5 hb hd1
          go_wp2_with fail
          refine hc.mono ?_
          rintro e w6 ⟨A6, c6, rfl, -, hb⟩
          have HE : Hid (KpAt I w.heap.size w w6 s p) := ⟨_, _, HQ.out.1, HQ.out.2.1, I.call H5.out.1 hb, H5.out.2.trans (hb.mono (I.lw H5.out.1))⟩
          clear hc hb
          go_wp2_with fail
          go_roundw
          case rel => exact ⟨j + 1, by omega, by omega, by go_num, HE.out⟩
          case measure => simp [RowKit.intOf]; omega
    · by_cases hlt : j < n2
      case' pos => have hlim : ¬ (j : Int) < 40 := by omega
      all_goals
        clear hboth
        obtain ⟨S', X', ok, hsp, hob, hb⟩ := HP.out
        have hmk : (Instr.makeSlice 47 (.int .i64 1024) (.int .i64 1024)).run Try.prog wr = .ok (.slice (some ⟨wr.heap.size, 0, none⟩) 1024 1024) (wr.alloc (.cells (madeCells #[.bool false] 1024) 4)) :=
          run_make_row' (P := Try.prog) 47 4 (.bool false) 1 Try.underlying47 info_bool rfl .i64 .i64 1024 (by omega) (by omega) wr
        obtain ⟨g, hg⟩ : ∃ g, g = wr.heap.size := ⟨_, rfl⟩
        obtain ⟨W1, hW1⟩ : ∃ W1, W1 = wr.alloc (.cells (madeCells #[.bool false] 1024) 4) := ⟨_, rfl⟩
        have hr : Lrow W1 g 4 ((List.replicate 1024 false).map Value.bool) := by
          rw [hW1, hg, List.map_replicate, ← made_bools]
          simpa using Lrow.new wr 4 (madeCells #[Value.bool false] 1024).toList
        have hb1 : Below wr.heap.size wr W1 := by rw [hW1]; exact below_new _ _
        have HM : Hid (MtAt I w.heap.size w W1 s g p 0) := ⟨S', X', _, ok, by rw [hsp]; simp, I.call hob hb1, hb.trans (hb1.mono (I.lw hob)), hr, List.length_replicate, fun k hk e => by
          have := (I.lo hob k hk).2
          rw [e, hg] at this; exact absurd this (Nat.lt_irrefl _), (fun i e => by
          rw [List.getElem?_replicate] at e
          split at e
          · injection e with e; cases e
          · cases e), by rw [hg]; exact I.lw hob⟩
        rw [← hW1, ← hg] at hmk
        clear ok hsp hob hb hr hb1 hg hW1 HA2 HP
        go_wp2_with fail
        go_loopw [11] (fun i wv => ∃ r : Nat, r ≤ p ∧ i = .int .i64 r ∧ MtAt I w.heap.size w wv s g p r) (fun i _ => p - (RowKit.intOf i).toNat)
        case atStart => exact ⟨0, Nat.zero_le _, rfl, HM.out⟩
        case round =>
          obtain ⟨r, hrp, rfl, hmt⟩ := hrel
          obtain ⟨S2, X2, bs, ok, hsp, hob, hb, hrow, hbl, hng, hmet, hgB⟩ := hmt
          clear HM
          by_cases hlt2 : r < p
          · obtain ⟨i, t1, t2, t3, t4, t5⟩ := ta_there ok (by rw [hsp]; omega)
            have hc := I.take hob ok true
            rw [t1, t2] at hc
            have HO := Lib.hid (And.intro hob (And.intro hb (And.intro hrow (And.intro hng (And.intro hmet (And.intro t4 t5))))))
            have HL := Lib.hid hbl
            have HS := Lib.hid hsp
            have HOK2 := Lib.hid ok
            have hrp2 : (r : Int) < p := by omega
            have i0 : (0 : Int) ≤ i := by omega
            have i0n : ¬ (i : Int) < 0 := by omega
            have i1 : (i : Int) < 1024 := by omega
            have r0 : (0 : Int) ≤ r := by omega
            clear ok hsp hob hb hrow hbl hng hmet t1 t2 t4 t5
            go_wp2_with fail
            refine hc.mono ?_
            rintro e w4 ⟨rfl, hd⟩
            have hdn := I.down HO.out.1 hd
            obtain ⟨X3, d1, d2, d3⟩ := hd
            have hrow3 := d2.row HO.out.2.2.1 (fun e => HO.out.2.2.2.1 g e rfl)
            have hbi : bs[i]? = some false := by
              have hil : i < bs.length := by rw [HL.out]; exact t3
              rw [List.getElem?_eq_getElem hil]
              cases hbv : bs[i] with
              | false => rfl
              | true =>
                have := HO.out.2.2.2.2.1 i (by rw [List.getElem?_eq_getElem hil, hbv])
                rw [HO.out.2.2.2.2.2.1] at this
                injection this with this
                exact absurd this (by decide)
            have g0 : w4.cell? ⟨g, i, none⟩ = some (.bool false) := by rw [hrow3.cell, List.getElem?_map, hbi]; rfl
            have y0 := hrow3.frozen i
            have HN : Hid (MtAt I w.heap.size w (w4.setCell ⟨g, i, none⟩ (.bool true)) s g p (r + 1)) := by
              have hgl := hrow3.lt
              have hng3 : ∀ k, X3 k → ¬ k = g := fun k hk e => by
                rcases d3 k hk with q | q
                · exact HO.out.2.2.2.1 k q e
                · have := HO.out.2.2.1.lt; omega
              refine ⟨_, X3, bs.set i true, HOK2.out.take true, ?_, I.keep d1 (by simp [World.setCell]) fun k hk _ => Below.heap_setCell _ _ _ k (fun e => hng3 k hk e), (HO.out.2.1.trans hdn).trans ?_, ?_, by rw [List.length_set]; exact HL.out, hng3, fun k hk => ?_, hgB⟩
              · rw [HO.out.2.2.2.2.2.2]
                show S2.P - 1 = _
                rw [HS.out]; omega
              · exact (Below.refl _ _).setCell (p := ⟨g, i, none⟩) hgB _
              · have := hrow3.set_ i (.bool true)
                rw [← List.map_set] at this
                exact this
              · rw [HO.out.2.2.2.2.2.2]
                show (S2.I.set i 2)[k]? = some 2
                rw [List.getElem?_set] at hk ⊢
                split at hk
                · rename_i e
                  subst e
                  rw [if_pos rfl, if_pos (List.getElem?_eq_some_iff.1 HO.out.2.2.2.2.2.1).1]
                · rename_i e
                  rw [if_neg e]
                  exact HO.out.2.2.2.2.1 k hk
            clear hc hdn d1 d2 d3 hrow3 hbi t3
            go_wp2_with fail
            go_roundw
            case rel => exact ⟨r + 1, by omega, by go_num, HN.out⟩
            case measure => simp [RowKit.intOf]; omega
          · obtain rfl : r = p := by omega
            have hc := I.promised hob ok
            rw [show S2.P = 0 by rw [hsp]; omega] at hc
            have HB := Lib.hid hb
            have hd : ¬ (r : Int) < (r : Int) := by omega
            clear ok hsp hob hb hrow hbl hng hmet
            go_wp2_with fail
            refine hc.mono ?_
            rintro e w4 ⟨rfl, hb⟩
            have HB4 := Lib.hid (HB.out.trans (hb.mono HB.out.size))
            clear hc hb
            go_wp2_with fail
            go_ret
            exact ⟨rfl, HB4.out⟩
end Go.Proofs.Ytllepijlebbjbaa
