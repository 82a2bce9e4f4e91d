/- Pools: PoolEnds, walked. -/
import Derived.Test.YtllepijlebbjbaaPoL
import Derived.Test.YtllepijlebbjbaaPoM
import Derived.Test.YtllepijlebbjbaaPoQ
import Derived.BigRegion
namespace Go.Proofs.Ytllepijlebbjbaa
open Go.RowKit
theorem del_last {L : List Int} {y : Int} {k : Nat} (h : UpN L) (hk : k + 1 = L.length) (hy : L[k]? = some y) : delN y L = L.take k := by
  obtain ⟨hl, e⟩ := List.getElem?_eq_some_iff.1 hy
  have := cutN_at h hl
  rw [e] at this
  unfold delN
  rw [this, List.drop_of_length_le (by omega), List.append_nil]
theorem del_head {L : List Int} {y : Int} (h : UpN L) (hy : L[0]? = some y) : delN y L = L.drop 1 := by
  obtain ⟨hl, e⟩ := List.getElem?_eq_some_iff.1 hy
  have := cutN_at h hl
  rw [e] at this
  unfold delN
  rw [this, List.take_zero, List.nil_append]
theorem sh_list {S : Pk} (ok : POk S) (c : shE S = 0) : ∃ (i k : Nat), shV S = i ∧ (frL S.I).length = k + 1 ∧ (frL S.I)[k]? = some (i : Int) ∧ frL (shS S).I = (frL S.I).take k := by
  have hn : S.P < ((frL S.I).length : Int) := by
    have c' := c
    unfold shE at c'
    split at c'
    · omega
    · omega
  have := ok.p0
  obtain ⟨i, l1, l2, l3, l4⟩ := frL_last (I := S.I) (by omega)
  obtain ⟨k, hk⟩ : ∃ k, (frL S.I).length = k + 1 := ⟨(frL S.I).length - 1, by omega⟩
  rw [hk, Nat.add_sub_cancel] at l1
  refine ⟨i, k, by unfold shV; rw [if_pos c, l2], hk, l1, ?_⟩
  have hs : shS S = ⟨S.o, S.m, S.I.set i 0, S.P, S.U⟩ := by unfold shS stP; rw [if_pos c, l2, Int.toNat_natCast]
  rw [hs]
  show lsV (S.I.set i 0) 1 = (lsV S.I 1).take k
  rw [lsV_del l4 l3 (by decide)]
  exact del_last (lsV_up S.I 1) hk.symm l1
theorem ta_list {S : Pk} {b : Bool} (ok : POk S) (c : taE S b = 0) : ∃ (i k : Nat), taV S b = i ∧ (frL S.I).length = k + 1 ∧ (frL S.I)[0]? = some (i : Int) ∧ frL (taS S b).I = (frL S.I).drop 1 := by
  obtain ⟨t1, t2, t3⟩ := taE_ok ok c
  obtain ⟨i, l1, l2, l3, l4⟩ := frL_head (I := S.I) t1
  obtain ⟨k, hk⟩ : ∃ k, (frL S.I).length = k + 1 := ⟨(frL S.I).length - 1, by omega⟩
  refine ⟨i, k, by unfold taV; rw [if_pos c, l2], hk, l1, ?_⟩
  have hs : taS S b = ⟨S.o, S.m, S.I.set i 2, if b = true then S.P - 1 else S.P, S.U⟩ := by unfold taS; rw [if_pos c, l2, Int.toNat_natCast]
  rw [hs]
  show lsV (S.I.set i 2) 1 = (lsV S.I 1).drop 1
  rw [lsV_del l4 l3 (by decide)]
  exact del_head (lsV_up S.I 1) l1
section
variable {w w' : World} {A A' : Option Addr} {B D s g n m c c' : Nat} {L R : List Int} {u : Value} {X : Nat → Prop} {S S' : Pk}
theorem own_at (h : EI.Own D w (.slice A n c) L) {j : Nat} {y : Int} (hj : L[j]? = some y) : ∃ g, A = some ⟨g, 0, none⟩ ∧ w.cell? ⟨g, j, none⟩ = some (.int .i64 y) := by
  obtain ⟨hl, e⟩ := List.getElem?_eq_some_iff.1 hj
  obtain ⟨g, hA, -, -, -, hat⟩ := h.some_ (by omega)
  refine ⟨g, hA, ?_⟩
  have := hat j hl 0 (by decide)
  rw [show j * EI.sz + 0 = j from by show j * 1 + 0 = j; omega, e] at this
  rw [this]; rfl
theorem ls_take (h : EI.Ls w A L) (k : Nat) : EI.Ls w A (L.take k) := fun h0 => by
  rw [List.length_take] at h0
  obtain ⟨g, e, hl, hat⟩ := h (by omega)
  refine ⟨g, e, hl, fun j hj => ?_⟩
  rw [List.getElem_take]
  rw [List.length_take] at hj
  exact hat j (by omega)
/-- A list of one's own behind a call of the program. -/
theorem own_pr {I : PoI} (h : I.Ob B w s X S) (ho : EI.Own D w u R) (hn : ∀ k, X k → u.ownBlock ≠ some k) (d : DidO I.Ob B w s X S' w') : ∃ X', I.Ob B w' s X' S' ∧ EI.Own D w' u R ∧ (∀ k, X' k → u.ownBlock ≠ some k) ∧ Below B w w' := by
  have hb := I.down h d
  obtain ⟨X', d1, d2, d3⟩ := d
  refine ⟨X', d1, ho.heap fun g e => ?_, fun k hk e => ?_, hb⟩
  · obtain ⟨vs, r, _⟩ := ho.block e
    exact d2.keep g r.lt fun hk => hn g hk e
  · rcases d3 k hk with q | q
    · exact hn k q e
    · obtain ⟨vs, r, _⟩ := ho.block e
      have := r.lt; omega
set_option maxHeartbeats 4000000 in
set_option maxRecDepth 100000 in
theorem numbers_off (hL : ∀ j (hj : j < L.length), w.cell? ⟨g, 1 + j, none⟩ = some (.int .i64 L[j])) (hM : EI.Ls w A' L) (hn : L.length = n) (hm : L.length = m) (hl : L.length ≤ 5000) :
    Calls Try.prog 13 #[.slice (some ⟨g, 1, none⟩) n c, .slice A' m c'] w fun e w' => e = .returned (.bool true) ∧ Below w.heap.size w w' := by
  obtain rfl : m = n := hm.symm.trans hn
  clear hm
  have HN := Lib.hid hn
  have HL := Lib.hid hL
  have HM := Lib.hid hM
  have n64 : (m : Int) ≤ 5000 := by omega
  clear hL hM hl hn
  go_enter Try.func13, Try.ntmps13
  go_wp2
  go_loopw [5] (fun i wr => ∃ j k : Nat, j ≤ m ∧ i = .int .i64 j ∧ wr = w.drewN k) (fun i _ => m - (RowKit.intOf i).toNat)
  case atStart => exact ⟨0, 0, Nat.zero_le _, rfl, rfl⟩
  case round =>
    obtain ⟨j, k, hj, rfl, rfl⟩ := hrel
    by_cases hlt : j < m
    · have hjl : j < L.length := by have := HN.out; omega
      obtain ⟨g', rfl, -, hat'⟩ := HM.out (by omega)
      have hat := HL.out j hjl
      have hat' := hat' j hjl
      obtain ⟨x, ex⟩ : ∃ x, x = L[j] := ⟨_, rfl⟩
      rw [← ex] at hat hat'
      obtain ⟨w1, ew⟩ : ∃ w1, w1 = w.drewN k := ⟨_, rfl⟩
      have hw : ∀ a, w1.cell? a = w.cell? a := fun a => by rw [ew]; rfl
      rw [← ew]
      have HW := Lib.hid ew
      have jn : (j : Int) < m := by omega
      have j0 : (0 : Int) ≤ j := by omega
      have c0 : w1.cell? ⟨g, 1 + j, none⟩ = some (.int .i64 x) := (hw _).trans hat
      have d0 : w1.cell? ⟨g', j, none⟩ = some (.int .i64 x) := (hw _).trans (by have := hat' 0 (by decide); rw [show j * EI.sz + 0 = j from by show j * 1 + 0 = j; omega] at this; exact this)
      clear hw hat hat' ex ew
      go_wp2_with fail
      go_region
      all_goals
        go_wp2_with fail
        go_roundw
        case rel => exact ⟨j + 1, k + 1, by omega, by go_num, by rw [HW.out]; rfl⟩
        case measure => simp [RowKit.intOf]; omega
    · have hd : ¬ (j : Int) < m := by omega
      obtain ⟨w1, ew⟩ : ∃ w1, w1 = w.drewN k := ⟨_, rfl⟩
      rw [← ew]
      have HW := Lib.hid ew
      clear ew
      go_wp2_with fail
      go_ret
      exact ⟨rfl, by rw [HW.out]; exact below_dN (Below.refl _ _) k⟩
end
set_option maxHeartbeats 8000000 in
set_option maxRecDepth 100000 in
theorem ends_walk (I : PoI) (A : Option Addr) (n c : Nat) (yes : Bool) (w : World) (hA : Acs w w.heap.size A n) :
    Calls Try.prog 8 #[.slice A n c, .bool yes] w fun e w' => e = .returned (.bool true) ∧ Below w.heap.size w w' := by
  obtain ⟨M, hM, hls⟩ := hA.list
  have hm := made_any I A n c w.heap.size M w hM hls (Nat.le_refl _)
  have hok := mdE_ok M
  generalize mdE M = S at hm hok
  have HOK := Lib.hid hok
  have HO1 := Lib.hid hok.shrink
  clear hA hM hls hok
  go_enter Try.func8, Try.ntmps8
  go_wp2_with fail
  refine hm.mono ?_
  rintro e w1 ⟨s, x, rfl, hst, hb1⟩
  have HS1 := Lib.hid hst
  have HB1 := Lib.hid hb1
  have hak := awake_any I w1
  clear hm hst hb1
  go_wp2_with fail
  refine hak.mono ?_
  rintro e w2 ⟨rfl, hb2⟩
  have HB2 := Lib.hid (HB1.out.trans (hb2.mono HB1.out.size))
  obtain ⟨X, g, h1, -, -⟩ := HS1.out.call hb2
  have hc := I.free h1 HOK.out
  have H1 := Lib.hid h1
  clear hak hb2 h1 HS1
  obtain ⟨R, hR⟩ : ∃ R, R = frL S.I := ⟨_, rfl⟩
  have hRl : R.length ≤ 1024 := by rw [hR]; exact HOK.out.p1k.2.2
  unfold ToldI at hc
  rw [← hR] at hc
  have HR := Lib.hid hR
  obtain ⟨m, hm⟩ : ∃ m, m = R.length := ⟨_, rfl⟩
  rw [← hm] at hc
  have HM := Lib.hid hm
  clear hR hm
  go_wp2_with fail
  refine hc.mono ?_
  rintro e w3 ⟨A3, c3, rfl, ho, hb⟩
  have HB3 := Lib.hid (HB2.out.trans (hb.mono HB2.out.size))
  have h3 := I.call H1.out hb
  have hn : ∀ k, X k → (Value.slice A3 m c3).ownBlock ≠ some k := fun k hk e => by
    obtain ⟨vs, r, hl⟩ := ho.block e
    have := (I.lo H1.out k hk).2
    omega
  have hcap : m ≤ c3 := by
    rcases ho.2 with ⟨e, _⟩ | ⟨g, cap, cur, e, _, _, hh, _⟩
    · injection e with e1 e2 e3; omega
    · injection e with e1 e2 e3; rw [← HM.out] at hh; omega
  have hsh := I.shrink h3 HOK.out
  have H3 := Lib.hid (And.intro h3 (And.intro ho hn))
  clear h3 hb hc ho hn
  by_cases hsz : shE S = 0
  · obtain ⟨i, k, v1, v2, v3, v4⟩ := sh_list HOK.out hsz
    rw [hsz, v1] at hsh
    rw [← HR.out] at v2 v3 v4
    obtain rfl : m = k + 1 := HM.out.trans v2
    obtain ⟨gr, hA3, -⟩ := own_at H3.out.2.1 v3
    subst hA3
    have HV := Lib.hid (And.intro v3 v4)
    clear v1 v2 v3 v4 hsz
    go_wp2_with fail
    refine hsh.mono ?_
    rintro e w4 ⟨rfl, hd⟩
    obtain ⟨X4, h4, ho4, hn4, hb4⟩ := own_pr H3.out.1 H3.out.2.1 H3.out.2.2 hd
    have HB4 := Lib.hid (HB3.out.trans hb4)
    obtain ⟨gq, hgq, hat⟩ := own_at ho4 HV.out.1
    injection hgq with hgq
    injection hgq with hgq
    subst hgq
    have H4 := Lib.hid (And.intro h4 (And.intro ho4 hn4))
    have htk := I.take h4 HO1.out yes
    obtain ⟨R1, hR1⟩ : ∃ R1, R1 = R.take k := ⟨_, rfl⟩
    have HR1 : Hid (frL (shS S).I = R1 ∧ R1.length = k ∧ ∀ (j : Nat) (y : Int), R1[j]? = some y → R[j]? = some y) := ⟨by rw [hR1]; exact HV.out.2, by rw [hR1, List.length_take]; have := HM.out; omega, fun j y e => by
      rw [hR1, List.getElem?_take] at e
      split at e
      · exact e
      · cases e⟩
    have HT := Lib.hid hR1
    have hkb : k ≤ 1023 := by have := HM.out; omega
    have k1 : (k : Int) < (k : Int) + 1 := by omega
    have k0 : (0 : Int) ≤ k := by omega
    have k0n : ¬ (k : Int) < 0 := by omega
    have hw' : IntKind.i64.wrap ((k : Int) + 1 - 1) = (k : Int) := by rw [show (k : Int) + 1 - 1 = (k : Int) by omega]; exact IntWalk.i64_in _ (by omega)
    have hkc : k ≤ c3 := by omega
    have hkc2 : (k : Int) ≤ c3 := by omega
    clear hsh hd h4 ho4 hn4 hb4 hR1
    by_cases htz : taE (shS S) yes = 0
    · obtain ⟨i2, k2, u1, u2, u3, u4⟩ := ta_list HO1.out htz
      rw [htz, u1] at htk
      rw [HR1.out.1] at u2 u3 u4
      have HK2 : Hid (k = k2 + 1) := HR1.out.2.1.symm.trans u2
      have HU := Lib.hid (And.intro u3 u4)
      clear u1 u2 u3 u4 htz
      go_wp2_with fail
      refine htk.mono ?_
      rintro e w5 ⟨rfl, hd⟩
      try clear hat
      try clear hw'
      try clear k1 k0 k0n
      try clear hkc2
      obtain rfl : k = k2 + 1 := HK2.out
      obtain ⟨X5, h5, ho5, hn5, hb5⟩ := own_pr H4.out.1 H4.out.2.1 H4.out.2.2 hd
      have HB5 := Lib.hid (HB4.out.trans hb5)
      obtain ⟨gq, hgq, hat5⟩ := own_at ho5 (HR1.out.2.2 _ _ HU.out.1)
      injection hgq with hgq
      injection hgq with hgq
      subst hgq
      have hc := I.free h5 (HO1.out.take yes)
      unfold ToldI at hc
      rw [HU.out.2, show (R1.drop 1).length = k2 by rw [List.length_drop, HR1.out.2.1]; omega] at hc
      have HO5 := Lib.hid ho5
      clear htk hd h5 hn5 hb5 ho5
      have q0 : (0 : Int) < (k2 : Int) + 1 := by omega
      by_cases hc1 : c3 = 1
      · have hk20 : k2 = 0 := by omega
        subst hk20 hc1
        go_wp2_with fail
        refine hc.mono ?_
        rintro e w6 ⟨A6, c6, rfl, ho6, hb⟩
        have HB6 := Lib.hid (HB5.out.trans (hb.mono HB5.out.size))
        have hnm := fun A c => numbers_yes (c := c) (c' := c6) (n := 0) (m := 0) (A := A) (A' := A6) (L := []) (Enc.Ls.nil w6 A) (Enc.Ls.nil w6 A6) rfl rfl (by simp)
        clear hc ho6 hb
        go_wp2_with fail
        refine (hnm _ _).mono ?_
        rintro e w7 ⟨rfl, hb⟩
        have HB7 := Lib.hid (HB6.out.trans (hb.mono HB6.out.size))
        clear hnm hb
        go_wp2_with fail
        go_ret
        exact ⟨rfl, HB7.out⟩
      · have hc1' : 1 ≤ c3 := by omega
        go_wp2_with fail
        refine hc.mono ?_
        rintro e w6 ⟨A6, c6, rfl, ho6, hb⟩
        have HB6 := Lib.hid (HB5.out.trans (hb.mono HB5.out.size))
        have hR1l : (R1.drop 1).length = k2 := by rw [List.length_drop, HR1.out.2.1]; omega
        have hnm := fun c => numbers_off (g := gr) (c := c) (c' := c6) (n := k2) (m := k2) (A' := A6) (L := R1.drop 1) (fun j hj => by
          have hj1 : R1[1 + j]? = some (R1.drop 1)[j] := by rw [← List.getElem?_drop, List.getElem?_eq_getElem hj]
          obtain ⟨gz, hgz, hz⟩ := own_at (HO5.out.call hb) (HR1.out.2.2 _ _ hj1)
          injection hgz with hgz
          injection hgz with hgz
          rw [hgz]; exact hz) (by have hq := ho6; rw [← hR1l] at hq; exact hq.ls) hR1l hR1l (by rw [hR1l]; omega)
        clear hc ho6 hb hR1l
        go_wp2_with fail
        refine (hnm _).mono ?_
        rintro e w7 ⟨rfl, hb⟩
        have HB7 := Lib.hid (HB6.out.trans (hb.mono HB6.out.size))
        clear hnm hb
        go_wp2_with fail
        go_ret
        exact ⟨rfl, HB7.out⟩
    · have hz := htz
      obtain ⟨E2, hE2⟩ : ∃ E2, E2 = taE (shS S) yes := ⟨_, rfl⟩
      have hs2 : taS (shS S) yes = shS S := by unfold taS; rw [if_neg htz]
      rw [← hE2] at htk hz
      have hE2b : (E2 == 0) = false := by simpa using hz
      generalize taV (shS S) yes = V2 at htk
      have HR2 : Hid (frL (taS (shS S) yes).I = R1) := by show _ = _; rw [hs2]; exact HR1.out.1
      clear htz hE2 hs2 hz
      go_wp2_with fail
      refine htk.mono ?_
      rintro e w5 ⟨rfl, hd⟩
      obtain ⟨X5, h5, ho5, hn5, hb5⟩ := own_pr H4.out.1 H4.out.2.1 H4.out.2.2 hd
      have HB5 := Lib.hid (HB4.out.trans hb5)
      have hc := I.free h5 (HO1.out.take yes)
      unfold ToldI at hc
      rw [HR2.out, HR1.out.2.1] at hc
      have HO5 := Lib.hid ho5
      clear htk hd h5 hn5 hb5 ho5
      try clear hat
      go_wp2_with fail
      refine hc.mono ?_
      rintro e w6 ⟨A6, c6, rfl, ho6, hb⟩
      have HB6 := Lib.hid (HB5.out.trans (hb.mono HB5.out.size))
      have hnm := numbers_yes (c := c3) (c' := c6) (n := k) (m := k) (A := some ⟨gr, 0, none⟩) (A' := A6) (L := R1) (by rw [HT.out]; exact ls_take (HO5.out.call hb).ls k) (by rw [show (k : Nat) = R1.length from HR1.out.2.1.symm] at ho6; exact ho6.ls) HR1.out.2.1 HR1.out.2.1 (by rw [HR1.out.2.1]; omega)
      clear hc ho6 hb
      go_wp2_with fail
      refine hnm.mono ?_
      rintro e w7 ⟨rfl, hb⟩
      have HB7 := Lib.hid (HB6.out.trans (hb.mono HB6.out.size))
      clear hnm hb
      go_wp2_with fail
      go_ret
      exact ⟨rfl, HB7.out⟩
  · have hz := hsz
    obtain ⟨E, hE⟩ : ∃ E, E = shE S := ⟨_, rfl⟩
    have hs : shS S = S := by unfold shS; rw [if_neg hsz]
    rw [← hE] at hsh hz
    have hEb : (E == 0) = false := by simpa using hz
    generalize shV S = V at hsh
    have HRR : Hid (frL (shS S).I = R ∧ R.length = m) := ⟨by rw [hs]; exact HR.out.symm, HM.out.symm⟩
    have hmb : m ≤ 1024 := by have := HRR.out.2; omega
    clear hsz hE hs hz
    go_wp2_with fail
    refine hsh.mono ?_
    rintro e w4 ⟨rfl, hd⟩
    obtain ⟨X4, h4, ho4, hn4, hb4⟩ := own_pr H3.out.1 H3.out.2.1 H3.out.2.2 hd
    have HB4 := Lib.hid (HB3.out.trans hb4)
    have H4 := Lib.hid (And.intro h4 (And.intro ho4 hn4))
    have htk := I.take h4 HO1.out yes
    obtain ⟨R1, hR1⟩ : ∃ R1, R1 = R := ⟨_, rfl⟩
    have HR1 : Hid (frL (shS S).I = R1 ∧ R1.length = m ∧ ∀ (j : Nat) (y : Int), R1[j]? = some y → R[j]? = some y) := ⟨by rw [hR1]; exact HRR.out.1, by rw [hR1]; exact HRR.out.2, fun j y e => by rw [← hR1]; exact e⟩
    have HT := Lib.hid hR1
    clear hsh hd h4 ho4 hn4 hb4 hR1
    by_cases htz : taE (shS S) yes = 0
    · obtain ⟨i2, k2, u1, u2, u3, u4⟩ := ta_list HO1.out htz
      rw [htz, u1] at htk
      rw [HR1.out.1] at u2 u3 u4
      have HK2 : Hid (m = k2 + 1) := HR1.out.2.1.symm.trans u2
      obtain ⟨gr, hA3, -⟩ := own_at H4.out.2.1 (HR1.out.2.2 _ _ u3)
      subst hA3
      have HU := Lib.hid (And.intro u3 u4)
      clear u1 u2 u3 u4 htz
      go_wp2_with fail
      refine htk.mono ?_
      rintro e w5 ⟨rfl, hd⟩
      try clear hat
      try clear hw'
      try clear k1 k0 k0n
      try clear hkc2
      obtain rfl : m = k2 + 1 := HK2.out
      obtain ⟨X5, h5, ho5, hn5, hb5⟩ := own_pr H4.out.1 H4.out.2.1 H4.out.2.2 hd
      have HB5 := Lib.hid (HB4.out.trans hb5)
      obtain ⟨gq, hgq, hat5⟩ := own_at ho5 (HR1.out.2.2 _ _ HU.out.1)
      injection hgq with hgq
      injection hgq with hgq
      subst hgq
      have hc := I.free h5 (HO1.out.take yes)
      unfold ToldI at hc
      rw [HU.out.2, show (R1.drop 1).length = k2 by rw [List.length_drop, HR1.out.2.1]; omega] at hc
      have HO5 := Lib.hid ho5
      clear htk hd h5 hn5 hb5 ho5
      have q0 : (0 : Int) < (k2 : Int) + 1 := by omega
      by_cases hc1 : c3 = 1
      · have hk20 : k2 = 0 := by omega
        subst hk20 hc1
        go_wp2_with fail
        refine hc.mono ?_
        rintro e w6 ⟨A6, c6, rfl, ho6, hb⟩
        have HB6 := Lib.hid (HB5.out.trans (hb.mono HB5.out.size))
        have hnm := fun A c => numbers_yes (c := c) (c' := c6) (n := 0) (m := 0) (A := A) (A' := A6) (L := []) (Enc.Ls.nil w6 A) (Enc.Ls.nil w6 A6) rfl rfl (by simp)
        clear hc ho6 hb
        go_wp2_with fail
        refine (hnm _ _).mono ?_
        rintro e w7 ⟨rfl, hb⟩
        have HB7 := Lib.hid (HB6.out.trans (hb.mono HB6.out.size))
        clear hnm hb
        go_wp2_with fail
        go_ret
        exact ⟨rfl, HB7.out⟩
      · have hc1' : 1 ≤ c3 := by omega
        go_wp2_with fail
        refine hc.mono ?_
        rintro e w6 ⟨A6, c6, rfl, ho6, hb⟩
        have HB6 := Lib.hid (HB5.out.trans (hb.mono HB5.out.size))
        have hR1l : (R1.drop 1).length = k2 := by rw [List.length_drop, HR1.out.2.1]; omega
        have hnm := fun c => numbers_off (g := gr) (c := c) (c' := c6) (n := k2) (m := k2) (A' := A6) (L := R1.drop 1) (fun j hj => by
          have hj1 : R1[1 + j]? = some (R1.drop 1)[j] := by rw [← List.getElem?_drop, List.getElem?_eq_getElem hj]
          obtain ⟨gz, hgz, hz⟩ := own_at (HO5.out.call hb) (HR1.out.2.2 _ _ hj1)
          injection hgz with hgz
          injection hgz with hgz
          rw [hgz]; exact hz) (by have hq := ho6; rw [← hR1l] at hq; exact hq.ls) hR1l hR1l (by rw [hR1l]; omega)
        clear hc ho6 hb hR1l
        go_wp2_with fail
        refine (hnm _).mono ?_
        rintro e w7 ⟨rfl, hb⟩
        have HB7 := Lib.hid (HB6.out.trans (hb.mono HB6.out.size))
        clear hnm hb
        go_wp2_with fail
        go_ret
        exact ⟨rfl, HB7.out⟩
    · have hz := htz
      obtain ⟨E2, hE2⟩ : ∃ E2, E2 = taE (shS S) yes := ⟨_, rfl⟩
      have hs2 : taS (shS S) yes = shS S := by unfold taS; rw [if_neg htz]
      rw [← hE2] at htk hz
      have hE2b : (E2 == 0) = false := by simpa using hz
      generalize taV (shS S) yes = V2 at htk
      have HR2 : Hid (frL (taS (shS S) yes).I = R1) := by show _ = _; rw [hs2]; exact HR1.out.1
      clear htz hE2 hs2 hz
      go_wp2_with fail
      refine htk.mono ?_
      rintro e w5 ⟨rfl, hd⟩
      obtain ⟨X5, h5, ho5, hn5, hb5⟩ := own_pr H4.out.1 H4.out.2.1 H4.out.2.2 hd
      have HB5 := Lib.hid (HB4.out.trans hb5)
      have hc := I.free h5 (HO1.out.take yes)
      unfold ToldI at hc
      rw [HR2.out, HR1.out.2.1] at hc
      have HO5 := Lib.hid ho5
      clear htk hd h5 hn5 hb5 ho5
      try clear hat
      go_wp2_with fail
      refine hc.mono ?_
      rintro e w6 ⟨A6, c6, rfl, ho6, hb⟩
      have HB6 := Lib.hid (HB5.out.trans (hb.mono HB5.out.size))
      have hnm := numbers_yes (c := c3) (c' := c6) (n := m) (m := m) (A := A3) (A' := A6) (L := R1) (by rw [HT.out]; exact (HO5.out.call hb).ls) (by rw [show (m : Nat) = R1.length from HR1.out.2.1.symm] at ho6; exact ho6.ls) HR1.out.2.1 HR1.out.2.1 (by rw [HR1.out.2.1]; omega)
      clear hc ho6 hb
      go_wp2_with fail
      refine hnm.mono ?_
      rintro e w7 ⟨rfl, hb⟩
      have HB7 := Lib.hid (HB6.out.trans (hb.mono HB6.out.size))
      clear hnm hb
      go_wp2_with fail
      go_ret
      exact ⟨rfl, HB7.out⟩
end Go.Proofs.Ytllepijlebbjbaa
