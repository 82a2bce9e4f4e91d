/- Memory: MemoryNone, walked. -/
import Derived.Test.YtklhcgekagimkaaGreatMg45
namespace Go.Proofs.YtklhcgekagimkaaGreat
open Go.RowKit
set_option maxHeartbeats 16000000 in
set_option maxRecDepth 100000 in
theorem none_walk (a : Ac) (w : World) : Calls Tryz.prog 8 #[.agg #[.int .i64 a.k, .int .i64 a.f, .int .i64 a.o, .int .i64 a.a, .int .i64 a.t, .int .i64 a.n]] w fun e w' => e = .returned (.bool true) ∧ Below w.heap.size w w' := by
  obtain ⟨W0, hW0⟩ : ∃ W0, W0 = w.alloc (.cells #[.int .i64 a.k, .int .i64 a.f, .int .i64 a.o, .int .i64 a.a, .int .i64 a.t, .int .i64 a.n] 59) := ⟨_, rfl⟩
  obtain ⟨q, hq⟩ : ∃ q, q = w.heap.size := ⟨_, rfl⟩
  have g0 : Below w.heap.size w W0 := by rw [hW0]; exact below_new _ _
  have rs : Lrow W0 q 59 [.int .i64 a.k, .int .i64 a.f, .int .i64 a.o, .int .i64 a.a, .int .i64 a.t, .int .i64 a.n] := by rw [hW0, hq]; exact Lrow.new w _ _
  obtain ⟨ak, af, ao, aa, at_, an⟩ := a
  dsimp only at rs hW0 ⊢
  have q1 := rs.cell 1
  have q2 := rs.cell 2
  have q3 := rs.cell 3
  have q4 := rs.cell 4
  have q5 := rs.cell 5
  have HR := Lib.hid rs
  have HB := Lib.hid g0
  have HW := Lib.hid (And.intro hW0 hq)
  have zz : IntKind.i64.wrap 0 = 0 := rfl
  have hone := one_mn aa at_ W0
  have hblk := block_mn ao aa at_ W0
  have hawk := awake_any W0
  clear rs g0 hW0 hq
  go_enter Tryz.func8, Tryz.ntmps8
  go_upto_region 1 with (fail)
  rw [← HW.out.1, ← HW.out.2]
  go_wp2_with fail
  refine hone.mono ?_
  rintro e w1 ⟨rfl, rfl⟩
  clear hone
  go_wp2_with fail
  refine hblk.mono ?_
  rintro e w1 ⟨rfl, rfl⟩
  clear hblk
  go_wp2_with fail
  refine hawk.mono ?_
  rintro e w1 ⟨rfl, hb⟩
  clear hawk q1 q2 q3 q4 q5
  have HB1 := Lib.hid hb
  have rs1 := HR.out.call HB1.out
  have q1 := rs1.cell 1
  have q2 := rs1.cell 2
  have q3 := rs1.cell 3
  have q4 := rs1.cell 4
  have q5 := rs1.cell 5
  have hc := count_mn at_ w1
  clear hb rs1
  go_wp2_with fail
  refine hc.mono ?_
  rintro e w2 ⟨rfl, hb⟩
  clear hc q1 q2 q3 q4 q5
  have HB2 := Lib.hid (HB1.out.trans (hb.mono HB1.out.size))
  have rs2 := HR.out.call HB2.out
  have q1 := rs2.cell 1
  have q2 := rs2.cell 2
  have q3 := rs2.cell 3
  have q4 := rs2.cell 4
  have q5 := rs2.cell 5
  have hc := spare_mn w2
  clear hb rs2
  go_wp2_with fail
  refine hc.mono ?_
  rintro e w3 ⟨rfl, hbe⟩
  have hb : Below w2.heap.size w2 w3 := by rw [← hbe]; exact Below.refl _ _
  clear hbe
  clear hc q1 q2 q3 q4 q5
  have HB3 := Lib.hid (HB2.out.trans (hb.mono HB2.out.size))
  have rs3 := HR.out.call HB3.out
  have q1 := rs3.cell 1
  have q2 := rs3.cell 2
  have q3 := rs3.cell 3
  have q4 := rs3.cell 4
  have q5 := rs3.cell 5
  have hc := free_mn w3
  clear hb rs3
  go_wp2_with fail
  refine hc.mono ?_
  rintro e w4 ⟨rfl, hb⟩
  clear hc q1 q2 q3 q4 q5
  have HB4 := Lib.hid (HB3.out.trans (hb.mono HB3.out.size))
  have rs4 := HR.out.call HB4.out
  have q1 := rs4.cell 1
  have q2 := rs4.cell 2
  have q3 := rs4.cell 3
  have q4 := rs4.cell 4
  have q5 := rs4.cell 5
  have hc := blocks_mn w4
  clear hb rs4
  go_wp2_with fail
  refine hc.mono ?_
  rintro e w5 ⟨rfl, hb⟩
  clear hc q1 q2 q3 q4 q5
  have HB5 := Lib.hid (HB4.out.trans (hb.mono HB4.out.size))
  have rs5 := HR.out.call HB5.out
  have q1 := rs5.cell 1
  have q2 := rs5.cell 2
  have q3 := rs5.cell 3
  have q4 := rs5.cell 4
  have q5 := rs5.cell 5
  have hc := at_mn af ao at_ w5
  clear hb rs5
  go_wp2_with fail
  refine hc.mono ?_
  rintro e w6 ⟨rfl, hbe⟩
  have hb : Below w5.heap.size w5 w6 := by rw [← hbe]; exact Below.refl _ _
  clear hbe
  clear hc q1 q2 q3 q4 q5
  have HB6 := Lib.hid (HB5.out.trans (hb.mono HB5.out.size))
  have rs6 := HR.out.call HB6.out
  have q1 := rs6.cell 1
  have q2 := rs6.cell 2
  have q3 := rs6.cell 3
  have q4 := rs6.cell 4
  have q5 := rs6.cell 5
  have hc := drop_mn af ao w6
  clear hb rs6
  go_wp2_with fail
  refine hc.mono ?_
  rintro e w7 ⟨rfl, hb⟩
  clear hc q1 q2 q3 q4 q5
  have HB7 := Lib.hid (HB6.out.trans (hb.mono HB6.out.size))
  have rs7 := HR.out.call HB7.out
  have q1 := rs7.cell 1
  have q2 := rs7.cell 2
  have q3 := rs7.cell 3
  have q4 := rs7.cell 4
  have q5 := rs7.cell 5
  have hc := turn_mn af an aa at_ w7
  clear hb rs7
  go_wp2_with fail
  refine hc.mono ?_
  rintro e w8 ⟨rfl, hbe⟩
  have hb : Below w7.heap.size w7 w8 := by rw [← hbe]; exact Below.refl _ _
  clear hbe
  clear hc q1 q2 q3 q4 q5
  have HB8 := Lib.hid (HB7.out.trans (hb.mono HB7.out.size))
  have rs8 := HR.out.call HB8.out
  have q1 := rs8.cell 1
  have q2 := rs8.cell 2
  have q3 := rs8.cell 3
  have q4 := rs8.cell 4
  have q5 := rs8.cell 5
  have hc := set_mn af aa w8
  clear hb rs8
  go_wp2_with fail
  refine hc.mono ?_
  rintro e w9 ⟨rfl, hb⟩
  clear hc q1 q2 q3 q4 q5
  have HB9 := Lib.hid (HB8.out.trans (hb.mono HB8.out.size))
  have rs9 := HR.out.call HB9.out
  have q1 := rs9.cell 1
  have q2 := rs9.cell 2
  have q3 := rs9.cell 3
  have q4 := rs9.cell 4
  have q5 := rs9.cell 5
  have hc := is_mn af w9
  clear hb rs9
  go_wp2_with fail
  refine hc.mono ?_
  rintro e w10 ⟨rfl, hb⟩
  clear hc q1 q2 q3 q4 q5
  have HB10 := Lib.hid (HB9.out.trans (hb.mono HB9.out.size))
  have rs10 := HR.out.call HB10.out
  have q1 := rs10.cell 1
  have q2 := rs10.cell 2
  have q3 := rs10.cell 3
  have q4 := rs10.cell 4
  have q5 := rs10.cell 5
  have hc := kind_mn af w10
  clear hb rs10
  go_wp2_with fail
  refine hc.mono ?_
  rintro e w11 ⟨rfl, hb⟩
  clear hc q1 q2 q3 q4 q5
  have HB11 := Lib.hid (HB10.out.trans (hb.mono HB10.out.size))
  have rs11 := HR.out.call HB11.out
  have q1 := rs11.cell 1
  have q2 := rs11.cell 2
  have q3 := rs11.cell 3
  have q4 := rs11.cell 4
  have q5 := rs11.cell 5
  have hc := right_mn w11
  clear hb rs11
  go_wp2_with fail
  refine hc.mono ?_
  rintro e w12 ⟨rfl, hb⟩
  clear hc q1 q2 q3 q4 q5
  have HB12 := Lib.hid (HB11.out.trans (hb.mono HB11.out.size))
  have rs12 := HR.out.call HB12.out
  have q1 := rs12.cell 1
  have q2 := rs12.cell 2
  have q3 := rs12.cell 3
  have q4 := rs12.cell 4
  have q5 := rs12.cell 5
  have hc := ram_mn w12
  clear hb rs12
  go_wp2_with fail
  refine hc.mono ?_
  rintro e w13 ⟨rfl, hb⟩
  clear hc q1 q2 q3 q4 q5
  have HB13 := Lib.hid (HB12.out.trans (hb.mono HB12.out.size))
  clear hb
  go_wp2_with fail
  go_ret
  exact ⟨rfl, HB.out.trans (HB13.out.mono HB.out.size)⟩
end Go.Proofs.YtklhcgekagimkaaGreat
/- Memory: MemoryRight, walked. -/
namespace Go.Proofs.YtklhcgekagimkaaGreat
open Go.RowKit
/-- As many are free as are FFree. -/
theorem MeOk.count (M : Me) {n : Nat} (h : MeOk n M) : M.I.count 0 = M.F.count true := by
  have key : ∀ m, m ≤ n → cnF M.I 0 m = (M.F.take m).count true := by
    intro m
    induction m with
    | zero => intro _; rfl
    | succ m ih =>
      intro hm
      obtain ⟨v, hv⟩ : ∃ v, M.F[m]? = some v := ⟨_, List.getElem?_eq_getElem (by rw [h.f]; omega)⟩
      rw [count_take hv, cnF_succ, ih (by omega)]
      have hf := h.fit m (by omega)
      rw [hv] at hf
      cases v with
      | true => rw [if_pos (hf.1 rfl), if_pos rfl]
      | false => rw [if_neg (fun e => by have := hf.2 e; injection this with this; cases this), if_neg (by decide)]; rfl
  have := key n (Nat.le_refl _)
  have h1 : M.F.take n = M.F := List.take_of_length_le (by rw [h.f]; exact Nat.le_refl _)
  rw [h1, ← h.i, cnF_all] at this
  exact this
set_option maxHeartbeats 16000000 in
set_option maxRecDepth 100000 in
theorem right_walk (m mk : Int) (A : Option Addr) (n c : Nat) (w : World) (hA : Acs w w.heap.size A n) :
    Calls Tryz.prog 4 #[.int .i64 m, .int .i64 mk, .slice A n c] w fun e w' => e = .returned (.bool true) ∧ Below w.heap.size w w' := by
  cases c0 : mwB m mk
  · have h1 := mnew_no c0 w
    have h2 := fun w1 => rnew_no17 c0 w1
    have H2 := Lib.hid h2
    clear c0 h2 hA
    go_enter Tryz.func4, Tryz.ntmps4
    go_wp2_with fail
    refine h1.mono ?_
    rintro e w1 ⟨rfl, hb1⟩
    have HB1 := Lib.hid hb1
    have h2 := H2.out w1
    clear h1 hb1
    go_wp2_with fail
    refine h2.mono ?_
    rintro e w2 ⟨rfl, hb2⟩
    have HB2 := Lib.hid (HB1.out.trans (hb2.mono HB1.out.size))
    have h3 := awake_any w2
    clear h2 hb2 H2
    go_wp2_with fail
    refine h3.mono ?_
    rintro e w3 ⟨rfl, hb3⟩
    have HB3 := Lib.hid (HB2.out.trans (hb3.mono HB2.out.size))
    have h4 := awake_any w3
    clear h3 hb3
    go_wp2_with fail
    refine h4.mono ?_
    rintro e w4 ⟨rfl, hb4⟩
    have HB4 := Lib.hid (HB3.out.trans (hb4.mono HB3.out.size))
    clear h4 hb4
    go_wp2_with fail
    go_ret
    exact ⟨rfl, HB4.out⟩
  · have hm := of_decide_eq_true c0
    obtain ⟨k, rfl⟩ : ∃ k : Nat, m = k := ⟨m.toNat, by omega⟩
    obtain ⟨mk, rfl⟩ : ∃ j : Nat, mk = j := ⟨mk.toNat, by omega⟩
    obtain ⟨k8, k1, hk⟩ : 8 ≤ k ∧ k ≤ 1024 ∧ mk ≤ k := by omega
    clear c0 hm
    obtain ⟨L, hL, hA⟩ := hA.list
    have hnew := mnew_ok k8 k1 hk w
    have HRN : Hid (∀ w1, Calls Tryz.prog 26 #[.int .i64 k, .int .i64 mk] w1 fun e w' => ∃ r v, e = .returned (.tuple #[.pointer (some ⟨r.x, 0, none⟩), .int .i64 0]) ∧ RmX w1.heap.size w' r v k mk (nwM k) ∧ (∃ q, v.ownBlock = some q ∧ w1.heap.size ≤ q) ∧ Below w1.heap.size w1 w') := fun w1 => rnew_ok17 k8 k1 hk w1
    have HA := Lib.hid hA
    have HM := Lib.hid (And.intro hL (And.intro k8 (And.intro k1 hk)))
    clear hA hL k8 k1 hk
    go_enter Tryz.func4, Tryz.ntmps4
    go_wp2_with fail
    refine hnew.mono ?_
    rintro e w1 ⟨p, X, rfl, h1, hb1⟩
    have H1 := Lib.hid (And.intro h1 hb1)
    have hnx := HRN.out w1
    clear hnew h1 hb1 HRN
    go_wp2_with fail
    refine hnx.mono ?_
    rintro e w2 ⟨r, v, rfl, hx, -, hb2⟩
    have HG : Hid (StE w.heap.size w2 p r k mk (mdM (nwM k) mk (L.take 0)) ∧ Below w.heap.size w w2) := ⟨StE.new H1.out.1 H1.out.2 hx hb2, H1.out.2.trans (hb2.mono H1.out.2.size)⟩
    have h3 := awake_any w2
    clear hnx hx hb2 H1
    go_wp2_with fail
    refine h3.mono ?_
    rintro e w3 ⟨rfl, hb3⟩
    have HG3 : Hid (StE w.heap.size w3 p r k mk (mdM (nwM k) mk (L.take 0)) ∧ Below w.heap.size w w3) := ⟨HG.out.1.call hb3, HG.out.2.trans (hb3.mono HG.out.2.size)⟩
    clear h3 hb3 HG
    go_wp2_with fail
    go_loopw [11] (fun i wr => ∃ j : Nat, j ≤ n ∧ j ≤ 30 ∧ i = .int .i64 j ∧ StE w.heap.size wr p r k mk (mdM (nwM k) mk (L.take j)) ∧ Below w.heap.size w wr) (fun i _ => n - (RowKit.intOf i).toNat)
    case atStart => exact ⟨0, by omega, by omega, rfl, HG3.out.1, HG3.out.2⟩
    case round =>
      obtain ⟨j, hj, hj40, rfl, hst, hb⟩ := hrel
      have HST := Lib.hid hst
      have HBL := Lib.hid hb
      clear HG3 hst
      by_cases hboth : j < n ∧ j < 30
      · obtain ⟨hlt, hlim⟩ := hboth
        have hjM : j < L.length := by have := HM.out.1; omega
        obtain ⟨ad, rfl, hc⟩ := (HA.out.below hb) (by omega)
        obtain ⟨ok, hab, hat⟩ := hc j hjM
        have HNX := Lib.hid (mdM_next (nwM k) mk L hjM)
        have okj := mdM_ok (nwM_ok HM.out.2.1 HM.out.2.2.1) mk (L.take j)
        have hdo := do_any HST.out okj HM.out.2.2.2 L[j] ok
        have HOK := Lib.hid (doM_ok okj mk L[j])
        obtain ⟨l, hl⟩ : ∃ l, l = L[j] := ⟨_, rfl⟩
        rw [← hl] at hat HNX hdo HOK
        have c0 := hat.c0
        have c1 := hat.c1
        have c2 := hat.c2
        have c3 := hat.c3
        have c4 := hat.c4
        have c5 := hat.c5
        have hjl : (j : Int) < n := by omega
        have hjm : (j : Int) < 30 := by omega
        have hj0 : (0 : Int) ≤ j := by omega
        have hw3 : IntKind.i64.wrap ((j : Int) + 1) = (j : Int) + 1 := IntWalk.i64_in _ (by omega)
        clear hat hb hab ok hc hl hjM okj
        obtain ⟨lk, lf, lo, la, lt, ln⟩ := l
        dsimp only at c0 c1 c2 c3 c4 c5 hdo
        generalize doM (mdM (nwM k) mk (L.take j)) mk ⟨lk, lf, lo, la, lt, ln⟩ = M' at *
        go_wp2_with fail
        refine hdo.mono ?_
        rintro e w4 ⟨rfl, hst4, hb4⟩
        obtain ⟨X4, v4, hp4, hr4, hd4⟩ := hst4
        have hR := right_m hp4 HOK.out
        have HN := Lib.hid (And.intro hp4 (And.intro hr4 (And.intro hd4 (HBL.out.trans hb4))))
        clear hp4 hr4 hd4 hb4 hdo c0 c1 c2 c3 c4 c5
        go_wp2_with fail
        refine hR.mono ?_
        rintro e w5 ⟨rfl, hb5⟩
        have hC := count_m (HN.out.1.call hb5) HOK.out.ok 0
        rw [MeOk.count M' HOK.out] at hC
        have HB5 := Lib.hid hb5
        clear hb5 hR
        obtain ⟨cc, hcc⟩ : ∃ cc, cc = M'.F.count true := ⟨_, rfl⟩
        rw [← hcc] at hC
        have HC := Lib.hid hcc
        clear hcc
        go_wp2_with fail
        refine hC.mono ?_
        rintro e w6 ⟨rfl, hb6⟩
        have HB6 := Lib.hid (HB5.out.trans (hb6.mono HB5.out.size))
        have hF := free_m (HN.out.1.call HB6.out)
        rw [← HC.out] at hF
        clear hb6 hC
        go_wp2_with fail
        refine hF.mono ?_
        rintro e w7 ⟨rfl, hb7⟩
        have HB7 := Lib.hid (HB6.out.trans (hb7.mono HB6.out.size))
        clear hb7 hF
        go_wp2_with fail
        go_roundw
        case rel => exact ⟨j + 1, by omega, by omega, by go_num, by rw [HNX.out]; exact StE.call ⟨X4, v4, HN.out.1, HN.out.2.1, HN.out.2.2.1⟩ HB7.out, HN.out.2.2.2.trans (HB7.out.mono HN.out.2.2.2.size)⟩
        case measure => simp [RowKit.intOf]; omega
      · by_cases hlt : j < n
        case' pos => have hlim : ¬ (j : Int) < 30 := by omega
        all_goals
          clear hboth hb
          go_wp2_with fail
          go_ret
          exact ⟨rfl, HBL.out⟩
end Go.Proofs.YtklhcgekagimkaaGreat
