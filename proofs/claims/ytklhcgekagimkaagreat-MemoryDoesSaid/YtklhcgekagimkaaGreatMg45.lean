/- A call of both memories, of whatever kind; what must come at any rate. -/
import Derived.Test.YtklhcgekagimkaaGreatMg42
import Derived.Test.YtklhcgekagimkaaGreatMg43
import Derived.Test.YtklhcgekagimkaaGreatMg44
namespace Go.Proofs.YtklhcgekagimkaaGreat
open Go.RowKit
theorem do_any {w : World} {B n mk : Nat} {p : Pn} {r : Rn} {M : Me} (hst : StE B w p r n mk M) (ok : MeOk n M) (hk : mk ≤ n) (l : Ac) (hl : IsAc l) :
    Calls Tryz.prog 27 #[.pointer (some ⟨p.m, 0, none⟩), .pointer (some ⟨r.x, 0, none⟩), .agg #[.int .i64 l.k, .int .i64 l.f, .int .i64 l.o, .int .i64 l.a, .int .i64 l.t, .int .i64 l.n]] w fun e w' => e = .returned (.bool true) ∧ StE B w' p r n mk (doM M mk l) ∧ Below B w w' := by
  by_cases h0 : l.k = 0 ∨ l.k = 1 ∨ l.k = 2
  · rw [show doM M mk l = blM M mk l.o l.a l.t by unfold doM; rw [if_pos h0]]
    exact do_block hst ok hk h0
  by_cases h3 : l.k = 3
  · rw [show doM M mk l = atM M l.f l.o l.t by unfold doM; rw [if_neg h0, if_pos h3]]
    exact do_at hst ok h3 hl.f
  by_cases h4 : l.k = 4
  · rw [show doM M mk l = drM M (dnF l.f l.o) l.o by unfold doM; rw [if_neg h0, if_neg h3, if_pos h4]]
    by_cases hn : 0 ≤ l.o ∧ l.o ≤ 8 ∧ 0 ≤ l.f
    · exact do_drop_yes hst ok h4 hl.f hn
    · exact do_drop_no hst ok h4 hl.f hn
  by_cases h5 : l.k = 5
  · rw [show doM M mk l = tnM M l.f l.n l.a l.t by unfold doM; rw [if_neg h0, if_neg h3, if_neg h4, if_pos h5]]
    exact do_turn hst ok h5
  by_cases h6 : l.k = 6
  · rw [show doM M mk l = seM M l.f l.a by unfold doM; rw [if_neg h0, if_neg h3, if_neg h4, if_neg h5, if_pos h6]]
    exact do_set hst ok h6
  by_cases h7 : l.k = 7
  · by_cases hn : 0 ≤ l.f ∧ l.f < n
    · rw [show doM M mk l = wrM M l.f l.n by unfold doM; rw [if_neg h0, if_neg h3, if_neg h4, if_neg h5, if_neg h6, if_pos h7, if_pos (by rw [ok.i]; exact hn)]]
      exact do_in hst ok h7 hn
    · rw [show doM M mk l = M by unfold doM; rw [if_neg h0, if_neg h3, if_neg h4, if_neg h5, if_neg h6, if_pos h7, if_neg (by rw [ok.i]; exact hn)]]
      exact do_out hst ok h7 hn
  · rw [show doM M mk l = blM M mk 0 l.a l.t by unfold doM; rw [if_neg h0, if_neg h3, if_neg h4, if_neg h5, if_neg h6, if_neg h7]]
    exact do_one hst ok hk (fun e => h0 (Or.inl e)) (fun e => h0 (Or.inr (Or.inl e))) (fun e => h0 (Or.inr (Or.inr e))) h3 h4 h5 h6 h7
/-! What must come at any rate. -/
def awM1 : Me := blM (nwM 16) 2 3 1 2
def awM2 : Me := blM awM1 2 3 1 2
def awM3 : Me := blM awM2 2 0 0 1
theorem aw0 : spN (nwM 16) 2 = 14 := by decide +kernel
theorem aw1 : blV (nwM 16) 2 3 1 2 = 0 ∧ blE (nwM 16) 2 3 1 2 = 0 := by decide +kernel
theorem aw2 : blV awM1 2 3 1 2 = 0 ∧ blE awM1 2 3 1 2 = 8 := by decide +kernel
theorem aw3 : blV awM2 2 0 0 1 = 8 ∧ blE awM2 2 0 0 1 = 0 := by decide +kernel
theorem aw4 : isV awM3.I 3 = 2 := by decide +kernel
theorem awOk1 : MeOk 16 awM1 := (nwM_ok (by decide) (by decide)).block _ _ _ _
theorem awOk2 : MeOk 16 awM2 := awOk1.block _ _ _ _
theorem awOk3 : MeOk 16 awM3 := awOk2.block _ _ _ _
set_option maxHeartbeats 4000000 in
set_option maxRecDepth 100000 in
theorem awake_any (w : World) : Calls Tryz.prog 10 #[] w fun e w' => e = .returned (.bool true) ∧ Below w.heap.size w w' := by
  have hN : Calls Tryz.prog 25 #[.int .i64 16, .int .i64 2] w fun e w' => ∃ p X, e = .returned (.tuple #[.pointer (some ⟨p.m, 0, none⟩), .int .i64 0]) ∧ PmX w.heap.size w' p X 16 2 (nwM 16) ∧ Below w.heap.size w w' := mnew_ok (n := 16) (mk := 2) (by decide) (by decide) (by decide) w
  go_enter Tryz.func10, Tryz.ntmps10
  go_wp2_with fail
  refine hN.mono ?_
  rintro e w1 ⟨p, X, rfl, h1, hb1⟩
  have hS : Calls Tryz.prog 18 #[.pointer (some ⟨p.m, 0, none⟩)] w1 fun e w' => e = .returned (.int .i64 14) ∧ Below w1.heap.size w1 w' := by
    have := spare_m h1 (by decide)
    rw [aw0] at this
    exact this
  have H1 := Lib.hid (And.intro h1 hb1)
  clear hN h1 hb1
  go_wp2_with fail
  refine hS.mono ?_
  rintro e w2 ⟨rfl, hb2⟩
  have h2 := H1.out.1.call hb2
  have HB2 := Lib.hid (H1.out.2.trans (hb2.mono H1.out.2.size))
  have hb := block_m h2 (nwM_ok (by decide) (by decide)) (by decide) 3 1 2
  rw [aw1.1, aw1.2] at hb
  have H2 := Lib.hid h2
  clear hS hb2 h2 H1
  go_wp2_with fail
  refine hb.mono ?_
  rintro e w3 ⟨rfl, hd3⟩
  have HB3 := Lib.hid (HB2.out.trans (PDid.below H2.out hd3))
  obtain ⟨X3, h3, -, -⟩ := hd3
  have h3 : PmX w.heap.size w3 p X3 16 2 awM1 := h3
  have hb := block_m h3 awOk1 (by decide) 3 1 2
  rw [aw2.1, aw2.2] at hb
  have H3 := Lib.hid h3
  clear h3 H2 HB2
  go_wp2_with fail
  refine hb.mono ?_
  rintro e w4 ⟨rfl, hd4⟩
  have HB4 := Lib.hid (HB3.out.trans (PDid.below H3.out hd4))
  obtain ⟨X4, h4, -, -⟩ := hd4
  have h4 : PmX w.heap.size w4 p X4 16 2 awM2 := h4
  have hb := one_m h4 awOk2 (by decide) 0 1
  rw [aw3.1, aw3.2] at hb
  have H4 := Lib.hid h4
  clear h4 H3 HB3
  go_wp2_with fail
  refine hb.mono ?_
  rintro e w5 ⟨rfl, hd5⟩
  have HB5 := Lib.hid (HB4.out.trans (PDid.below H4.out hd5))
  obtain ⟨X5, h5, -, -⟩ := hd5
  have hI : Calls Tryz.prog 11 #[.pointer (some ⟨p.m, 0, none⟩), .int .i64 3] w5 fun e w' => e = .returned (.int .i64 2) ∧ Below w5.heap.size w5 w' := by
    have := is_m (p := p) (M := awM3) h5 3
    rw [aw4] at this
    exact this
  have H5 : Hid (PmX w.heap.size w5 p X5 16 2 awM3) := h5
  clear h5 H4 HB4 hb
  go_wp2_with fail
  refine hI.mono ?_
  rintro e w6 ⟨rfl, hb6⟩
  have hR := right_m (H5.out.call hb6) awOk3
  have HB6 := Lib.hid (HB5.out.trans (hb6.mono HB5.out.size))
  clear hb6 hI
  go_wp2_with fail
  refine hR.mono ?_
  rintro e w7 ⟨rfl, hb7⟩
  have HB7 := Lib.hid (HB6.out.trans (hb7.mono HB6.out.size))
  clear hb7 hR
  go_wp2_with fail
  go_ret
  exact ⟨rfl, HB7.out⟩
end Go.Proofs.YtklhcgekagimkaaGreat
/- Memory: both behind some calls. -/
namespace Go.Proofs.YtklhcgekagimkaaGreat
open Go.RowKit
theorem RmX.base {w : World} {B B' n mk : Nat} {r : Rn} {v : Value} {M : Me} (h : RmX B w r v n mk M) (hb : B' ≤ B) : RmX B' w r v n mk M :=
  ⟨h.top, h.kin, h.ram, h.own.base hb, h.nh, Nat.le_trans hb h.lx, Nat.le_trans hb h.lz, Nat.le_trans hb h.lp, Nat.le_trans hb h.ly, Nat.le_trans hb h.lh, Nat.le_trans hb h.lc, Nat.le_trans hb h.ld⟩
theorem StE.new {w w1 w2 : World} {p : Pn} {r : Rn} {X : Nat → Prop} {v : Value} {n mk : Nat} {M : Me} (h1 : PmX w.heap.size w1 p X n mk M) (hb1 : Below w.heap.size w w1) (h2 : RmX w1.heap.size w2 r v n mk M) (hb2 : Below w1.heap.size w1 w2) : StE w.heap.size w2 p r n mk M :=
  ⟨X, v, h1.call hb2, h2.base hb1.size, fun q hq e => by have := (h1.mine hq).2; have := (h2.mine e).1; omega⟩
/-- How many frames the laws make. -/
def mnN (m : Int) : Int := if 80 < m ∧ m ≤ 1024 then 80 else m
def mdE (k mk : Nat) (L : List Ac) : Me := mdM (nwM k) mk (L.take 40)
theorem mdE_ok {k : Nat} (h1 : 8 ≤ k) (h2 : k ≤ 1024) (mk : Nat) (L : List Ac) : MeOk k (mdE k mk L) := mdM_ok (nwM_ok h1 h2) mk _
theorem mn_cases (m : Int) : (80 < m ∧ m ≤ 1024 ∧ mnN m = 80) ∨ (80 < m ∧ ¬ m ≤ 1024 ∧ mnN m = m) ∨ (¬ 80 < m ∧ mnN m = m) := by
  unfold mnN
  by_cases c1 : 80 < m
  · by_cases c2 : m ≤ 1024
    · exact Or.inl ⟨c1, c2, if_pos ⟨c1, c2⟩⟩
    · exact Or.inr (Or.inl ⟨c1, c2, if_neg fun e => c2 e.2⟩)
  · exact Or.inr (Or.inr ⟨c1, if_neg fun e => c1 e.1⟩)
set_option maxHeartbeats 4000000 in
set_option maxRecDepth 100000 in
theorem made_no {m mk : Int} (h : mwB (mnN m) mk = false) (v : Value) (w : World) :
    Calls Tryz.prog 9 #[.int .i64 m, .int .i64 mk, v] w fun e w' => e = .returned (.tuple #[.pointer none, .pointer none, .bool true]) ∧ Below w.heap.size w w' := by
  have h1 := mnew_no h w
  have h2 := fun w1 => rnew_no17 h w1
  have H2 := Lib.hid h2
  rcases mn_cases m with ⟨c1, c2, c3⟩ | ⟨c1, c2, c3⟩ | ⟨c1, c3⟩
  all_goals
    rw [c3] at h1 H2
    clear h h2 c3
    go_enter Tryz.func9, Tryz.ntmps9
    go_wp2_with fail
    refine h1.mono ?_
    rintro e w1 ⟨rfl, hb1⟩
    have HB1 := Lib.hid hb1
    have h2 := H2.out w1
    clear h1 hb1
    go_wp2_with fail
    refine h2.mono ?_
    rintro e w2 ⟨rfl, hb2⟩
    have HB2 := Lib.hid (HB1.out.trans (hb2.mono HB1.out.size))
    clear h2 hb2 H2
    go_wp2_with fail
    go_loopw [13] (fun i wr => i = .int .i64 0 ∧ w2 = wr) (fun _ _ => 0)
    case atStart => exact ⟨rfl, rfl⟩
    case round =>
      obtain ⟨rfl, rfl⟩ := hrel
      go_wp2_with fail
      go_ret3
      exact ⟨rfl, HB2.out⟩
set_option maxHeartbeats 8000000 in
set_option maxRecDepth 100000 in
theorem made_any {m : Int} {k mk : Nat} (hm : mnN m = k) (k8 : 8 ≤ k) (k1 : k ≤ 1024) (hk : mk ≤ k) (A : Option Addr) (n c b : Nat) (L : List Ac) (w : World) (hL : L.length = n) (hA : Lsa w b A L) (hb : b ≤ w.heap.size) :
    Calls Tryz.prog 9 #[.int .i64 m, .int .i64 mk, .slice A n c] w fun e w' => ∃ p r, e = .returned (.tuple #[.pointer (some ⟨p.m, 0, none⟩), .pointer (some ⟨r.x, 0, none⟩), .bool true]) ∧ StE w.heap.size w' p r k mk (mdE k mk L) ∧ Below w.heap.size w w' := by
  have hnew := mnew_ok k8 k1 hk w
  have HRN : Hid (∀ w1, Calls Tryz.prog 26 #[.int .i64 k, .int .i64 mk] w1 fun e w' => ∃ r v, e = .returned (.tuple #[.pointer (some ⟨r.x, 0, none⟩), .int .i64 0]) ∧ RmX w1.heap.size w' r v k mk (nwM k) ∧ (∃ q, v.ownBlock = some q ∧ w1.heap.size ≤ q) ∧ Below w1.heap.size w1 w') := fun w1 => rnew_ok17 k8 k1 hk w1
  have HA := Lib.hid (And.intro hA hb)
  have HM := Lib.hid (And.intro hL (And.intro k8 (And.intro k1 hk)))
  clear hA hb hL
  have hgo : (80 < m ∧ m ≤ 1024 ∧ k = 80) ∨ (¬ 80 < m ∧ m = k) := by
    rcases mn_cases m with ⟨c1, c2, c3⟩ | ⟨c1, c2, c3⟩ | ⟨c1, c3⟩
    · exact Or.inl ⟨c1, c2, by omega⟩
    · omega
    · exact Or.inr ⟨c1, by omega⟩
  clear hm k8 k1 hk
  rcases hgo with ⟨c1, c2, rfl⟩ | ⟨c1, rfl⟩
  all_goals
    go_enter Tryz.func9, Tryz.ntmps9
    go_wp2_with fail
    refine hnew.mono ?_
    rintro e w1 ⟨p, X, rfl, h1, hb1⟩
    have H1 := Lib.hid (And.intro h1 hb1)
    have hnx := HRN.out w1
    clear hnew h1 hb1 HRN
    go_wp2_with fail
    refine hnx.mono ?_
    rintro e w2 ⟨r, v, rfl, hx, -, hb2⟩
    have HG : Hid (StE w.heap.size w2 p r _ mk (mdM (nwM _) mk (L.take 0)) ∧ Below w.heap.size w w2) := ⟨StE.new H1.out.1 H1.out.2 hx hb2, H1.out.2.trans (hb2.mono H1.out.2.size)⟩
    clear hnx hx hb2 H1
    go_wp2_with fail
    go_loopw [13] (fun i wr => ∃ j : Nat, j ≤ n ∧ j ≤ 40 ∧ i = .int .i64 j ∧ StE w.heap.size wr p r _ mk (mdM (nwM _) mk (L.take j)) ∧ Below w.heap.size w wr) (fun i _ => n - (RowKit.intOf i).toNat)
    case atStart => exact ⟨0, by omega, by omega, rfl, HG.out.1, HG.out.2⟩
    case round =>
      obtain ⟨j, hj, hj40, rfl, hst, hb⟩ := hrel
      have HST := Lib.hid hst
      have HBL := Lib.hid hb
      clear HG hst
      by_cases hboth : j < n ∧ j < 40
      · obtain ⟨hlt, hlim⟩ := hboth
        have hjM : j < L.length := by have := HM.out.1; omega
        obtain ⟨ad, rfl, hc⟩ := (HA.out.1.below (Below.mono hb HA.out.2)) (by omega)
        obtain ⟨ok, hab, hat⟩ := hc j hjM
        have HNX := Lib.hid (fun k0 => mdM_next (nwM k0) mk L hjM)
        have hdo := do_any HST.out (mdM_ok (nwM_ok HM.out.2.1 HM.out.2.2.1) mk _) HM.out.2.2.2 L[j] ok
        obtain ⟨l, hl⟩ : ∃ l, l = L[j] := ⟨_, rfl⟩
        rw [← hl] at hat HNX hdo
        have c0 := hat.c0
        have c1 := hat.c1
        have c2 := hat.c2
        have c3 := hat.c3
        have c4 := hat.c4
        have c5 := hat.c5
        have hjl : (j : Int) < n := by omega
        have hjm : (j : Int) < 40 := by omega
        have hj0 : (0 : Int) ≤ j := by omega
        have hw3 : IntKind.i64.wrap ((j : Int) + 1) = (j : Int) + 1 := IntWalk.i64_in _ (by omega)
        clear hat hb hab ok hc hl hjM
        obtain ⟨lk, lf, lo, la, lt, ln⟩ := l
        dsimp only at c0 c1 c2 c3 c4 c5 hdo
        go_wp2_with fail
        refine hdo.mono ?_
        rintro e w3 ⟨rfl, hst3, hb3⟩
        have HN := Lib.hid (And.intro hst3 (HBL.out.trans hb3))
        clear hst3 hb3 hdo c0 c1 c2 c3 c4 c5
        go_wp2_with fail
        go_roundw
        case rel => exact ⟨j + 1, by omega, by omega, by go_num, by rw [HNX.out]; exact HN.out.1, HN.out.2⟩
        case measure => simp [RowKit.intOf]; omega
      · have HE : Hid (∀ k, mdM (nwM k) mk (L.take j) = mdE k mk L) := by
          intro k
          unfold mdE
          rcases (show j = 40 ∨ (j = n ∧ n ≤ 40) by omega) with rfl | ⟨rfl, h⟩
          · rfl
          · rw [List.take_of_length_le (by have := HM.out.1; omega), List.take_of_length_le (by have := HM.out.1; omega)]
        by_cases hlt : j < n
        case' pos => have hlim : ¬ (j : Int) < 40 := by omega
        all_goals
          clear hboth hb
          go_wp2_with fail
          go_ret3
          exact ⟨p, r, rfl, by rw [← HE.out]; exact HST.out, HBL.out⟩
end Go.Proofs.YtklhcgekagimkaaGreat
