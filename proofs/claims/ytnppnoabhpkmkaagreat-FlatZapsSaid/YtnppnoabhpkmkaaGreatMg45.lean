/- Spaces: FlatApart, walked. -/
import Derived.Test.YtnppnoabhpkmkaaGreatMg43
import Derived.BigRegion
namespace Go.Proofs.YtnppnoabhpkmkaaGreat
open Go.RowKit
/-- From the spaces to a page. -/
theorem RfAt.chain {w : World} {B : Nat} {T : RfT} {F : Fl} (h : RfAt B w T F) {j : Nat} (hj : j < F.L.length) : ∃ gL cL s gP cP, T.vl = .slice (some ⟨gL, 0, none⟩) F.L.length cL ∧ T.LS[j]? = some s ∧
    w.cell? ⟨T.xa, 0, none⟩ = some (.slice (some ⟨gL, 0, none⟩) F.L.length cL) ∧ w.cell? ⟨gL, j, none⟩ = some (.pointer (some ⟨s.sb, 0, none⟩)) ∧ w.cell? ⟨s.sb, 0, none⟩ = some (.pointer (some ⟨s.ab, 0, none⟩)) ∧
    w.cell? ⟨s.ab, 0, none⟩ = some (.slice (some ⟨gP, 0, none⟩) 4096 cP) ∧ ∀ m : Nat, m < 4096 → w.cell? ⟨gP, m * 4, none⟩ = some (.int .i64 ((sp F j).P m).h) ∧ w.cell? ⟨gP, m * 4 + 1, none⟩ = some (.int .i64 ((sp F j).P m).p) ∧ w.cell? ⟨gP, m * 4 + 2, none⟩ = some (.int .i64 ((sp F j).P m).o) ∧ w.cell? ⟨gP, m * 4 + 3, none⟩ = some (.int .i64 ((sp F j).P m).x) := by
  obtain ⟨A, c, hv⟩ := h.ls.form
  obtain ⟨hn, hp⟩ := h.ptr hv
  obtain ⟨g, s, hA, hs, x1⟩ := hp j hj
  obtain ⟨s', hs', hS⟩ := h.space hj
  rw [hs] at hs'
  injection hs' with hs'
  subst hs'
  obtain ⟨gP, cP, hq, -, -, hat⟩ := hS.ars.form
  have c0 := h.c0
  have c2 := hS.ars.c0
  rw [hq] at c2
  rw [hv, hA, hn] at c0
  exact ⟨g, c, s, gP, cP, by rw [hv, hA, hn], hs, c0, x1, hS.c0, c2, fun m hm => pg_at (hat m hm)⟩
theorem wd_own {F G : Fl} {i a : Int} (hs : sp G i = sp F i) (h0 : 0 ≤ i) (h1 : i < G.L.length) (h2 : (sp F i).g = false) (e : celE 10 4 (sp F i) a = 0) (hsh : ¬ shr ((sp F i).P (a / 64)).h) : wdE G i a = 0 ∧ wdV G i a = (sp F i).W (a / 8) := by
  have hi : isS G i = true := by
    unfold sp at hs
    unfold isS
    rw [decide_eq_true h0, decide_eq_true h1, hs]
    rw [show (F.L.getD i.toNat zSp).g = false from h2]; rfl
  unfold wdE wdV
  rw [if_pos hi, if_pos ⟨hi, by rw [hs]; exact e⟩, hs]
  exact ⟨e, celV_own hsh⟩
/-- The program's spaces go on in the first space. -/
def Goes (I : FlI) (B : Nat) (w : World) (s : Nat) (F : Fl) (n : Nat) : Prop := ∃ X G, I.Fo B w s X G ∧ FlB n G ∧ sp G 1 = sp F 1 ∧ 1 < G.L.length
theorem Goes.call {I : FlI} {B : Nat} {w w' : World} {s : Nat} {F : Fl} {n : Nat} (h : Goes I B w s F n) (hb : Below w.heap.size w w') : Goes I B w' s F n := by
  obtain ⟨X, G, h1, h2⟩ := h
  exact ⟨X, G, I.call h1 hb, h2⟩
theorem IsRq.zero {k s a n h p t c v : Int} (hl : IsRq ⟨k, s, a, n, h, p, t, c, v⟩) : IsRq ⟨k, 0, a, n, h, p, t, c, v⟩ := ⟨hl.k, by show Fits 0; unfold Fits; omega, hl.a, hl.n, hl.h, hl.p, hl.t, hl.c, hl.v⟩
set_option maxHeartbeats 4000000 in
set_option maxRecDepth 100000 in
theorem apart_walk (I : FlI) (A : Option Addr) (n c : Nat) (A' : Option Addr) (n' c' : Nat) (at_ : Int) (w : World) (hA : Rqs w w.heap.size A n) (hA' : Rqs w w.heap.size A' n') (hat : Fits at_) :
    Calls Tryz.prog 6 #[.slice A n c, .slice A' n' c', .int .i64 at_] w fun e w' => e = .returned (.bool true) ∧ Below w.heap.size w w' := by
  obtain ⟨M, hM, hls⟩ := hA.list
  obtain ⟨M', hM', hls'⟩ := hA'.list
  have hm := made_any I A n c w.heap.size 30 M w hM hls (Nat.le_refl _) (by decide)
  have HBF := Lib.hid (mdE_b M 30)
  generalize mdS (M.take 30) = F at hm HBF
  have HLS := Lib.hid (And.intro hM' hls')
  have HAT := Lib.hid hat
  clear hA hA' hM hls hM' hls' hat
  go_enter Tryz.func6, Tryz.ntmps6
  go_wp2_with fail
  refine hm.mono ?_
  rintro e w1 ⟨s, x, rfl, hst, hb1⟩
  have HST := Lib.hid hst
  have HB1 := Lib.hid hb1
  clear hm hst hb1
  go_wp2_with fail
  refine (awake_any I _).mono ?_
  rintro e w2 ⟨rfl, hb2⟩
  have HB2 : Hid (Below w.heap.size w w2) := HB1.out.trans (hb2.mono HB1.out.size)
  obtain ⟨X, T, ex, k1, k2, k3⟩ := HST.out.call hb2
  obtain ⟨AL, cL, hv⟩ := k2.ls.form
  have x0 := k2.c0
  obtain ⟨hn, -⟩ := k2.ptr hv
  rw [hv] at x0
  rw [hn, ex] at x0
  obtain ⟨N, hN⟩ : ∃ N, N = F.L.length := ⟨_, rfl⟩
  rw [← hN] at x0
  have HN := Lib.hid hN
  have HK := Lib.hid (And.intro k1 (And.intro k2 (And.intro k3 ex)))
  have hi0 := ris_is k2 0
  have hi1 := ris_is k2 1
  rw [ex] at hi0 hi1
  have haw := awake_any I w2
  clear hb2 k1 k2 k3 ex hv hn hN
  by_cases hN2 : N < 2
  · have hN2' : (N : Int) < 2 := by omega
    clear hi0 hi1 hN2
    go_wp2_with fail
    refine haw.mono ?_
    rintro e w3 ⟨rfl, hb3⟩
    have HB3 : Hid (Below w.heap.size w w3) := HB2.out.trans (hb3.mono HB2.out.size)
    clear haw hb3 x0
    go_wp2_with fail
    go_ret
    exact ⟨rfl, HB3.out⟩
  · have hN2' : ¬ (N : Int) < 2 := by omega
    cases hs0 : isS F 0
    · rw [hs0] at hi0
      clear hi1 hN2
      go_wp2_with (go_at_call 19; (with_reducible refine hi0.mono ?_); rintro e wz ⟨rfl, rfl⟩)
      refine haw.mono ?_
      rintro e w3 ⟨rfl, hb3⟩
      have HB3 : Hid (Below w.heap.size w w3) := HB2.out.trans (hb3.mono HB2.out.size)
      clear haw hb3 x0
      go_wp2_with fail
      go_ret
      exact ⟨rfl, HB3.out⟩
    · rw [hs0] at hi0
      cases hs1 : isS F 1
      · rw [hs1] at hi1
        clear hN2
        go_wp2_with (first | (go_at_call 19; (with_reducible refine hi0.mono ?_); rintro e wz ⟨rfl, rfl⟩) | (go_at_call 19; (with_reducible refine hi1.mono ?_); rintro e wz ⟨rfl, rfl⟩))
        refine haw.mono ?_
        rintro e w3 ⟨rfl, hb3⟩
        have HB3 : Hid (Below w.heap.size w w3) := HB2.out.trans (hb3.mono HB2.out.size)
        clear haw hb3 x0
        go_wp2_with fail
        go_ret
        exact ⟨rfl, HB3.out⟩
      · rw [hs1] at hi1
        obtain ⟨-, hj1, hg1⟩ := isS_get hs1
        have hj : 1 < F.L.length := by omega
        obtain ⟨gL, cM, s1, gP, cP, hv1, hs1', y0, y1, y2, y3, -⟩ := HK.out.2.1.chain hj
        have hcl : Calls Tryz.prog 20 #[.pointer (some ⟨T.xa, 0, none⟩), .pointer (some ⟨s1.sb, 0, none⟩), .int .i64 at_] w2 (CellF T s1 (sp F 1) at_ w2) := rcell_is HK.out.2.1 HBF.out.ok hj hs1' at_
        rw [HK.out.2.2.2] at y0 hcl
        rw [← HN.out] at y0
        obtain ⟨E, hE⟩ : ∃ E, E = celE 10 4 (sp F 1) at_ := ⟨_, rfl⟩
        unfold CellF at hcl
        rw [← hE] at hcl
        have HJ := Lib.hid (And.intro hj hg1)
        have HE := Lib.hid hE
        have hN2' : (1 : Int) < N := by omega
        clear x0 hN2 hj1 hg1 hv1 hs1' hE hj y2 y3 hs0 hs1 haw
        go_wp2_with (first | (go_at_call 19; (with_reducible refine hi0.mono ?_); rintro e wz ⟨rfl, rfl⟩) | (go_at_call 19; (with_reducible refine hi1.mono ?_); rintro e wz ⟨rfl, rfl⟩))
        refine hcl.mono ?_
        rintro e w3 ⟨A3, m3, c3, i3, rfl, hb3, -⟩
        have HB3 : Hid (Below w.heap.size w w3) := HB2.out.trans (hb3.mono HB2.out.size)
        clear hcl hi0 hi1 y0 y1
        by_cases hE0 : E = 0
        · have he := HE.out
          rw [hE0] at he
          subst hE0
          obtain ⟨q0, q1, q2, q3⟩ := celE_ok he.symm
          obtain ⟨k, rfl⟩ : ∃ k : Nat, at_ = k := ⟨at_.toNat, by omega⟩
          obtain ⟨m, hm⟩ : ∃ m : Nat, (k : Int) / 64 = m := ⟨k / 64, by omega⟩
          obtain ⟨gL, cM, s1, gP, cP, hv1, hs1', y0, y1, y2, y3, y4⟩ := (HK.out.2.1.call hb3).chain HJ.out.1
          obtain ⟨y4, -⟩ := y4 m (by omega)
          rw [HK.out.2.2.2, ← HN.out] at y0
          rw [show ((1 : Nat) : Int) = 1 from rfl] at y4
          obtain ⟨M4, hM4⟩ : ∃ M4 : Nat, M4 = 4096 := ⟨_, rfl⟩
          rw [← hM4] at y3
          have m4 : (m : Int) < (M4 : Int) := by omega
          have m0 : (0 : Int) ≤ m := by omega
          obtain ⟨y, hy⟩ : ∃ y, y = ((sp F 1).P m).h := ⟨_, rfl⟩
          rw [← hy] at y4
          have HY := Lib.hid (And.intro hy hm)
          have HQ := Lib.hid (And.intro he.symm (And.intro q2 q3))
          have hI3 := I.call HK.out.1 hb3
          have HI3 := Lib.hid hI3
          clear hb3 hv1 hs1' hM4 hy he q2 q3 hI3
          by_cases hsh : shr y
          · have hsd : decide (shr y) = true := decide_eq_true hsh
            clear hsh
            go_wp2_with (go_at_call 15; (with_reducible refine (shared_is _ _).mono ?_); rintro e wz ⟨rfl, rfl⟩; rw [hsd])
            go_ret
            exact ⟨rfl, HB3.out⟩
          · have hsd : decide (shr y) = false := decide_eq_false hsh
            have hwd : ∀ (G : Fl), sp G 1 = sp F 1 → 1 < G.L.length → wdE G 1 k = 0 ∧ wdV G 1 k = (sp F 1).W ((k : Int) / 8) := fun G h1 h2 => wd_own h1 (by decide) (by omega) HJ.out.2 HQ.out.1 (by rw [HY.out.2, ← HY.out.1]; exact hsh)
            obtain ⟨V, hV⟩ : ∃ V, V = (sp F 1).W ((k : Int) / 8) := ⟨_, rfl⟩
            rw [← hV] at hwd
            have hw := I.word HI3.out HBF.out.ok (Nat.le_trans HBF.out.ob (by decide)) 1 k (by unfold Fits; omega) HAT.out
            rw [(hwd F rfl HJ.out.1).1, (hwd F rfl HJ.out.1).2] at hw
            have HWD := Lib.hid hwd
            clear hsh hwd hV
            go_wp2_with (go_at_call 15; (with_reducible refine (shared_is _ _).mono ?_); rintro e wz ⟨rfl, rfl⟩; rw [hsd])
            refine hw.mono ?_
            rintro e w4 ⟨rfl, hb4⟩
            have HB4 : Hid (Below w.heap.size w w4) := HB3.out.trans (hb4.mono HB3.out.size)
            have HG4 : Hid (Goes I w.heap.size w4 s F (30 + 0)) := ⟨X, F, I.call HI3.out hb4, HBF.out, rfl, HJ.out.1⟩
            clear hw hb4 y0 y1 y2 y3 y4
            go_wp2_with fail
            go_loopw [15] (fun i wr => ∃ j : Nat, j ≤ n' ∧ j ≤ 30 ∧ i = .int .i64 j ∧ Goes I w.heap.size wr s F (30 + j) ∧ Below w.heap.size w wr) (fun i _ => n' - (RowKit.intOf i).toNat)
            case atStart => exact ⟨0, by omega, by omega, rfl, HG4.out, HB4.out⟩
            case round =>
              obtain ⟨j, hj, hj30, rfl, hgo, hb⟩ := hrel
              have HGO := Lib.hid hgo
              have HBL := Lib.hid hb
              clear HG4 hgo
              by_cases hboth : j < n' ∧ j < 30
              · obtain ⟨hlt, hlim⟩ := hboth
                have hjM : j < M'.length := by have := HLS.out.1; omega
                obtain ⟨ad, rfl, hc⟩ := (HLS.out.2.below hb) (by omega)
                obtain ⟨ok, hab, hat⟩ := hc j hjM
                obtain ⟨l, hl⟩ : ∃ l, l = M'[j] := ⟨_, rfl⟩
                rw [← hl] at hat ok
                obtain ⟨lk, ls, la, ln, lh, lp, lt, lc, lv⟩ := l
                have f0 := hat.c0
                have f1 := hat.c1
                have f2 := hat.c2
                have f3 := hat.c3
                have f4 := hat.c4
                have f5 := hat.c5
                have f6 := hat.c6
                have f7 := hat.c7
                have f8 := hat.c8
                dsimp only at f0 f1 f2 f3 f4 f5 f6 f7 f8
                have HOK := Lib.hid ok.zero
                have hjl : (j : Int) < n' := by omega
                have hjm : (j : Int) < 30 := by omega
                have hj0 : (0 : Int) ≤ j := by omega
                have HLT := Lib.hid (And.intro hlt hlim)
                clear hat hab ok hc hl hb hjM hlt hlim
                obtain ⟨W1, hW1⟩ : ∃ W1, W1 = wr.alloc (.cells (opL ⟨lk, 0, la, ln, lh, lp, lt, lc, lv⟩).toArray 25) := ⟨_, rfl⟩
                obtain ⟨q, hq⟩ : ∃ q, q = wr.heap.size := ⟨_, rfl⟩
                have g1 : Below wr.heap.size wr W1 := by rw [hW1]; exact below_new _ _
                have r1 : Lrow W1 q 25 (opL ⟨lk, 0, la, ln, lh, lp, lt, lc, lv⟩) := by rw [hW1, hq]; exact Lrow.new wr _ _
                obtain ⟨X5, G, k1, kb, ks, kl⟩ := HGO.out.call g1
                have hdo := I.do9 k1 kb (by omega) lk 0 la ln lh lp lt lc lv HOK.out
                have h0 : W1.cell? ⟨q, 0, none⟩ = some (.int .i64 lk) := r1.cell 0
                have h1 : W1.cell? ⟨q, 1, none⟩ = some (.int .i64 0) := r1.cell 1
                have h2 : W1.cell? ⟨q, 2, none⟩ = some (.int .i64 la) := r1.cell 2
                have h3 : W1.cell? ⟨q, 3, none⟩ = some (.int .i64 ln) := r1.cell 3
                have h4 : W1.cell? ⟨q, 4, none⟩ = some (.int .i64 lh) := r1.cell 4
                have h5 : W1.cell? ⟨q, 5, none⟩ = some (.int .i64 lp) := r1.cell 5
                have h6 : W1.cell? ⟨q, 6, none⟩ = some (.int .i64 lt) := r1.cell 6
                have h7 : W1.cell? ⟨q, 7, none⟩ = some (.int .i64 lc) := r1.cell 7
                have h8 : W1.cell? ⟨q, 8, none⟩ = some (.int .u64 lv) := r1.cell 8
                have HBN : Hid (Below w.heap.size w W1) := HBL.out.trans (g1.mono HBL.out.size)
                have HK1 := Lib.hid (And.intro k1 (And.intro kb (And.intro ks kl)))
                have HWW := Lib.hid (And.intro hW1 hq)
                dsimp only [opL] at HWW
                clear g1 r1 k1 kb ks kl hW1 hq
                go_upto_region 13 with (fail)
                rw [← HWW.out.1, ← HWW.out.2]
                clear f0 f1 f2 f3 f4 f5 f6 f7 f8
                go_wp2_with fail
                refine hdo.mono ?_
                rintro e w5 ⟨rfl, hd⟩
                have HB5 : Hid (Below w.heap.size w w5) := HBN.out.trans (I.down HK1.out.1 hd)
                have HG5 : Hid (Goes I w.heap.size w5 s F (30 + (j + 1))) := by
                  obtain ⟨X6, z, -, -⟩ := hd
                  obtain ⟨t1, t2⟩ := stF_other (F := G) (r := ⟨lk, 0, la, ln, lh, lp, lt, lc, lv⟩) (j := 1) (by decide) (by have := HK1.out.2.2.2; omega) (by show (1 : Int) ≠ 0; decide)
                  exact ⟨X6, _, z, HK1.out.2.1.step _, t1.trans HK1.out.2.2.1, by have := HK1.out.2.2.2; omega⟩
                clear hdo hd h0 h1 h2 h3 h4 h5 h6 h7 h8
                go_wp2_with fail
                go_roundw
                case rel => exact ⟨j + 1, HLT.out.1, HLT.out.2, by go_num, HG5.out, HB5.out⟩
                case measure => have := HLT.out; simp [RowKit.intOf]; omega
              · by_cases hlt : j < n'
                case' pos => have hlim : ¬ (j : Int) < 30 := by omega
                all_goals
                  obtain ⟨X5, G, k1, kb, ks, kl⟩ := HGO.out
                  have hw := I.word k1 kb.ok (Nat.le_trans kb.ob (by omega)) 1 k (by unfold Fits; omega) HAT.out
                  rw [(HWD.out G ks kl).1, (HWD.out G ks kl).2] at hw
                  clear hboth hb k1 kb ks kl
                  go_wp2_with fail
                  refine hw.mono ?_
                  rintro e w6 ⟨rfl, hb6⟩
                  have HB6 : Hid (Below w.heap.size w w6) := HBL.out.trans (hb6.mono HBL.out.size)
                  clear hw hb6
                  go_wp2_with fail
                  go_ret
                  exact ⟨ret_bool (by simp), HB6.out⟩
        · have e0 : (E == 0) = false := by simpa using hE0
          clear hb3
          go_wp2_with fail
          go_ret
          exact ⟨rfl, HB3.out⟩
end Go.Proofs.YtnppnoabhpkmkaaGreat
