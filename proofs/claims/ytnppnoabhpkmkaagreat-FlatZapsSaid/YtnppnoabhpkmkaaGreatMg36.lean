/- The reference of spaces: a fork. -/
import Derived.Test.YtnppnoabhpkmkaaGreatMg35
namespace Go.Proofs.YtnppnoabhpkmkaaGreat
open Go.RowKit
section
variable {w w' : World} {B D : Nat} {T : RfT} {F : Fl} {s s' : SpB} {S S' : Sp} {q : Nat × Nat} {W : Int → Int}
/-- 'append([]uint64{}, s.W...)'. -/
theorem words_copy (h : WIs B w q W) {m : Nat} (hm : EU.Own D w (.slice (some ⟨m, 0, none⟩) 0 0) []) (hD : D ≤ w.heap.size) : ∃ g c w3,
    (Builtin.append_ #[50, 50] 50 #[.slice (some ⟨m, 0, none⟩) 0 0, .slice (some ⟨q.1, 0, none⟩) 32768 q.2]).run Tryz.prog w = .ok (.slice (some ⟨g, 0, none⟩) 32768 c) w3 ∧ WIs D w3 (g, c) W ∧ w.grownBy w3 (some m) := by
  obtain ⟨L, hl, ho, hp⟩ := h
  obtain ⟨A2, c2, W2, r2, o2, g2, -⟩ := hm.app hD ⟨q.1, 0, none⟩ q.2 L (own_src ho rfl) (by rw [List.length_nil]; omega)
  have r2' := r2 _ rfl
  rw [List.nil_append] at o2
  obtain ⟨g, e, -⟩ := o2.some_ (by omega)
  subst e
  simp only [List.length_nil, Nat.zero_add] at r2' o2
  rw [hl] at r2' o2
  exact ⟨g, c2, W2, r2', ⟨L, hl, o2, hp⟩, g2⟩
/-- The words so far. -/
def cpWx (P : Int → Pg) (W : Int → Int) (x : Nat) : Int → Int := fun i => if 0 ≤ i ∧ i < (x : Int) * 8 ∧ (P (i / 8)).h = 0 then 0 else W i
theorem cpWx_zero (P : Int → Pg) (W : Int → Int) : cpWx P W 0 = W := by
  funext i; unfold cpWx; rw [if_neg (by omega)]
theorem cpWx_all (P : Int → Pg) (W : Int → Int) : cpWx P W 4096 = cpW P W := by
  funext i; unfold cpWx cpW
  by_cases c : 0 ≤ i ∧ i < 32768 ∧ (P (i / 8)).h = 0
  · rw [if_pos c, if_pos ⟨c.1, by omega, c.2.2⟩]
  · rw [if_neg c, if_neg (fun k => c ⟨k.1, by omega, k.2.2⟩)]
theorem cpWx_one (P : Int → Pg) (W : Int → Int) (x : Nat) (h : (P x).h = 0) : clr (cpWx P W x) x 1 = cpWx P W (x + 1) := by
  funext i; unfold clr cpWx
  by_cases c : (x : Int) * 8 ≤ i ∧ i < ((x : Int) + 1) * 8
  · rw [if_pos c, if_pos ⟨by omega, by push_cast; omega, by rw [show i / 8 = (x : Int) by omega]; exact h⟩]
  · rw [if_neg c]
    by_cases d : 0 ≤ i ∧ i < (x : Int) * 8 ∧ (P (i / 8)).h = 0
    · rw [if_pos d, if_pos ⟨d.1, by push_cast; omega, d.2.2⟩]
    · rw [if_neg d, if_neg (fun k => d ⟨k.1, by have := k.2.1; push_cast at this; omega, k.2.2⟩)]
theorem cpWx_none (P : Int → Pg) (W : Int → Int) (x : Nat) (h : (P x).h ≠ 0) : cpWx P W x = cpWx P W (x + 1) := by
  funext i; unfold cpWx
  by_cases d : 0 ≤ i ∧ i < (x : Int) * 8 ∧ (P (i / 8)).h = 0
  · rw [if_pos d, if_pos ⟨d.1, by push_cast; omega, d.2.2⟩]
  · rw [if_neg d, if_neg (fun k => by
      by_cases e : i / 8 = (x : Int)
      · exact h (by rw [← e]; exact k.2.2)
      · exact d ⟨k.1, by have := k.2.1; push_cast at this; omega, k.2.2⟩)]
/-- A space of new parts lies at a pointer. -/
def ForkAt (W2 : World) (P : Int → Pg) (V : Int → Int) (v : Value) (wx : World) : Prop := ∃ sN : SpB, v = .pointer (some ⟨sN.sb, 0, none⟩) ∧ SpAt W2.heap.size wx sN ⟨P, V, false⟩ ∧ Below W2.heap.size W2 wx
theorem forkAt {W2 V : World} {xb : Nat} {vb : Value} {P : Int → Pg} {g c M : Nat} {Wd : Int → Int} (hM : M = 32768) (hb : Below W2.heap.size W2 V) (hP : Px W2.heap.size V xb vb P) (hW : WIs W2.heap.size V (g, c) Wd) :
    ForkAt W2 P Wd (.pointer (some ⟨V.heap.size, 0, none⟩)) (V.alloc (.cells #[.pointer (some ⟨xb, 0, none⟩), .slice (some ⟨g, 0, none⟩) M c, .bool false] 52)) := by
  subst hM
  obtain ⟨h1, h2, -⟩ := spNew hb (Nat.le_refl _) hP hW
  exact ⟨_, rfl, h1, h2⟩
set_option maxRecDepth 100000 in
set_option maxHeartbeats 8000000 in
theorem rdo_fork (h : RfAt B w T F) (r : Rq) (c3 : isS F r.s = true) (c7 : r.k = 7) : Calls Tryz.prog 16 #[.pointer (some ⟨T.xa, 0, none⟩), .agg (opL r).toArray] w (ResF B w T (addF F (cpS (sp F r.s)))) := by
  obtain ⟨k0, k1, -⟩ := isS_get c3
  obtain ⟨j, hj0⟩ : ∃ j : Nat, r.s = j := ⟨r.s.toNat, by omega⟩
  have hj : j < F.L.length := by omega
  obtain ⟨W, b0, b1, hO⟩ := opAt w r
  obtain ⟨hbW, ro, rr, hg0, hg1⟩ := hO.facts
  have o0 : W.cell? ⟨b0, 0, none⟩ = some (.int .i64 r.k) := ro.cell 0
  have HK := Lib.hid c7
  rw [c7] at o0
  have HRR := Lib.hid rr
  have HW := Lib.hid hO
  have HG1 := Lib.hid hg1
  have o1 : W.cell? ⟨b0, 1, none⟩ = some (.int .i64 r.s) := ro.cell 1
  have hi := ris_is (h.call hbW) r.s
  rw [c3] at hi
  obtain ⟨A, cc, hv⟩ := h.ls.form
  have x0 := (h.call hbW).c0
  obtain ⟨hn, hp⟩ := (h.call hbW).ptr hv
  obtain ⟨g, s, rfl, hs, x1⟩ := hp j hj
  rw [hv, hn] at x0
  have j0 : (0 : Int) ≤ j := by omega
  rw [hj0] at o1 hi
  have hjn : (j : Int) < (F.L.length : Int) := by omega
  obtain ⟨nn, hnn⟩ : ∃ nn, nn = F.L.length := ⟨_, rfl⟩
  rw [← hnn] at x0 hjn
  have HB1 := Lib.hid hbW
  have HRO := Lib.hid ro
  have HH := Lib.hid h
  have HJ := Lib.hid (And.intro hj (And.intro hs hj0))
  clear h hbW ro rr hg0 hg1 hO hv hn hp hs hj hj0 k0 k1 hnn c3 c7
  go_enter Tryz.func16, Tryz.ntmps16
  go_upto_region 1 with (fail)
  rw [← HW.out.1, ← HW.out.2.1, ← HW.out.2.2]
  go_upto_region 7 with (go_at_call 19; (with_reducible refine hi.mono ?_); rintro e wz ⟨rfl, rfl⟩)
  go_quiet (fail)
  have hBq : Below W.heap.size W (W.drewN nq) := below_dN (Below.refl _ _) nq
  have hBw : Below w.heap.size w (W.drewN nq) := below_dN HB1.out nq
  have roq := HRO.out.call hBq
  have q0 : (W.drewN nq).cell? ⟨b0, 0, none⟩ = some (.int .i64 7) := (by have := roq.cell 0; unfold opL at this; rw [HK.out] at this; exact this)
  have HBW := Lib.hid hBw
  have HRQ := Lib.hid (HRR.out.call hBq)
  clear hBq hBw roq o0 o1 x0 x1
  generalize W.drewN nq = W2 at *
  have hD0 : RfAt B W2 T F := HH.out.call HBW.out
  obtain ⟨s'', hs'', hS⟩ := hD0.space HJ.out.1
  rw [HJ.out.2.1] at hs''
  injection hs'' with hs''
  subst hs''
  obtain ⟨M, hM⟩ : ∃ M : Nat, M = 32768 := ⟨_, rfl⟩
  obtain ⟨R, hR⟩ : ∃ R, R = addF F (cpS (sp F r.s)) := ⟨_, rfl⟩
  rw [← hR]
  rw [HJ.out.2.2] at hR
  obtain ⟨u, v, G⟩ := R
  have hbd : Below W2.heap.size W2 W2.drew := below_dN (Below.refl _ _) 1
  have hSd : SpAt B W2.drew s (sp F j) := hS.call hbd
  -- the first of the orders: the copy, the row, the words
  have hcA := rcopy_is hSd.ars
  have hdA : ∀ (V : World) (xb : Nat) (vb : Value), Px W2.heap.size V xb vb (cpP (sp F j).P) → Below W2.heap.size W2 V → ∃ gA cA w5, (Builtin.append_ #[50, 50] 50 #[.slice (some ⟨V.heap.size, 0, none⟩) 0 0, .slice (some ⟨s.wq.1, 0, none⟩) M s.wq.2]).run Tryz.prog (V.alloc (.cells #[] 23)) = .ok (.slice (some ⟨gA, 0, none⟩) M cA) w5 ∧
      ForkAt W2 (cpP (sp F j).P) (sp F j).W (.pointer (some ⟨w5.heap.size, 0, none⟩)) (w5.alloc (.cells #[.pointer (some ⟨xb, 0, none⟩), .slice (some ⟨gA, 0, none⟩) M cA, .bool false] 52)) ∧ Below W2.heap.size W2 w5 := fun V xb vb hx hb => by
    have hb2 : Below V.heap.size V (V.alloc (.cells #[] 23)) := below_new _ _
    obtain ⟨gA, cA, w5, r5, h5, g5⟩ := words_copy ((hS.wds.call hb).call hb2) (own_made EU V) hb2.size
    have hb5 : Below V.heap.size V w5 := hb2.grown g5 hb2.size (fun k e => by injection e with e; omega)
    rw [hM]
    exact ⟨gA, cA, w5, r5, forkAt rfl (hb.trans (hb5.mono hb.size)) (hx.call hb5) (h5.base hb.size), hb.trans (hb5.mono hb.size)⟩
  -- the second: the row, the copy, the words
  obtain ⟨V1, hV1⟩ : ∃ V1, V1 = (W2.alloc (.cells #[] 23)).drew := ⟨_, rfl⟩
  have hV2 : V1 = W2.drew.alloc (.cells #[] 23) := hV1
  have hbV : Below W2.drew.heap.size W2.drew V1 := by rw [hV2]; exact below_new _ _
  have hmV : EU.Own W2.drew.heap.size V1 (.slice (some ⟨W2.drew.heap.size, 0, none⟩) 0 0) [] := by rw [hV2]; exact own_made EU W2.drew
  have hlt : W2.heap.size < V1.heap.size := by
    rw [hV2]; show W2.drew.heap.size < _; simp [World.alloc]
  have hSV := hSd.call hbV
  have hcB := rcopy_is hSV.ars
  have hdB : ∀ (V : World) (xb : Nat) (vb : Value), Px V1.heap.size V xb vb (cpP (sp F j).P) → Below V1.heap.size V1 V → ∃ gA cA w5, (Builtin.append_ #[50, 50] 50 #[.slice (some ⟨W2.heap.size, 0, none⟩) 0 0, .slice (some ⟨s.wq.1, 0, none⟩) M s.wq.2]).run Tryz.prog V = .ok (.slice (some ⟨gA, 0, none⟩) M cA) w5 ∧
      ForkAt W2 (cpP (sp F j).P) (sp F j).W (.pointer (some ⟨w5.heap.size, 0, none⟩)) (w5.alloc (.cells #[.pointer (some ⟨xb, 0, none⟩), .slice (some ⟨gA, 0, none⟩) M cA, .bool false] 52)) ∧ Below W2.heap.size W2 w5 := fun V xb vb hx hb => by
    have hbx : Below W2.heap.size W2 V := (hbd.trans (hbV.mono (Nat.le_refl _))).trans (hb.mono (Nat.le_of_lt hlt))
    obtain ⟨gA, cA, w5, r5, h5, g5⟩ := words_copy (hS.wds.call hbx) (hmV.call hb) hbx.size
    have hb5 : Below W2.heap.size W2 w5 := hbx.grown g5 hbx.size (fun k e => by injection e with e; rw [← e]; exact Nat.le_refl _)
    have hx5 : Px V1.heap.size w5 xb vb (cpP (sp F j).P) := hx.keep g5.size fun k hk hl => g5.block k hl fun e => by
      injection e with e
      have e : k = W2.heap.size := e
      have hge : V1.heap.size ≤ k := by
        rcases hk with rfl | hk
        · exact hx.lo
        · exact (hx.block hk).2
      omega
    rw [hM]
    exact ⟨gA, cA, w5, r5, forkAt rfl hb5 (hx5.base (Nat.le_of_lt hlt)) h5, hb5⟩
  -- the third: the row, the words, the copy
  have hbC : Below W2.heap.size W2 V1 := hbd.trans (hbV.mono (Nat.le_refl _))
  obtain ⟨gC, cC, w5, r5, h5, g5⟩ := words_copy (hS.wds.call hbC) hmV hbC.size
  have hb5 : Below W2.heap.size W2 w5 := hbC.grown g5 hbC.size (fun k e => by injection e with e; rw [← e]; exact Nat.le_refl _)
  have hcC := rcopy_is (hS.call hb5).ars
  have hdC : ∀ (V : World) (xb : Nat) (vb : Value), Px w5.heap.size V xb vb (cpP (sp F j).P) → Below w5.heap.size w5 V →
      ForkAt W2 (cpP (sp F j).P) (sp F j).W (.pointer (some ⟨V.heap.size, 0, none⟩)) (V.alloc (.cells #[.pointer (some ⟨xb, 0, none⟩), .slice (some ⟨gC, 0, none⟩) M cC, .bool false] 52)) := fun V xb vb hx hb => forkAt hM (hb5.trans (hb.mono hb5.size)) (hx.base hb5.size) (h5.call hb)
  rw [← hM] at r5
  change (Builtin.append_ #[50, 50] 50 #[.slice (some ⟨W2.heap.size, 0, none⟩) 0 0, .slice (some ⟨s.wq.1, 0, none⟩) M s.wq.2]).run Tryz.prog V1 = _ at r5
  have hcell : ∀ V : World, Below W2.heap.size W2 V → V.cell? ⟨s.sb, 0, none⟩ = some (.pointer (some ⟨s.ab, 0, none⟩)) ∧ V.cell? ⟨s.sb, 1, none⟩ = some (.slice (some ⟨s.wq.1, 0, none⟩) M s.wq.2) := fun V hb => by
    rw [hM]; exact ⟨(hS.call hb).c0, (hS.call hb).c1⟩
  have sD := hcell W2.drew hbd
  have sV := hcell V1 hbC
  have s5 := hcell w5 hb5
  have HCELL := Lib.hid hcell
  have HBD := Lib.hid hbd
  have HBC := Lib.hid hbC
  have HB5 := Lib.hid hb5
  have HDA := Lib.hid hdA
  have HDB := Lib.hid hdB
  have HDC := Lib.hid hdC
  have HD0 := Lib.hid hD0
  have HS := Lib.hid hS
  have HM := Lib.hid hM
  have HR := Lib.hid hR
  clear hV2
  subst hV1
  clear hD0 hS hM hR hbd hSd hdA hbV hmV hlt hSV hdB hbC h5 g5 hb5 hdC hcell
  go_upto_region 9 with (fail)
  go_cut [6] from 43 to 55 (fun s6 wx => ForkAt W2 (cpP (sp F j).P) (sp F j).W s6 wx)
  case first =>
    go_region_held3 (fun V => V.cell? ⟨s.sb, 0, none⟩ = some (.pointer (some ⟨s.ab, 0, none⟩)) ∧ V.cell? ⟨s.sb, 1, none⟩ = some (.slice (some ⟨s.wq.1, 0, none⟩) M s.wq.2))
      (first | assumption | (dsimp only; assumption) | exact HCELL.out _ (BA.out.trans ((below_new _ _).mono BA.out.size)))
      (first | (go_at_call 33; (with_reducible refine hcA.mono ?_); rintro e w1 ⟨xb, vb, rfl, hx1, hb1⟩; have hb2 : Below W2.heap.size W2 w1 := HBD.out.trans (hb1.mono HBD.out.size); obtain ⟨gA, cA, w6, rA, fA, bA⟩ := HDA.out w1 xb vb (hx1.base (Nat.le_refl _)) hb2; have sA := HCELL.out w1 hb2; have sA2 := HCELL.out (w1.alloc (.cells #[] 23)) (hb2.trans ((below_new _ (.cells #[] 23)).mono hb2.size)); have sA3 := HCELL.out w6 bA; have BA := Lib.hid bA; clear hx1 hb1 hb2 bA) | (go_at_call 33; (with_reducible refine hcB.mono ?_); rintro e w1 ⟨xb, vb, rfl, hx1, hb1⟩; have hb2 : Below W2.heap.size W2 w1 := HBC.out.trans (hb1.mono HBC.out.size); obtain ⟨gA, cA, w6, rA, fA, bA⟩ := HDB.out w1 xb vb hx1 hb1; have sA := HCELL.out w1 hb2; have sA3 := HCELL.out w6 bA; have BA := Lib.hid bA; clear hx1 hb1 hb2 bA) | (go_at_call 33; (with_reducible refine hcC.mono ?_); rintro e w1 ⟨xb, vb, rfl, hx1, hb1⟩; have hb2 : Below W2.heap.size W2 w1 := HB5.out.trans (hb1.mono HB5.out.size); have fA := HDC.out w1 xb vb hx1 hb1; have sA := HCELL.out w1 hb2; have BA := Lib.hid hb2; clear hx1 hb1 hb2) | (refine step_append_run (by rfl) _ _ 50 (by rfl) _ _ (by simp [Act.eval]) (by simp [Act.eval]) r5 ?_) | (refine step_append_run (by rfl) _ _ 50 (by rfl) _ _ (by simp [Act.eval]) (by simp [Act.eval]) rA ?_) | fail)
    all_goals
      go_wp2_with fail
      go_meet
      exact fA
  case rest =>
    obtain ⟨sN, rfl, hsN, hbN⟩ := hcut
    obtain ⟨P, hP⟩ : ∃ P, P = cpP (sp F j).P := ⟨_, rfl⟩
    obtain ⟨Wd, hWd⟩ : ∃ Wd, Wd = (sp F j).W := ⟨_, rfl⟩
    rw [← hP, ← hWd] at hsN
    obtain ⟨M4, hM4⟩ : ∃ M4 : Nat, M4 = 4096 := ⟨_, rfl⟩
    have HP := Lib.hid hP
    have HWd := Lib.hid hWd
    have HM4 := Lib.hid hM4
    rw [← cpWx_zero P Wd] at hsN
    have HSN := Lib.hid hsN
    have HBN := Lib.hid hbN
    clear hsN hbN hP hWd hM4 hcA hcB hcC r5 sD sV s5 HDA HDB HDC HCELL
    go_wp2_with fail
    go_loopw [7] (fun i wr => ∃ x : Nat, x ≤ 4096 ∧ i = .int .i64 x ∧ SpAt W2.heap.size wr sN ⟨P, cpWx P Wd x, false⟩ ∧ Below W2.heap.size W2 wr) (fun i _ => 4096 - (RowKit.intOf i).toNat)
    case atStart => exact ⟨0, Nat.zero_le _, rfl, HSN.out, HBN.out⟩
    case round =>
      obtain ⟨x, hx4, rfl, hs, hb⟩ := hrel
      have HSX := Lib.hid hs
      have HBX := Lib.hid hb
      by_cases hlt : x < 4096
      · have c0 := hs.c0
        obtain ⟨g, c, hv, -, -, -⟩ := hs.ars.form
        have c1 := hs.ars.c0
        rw [hv, ← HM4.out] at c1
        have p0 := (hs.ars.bx.cells hv hlt).1
        dsimp only at p0
        have x0 : (0 : Int) ≤ x := by omega
        have xM : (x : Int) < (M4 : Int) := by have := HM4.out; omega
        have x4 : (x : Int) < 4096 := by omega
        obtain ⟨y, hy⟩ : ∃ y, y = (P x).h := ⟨_, rfl⟩
        rw [← hy] at p0
        have HY := Lib.hid hy
        have HLT := Lib.hid hlt
        by_cases hy0 : y = 0
        · have y0 : (y == 0) = true := by rw [hy0]; rfl
          have HY0 := Lib.hid hy0
          have hcl := rclear_is hs (a := x) (n := 1) (by omega)
          rw [show ((1 : Nat) : Int) = 1 from rfl] at hcl
          dsimp only at hcl
          rw [cpWx_one P Wd x (by rw [← hy]; exact hy0)] at hcl
          clear hs hb hv hy hy0 hx4 hlt
          go_wp2_with (go_at_call 34; (with_reducible refine hcl.mono ?_); rintro e w5 ⟨rfl, hs5, hg5⟩)
          go_roundw
          case rel => exact ⟨x + 1, HLT.out, by go_num, hs5, HBX.out.grown hg5 HBX.out.size (fun k e => by injection e with e; rw [← e]; exact HSX.out.low _ (Or.inr (Or.inr rfl)))⟩
          case measure => have := HLT.out; simp [RowKit.intOf]; omega
        · have y0 : (y == 0) = false := by simpa using hy0
          have HE : Hid (cpWx P Wd x = cpWx P Wd (x + 1)) := cpWx_none P Wd x (by rw [← hy]; exact hy0)
          clear hs hb hv hy hy0 hx4 hlt
          go_wp2_with fail
          go_roundw
          case rel => exact ⟨x + 1, HLT.out, by go_num, by rw [← HE.out]; exact HSX.out, HBX.out⟩
          case measure => have := HLT.out; simp [RowKit.intOf]; omega
      · have hxe : x = 4096 := by omega
        subst hxe
        have hadd := radd_is HD0.out hb (hs.base HD0.out.lw) hs.low
        rw [cpWx_all] at hadd
        unfold ResF at hadd
        rw [HP.out, HWd.out, show (⟨cpP (sp F j).P, cpW (cpP (sp F j).P) (sp F j).W, false⟩ : Sp) = cpS (sp F j) from rfl, ← HR.out] at hadd
        dsimp only at hadd
        have HF4 : Hid (∀ w4, DidF B W2 T G w4 → Lrow w4 b1 33 [.int .i64 0, .int .u64 0]) := fun w4 hd => by
          obtain ⟨T4, -, -, f4, -⟩ := hd
          exact f4.row HRQ.out (HD0.out.other HRQ.out (by decide))
        clear hs hb hlt
        go_wp2_with (go_at_call 31; (with_reducible refine hadd.mono ?_); rintro e w4 ⟨rfl, hd4⟩; have hr4 := HF4.out w4 hd4; have g0 := hr4.cell 0; have g1 := hr4.cell 1; have f0 := hr4.frozen 0; have f1 := hr4.frozen 1)
        exact bodyPost_ret (v := .agg #[.int .i64 u, .int .u64 v]) (by simp [results, Tryz.results16, go_sem, *]) rfl (by
          have E : addF F (cpS (sp F r.s)) = (u, v, G) := by rw [HJ.out.2.2]; exact HR.out.symm
          rw [E]; exact ⟨rfl, (hd4.pre HBW.out).lay hr4 HG1.out _ _⟩)
end
end Go.Proofs.YtnppnoabhpkmkaaGreat
