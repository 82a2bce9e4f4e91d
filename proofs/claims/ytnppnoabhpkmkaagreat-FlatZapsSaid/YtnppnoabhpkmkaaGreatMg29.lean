/- The reference's Protect (gen/genV8.py). -/
import Derived.Test.YtnppnoabhpkmkaaGreatMg28
namespace Go.Proofs.YtnppnoabhpkmkaaGreat
open Go.RowKit
section
variable {w w' : World} {B D xa xb : Nat} {v vb : Value} {P Q : Int → Pg}
theorem prP_zero (P : Int → Pg) (a p : Int) : prP P a 0 p = P := by
  funext i; unfold prP; rw [if_neg (by unfold inS; omega)]
theorem prP_succ (P : Int → Pg) (a p : Int) (j : Nat) (i : Int) : (if i = a + j then { prP P a j p (a + j) with p := p } else prP P a j p i) = prP P a ((j : Int) + 1) p i := by
  unfold prP
  by_cases e : i = a + j
  · rw [if_pos e, if_neg (by unfold inS; omega), if_pos (by unfold inS; omega), e]
  · rw [if_neg e]
    by_cases e2 : inS a j i
    · rw [if_pos e2, if_pos (by unfold inS at *; omega)]
    · rw [if_neg e2, if_neg (by unfold inS at *; omega)]
set_option maxRecDepth 100000 in
set_option maxHeartbeats 2000000 in
theorem prot_some (h : Px B w xa v P) {a n : Nat} {p : Int} (hr : rtI a n 0 = 0) (hp : prB p = true) (hp0 : p ≠ 0) (hco : covB P a n = true) (hcu : cutsB P a n = false) : Calls Tryz.prog 57 #[.pointer (some ⟨xa, 0, none⟩), .int .i64 a, .int .i64 n, .int .i64 p] w (ToldP B w xa P (prP P a n p) (if fullB (prP P a n p) = true then 13 else 0) (pcs P a n)) := by
  obtain ⟨h1, h2, h3⟩ := rt_in hr
  have HCI := Lib.hid (fun i hi => cov_in (P := P) (a := a) (n := (n : Int)) (by rw [Int.toNat_natCast]; exact hco) i hi)
  have hri := fun w => right_is (a := a) (n := n) ⟨by omega, by omega⟩ ⟨by omega, by omega⟩ w
  rw [hr] at hri
  have hcv := covers_is h (a := a) (n := n) hr (by omega)
  rw [hco] at hcv
  have hcs := cuts_is h (a := a) (n := n) (by omega) (by omega) (by omega)
  rw [hcu] at hcs
  have hpr := fun w => prot_is p w
  rw [hp] at hpr
  have HR := Lib.hid (And.intro h1 (And.intro h2 h3))
  have HP := Lib.hid h
  have n4 : (n : Int) ≤ 4096 := by omega
  have a4 : (a : Int) ≤ 4096 := by omega
  have hcp := copied_is h
  have p0 : (p == 0) = false := by simpa using hp0
  obtain ⟨er, her⟩ : ∃ er : Int, er = if fullB (prP P a n p) = true then 13 else 0 := ⟨_, rfl⟩
  rw [← her]
  have HER := Lib.hid her
  clear h hr hco hcu h1 h2 h3 her hp hp0
  go_enter Tryz.func57, Tryz.ntmps57
  go_wp2_with (first | (go_at_call 82; (with_reducible refine (hri _).mono ?_); rintro e w1 ⟨rfl, rfl⟩) | (go_at_call 80; (with_reducible refine (hpr _).mono ?_); rintro e w1 ⟨rfl, rfl⟩) | (go_at_call 59; (with_reducible refine hcv.mono ?_); rintro e w1 ⟨rfl, rfl⟩) | (go_at_call 60; (with_reducible refine hcs.mono ?_); rintro e w1 ⟨rfl, rfl⟩))
  refine hcp.mono ?_
  rintro e w2 ⟨xb, vb, rfl, hx2, hb2⟩
  obtain ⟨g, c, rfl, hgD, -, -⟩ := hx2.form
  have HG := Lib.hid hgD
  have hB0 : Bx w.heap.size w2 xb (.slice (some ⟨g, 0, none⟩) 4096 c) (prP P a 0 p) := by rw [prP_zero]; exact hx2.bx
  have HX := Lib.hid hB0
  have HB2 := Lib.hid hb2
  clear hcp hb2 hx2 hB0 hgD hri hpr hcv hcs
  go_wp2_with fail
  go_loopw [12] (fun i wr => ∃ j : Nat, j ≤ n ∧ i = .int .i64 ((a + j : Nat) : Int) ∧ Bx w.heap.size wr xb (.slice (some ⟨g, 0, none⟩) 4096 c) (prP P a j p) ∧ Below w.heap.size w wr) (fun i _ => a + n - (RowKit.intOf i).toNat)
  case atStart => exact ⟨0, Nat.zero_le _, rfl, HX.out, HB2.out⟩
  case round =>
    obtain ⟨j, hj, rfl, hx, hb⟩ := hrel
    obtain ⟨q, hq⟩ : ∃ q : Nat, q = a + j := ⟨_, rfl⟩
    rw [← hq]
    have HBX := Lib.hid hx
    have HBB := Lib.hid hb
    have HQ := Lib.hid hq
    skip
    by_cases hlt : j < n
    · have c0 := hx.c0
      obtain ⟨f1, hpg⟩ := hx.put rfl (i := q) (q := 1) (by have := HR.out; omega) (by decide) (u := .int .i64 p) (x := { prP P a j p q with p := p }) rfl
      have k1 := (hx.cells rfl (i := q) (by have := HR.out; omega)).2.1
      have f1 := f1 (q * 4 + 1)
      obtain ⟨u1, hu1⟩ : ∃ u, u = Value.int .i64 (prP P a j p q).p := ⟨_, rfl⟩
      rw [← hu1] at k1
      have HPG := Lib.hid hpg
      have hqn : (q : Int) < (a : Int) + n := by omega
      have hq0 : (0 : Int) ≤ q := by omega
      have hq4 : (q : Int) < 4096 := by have := HR.out; omega
      clear hx hb hpg hq hu1
      go_wp2
      go_round
      case rel =>
        refine ⟨j + 1, by omega, congrArg (Value.int .i64) (by have := HQ.out; omega), HPG.out.congr fun i _ => ?_, below_set HBB.out HG.out _ _⟩
        rw [show (((j + 1 : Nat) : Int)) = (j : Int) + 1 by omega, ← prP_succ, show (q : Int) = (a : Int) + j by have := HQ.out; omega]
      case measure => simp [RowKit.intOf]; omega
    · obtain rfl : j = n := by omega
      have hqn : ¬ (q : Int) < (a : Int) + j := by have := HQ.out; omega
      have hpc := pieces_is (HP.out.call hb) (a := a) (n := j) (by have := HR.out; omega)
      obtain ⟨m, hm⟩ : ∃ m, m = (pcs P a j).length := ⟨_, rfl⟩
      unfold ToldA at hpc
      rw [← hm] at hpc
      have HM := Lib.hid hm
      clear hx hb hq hm HX
      go_wp2_with fail
      refine hpc.mono ?_
      rintro e w3 ⟨A1, c1, rfl, ho1, hb3⟩
      have hwr : Below w.heap.size w w3 := HBB.out.trans (hb3.mono HBB.out.size)
      have hbe := become_is (HP.out.call hwr) ((HBX.out.call hb3).px (HP.out.ok.pr HCI.out)) HP.out.lw
      unfold Became at hbe
      have HER1 := HER
      rw [← HER1.out] at hbe
      have HWR := Lib.hid hwr
      have HO1 := Lib.hid (Enc.Own.base ho1 HBB.out.size)
      clear hpc hwr HBX ho1 hb3
      go_wp2_with fail
      refine hbe.mono ?_
      rintro e w4 ⟨rfl, hd⟩
      have HT := Lib.hid (ls_keep HO1.out (Below.refl _ _) hd.choose_spec.2 (HP.out.call HWR.out).top)
      have HD := Lib.hid (hd.pre (B := B) HWR.out)
      clear hd hbe
      by_cases h0 : er = 0
      · subst h0
        have HF : Hid (¬ fullB (prP P a j p) = true) := by
          show ¬ _
          intro e; have := HER1.out; rw [if_pos e] at this; omega
        go_wp2
        go_ret2
        have hd := HD.out
        rw [if_neg HF.out] at hd
        have ht := HT.out
        rw [HM.out] at ht ⊢
        exact ToldP.yes ht hd
      · have h0' : (er != 0) = true := by simpa using h0
        have HF : Hid (fullB (prP P a j p) = true) := by
          show _ = _
          by_cases e : fullB (prP P a j p) = true
          · exact e
          · exact absurd (HER1.out.trans (if_neg e)) h0
        go_wp2
        go_ret2
        have hd := HD.out
        rw [if_pos HF.out] at hd
        exact ToldP.no' h0 hd
set_option maxRecDepth 100000 in
set_option maxHeartbeats 2000000 in
theorem prot_zero (h : Px B w xa v P) {a n : Nat} (hr : rtI a n 0 = 0) (hco : covB P a n = true) (hcu : cutsB P a n = false) : Calls Tryz.prog 57 #[.pointer (some ⟨xa, 0, none⟩), .int .i64 a, .int .i64 n, .int .i64 0] w (ToldP B w xa P (prP P a n 0) (if hugeB P a n = true then 2 else if fullB (prP P a n 0) = true then 13 else 0) (pcs P a n)) := by
  obtain ⟨h1, h2, h3⟩ := rt_in hr
  have HCI := Lib.hid (fun i hi => cov_in (P := P) (a := a) (n := (n : Int)) (by rw [Int.toNat_natCast]; exact hco) i hi)
  have hri := fun w => right_is (a := a) (n := n) ⟨by omega, by omega⟩ ⟨by omega, by omega⟩ w
  rw [hr] at hri
  have hcv := covers_is h (a := a) (n := n) hr (by omega)
  rw [hco] at hcv
  have hcs := cuts_is h (a := a) (n := n) (by omega) (by omega) (by omega)
  rw [hcu] at hcs
  have hpr := fun w => prot_is 0 w
  rw [show prB 0 = true by decide] at hpr
  have HR := Lib.hid (And.intro h1 (And.intro h2 h3))
  have HP := Lib.hid h
  have n4 : (n : Int) ≤ 4096 := by omega
  have a4 : (a : Int) ≤ 4096 := by omega
  have hcp := copied_is h
  obtain ⟨er, her⟩ : ∃ er : Int, er = if hugeB P a n = true then 2 else if fullB (prP P a n 0) = true then 13 else 0 := ⟨_, rfl⟩
  rw [← her]
  have HER := Lib.hid her
  clear h hr hco hcu h1 h2 h3 her 
  go_enter Tryz.func57, Tryz.ntmps57
  go_wp2_with (first | (go_at_call 82; (with_reducible refine (hri _).mono ?_); rintro e w1 ⟨rfl, rfl⟩) | (go_at_call 80; (with_reducible refine (hpr _).mono ?_); rintro e w1 ⟨rfl, rfl⟩) | (go_at_call 59; (with_reducible refine hcv.mono ?_); rintro e w1 ⟨rfl, rfl⟩) | (go_at_call 60; (with_reducible refine hcs.mono ?_); rintro e w1 ⟨rfl, rfl⟩))
  refine hcp.mono ?_
  rintro e w2 ⟨xb, vb, rfl, hx2, hb2⟩
  obtain ⟨g, c, rfl, hgD, -, -⟩ := hx2.form
  have HG := Lib.hid hgD
  have hB0 : Bx w.heap.size w2 xb (.slice (some ⟨g, 0, none⟩) 4096 c) (prP P a 0 0) := by rw [prP_zero]; exact hx2.bx
  have HX := Lib.hid hB0
  have HB2 := Lib.hid hb2
  clear hcp hb2 hx2 hB0 hgD hri hpr hcv hcs
  go_wp2_with fail
  go_loopw [12] (fun i wr => ∃ j : Nat, j ≤ n ∧ i = .int .i64 ((a + j : Nat) : Int) ∧ Bx w.heap.size wr xb (.slice (some ⟨g, 0, none⟩) 4096 c) (prP P a j 0) ∧ Below w.heap.size w wr ∧ hugeB P a j = false) (fun i _ => a + n - (RowKit.intOf i).toNat)
  case atStart => exact ⟨0, Nat.zero_le _, rfl, HX.out, HB2.out, rfl⟩
  case round =>
    obtain ⟨j, hj, rfl, hx, hb, hh⟩ := hrel
    obtain ⟨q, hq⟩ : ∃ q : Nat, q = a + j := ⟨_, rfl⟩
    rw [← hq]
    have HBX := Lib.hid hx
    have HBB := Lib.hid hb
    have HQ := Lib.hid hq
    have HHU := Lib.hid hh
    by_cases hlt : j < n
    · have c0 := hx.c0
      obtain ⟨f1, hpg⟩ := hx.put rfl (i := q) (q := 1) (by have := HR.out; omega) (by decide) (u := .int .i64 0) (x := { prP P a j 0 q with p := 0 }) rfl
      have k1 := (hx.cells rfl (i := q) (by have := HR.out; omega)).2.1
      have f1 := f1 (q * 4 + 1)
      obtain ⟨u1, hu1⟩ : ∃ u, u = Value.int .i64 (prP P a j 0 q).p := ⟨_, rfl⟩
      rw [← hu1] at k1
      have HPG := Lib.hid hpg
      have hqn : (q : Int) < (a : Int) + n := by omega
      have hq0 : (0 : Int) ≤ q := by omega
      have hq4 : (q : Int) < 4096 := by have := HR.out; omega
      obtain ⟨gp, cp, hv, hat⟩ := (HP.out.call hb).how
      have ca := (HP.out.call hb).c0
      rw [hv] at ca
      have cq := hat q (by have := HR.out; omega)
      obtain ⟨hh1, hhe⟩ : ∃ z, z = (P q).h := ⟨_, rfl⟩
      rw [← hhe] at cq
      obtain ⟨s, hs⟩ : ∃ s, s = szO hh1 := ⟨_, rfl⟩
      have hsz := fun w => size_is hh1 w
      rw [← hs] at hsz
      have HSQ : Hid (hugeB P a (j + 1) = decide (1 < s)) := by
        show _ = _
        unfold hugeB at hh ⊢
        rw [anyB_succ, hh, Bool.false_or, hs, hhe, hq, show ((a + j : Nat) : Int) = (a : Int) + j by omega]
      clear hx hb hpg hq hhe hs hat hv hu1 hh
      by_cases hbig : 1 < s
      · have HE2 : Hid (er = 2) := by
          show _ = _
          rw [HER.out, if_pos]
          have h1 := HSQ.out
          rw [decide_eq_true hbig] at h1
          unfold hugeB at h1 ⊢
          rw [anyB_true] at h1 ⊢
          obtain ⟨k, hk, h⟩ := h1
          exact ⟨k, by omega, h⟩
        go_wp2_with (go_at_call 18; (with_reducible refine (hsz _).mono ?_); rintro e w1 ⟨rfl, rfl⟩)
        go_ret2
        rw [HE2.out]
        exact ToldP.no (by decide) HP.out HBB.out
      · have HHS : Hid (hugeB P a (j + 1) = false) := by
          show _ = _
          rw [HSQ.out, decide_eq_false hbig]
        have hb2 : decide (1 < s) = false := decide_eq_false hbig
        go_wp2_with (go_at_call 18; (with_reducible refine (hsz _).mono ?_); rintro e w1 ⟨rfl, rfl⟩)
        go_round
        case rel =>
          refine ⟨j + 1, by omega, congrArg (Value.int .i64) (by have := HQ.out; omega), HPG.out.congr fun i _ => ?_, below_set HBB.out HG.out _ _, HHS.out⟩
          rw [show (((j + 1 : Nat) : Int)) = (j : Int) + 1 by omega, ← prP_succ, show (q : Int) = (a : Int) + j by have := HQ.out; omega]
        case measure => simp [RowKit.intOf]; omega
    · obtain rfl : j = n := by omega
      have hqn : ¬ (q : Int) < (a : Int) + j := by have := HQ.out; omega
      have hpc := pieces_is (HP.out.call hb) (a := a) (n := j) (by have := HR.out; omega)
      obtain ⟨m, hm⟩ : ∃ m, m = (pcs P a j).length := ⟨_, rfl⟩
      unfold ToldA at hpc
      rw [← hm] at hpc
      have HM := Lib.hid hm
      clear hx hb hq hm HX
      go_wp2_with fail
      refine hpc.mono ?_
      rintro e w3 ⟨A1, c1, rfl, ho1, hb3⟩
      have hwr : Below w.heap.size w w3 := HBB.out.trans (hb3.mono HBB.out.size)
      have hbe := become_is (HP.out.call hwr) ((HBX.out.call hb3).px (HP.out.ok.pr HCI.out)) HP.out.lw
      unfold Became at hbe
      have HER1 : Hid (er = if fullB (prP P a j 0) = true then 13 else 0) := by
        show _ = _
        rw [HER.out, if_neg (by rw [HHU.out]; decide)]
      rw [← HER1.out] at hbe
      have HWR := Lib.hid hwr
      have HO1 := Lib.hid (Enc.Own.base ho1 HBB.out.size)
      clear hpc hwr HBX ho1 hb3
      go_wp2_with fail
      refine hbe.mono ?_
      rintro e w4 ⟨rfl, hd⟩
      have HT := Lib.hid (ls_keep HO1.out (Below.refl _ _) hd.choose_spec.2 (HP.out.call HWR.out).top)
      have HD := Lib.hid (hd.pre (B := B) HWR.out)
      clear hd hbe
      by_cases h0 : er = 0
      · subst h0
        have HF : Hid (¬ fullB (prP P a j 0) = true) := by
          show ¬ _
          intro e; have := HER1.out; rw [if_pos e] at this; omega
        go_wp2
        go_ret2
        have hd := HD.out
        rw [if_neg HF.out] at hd
        have ht := HT.out
        rw [HM.out] at ht ⊢
        exact ToldP.yes ht hd
      · have h0' : (er != 0) = true := by simpa using h0
        have HF : Hid (fullB (prP P a j 0) = true) := by
          show _ = _
          by_cases e : fullB (prP P a j 0) = true
          · exact e
          · exact absurd (HER1.out.trans (if_neg e)) h0
        go_wp2
        go_ret2
        have hd := HD.out
        rw [if_pos HF.out] at hd
        exact ToldP.no' h0 hd
set_option maxRecDepth 100000 in
theorem protect_is (h : Px B w xa v P) {a n p : Int} (ha : Fits a) (hn : Fits n) : Calls Tryz.prog 57 #[.pointer (some ⟨xa, 0, none⟩), .int .i64 a, .int .i64 n, .int .i64 p] w (ToldP B w xa P (prP P a n p) (prE P a n p) (pcs P a n.toNat)) := by
  obtain ⟨er, her⟩ : ∃ er, er = rtI a n 0 := ⟨_, rfl⟩
  have hri := fun w => right_is ha hn w
  have hpr := fun w => prot_is p w
  by_cases h0 : er = 0
  · have hr : rtI a n 0 = 0 := her.symm.trans h0
    obtain ⟨h1, h2, h3⟩ := rt_in hr
    obtain ⟨a, rfl⟩ : ∃ k : Nat, a = k := ⟨a.toNat, by omega⟩
    obtain ⟨n, rfl⟩ : ∃ k : Nat, n = k := ⟨n.toNat, by omega⟩
    rw [hr] at hri
    have hE0 : prE P a n p = if prB p = false then 2 else if covB P a n = false then 6 else if cutsB P a n = true then 2 else if p = 0 ∧ hugeB P a n = true then 2 else if fullB (prP P a n p) = true then 13 else 0 := by
      unfold prE; rw [if_neg (by rw [hr]; decide)]; rfl
    rw [show ((n : Int)).toNat = n from Int.toNat_natCast n, hE0]
    clear hE0
    have hcv := covers_is h (a := a) (n := n) hr (by omega)
    have hcs := cuts_is h (a := a) (n := n) (by omega) (by omega) (by omega)
    by_cases hp : prB p = true
    · rw [if_neg (by rw [hp]; decide)]
      by_cases hc : covB P a n = true
      · rw [if_neg (by rw [hc]; decide)]
        by_cases hu : cutsB P a n = true
        · rw [if_pos hu]
          rw [hp] at hpr
          rw [hc] at hcv
          rw [hu] at hcs
          have HN := Lib.hid (fun w' hb => ToldP.no (w := w) (w' := w') (er := 2) (by decide) (l := pcs P a n) (Q := prP P a n p) h hb)
          clear h ha hn her hr h1 h2 h3 h0 hp hc hu
          go_enter Tryz.func57, Tryz.ntmps57
          go_wp2_with (first | (go_at_call 82; (with_reducible refine (hri _).mono ?_); rintro e w1 ⟨rfl, rfl⟩) | (go_at_call 80; (with_reducible refine (hpr _).mono ?_); rintro e w1 ⟨rfl, rfl⟩) | (go_at_call 59; (with_reducible refine hcv.mono ?_); rintro e w1 ⟨rfl, rfl⟩) | (go_at_call 60; (with_reducible refine hcs.mono ?_); rintro e w1 ⟨rfl, rfl⟩))
          go_ret2
          exact HN.out _ (Below.refl _ _)
        · rw [if_neg hu]
          by_cases hp0 : p = 0
          · subst hp0
            have := prot_zero h hr hc (by simpa using hu)
            by_cases hg : hugeB P a n = true
            · rw [if_pos hg] at this
              rw [if_pos ⟨rfl, hg⟩]; exact this
            · rw [if_neg hg] at this
              rw [if_neg (fun e => hg e.2)]; exact this
          · rw [if_neg (fun e => hp0 e.1)]
            exact prot_some h hr hp hp0 hc (by simpa using hu)
      · rw [if_pos (by simpa using hc)]
        rw [hp] at hpr
        rw [show covB P a n = false by simpa using hc] at hcv
        have HN := Lib.hid (fun w' hb => ToldP.no (w := w) (w' := w') (er := 6) (by decide) (l := pcs P a n) (Q := prP P a n p) h hb)
        clear h ha hn her hr h1 h2 h3 h0 hp hc hcs
        go_enter Tryz.func57, Tryz.ntmps57
        go_wp2_with (first | (go_at_call 82; (with_reducible refine (hri _).mono ?_); rintro e w1 ⟨rfl, rfl⟩) | (go_at_call 80; (with_reducible refine (hpr _).mono ?_); rintro e w1 ⟨rfl, rfl⟩) | (go_at_call 59; (with_reducible refine hcv.mono ?_); rintro e w1 ⟨rfl, rfl⟩))
        go_ret2
        exact HN.out _ (Below.refl _ _)
    · rw [if_pos (by simpa using hp)]
      rw [show prB p = false by simpa using hp] at hpr
      have HN := Lib.hid (fun w' hb => ToldP.no (w := w) (w' := w') (er := 2) (by decide) (l := pcs P a n) (Q := prP P a n p) h hb)
      clear h ha hn her hr h1 h2 h3 h0 hp hcs hcv
      go_enter Tryz.func57, Tryz.ntmps57
      go_wp2_with (first | (go_at_call 82; (with_reducible refine (hri _).mono ?_); rintro e w1 ⟨rfl, rfl⟩) | (go_at_call 80; (with_reducible refine (hpr _).mono ?_); rintro e w1 ⟨rfl, rfl⟩))
      go_ret2
      exact HN.out _ (Below.refl _ _)
  · have hE : prE P a n p = er := by unfold prE; rw [← her, if_pos h0]
    rw [hE]
    rw [← her] at hri
    have h0' : (er != 0) = true := by simpa using h0
    have HN := Lib.hid (fun w' hb => ToldP.no (w := w) (w' := w') (er := er) h0 (l := pcs P a n.toNat) (Q := prP P a n p) h hb)
    clear h ha hn her hE hpr
    go_enter Tryz.func57, Tryz.ntmps57
    go_wp2_with (go_at_call 82; (with_reducible refine (hri _).mono ?_); rintro e w1 ⟨rfl, rfl⟩)
    go_ret2
    exact HN.out _ (Below.refl _ _)
end
end Go.Proofs.YtnppnoabhpkmkaaGreat
/- The reference's Map (gen/genV9.py). -/
namespace Go.Proofs.YtnppnoabhpkmkaaGreat
open Go.RowKit
/-- What a call with an error alone comes to. -/
def DidE (B : Nat) (w : World) (xa : Nat) (P Q : Int → Pg) (er : Int) (e : Ending) (w' : World) : Prop :=
  e = .returned (.int .i64 er) ∧ DidP B w xa (if er = 0 then Q else P) w'
section
variable {w w' : World} {B D xa xb : Nat} {v vb : Value} {P Q : Int → Pg}
theorem DidE.no {er : Int} (h0 : er ≠ 0) (h : Px B w xa v P) (hb : Below w.heap.size w w') : DidE B w xa P Q er (.returned (.int .i64 er)) w' := by
  refine ⟨rfl, ?_⟩
  rw [if_neg h0]
  exact ⟨v, h.call hb, Foot.of_below hb⟩
theorem mapP_zero (P : Int → Pg) (a how p o : Int) : mapP P a 0 how p o = P := by
  funext i; unfold mapP; rw [if_neg (by unfold inS; omega)]
theorem mapP_succ (P : Int → Pg) (a how p o : Int) (j : Nat) (i : Int) : (if i = a + j then ⟨how, p, o, if shr how then (j : Int) else 0⟩ else mapP P a j how p o i) = mapP P a ((j : Int) + 1) how p o i := by
  unfold mapP
  by_cases e : i = a + j
  · have q : inS a ((j : Int) + 1) i := by unfold inS; omega
    rw [if_pos e, if_pos q, show i - a = j by omega]
  · rw [if_neg e]
    by_cases e2 : inS a j i
    · have q : inS a ((j : Int) + 1) i := by unfold inS at *; omega
      rw [if_pos e2, if_pos q]
    · have q : ¬ inS a ((j : Int) + 1) i := by unfold inS at *; omega
      rw [if_neg e2, if_neg q]
set_option maxRecDepth 100000 in
set_option maxHeartbeats 4000000 in
theorem map_1zz (h : Px B w xa v P) {a n : Nat} (hr : rtI a n 0 = 0) (hin : 1 ≤ a ∧ 1 ≤ n ∧ a + n ≤ 4096) : Calls Tryz.prog 54 #[.pointer (some ⟨xa, 0, none⟩), .int .i64 a, .int .i64 n, .int .i64 1, .int .i64 0, .int .i64 0] w (DidE B w xa P (mapP P a n 1 0 0) (if usedB P a n = true then 7 else if fullB (mapP P a n 1 0 0) = true then 13 else 0)) := by
  have hri := fun w => refRight_any a n 0 (by omega) (by omega) (by omega) (by omega) w
  rw [hr] at hri
  have hpr := fun w => prot_is 0 w
  rw [show prB 0 = true by decide] at hpr
  have hsz := fun w => size_is 1 w
  rw [show szO 1 = 1 by decide] at hsz
  have hsh := fun w => shared_is 1 w
  rw [show decide (shr 1) = false by decide] at hsh
  have HR := Lib.hid hin
  have HP := Lib.hid h
  have n4 : (n : Int) ≤ 4096 := by omega
  have a4 : (a : Int) ≤ 4096 := by omega
  have hcp := copied_is h
  obtain ⟨er, her⟩ : ∃ er : Int, er = if usedB P a n = true then 7 else if fullB (mapP P a n 1 0 0) = true then 13 else 0 := ⟨_, rfl⟩
  rw [← her]
  have HER := Lib.hid her
  clear h hr hin her
  go_enter Tryz.func54, Tryz.ntmps54
  go_wp2_with (first | (go_at_call 58; (with_reducible refine (hri _).mono ?_); rintro e w1 ⟨rfl, rfl⟩) | (go_at_call 80; (with_reducible refine (hpr _).mono ?_); rintro e w1 ⟨rfl, rfl⟩) | (go_at_call 18; (with_reducible refine (hsz _).mono ?_); rintro e w1 ⟨rfl, rfl⟩) | (go_at_call 15; (with_reducible refine (hsh _).mono ?_); rintro e w1 ⟨rfl, rfl⟩))
  refine hcp.mono ?_
  rintro e w2 ⟨xb, vb, rfl, hx2, hb2⟩
  obtain ⟨g, c, rfl, hgD, -, -⟩ := hx2.form
  have HG := Lib.hid hgD
  have hB0 : Bx w.heap.size w2 xb (.slice (some ⟨g, 0, none⟩) 4096 c) (mapP P a 0 1 0 0) := by rw [mapP_zero]; exact hx2.bx
  have HX := Lib.hid hB0
  have HB2 := Lib.hid hb2
  clear hcp hb2 hx2 hB0 hgD hri hpr hsz
  go_wp2_with fail
  go_loopw [16] (fun i wr => ∃ j : Nat, j ≤ n ∧ i = .int .i64 j ∧ Bx w.heap.size wr xb (.slice (some ⟨g, 0, none⟩) 4096 c) (mapP P a j 1 0 0) ∧ Below w.heap.size w wr ∧ usedB P a j = false) (fun i _ => n - (RowKit.intOf i).toNat)
  case atStart => exact ⟨0, Nat.zero_le _, rfl, HX.out, HB2.out, rfl⟩
  case round =>
    obtain ⟨j, hj, rfl, hx, hb, hh⟩ := hrel
    have HBX := Lib.hid hx
    have HBB := Lib.hid hb
    have HHU := Lib.hid hh
    by_cases hlt : j < n
    · obtain ⟨q, hq⟩ : ∃ q : Nat, q = a + j := ⟨_, rfl⟩
      have HQ := Lib.hid hq
      have c0 := hx.c0
      obtain ⟨hpg, ⟨u0, k0⟩, f0, ⟨u1, k1⟩, f1, ⟨u2, k2⟩, f2, ⟨u3, k3⟩, f3⟩ := hx.page rfl (i := q) (by have := HR.out; omega) 1 0 0 0
      have HPG := Lib.hid hpg
      have hjn : (j : Int) < n := by omega
      have hqe : (a : Int) + j = (q : Int) := by omega
      have hq0 : (0 : Int) ≤ q := by omega
      have hq4 : (q : Int) < 4096 := by have := HR.out; omega
      obtain ⟨gp, cp, hv, hat⟩ := (HP.out.call hb).how
      have ca := (HP.out.call hb).c0
      rw [hv] at ca
      have cq := hat q (by have := HR.out; omega)
      obtain ⟨hh1, hhe⟩ : ∃ z, z = (P q).h := ⟨_, rfl⟩
      rw [← hhe] at cq
      have HSQ : Hid (usedB P a (j + 1) = decide (hh1 ≠ 0)) := by
        show _ = _
        unfold usedB at hh ⊢
        rw [anyB_succ, hh, Bool.false_or, hhe, hqe]
      clear hx hb hpg hq hhe hat hv hh
      by_cases hbig : hh1 = 0
      · subst hbig
        have HHS : Hid (usedB P a (j + 1) = false) := by
          show _ = _
          rw [HSQ.out]; rfl
        go_wp2_with (go_at_call 15; (with_reducible refine (hsh _).mono ?_); rintro e w1 ⟨rfl, rfl⟩)
        go_round
        case rel =>
          refine ⟨j + 1, by omega, rfl, HPG.out.congr fun i _ => ?_, below_set (below_set (below_set (below_set HBB.out HG.out _ _) HG.out _ _) HG.out _ _) HG.out _ _, HHS.out⟩
          rw [show (((j + 1 : Nat) : Int)) = (j : Int) + 1 by omega, ← mapP_succ, show (q : Int) = (a : Int) + j by have := HQ.out; omega, if_neg (show ¬ shr 1 by decide)]
        case measure => simp [RowKit.intOf]; omega
      · have hbn : (hh1 != 0) = true := by simpa using hbig
        have HE2 : Hid (er = 7) := by
          show _ = _
          rw [HER.out, if_pos]
          have h1 := HSQ.out
          rw [decide_eq_true hbig] at h1
          unfold usedB at h1 ⊢
          rw [anyB_true] at h1 ⊢
          obtain ⟨k, hk, h⟩ := h1
          exact ⟨k, by omega, h⟩
        clear k0 f0 k1 f1 k2 f2 k3 f3
        go_wp2
        go_ret
        rw [HE2.out]
        exact DidE.no (by decide) HP.out HBB.out
    · obtain rfl : j = n := by omega
      have hjn : ¬ (j : Int) < j := by omega
      have hbe := become_is (HP.out.call hb) (hx.px (HP.out.ok.map (by decide) (by omega) (by have := HR.out; omega))) HP.out.lw
      have HER1 : Hid (er = if fullB (mapP P a j 1 0 0) = true then 13 else 0) := by
        show _ = _
        rw [HER.out, if_neg (by rw [hh]; decide)]
      unfold Became at hbe
      rw [← HER1.out] at hbe
      clear hx hb hh HX HBX
      go_wp2_with fail
      refine hbe.mono ?_
      rintro e w4 ⟨rfl, hd⟩
      have HD := Lib.hid (hd.pre (B := B) HBB.out)
      clear hd hbe
      go_wp2
      go_ret
      refine ⟨rfl, ?_⟩
      have hd := HD.out
      by_cases e : fullB (mapP P a j 1 0 0) = true
      · rw [if_pos e] at hd
        rw [if_neg (by rw [HER1.out, if_pos e]; decide)]; exact hd
      · rw [if_neg e] at hd
        rw [if_pos (by rw [HER1.out, if_neg e])]; exact hd
set_option maxRecDepth 100000 in
set_option maxHeartbeats 4000000 in
theorem map_1sz (h : Px B w xa v P) {a n : Nat} {p : Int} (hp : prB p = true) (hp0 : p ≠ 0) (hr : rtI a n 0 = 0) (hin : 1 ≤ a ∧ 1 ≤ n ∧ a + n ≤ 4096) : Calls Tryz.prog 54 #[.pointer (some ⟨xa, 0, none⟩), .int .i64 a, .int .i64 n, .int .i64 1, .int .i64 p, .int .i64 0] w (DidE B w xa P (mapP P a n 1 p 0) (if usedB P a n = true then 7 else if fullB (mapP P a n 1 p 0) = true then 13 else 0)) := by
  have hri := fun w => refRight_any a n 0 (by omega) (by omega) (by omega) (by omega) w
  rw [hr] at hri
  have hpr := fun w => prot_is p w
  rw [hp] at hpr
  have hsz := fun w => size_is 1 w
  rw [show szO 1 = 1 by decide] at hsz
  have hsh := fun w => shared_is 1 w
  rw [show decide (shr 1) = false by decide] at hsh
  have p0 : (p == 0) = false := by simpa using hp0
  have HR := Lib.hid hin
  have HP := Lib.hid h
  have n4 : (n : Int) ≤ 4096 := by omega
  have a4 : (a : Int) ≤ 4096 := by omega
  have hcp := copied_is h
  obtain ⟨er, her⟩ : ∃ er : Int, er = if usedB P a n = true then 7 else if fullB (mapP P a n 1 p 0) = true then 13 else 0 := ⟨_, rfl⟩
  rw [← her]
  have HER := Lib.hid her
  clear h hr hin her hp hp0
  go_enter Tryz.func54, Tryz.ntmps54
  go_wp2_with (first | (go_at_call 58; (with_reducible refine (hri _).mono ?_); rintro e w1 ⟨rfl, rfl⟩) | (go_at_call 80; (with_reducible refine (hpr _).mono ?_); rintro e w1 ⟨rfl, rfl⟩) | (go_at_call 18; (with_reducible refine (hsz _).mono ?_); rintro e w1 ⟨rfl, rfl⟩) | (go_at_call 15; (with_reducible refine (hsh _).mono ?_); rintro e w1 ⟨rfl, rfl⟩))
  refine hcp.mono ?_
  rintro e w2 ⟨xb, vb, rfl, hx2, hb2⟩
  obtain ⟨g, c, rfl, hgD, -, -⟩ := hx2.form
  have HG := Lib.hid hgD
  have hB0 : Bx w.heap.size w2 xb (.slice (some ⟨g, 0, none⟩) 4096 c) (mapP P a 0 1 p 0) := by rw [mapP_zero]; exact hx2.bx
  have HX := Lib.hid hB0
  have HB2 := Lib.hid hb2
  clear hcp hb2 hx2 hB0 hgD hri hpr hsz
  go_wp2_with fail
  go_loopw [16] (fun i wr => ∃ j : Nat, j ≤ n ∧ i = .int .i64 j ∧ Bx w.heap.size wr xb (.slice (some ⟨g, 0, none⟩) 4096 c) (mapP P a j 1 p 0) ∧ Below w.heap.size w wr ∧ usedB P a j = false) (fun i _ => n - (RowKit.intOf i).toNat)
  case atStart => exact ⟨0, Nat.zero_le _, rfl, HX.out, HB2.out, rfl⟩
  case round =>
    obtain ⟨j, hj, rfl, hx, hb, hh⟩ := hrel
    have HBX := Lib.hid hx
    have HBB := Lib.hid hb
    have HHU := Lib.hid hh
    by_cases hlt : j < n
    · obtain ⟨q, hq⟩ : ∃ q : Nat, q = a + j := ⟨_, rfl⟩
      have HQ := Lib.hid hq
      have c0 := hx.c0
      obtain ⟨hpg, ⟨u0, k0⟩, f0, ⟨u1, k1⟩, f1, ⟨u2, k2⟩, f2, ⟨u3, k3⟩, f3⟩ := hx.page rfl (i := q) (by have := HR.out; omega) 1 p 0 0
      have HPG := Lib.hid hpg
      have hjn : (j : Int) < n := by omega
      have hqe : (a : Int) + j = (q : Int) := by omega
      have hq0 : (0 : Int) ≤ q := by omega
      have hq4 : (q : Int) < 4096 := by have := HR.out; omega
      obtain ⟨gp, cp, hv, hat⟩ := (HP.out.call hb).how
      have ca := (HP.out.call hb).c0
      rw [hv] at ca
      have cq := hat q (by have := HR.out; omega)
      obtain ⟨hh1, hhe⟩ : ∃ z, z = (P q).h := ⟨_, rfl⟩
      rw [← hhe] at cq
      have HSQ : Hid (usedB P a (j + 1) = decide (hh1 ≠ 0)) := by
        show _ = _
        unfold usedB at hh ⊢
        rw [anyB_succ, hh, Bool.false_or, hhe, hqe]
      clear hx hb hpg hq hhe hat hv hh
      by_cases hbig : hh1 = 0
      · subst hbig
        have HHS : Hid (usedB P a (j + 1) = false) := by
          show _ = _
          rw [HSQ.out]; rfl
        go_wp2_with (go_at_call 15; (with_reducible refine (hsh _).mono ?_); rintro e w1 ⟨rfl, rfl⟩)
        go_round
        case rel =>
          refine ⟨j + 1, by omega, rfl, HPG.out.congr fun i _ => ?_, below_set (below_set (below_set (below_set HBB.out HG.out _ _) HG.out _ _) HG.out _ _) HG.out _ _, HHS.out⟩
          rw [show (((j + 1 : Nat) : Int)) = (j : Int) + 1 by omega, ← mapP_succ, show (q : Int) = (a : Int) + j by have := HQ.out; omega, if_neg (show ¬ shr 1 by decide)]
        case measure => simp [RowKit.intOf]; omega
      · have hbn : (hh1 != 0) = true := by simpa using hbig
        have HE2 : Hid (er = 7) := by
          show _ = _
          rw [HER.out, if_pos]
          have h1 := HSQ.out
          rw [decide_eq_true hbig] at h1
          unfold usedB at h1 ⊢
          rw [anyB_true] at h1 ⊢
          obtain ⟨k, hk, h⟩ := h1
          exact ⟨k, by omega, h⟩
        clear k0 f0 k1 f1 k2 f2 k3 f3
        go_wp2
        go_ret
        rw [HE2.out]
        exact DidE.no (by decide) HP.out HBB.out
    · obtain rfl : j = n := by omega
      have hjn : ¬ (j : Int) < j := by omega
      have hbe := become_is (HP.out.call hb) (hx.px (HP.out.ok.map (by decide) (by omega) (by have := HR.out; omega))) HP.out.lw
      have HER1 : Hid (er = if fullB (mapP P a j 1 p 0) = true then 13 else 0) := by
        show _ = _
        rw [HER.out, if_neg (by rw [hh]; decide)]
      unfold Became at hbe
      rw [← HER1.out] at hbe
      clear hx hb hh HX HBX
      go_wp2_with fail
      refine hbe.mono ?_
      rintro e w4 ⟨rfl, hd⟩
      have HD := Lib.hid (hd.pre (B := B) HBB.out)
      clear hd hbe
      go_wp2
      go_ret
      refine ⟨rfl, ?_⟩
      have hd := HD.out
      by_cases e : fullB (mapP P a j 1 p 0) = true
      · rw [if_pos e] at hd
        rw [if_neg (by rw [HER1.out, if_pos e]; decide)]; exact hd
      · rw [if_neg e] at hd
        rw [if_pos (by rw [HER1.out, if_neg e])]; exact hd
set_option maxRecDepth 100000 in
set_option maxHeartbeats 4000000 in
theorem map_2zz (h : Px B w xa v P) {a n : Nat} (hr : rtI a n 0 = 0) (hin : 1 ≤ a ∧ 1 ≤ n ∧ a + n ≤ 4096) : Calls Tryz.prog 54 #[.pointer (some ⟨xa, 0, none⟩), .int .i64 a, .int .i64 n, .int .i64 2, .int .i64 0, .int .i64 0] w (DidE B w xa P (mapP P a n 2 0 0) (if usedB P a n = true then 7 else if fullB (mapP P a n 2 0 0) = true then 13 else 0)) := by
  have hri := fun w => refRight_any a n 0 (by omega) (by omega) (by omega) (by omega) w
  rw [hr] at hri
  have hpr := fun w => prot_is 0 w
  rw [show prB 0 = true by decide] at hpr
  have hsz := fun w => size_is 2 w
  rw [show szO 2 = 1 by decide] at hsz
  have hsh := fun w => shared_is 2 w
  rw [show decide (shr 2) = true by decide] at hsh
  have HR := Lib.hid hin
  have HP := Lib.hid h
  have n4 : (n : Int) ≤ 4096 := by omega
  have a4 : (a : Int) ≤ 4096 := by omega
  have hcp := copied_is h
  obtain ⟨er, her⟩ : ∃ er : Int, er = if usedB P a n = true then 7 else if fullB (mapP P a n 2 0 0) = true then 13 else 0 := ⟨_, rfl⟩
  rw [← her]
  have HER := Lib.hid her
  clear h hr hin her
  go_enter Tryz.func54, Tryz.ntmps54
  go_wp2_with (first | (go_at_call 58; (with_reducible refine (hri _).mono ?_); rintro e w1 ⟨rfl, rfl⟩) | (go_at_call 80; (with_reducible refine (hpr _).mono ?_); rintro e w1 ⟨rfl, rfl⟩) | (go_at_call 18; (with_reducible refine (hsz _).mono ?_); rintro e w1 ⟨rfl, rfl⟩) | (go_at_call 15; (with_reducible refine (hsh _).mono ?_); rintro e w1 ⟨rfl, rfl⟩))
  refine hcp.mono ?_
  rintro e w2 ⟨xb, vb, rfl, hx2, hb2⟩
  obtain ⟨g, c, rfl, hgD, -, -⟩ := hx2.form
  have HG := Lib.hid hgD
  have hB0 : Bx w.heap.size w2 xb (.slice (some ⟨g, 0, none⟩) 4096 c) (mapP P a 0 2 0 0) := by rw [mapP_zero]; exact hx2.bx
  have HX := Lib.hid hB0
  have HB2 := Lib.hid hb2
  clear hcp hb2 hx2 hB0 hgD hri hpr hsz
  go_wp2_with fail
  go_loopw [16] (fun i wr => ∃ j : Nat, j ≤ n ∧ i = .int .i64 j ∧ Bx w.heap.size wr xb (.slice (some ⟨g, 0, none⟩) 4096 c) (mapP P a j 2 0 0) ∧ Below w.heap.size w wr ∧ usedB P a j = false) (fun i _ => n - (RowKit.intOf i).toNat)
  case atStart => exact ⟨0, Nat.zero_le _, rfl, HX.out, HB2.out, rfl⟩
  case round =>
    obtain ⟨j, hj, rfl, hx, hb, hh⟩ := hrel
    have HBX := Lib.hid hx
    have HBB := Lib.hid hb
    have HHU := Lib.hid hh
    by_cases hlt : j < n
    · obtain ⟨q, hq⟩ : ∃ q : Nat, q = a + j := ⟨_, rfl⟩
      have HQ := Lib.hid hq
      have c0 := hx.c0
      obtain ⟨hpg, ⟨u0, k0⟩, f0, ⟨u1, k1⟩, f1, ⟨u2, k2⟩, f2, ⟨u3, k3⟩, f3⟩ := hx.page rfl (i := q) (by have := HR.out; omega) 2 0 0 0
      have HPG := Lib.hid hpg
      obtain ⟨f4, hpg2⟩ := hpg.put rfl (i := q) (q := 3) (by have := HR.out; omega) (by decide) (u := .int .i64 j) (x := ⟨2, 0, 0, j⟩) (by rw [if_pos rfl]; rfl)
      have f4 := f4 (q * 4 + 3)
      have k4 := (hpg.cells rfl (i := q) (by have := HR.out; omega)).2.2.2
      have c4 := hpg.c0
      rw [if_pos rfl] at k4
      dsimp only at k4
      have HPG2 := Lib.hid hpg2
      clear hpg2
      have hjn : (j : Int) < n := by omega
      have hqe : (a : Int) + j = (q : Int) := by omega
      have hq0 : (0 : Int) ≤ q := by omega
      have hq4 : (q : Int) < 4096 := by have := HR.out; omega
      obtain ⟨gp, cp, hv, hat⟩ := (HP.out.call hb).how
      have ca := (HP.out.call hb).c0
      rw [hv] at ca
      have cq := hat q (by have := HR.out; omega)
      obtain ⟨hh1, hhe⟩ : ∃ z, z = (P q).h := ⟨_, rfl⟩
      rw [← hhe] at cq
      have HSQ : Hid (usedB P a (j + 1) = decide (hh1 ≠ 0)) := by
        show _ = _
        unfold usedB at hh ⊢
        rw [anyB_succ, hh, Bool.false_or, hhe, hqe]
      clear hx hb hpg hq hhe hat hv hh
      by_cases hbig : hh1 = 0
      · subst hbig
        have HHS : Hid (usedB P a (j + 1) = false) := by
          show _ = _
          rw [HSQ.out]; rfl
        go_wp2_with (go_at_call 15; (with_reducible refine (hsh _).mono ?_); rintro e w1 ⟨rfl, rfl⟩)
        go_round
        case rel =>
          refine ⟨j + 1, by omega, rfl, HPG2.out.congr fun i _ => ?_, below_set (below_set (below_set (below_set (below_set HBB.out HG.out _ _) HG.out _ _) HG.out _ _) HG.out _ _) HG.out _ _, HHS.out⟩
          rw [show (((j + 1 : Nat) : Int)) = (j : Int) + 1 by omega, ← mapP_succ, show (q : Int) = (a : Int) + j by have := HQ.out; omega, if_pos (show shr 2 by decide)]
          by_cases e : (i : Int) = a + j
          · rw [if_pos e, if_pos e]
          · rw [if_neg e, if_neg e, if_neg e]
        case measure => simp [RowKit.intOf]; omega
      · have hbn : (hh1 != 0) = true := by simpa using hbig
        have HE2 : Hid (er = 7) := by
          show _ = _
          rw [HER.out, if_pos]
          have h1 := HSQ.out
          rw [decide_eq_true hbig] at h1
          unfold usedB at h1 ⊢
          rw [anyB_true] at h1 ⊢
          obtain ⟨k, hk, h⟩ := h1
          exact ⟨k, by omega, h⟩
        clear k0 f0 k1 f1 k2 f2 k3 f3
        go_wp2
        go_ret
        rw [HE2.out]
        exact DidE.no (by decide) HP.out HBB.out
    · obtain rfl : j = n := by omega
      have hjn : ¬ (j : Int) < j := by omega
      have hbe := become_is (HP.out.call hb) (hx.px (HP.out.ok.map (by decide) (by omega) (by have := HR.out; omega))) HP.out.lw
      have HER1 : Hid (er = if fullB (mapP P a j 2 0 0) = true then 13 else 0) := by
        show _ = _
        rw [HER.out, if_neg (by rw [hh]; decide)]
      unfold Became at hbe
      rw [← HER1.out] at hbe
      clear hx hb hh HX HBX
      go_wp2_with fail
      refine hbe.mono ?_
      rintro e w4 ⟨rfl, hd⟩
      have HD := Lib.hid (hd.pre (B := B) HBB.out)
      clear hd hbe
      go_wp2
      go_ret
      refine ⟨rfl, ?_⟩
      have hd := HD.out
      by_cases e : fullB (mapP P a j 2 0 0) = true
      · rw [if_pos e] at hd
        rw [if_neg (by rw [HER1.out, if_pos e]; decide)]; exact hd
      · rw [if_neg e] at hd
        rw [if_pos (by rw [HER1.out, if_neg e])]; exact hd
set_option maxRecDepth 100000 in
set_option maxHeartbeats 4000000 in
theorem map_2zs (h : Px B w xa v P) {a n : Nat} {o : Int} (ho : 0 < o) (hr : rtI a n 0 = 0) (hin : 1 ≤ a ∧ 1 ≤ n ∧ a + n ≤ 4096) : Calls Tryz.prog 54 #[.pointer (some ⟨xa, 0, none⟩), .int .i64 a, .int .i64 n, .int .i64 2, .int .i64 0, .int .i64 o] w (DidE B w xa P (mapP P a n 2 0 o) (if usedB P a n = true then 7 else if fullB (mapP P a n 2 0 o) = true then 13 else 0)) := by
  have hri := fun w => refRight_any a n 0 (by omega) (by omega) (by omega) (by omega) w
  rw [hr] at hri
  have hpr := fun w => prot_is 0 w
  rw [show prB 0 = true by decide] at hpr
  have hsz := fun w => size_is 2 w
  rw [show szO 2 = 1 by decide] at hsz
  have hsh := fun w => shared_is 2 w
  rw [show decide (shr 2) = true by decide] at hsh
  have ho1 : ¬ o < 0 := by omega
  have ho2 : decide (o < 0) = false := decide_eq_false ho1
  have ho3 : decide (0 < o) = true := decide_eq_true ho
  have HR := Lib.hid hin
  have HP := Lib.hid h
  have n4 : (n : Int) ≤ 4096 := by omega
  have a4 : (a : Int) ≤ 4096 := by omega
  have hcp := copied_is h
  obtain ⟨er, her⟩ : ∃ er : Int, er = if usedB P a n = true then 7 else if fullB (mapP P a n 2 0 o) = true then 13 else 0 := ⟨_, rfl⟩
  rw [← her]
  have HER := Lib.hid her
  clear h hr hin her
  go_enter Tryz.func54, Tryz.ntmps54
  go_wp2_with (first | (go_at_call 58; (with_reducible refine (hri _).mono ?_); rintro e w1 ⟨rfl, rfl⟩) | (go_at_call 80; (with_reducible refine (hpr _).mono ?_); rintro e w1 ⟨rfl, rfl⟩) | (go_at_call 18; (with_reducible refine (hsz _).mono ?_); rintro e w1 ⟨rfl, rfl⟩) | (go_at_call 15; (with_reducible refine (hsh _).mono ?_); rintro e w1 ⟨rfl, rfl⟩))
  refine hcp.mono ?_
  rintro e w2 ⟨xb, vb, rfl, hx2, hb2⟩
  obtain ⟨g, c, rfl, hgD, -, -⟩ := hx2.form
  have HG := Lib.hid hgD
  have hB0 : Bx w.heap.size w2 xb (.slice (some ⟨g, 0, none⟩) 4096 c) (mapP P a 0 2 0 o) := by rw [mapP_zero]; exact hx2.bx
  have HX := Lib.hid hB0
  have HB2 := Lib.hid hb2
  clear hcp hb2 hx2 hB0 hgD hri hpr hsz
  go_wp2_with fail
  go_loopw [16] (fun i wr => ∃ j : Nat, j ≤ n ∧ i = .int .i64 j ∧ Bx w.heap.size wr xb (.slice (some ⟨g, 0, none⟩) 4096 c) (mapP P a j 2 0 o) ∧ Below w.heap.size w wr ∧ usedB P a j = false) (fun i _ => n - (RowKit.intOf i).toNat)
  case atStart => exact ⟨0, Nat.zero_le _, rfl, HX.out, HB2.out, rfl⟩
  case round =>
    obtain ⟨j, hj, rfl, hx, hb, hh⟩ := hrel
    have HBX := Lib.hid hx
    have HBB := Lib.hid hb
    have HHU := Lib.hid hh
    by_cases hlt : j < n
    · obtain ⟨q, hq⟩ : ∃ q : Nat, q = a + j := ⟨_, rfl⟩
      have HQ := Lib.hid hq
      have c0 := hx.c0
      obtain ⟨hpg, ⟨u0, k0⟩, f0, ⟨u1, k1⟩, f1, ⟨u2, k2⟩, f2, ⟨u3, k3⟩, f3⟩ := hx.page rfl (i := q) (by have := HR.out; omega) 2 0 o 0
      have HPG := Lib.hid hpg
      obtain ⟨f4, hpg2⟩ := hpg.put rfl (i := q) (q := 3) (by have := HR.out; omega) (by decide) (u := .int .i64 j) (x := ⟨2, 0, o, j⟩) (by rw [if_pos rfl]; rfl)
      have f4 := f4 (q * 4 + 3)
      have k4 := (hpg.cells rfl (i := q) (by have := HR.out; omega)).2.2.2
      have c4 := hpg.c0
      rw [if_pos rfl] at k4
      dsimp only at k4
      have HPG2 := Lib.hid hpg2
      clear hpg2
      have hjn : (j : Int) < n := by omega
      have hqe : (a : Int) + j = (q : Int) := by omega
      have hq0 : (0 : Int) ≤ q := by omega
      have hq4 : (q : Int) < 4096 := by have := HR.out; omega
      obtain ⟨gp, cp, hv, hat⟩ := (HP.out.call hb).how
      have ca := (HP.out.call hb).c0
      rw [hv] at ca
      have cq := hat q (by have := HR.out; omega)
      obtain ⟨hh1, hhe⟩ : ∃ z, z = (P q).h := ⟨_, rfl⟩
      rw [← hhe] at cq
      have HSQ : Hid (usedB P a (j + 1) = decide (hh1 ≠ 0)) := by
        show _ = _
        unfold usedB at hh ⊢
        rw [anyB_succ, hh, Bool.false_or, hhe, hqe]
      clear hx hb hpg hq hhe hat hv hh
      by_cases hbig : hh1 = 0
      · subst hbig
        have HHS : Hid (usedB P a (j + 1) = false) := by
          show _ = _
          rw [HSQ.out]; rfl
        go_wp2_with (go_at_call 15; (with_reducible refine (hsh _).mono ?_); rintro e w1 ⟨rfl, rfl⟩)
        go_round
        case rel =>
          refine ⟨j + 1, by omega, rfl, HPG2.out.congr fun i _ => ?_, below_set (below_set (below_set (below_set (below_set HBB.out HG.out _ _) HG.out _ _) HG.out _ _) HG.out _ _) HG.out _ _, HHS.out⟩
          rw [show (((j + 1 : Nat) : Int)) = (j : Int) + 1 by omega, ← mapP_succ, show (q : Int) = (a : Int) + j by have := HQ.out; omega, if_pos (show shr 2 by decide)]
          by_cases e : (i : Int) = a + j
          · rw [if_pos e, if_pos e]
          · rw [if_neg e, if_neg e, if_neg e]
        case measure => simp [RowKit.intOf]; omega
      · have hbn : (hh1 != 0) = true := by simpa using hbig
        have HE2 : Hid (er = 7) := by
          show _ = _
          rw [HER.out, if_pos]
          have h1 := HSQ.out
          rw [decide_eq_true hbig] at h1
          unfold usedB at h1 ⊢
          rw [anyB_true] at h1 ⊢
          obtain ⟨k, hk, h⟩ := h1
          exact ⟨k, by omega, h⟩
        clear k0 f0 k1 f1 k2 f2 k3 f3
        go_wp2
        go_ret
        rw [HE2.out]
        exact DidE.no (by decide) HP.out HBB.out
    · obtain rfl : j = n := by omega
      have hjn : ¬ (j : Int) < j := by omega
      have hbe := become_is (HP.out.call hb) (hx.px (HP.out.ok.map (by decide) (by omega) (by have := HR.out; omega))) HP.out.lw
      have HER1 : Hid (er = if fullB (mapP P a j 2 0 o) = true then 13 else 0) := by
        show _ = _
        rw [HER.out, if_neg (by rw [hh]; decide)]
      unfold Became at hbe
      rw [← HER1.out] at hbe
      clear hx hb hh HX HBX
      go_wp2_with fail
      refine hbe.mono ?_
      rintro e w4 ⟨rfl, hd⟩
      have HD := Lib.hid (hd.pre (B := B) HBB.out)
      clear hd hbe
      go_wp2
      go_ret
      refine ⟨rfl, ?_⟩
      have hd := HD.out
      by_cases e : fullB (mapP P a j 2 0 o) = true
      · rw [if_pos e] at hd
        rw [if_neg (by rw [HER1.out, if_pos e]; decide)]; exact hd
      · rw [if_neg e] at hd
        rw [if_pos (by rw [HER1.out, if_neg e])]; exact hd
set_option maxRecDepth 100000 in
set_option maxHeartbeats 4000000 in
theorem map_2sz (h : Px B w xa v P) {a n : Nat} {p : Int} (hp : prB p = true) (hp0 : p ≠ 0) (hr : rtI a n 0 = 0) (hin : 1 ≤ a ∧ 1 ≤ n ∧ a + n ≤ 4096) : Calls Tryz.prog 54 #[.pointer (some ⟨xa, 0, none⟩), .int .i64 a, .int .i64 n, .int .i64 2, .int .i64 p, .int .i64 0] w (DidE B w xa P (mapP P a n 2 p 0) (if usedB P a n = true then 7 else if fullB (mapP P a n 2 p 0) = true then 13 else 0)) := by
  have hri := fun w => refRight_any a n 0 (by omega) (by omega) (by omega) (by omega) w
  rw [hr] at hri
  have hpr := fun w => prot_is p w
  rw [hp] at hpr
  have hsz := fun w => size_is 2 w
  rw [show szO 2 = 1 by decide] at hsz
  have hsh := fun w => shared_is 2 w
  rw [show decide (shr 2) = true by decide] at hsh
  have p0 : (p == 0) = false := by simpa using hp0
  have HR := Lib.hid hin
  have HP := Lib.hid h
  have n4 : (n : Int) ≤ 4096 := by omega
  have a4 : (a : Int) ≤ 4096 := by omega
  have hcp := copied_is h
  obtain ⟨er, her⟩ : ∃ er : Int, er = if usedB P a n = true then 7 else if fullB (mapP P a n 2 p 0) = true then 13 else 0 := ⟨_, rfl⟩
  rw [← her]
  have HER := Lib.hid her
  clear h hr hin her hp hp0
  go_enter Tryz.func54, Tryz.ntmps54
  go_wp2_with (first | (go_at_call 58; (with_reducible refine (hri _).mono ?_); rintro e w1 ⟨rfl, rfl⟩) | (go_at_call 80; (with_reducible refine (hpr _).mono ?_); rintro e w1 ⟨rfl, rfl⟩) | (go_at_call 18; (with_reducible refine (hsz _).mono ?_); rintro e w1 ⟨rfl, rfl⟩) | (go_at_call 15; (with_reducible refine (hsh _).mono ?_); rintro e w1 ⟨rfl, rfl⟩))
  refine hcp.mono ?_
  rintro e w2 ⟨xb, vb, rfl, hx2, hb2⟩
  obtain ⟨g, c, rfl, hgD, -, -⟩ := hx2.form
  have HG := Lib.hid hgD
  have hB0 : Bx w.heap.size w2 xb (.slice (some ⟨g, 0, none⟩) 4096 c) (mapP P a 0 2 p 0) := by rw [mapP_zero]; exact hx2.bx
  have HX := Lib.hid hB0
  have HB2 := Lib.hid hb2
  clear hcp hb2 hx2 hB0 hgD hri hpr hsz
  go_wp2_with fail
  go_loopw [16] (fun i wr => ∃ j : Nat, j ≤ n ∧ i = .int .i64 j ∧ Bx w.heap.size wr xb (.slice (some ⟨g, 0, none⟩) 4096 c) (mapP P a j 2 p 0) ∧ Below w.heap.size w wr ∧ usedB P a j = false) (fun i _ => n - (RowKit.intOf i).toNat)
  case atStart => exact ⟨0, Nat.zero_le _, rfl, HX.out, HB2.out, rfl⟩
  case round =>
    obtain ⟨j, hj, rfl, hx, hb, hh⟩ := hrel
    have HBX := Lib.hid hx
    have HBB := Lib.hid hb
    have HHU := Lib.hid hh
    by_cases hlt : j < n
    · obtain ⟨q, hq⟩ : ∃ q : Nat, q = a + j := ⟨_, rfl⟩
      have HQ := Lib.hid hq
      have c0 := hx.c0
      obtain ⟨hpg, ⟨u0, k0⟩, f0, ⟨u1, k1⟩, f1, ⟨u2, k2⟩, f2, ⟨u3, k3⟩, f3⟩ := hx.page rfl (i := q) (by have := HR.out; omega) 2 p 0 0
      have HPG := Lib.hid hpg
      obtain ⟨f4, hpg2⟩ := hpg.put rfl (i := q) (q := 3) (by have := HR.out; omega) (by decide) (u := .int .i64 j) (x := ⟨2, p, 0, j⟩) (by rw [if_pos rfl]; rfl)
      have f4 := f4 (q * 4 + 3)
      have k4 := (hpg.cells rfl (i := q) (by have := HR.out; omega)).2.2.2
      have c4 := hpg.c0
      rw [if_pos rfl] at k4
      dsimp only at k4
      have HPG2 := Lib.hid hpg2
      clear hpg2
      have hjn : (j : Int) < n := by omega
      have hqe : (a : Int) + j = (q : Int) := by omega
      have hq0 : (0 : Int) ≤ q := by omega
      have hq4 : (q : Int) < 4096 := by have := HR.out; omega
      obtain ⟨gp, cp, hv, hat⟩ := (HP.out.call hb).how
      have ca := (HP.out.call hb).c0
      rw [hv] at ca
      have cq := hat q (by have := HR.out; omega)
      obtain ⟨hh1, hhe⟩ : ∃ z, z = (P q).h := ⟨_, rfl⟩
      rw [← hhe] at cq
      have HSQ : Hid (usedB P a (j + 1) = decide (hh1 ≠ 0)) := by
        show _ = _
        unfold usedB at hh ⊢
        rw [anyB_succ, hh, Bool.false_or, hhe, hqe]
      clear hx hb hpg hq hhe hat hv hh
      by_cases hbig : hh1 = 0
      · subst hbig
        have HHS : Hid (usedB P a (j + 1) = false) := by
          show _ = _
          rw [HSQ.out]; rfl
        go_wp2_with (go_at_call 15; (with_reducible refine (hsh _).mono ?_); rintro e w1 ⟨rfl, rfl⟩)
        go_round
        case rel =>
          refine ⟨j + 1, by omega, rfl, HPG2.out.congr fun i _ => ?_, below_set (below_set (below_set (below_set (below_set HBB.out HG.out _ _) HG.out _ _) HG.out _ _) HG.out _ _) HG.out _ _, HHS.out⟩
          rw [show (((j + 1 : Nat) : Int)) = (j : Int) + 1 by omega, ← mapP_succ, show (q : Int) = (a : Int) + j by have := HQ.out; omega, if_pos (show shr 2 by decide)]
          by_cases e : (i : Int) = a + j
          · rw [if_pos e, if_pos e]
          · rw [if_neg e, if_neg e, if_neg e]
        case measure => simp [RowKit.intOf]; omega
      · have hbn : (hh1 != 0) = true := by simpa using hbig
        have HE2 : Hid (er = 7) := by
          show _ = _
          rw [HER.out, if_pos]
          have h1 := HSQ.out
          rw [decide_eq_true hbig] at h1
          unfold usedB at h1 ⊢
          rw [anyB_true] at h1 ⊢
          obtain ⟨k, hk, h⟩ := h1
          exact ⟨k, by omega, h⟩
        clear k0 f0 k1 f1 k2 f2 k3 f3
        go_wp2
        go_ret
        rw [HE2.out]
        exact DidE.no (by decide) HP.out HBB.out
    · obtain rfl : j = n := by omega
      have hjn : ¬ (j : Int) < j := by omega
      have hbe := become_is (HP.out.call hb) (hx.px (HP.out.ok.map (by decide) (by omega) (by have := HR.out; omega))) HP.out.lw
      have HER1 : Hid (er = if fullB (mapP P a j 2 p 0) = true then 13 else 0) := by
        show _ = _
        rw [HER.out, if_neg (by rw [hh]; decide)]
      unfold Became at hbe
      rw [← HER1.out] at hbe
      clear hx hb hh HX HBX
      go_wp2_with fail
      refine hbe.mono ?_
      rintro e w4 ⟨rfl, hd⟩
      have HD := Lib.hid (hd.pre (B := B) HBB.out)
      clear hd hbe
      go_wp2
      go_ret
      refine ⟨rfl, ?_⟩
      have hd := HD.out
      by_cases e : fullB (mapP P a j 2 p 0) = true
      · rw [if_pos e] at hd
        rw [if_neg (by rw [HER1.out, if_pos e]; decide)]; exact hd
      · rw [if_neg e] at hd
        rw [if_pos (by rw [HER1.out, if_neg e])]; exact hd
set_option maxRecDepth 100000 in
set_option maxHeartbeats 4000000 in
theorem map_2ss (h : Px B w xa v P) {a n : Nat} {p : Int} (hp : prB p = true) (hp0 : p ≠ 0) {o : Int} (ho : 0 < o) (hr : rtI a n 0 = 0) (hin : 1 ≤ a ∧ 1 ≤ n ∧ a + n ≤ 4096) : Calls Tryz.prog 54 #[.pointer (some ⟨xa, 0, none⟩), .int .i64 a, .int .i64 n, .int .i64 2, .int .i64 p, .int .i64 o] w (DidE B w xa P (mapP P a n 2 p o) (if usedB P a n = true then 7 else if fullB (mapP P a n 2 p o) = true then 13 else 0)) := by
  have hri := fun w => refRight_any a n 0 (by omega) (by omega) (by omega) (by omega) w
  rw [hr] at hri
  have hpr := fun w => prot_is p w
  rw [hp] at hpr
  have hsz := fun w => size_is 2 w
  rw [show szO 2 = 1 by decide] at hsz
  have hsh := fun w => shared_is 2 w
  rw [show decide (shr 2) = true by decide] at hsh
  have p0 : (p == 0) = false := by simpa using hp0
  have ho1 : ¬ o < 0 := by omega
  have ho2 : decide (o < 0) = false := decide_eq_false ho1
  have ho3 : decide (0 < o) = true := decide_eq_true ho
  have HR := Lib.hid hin
  have HP := Lib.hid h
  have n4 : (n : Int) ≤ 4096 := by omega
  have a4 : (a : Int) ≤ 4096 := by omega
  have hcp := copied_is h
  obtain ⟨er, her⟩ : ∃ er : Int, er = if usedB P a n = true then 7 else if fullB (mapP P a n 2 p o) = true then 13 else 0 := ⟨_, rfl⟩
  rw [← her]
  have HER := Lib.hid her
  clear h hr hin her hp hp0
  go_enter Tryz.func54, Tryz.ntmps54
  go_wp2_with (first | (go_at_call 58; (with_reducible refine (hri _).mono ?_); rintro e w1 ⟨rfl, rfl⟩) | (go_at_call 80; (with_reducible refine (hpr _).mono ?_); rintro e w1 ⟨rfl, rfl⟩) | (go_at_call 18; (with_reducible refine (hsz _).mono ?_); rintro e w1 ⟨rfl, rfl⟩) | (go_at_call 15; (with_reducible refine (hsh _).mono ?_); rintro e w1 ⟨rfl, rfl⟩))
  refine hcp.mono ?_
  rintro e w2 ⟨xb, vb, rfl, hx2, hb2⟩
  obtain ⟨g, c, rfl, hgD, -, -⟩ := hx2.form
  have HG := Lib.hid hgD
  have hB0 : Bx w.heap.size w2 xb (.slice (some ⟨g, 0, none⟩) 4096 c) (mapP P a 0 2 p o) := by rw [mapP_zero]; exact hx2.bx
  have HX := Lib.hid hB0
  have HB2 := Lib.hid hb2
  clear hcp hb2 hx2 hB0 hgD hri hpr hsz
  go_wp2_with fail
  go_loopw [16] (fun i wr => ∃ j : Nat, j ≤ n ∧ i = .int .i64 j ∧ Bx w.heap.size wr xb (.slice (some ⟨g, 0, none⟩) 4096 c) (mapP P a j 2 p o) ∧ Below w.heap.size w wr ∧ usedB P a j = false) (fun i _ => n - (RowKit.intOf i).toNat)
  case atStart => exact ⟨0, Nat.zero_le _, rfl, HX.out, HB2.out, rfl⟩
  case round =>
    obtain ⟨j, hj, rfl, hx, hb, hh⟩ := hrel
    have HBX := Lib.hid hx
    have HBB := Lib.hid hb
    have HHU := Lib.hid hh
    by_cases hlt : j < n
    · obtain ⟨q, hq⟩ : ∃ q : Nat, q = a + j := ⟨_, rfl⟩
      have HQ := Lib.hid hq
      have c0 := hx.c0
      obtain ⟨hpg, ⟨u0, k0⟩, f0, ⟨u1, k1⟩, f1, ⟨u2, k2⟩, f2, ⟨u3, k3⟩, f3⟩ := hx.page rfl (i := q) (by have := HR.out; omega) 2 p o 0
      have HPG := Lib.hid hpg
      obtain ⟨f4, hpg2⟩ := hpg.put rfl (i := q) (q := 3) (by have := HR.out; omega) (by decide) (u := .int .i64 j) (x := ⟨2, p, o, j⟩) (by rw [if_pos rfl]; rfl)
      have f4 := f4 (q * 4 + 3)
      have k4 := (hpg.cells rfl (i := q) (by have := HR.out; omega)).2.2.2
      have c4 := hpg.c0
      rw [if_pos rfl] at k4
      dsimp only at k4
      have HPG2 := Lib.hid hpg2
      clear hpg2
      have hjn : (j : Int) < n := by omega
      have hqe : (a : Int) + j = (q : Int) := by omega
      have hq0 : (0 : Int) ≤ q := by omega
      have hq4 : (q : Int) < 4096 := by have := HR.out; omega
      obtain ⟨gp, cp, hv, hat⟩ := (HP.out.call hb).how
      have ca := (HP.out.call hb).c0
      rw [hv] at ca
      have cq := hat q (by have := HR.out; omega)
      obtain ⟨hh1, hhe⟩ : ∃ z, z = (P q).h := ⟨_, rfl⟩
      rw [← hhe] at cq
      have HSQ : Hid (usedB P a (j + 1) = decide (hh1 ≠ 0)) := by
        show _ = _
        unfold usedB at hh ⊢
        rw [anyB_succ, hh, Bool.false_or, hhe, hqe]
      clear hx hb hpg hq hhe hat hv hh
      by_cases hbig : hh1 = 0
      · subst hbig
        have HHS : Hid (usedB P a (j + 1) = false) := by
          show _ = _
          rw [HSQ.out]; rfl
        go_wp2_with (go_at_call 15; (with_reducible refine (hsh _).mono ?_); rintro e w1 ⟨rfl, rfl⟩)
        go_round
        case rel =>
          refine ⟨j + 1, by omega, rfl, HPG2.out.congr fun i _ => ?_, below_set (below_set (below_set (below_set (below_set HBB.out HG.out _ _) HG.out _ _) HG.out _ _) HG.out _ _) HG.out _ _, HHS.out⟩
          rw [show (((j + 1 : Nat) : Int)) = (j : Int) + 1 by omega, ← mapP_succ, show (q : Int) = (a : Int) + j by have := HQ.out; omega, if_pos (show shr 2 by decide)]
          by_cases e : (i : Int) = a + j
          · rw [if_pos e, if_pos e]
          · rw [if_neg e, if_neg e, if_neg e]
        case measure => simp [RowKit.intOf]; omega
      · have hbn : (hh1 != 0) = true := by simpa using hbig
        have HE2 : Hid (er = 7) := by
          show _ = _
          rw [HER.out, if_pos]
          have h1 := HSQ.out
          rw [decide_eq_true hbig] at h1
          unfold usedB at h1 ⊢
          rw [anyB_true] at h1 ⊢
          obtain ⟨k, hk, h⟩ := h1
          exact ⟨k, by omega, h⟩
        clear k0 f0 k1 f1 k2 f2 k3 f3
        go_wp2
        go_ret
        rw [HE2.out]
        exact DidE.no (by decide) HP.out HBB.out
    · obtain rfl : j = n := by omega
      have hjn : ¬ (j : Int) < j := by omega
      have hbe := become_is (HP.out.call hb) (hx.px (HP.out.ok.map (by decide) (by omega) (by have := HR.out; omega))) HP.out.lw
      have HER1 : Hid (er = if fullB (mapP P a j 2 p o) = true then 13 else 0) := by
        show _ = _
        rw [HER.out, if_neg (by rw [hh]; decide)]
      unfold Became at hbe
      rw [← HER1.out] at hbe
      clear hx hb hh HX HBX
      go_wp2_with fail
      refine hbe.mono ?_
      rintro e w4 ⟨rfl, hd⟩
      have HD := Lib.hid (hd.pre (B := B) HBB.out)
      clear hd hbe
      go_wp2
      go_ret
      refine ⟨rfl, ?_⟩
      have hd := HD.out
      by_cases e : fullB (mapP P a j 2 p o) = true
      · rw [if_pos e] at hd
        rw [if_neg (by rw [HER1.out, if_pos e]; decide)]; exact hd
      · rw [if_neg e] at hd
        rw [if_pos (by rw [HER1.out, if_neg e])]; exact hd
set_option maxRecDepth 100000 in
set_option maxHeartbeats 4000000 in
theorem map_3sz (h : Px B w xa v P) {a n : Nat} {p : Int} (hp : prB p = true) (hp0 : p ≠ 0) (hr : rtI a n 3 = 0) (hin : 1 ≤ a ∧ 1 ≤ n ∧ a + n ≤ 4096) : Calls Tryz.prog 54 #[.pointer (some ⟨xa, 0, none⟩), .int .i64 a, .int .i64 n, .int .i64 3, .int .i64 p, .int .i64 0] w (DidE B w xa P (mapP P a n 3 p 0) (if usedB P a n = true then 7 else if fullB (mapP P a n 3 p 0) = true then 13 else 0)) := by
  have hri := fun w => refRight_any a n 3 (by omega) (by omega) (by omega) (by omega) w
  rw [hr] at hri
  have hpr := fun w => prot_is p w
  rw [hp] at hpr
  have hsz := fun w => size_is 3 w
  rw [show szO 3 = 8 by decide] at hsz
  have hsh := fun w => shared_is 3 w
  rw [show decide (shr 3) = false by decide] at hsh
  have p0 : (p == 0) = false := by simpa using hp0
  have HR := Lib.hid hin
  have HP := Lib.hid h
  have n4 : (n : Int) ≤ 4096 := by omega
  have a4 : (a : Int) ≤ 4096 := by omega
  have hcp := copied_is h
  obtain ⟨er, her⟩ : ∃ er : Int, er = if usedB P a n = true then 7 else if fullB (mapP P a n 3 p 0) = true then 13 else 0 := ⟨_, rfl⟩
  rw [← her]
  have HER := Lib.hid her
  clear h hr hin her hp hp0
  go_enter Tryz.func54, Tryz.ntmps54
  go_wp2_with (first | (go_at_call 58; (with_reducible refine (hri _).mono ?_); rintro e w1 ⟨rfl, rfl⟩) | (go_at_call 80; (with_reducible refine (hpr _).mono ?_); rintro e w1 ⟨rfl, rfl⟩) | (go_at_call 18; (with_reducible refine (hsz _).mono ?_); rintro e w1 ⟨rfl, rfl⟩) | (go_at_call 15; (with_reducible refine (hsh _).mono ?_); rintro e w1 ⟨rfl, rfl⟩))
  refine hcp.mono ?_
  rintro e w2 ⟨xb, vb, rfl, hx2, hb2⟩
  obtain ⟨g, c, rfl, hgD, -, -⟩ := hx2.form
  have HG := Lib.hid hgD
  have hB0 : Bx w.heap.size w2 xb (.slice (some ⟨g, 0, none⟩) 4096 c) (mapP P a 0 3 p 0) := by rw [mapP_zero]; exact hx2.bx
  have HX := Lib.hid hB0
  have HB2 := Lib.hid hb2
  clear hcp hb2 hx2 hB0 hgD hri hpr hsz
  go_wp2_with fail
  go_loopw [16] (fun i wr => ∃ j : Nat, j ≤ n ∧ i = .int .i64 j ∧ Bx w.heap.size wr xb (.slice (some ⟨g, 0, none⟩) 4096 c) (mapP P a j 3 p 0) ∧ Below w.heap.size w wr ∧ usedB P a j = false) (fun i _ => n - (RowKit.intOf i).toNat)
  case atStart => exact ⟨0, Nat.zero_le _, rfl, HX.out, HB2.out, rfl⟩
  case round =>
    obtain ⟨j, hj, rfl, hx, hb, hh⟩ := hrel
    have HBX := Lib.hid hx
    have HBB := Lib.hid hb
    have HHU := Lib.hid hh
    by_cases hlt : j < n
    · obtain ⟨q, hq⟩ : ∃ q : Nat, q = a + j := ⟨_, rfl⟩
      have HQ := Lib.hid hq
      have c0 := hx.c0
      obtain ⟨hpg, ⟨u0, k0⟩, f0, ⟨u1, k1⟩, f1, ⟨u2, k2⟩, f2, ⟨u3, k3⟩, f3⟩ := hx.page rfl (i := q) (by have := HR.out; omega) 3 p 0 0
      have HPG := Lib.hid hpg
      have hjn : (j : Int) < n := by omega
      have hqe : (a : Int) + j = (q : Int) := by omega
      have hq0 : (0 : Int) ≤ q := by omega
      have hq4 : (q : Int) < 4096 := by have := HR.out; omega
      obtain ⟨gp, cp, hv, hat⟩ := (HP.out.call hb).how
      have ca := (HP.out.call hb).c0
      rw [hv] at ca
      have cq := hat q (by have := HR.out; omega)
      obtain ⟨hh1, hhe⟩ : ∃ z, z = (P q).h := ⟨_, rfl⟩
      rw [← hhe] at cq
      have HSQ : Hid (usedB P a (j + 1) = decide (hh1 ≠ 0)) := by
        show _ = _
        unfold usedB at hh ⊢
        rw [anyB_succ, hh, Bool.false_or, hhe, hqe]
      clear hx hb hpg hq hhe hat hv hh
      by_cases hbig : hh1 = 0
      · subst hbig
        have HHS : Hid (usedB P a (j + 1) = false) := by
          show _ = _
          rw [HSQ.out]; rfl
        go_wp2_with (go_at_call 15; (with_reducible refine (hsh _).mono ?_); rintro e w1 ⟨rfl, rfl⟩)
        go_round
        case rel =>
          refine ⟨j + 1, by omega, rfl, HPG.out.congr fun i _ => ?_, below_set (below_set (below_set (below_set HBB.out HG.out _ _) HG.out _ _) HG.out _ _) HG.out _ _, HHS.out⟩
          rw [show (((j + 1 : Nat) : Int)) = (j : Int) + 1 by omega, ← mapP_succ, show (q : Int) = (a : Int) + j by have := HQ.out; omega, if_neg (show ¬ shr 3 by decide)]
        case measure => simp [RowKit.intOf]; omega
      · have hbn : (hh1 != 0) = true := by simpa using hbig
        have HE2 : Hid (er = 7) := by
          show _ = _
          rw [HER.out, if_pos]
          have h1 := HSQ.out
          rw [decide_eq_true hbig] at h1
          unfold usedB at h1 ⊢
          rw [anyB_true] at h1 ⊢
          obtain ⟨k, hk, h⟩ := h1
          exact ⟨k, by omega, h⟩
        clear k0 f0 k1 f1 k2 f2 k3 f3
        go_wp2
        go_ret
        rw [HE2.out]
        exact DidE.no (by decide) HP.out HBB.out
    · obtain rfl : j = n := by omega
      have hjn : ¬ (j : Int) < j := by omega
      have hbe := become_is (HP.out.call hb) (hx.px (HP.out.ok.map (by decide) (by omega) (by have := HR.out; omega))) HP.out.lw
      have HER1 : Hid (er = if fullB (mapP P a j 3 p 0) = true then 13 else 0) := by
        show _ = _
        rw [HER.out, if_neg (by rw [hh]; decide)]
      unfold Became at hbe
      rw [← HER1.out] at hbe
      clear hx hb hh HX HBX
      go_wp2_with fail
      refine hbe.mono ?_
      rintro e w4 ⟨rfl, hd⟩
      have HD := Lib.hid (hd.pre (B := B) HBB.out)
      clear hd hbe
      go_wp2
      go_ret
      refine ⟨rfl, ?_⟩
      have hd := HD.out
      by_cases e : fullB (mapP P a j 3 p 0) = true
      · rw [if_pos e] at hd
        rw [if_neg (by rw [HER1.out, if_pos e]; decide)]; exact hd
      · rw [if_neg e] at hd
        rw [if_pos (by rw [HER1.out, if_neg e])]; exact hd
set_option maxRecDepth 100000 in
set_option maxHeartbeats 4000000 in
theorem map_4sz (h : Px B w xa v P) {a n : Nat} {p : Int} (hp : prB p = true) (hp0 : p ≠ 0) (hr : rtI a n 6 = 0) (hin : 1 ≤ a ∧ 1 ≤ n ∧ a + n ≤ 4096) : Calls Tryz.prog 54 #[.pointer (some ⟨xa, 0, none⟩), .int .i64 a, .int .i64 n, .int .i64 4, .int .i64 p, .int .i64 0] w (DidE B w xa P (mapP P a n 4 p 0) (if usedB P a n = true then 7 else if fullB (mapP P a n 4 p 0) = true then 13 else 0)) := by
  have hri := fun w => refRight_any a n 6 (by omega) (by omega) (by omega) (by omega) w
  rw [hr] at hri
  have hpr := fun w => prot_is p w
  rw [hp] at hpr
  have hsz := fun w => size_is 4 w
  rw [show szO 4 = 64 by decide] at hsz
  have hsh := fun w => shared_is 4 w
  rw [show decide (shr 4) = false by decide] at hsh
  have p0 : (p == 0) = false := by simpa using hp0
  have HR := Lib.hid hin
  have HP := Lib.hid h
  have n4 : (n : Int) ≤ 4096 := by omega
  have a4 : (a : Int) ≤ 4096 := by omega
  have hcp := copied_is h
  obtain ⟨er, her⟩ : ∃ er : Int, er = if usedB P a n = true then 7 else if fullB (mapP P a n 4 p 0) = true then 13 else 0 := ⟨_, rfl⟩
  rw [← her]
  have HER := Lib.hid her
  clear h hr hin her hp hp0
  go_enter Tryz.func54, Tryz.ntmps54
  go_wp2_with (first | (go_at_call 58; (with_reducible refine (hri _).mono ?_); rintro e w1 ⟨rfl, rfl⟩) | (go_at_call 80; (with_reducible refine (hpr _).mono ?_); rintro e w1 ⟨rfl, rfl⟩) | (go_at_call 18; (with_reducible refine (hsz _).mono ?_); rintro e w1 ⟨rfl, rfl⟩) | (go_at_call 15; (with_reducible refine (hsh _).mono ?_); rintro e w1 ⟨rfl, rfl⟩))
  refine hcp.mono ?_
  rintro e w2 ⟨xb, vb, rfl, hx2, hb2⟩
  obtain ⟨g, c, rfl, hgD, -, -⟩ := hx2.form
  have HG := Lib.hid hgD
  have hB0 : Bx w.heap.size w2 xb (.slice (some ⟨g, 0, none⟩) 4096 c) (mapP P a 0 4 p 0) := by rw [mapP_zero]; exact hx2.bx
  have HX := Lib.hid hB0
  have HB2 := Lib.hid hb2
  clear hcp hb2 hx2 hB0 hgD hri hpr hsz
  go_wp2_with fail
  go_loopw [16] (fun i wr => ∃ j : Nat, j ≤ n ∧ i = .int .i64 j ∧ Bx w.heap.size wr xb (.slice (some ⟨g, 0, none⟩) 4096 c) (mapP P a j 4 p 0) ∧ Below w.heap.size w wr ∧ usedB P a j = false) (fun i _ => n - (RowKit.intOf i).toNat)
  case atStart => exact ⟨0, Nat.zero_le _, rfl, HX.out, HB2.out, rfl⟩
  case round =>
    obtain ⟨j, hj, rfl, hx, hb, hh⟩ := hrel
    have HBX := Lib.hid hx
    have HBB := Lib.hid hb
    have HHU := Lib.hid hh
    by_cases hlt : j < n
    · obtain ⟨q, hq⟩ : ∃ q : Nat, q = a + j := ⟨_, rfl⟩
      have HQ := Lib.hid hq
      have c0 := hx.c0
      obtain ⟨hpg, ⟨u0, k0⟩, f0, ⟨u1, k1⟩, f1, ⟨u2, k2⟩, f2, ⟨u3, k3⟩, f3⟩ := hx.page rfl (i := q) (by have := HR.out; omega) 4 p 0 0
      have HPG := Lib.hid hpg
      have hjn : (j : Int) < n := by omega
      have hqe : (a : Int) + j = (q : Int) := by omega
      have hq0 : (0 : Int) ≤ q := by omega
      have hq4 : (q : Int) < 4096 := by have := HR.out; omega
      obtain ⟨gp, cp, hv, hat⟩ := (HP.out.call hb).how
      have ca := (HP.out.call hb).c0
      rw [hv] at ca
      have cq := hat q (by have := HR.out; omega)
      obtain ⟨hh1, hhe⟩ : ∃ z, z = (P q).h := ⟨_, rfl⟩
      rw [← hhe] at cq
      have HSQ : Hid (usedB P a (j + 1) = decide (hh1 ≠ 0)) := by
        show _ = _
        unfold usedB at hh ⊢
        rw [anyB_succ, hh, Bool.false_or, hhe, hqe]
      clear hx hb hpg hq hhe hat hv hh
      by_cases hbig : hh1 = 0
      · subst hbig
        have HHS : Hid (usedB P a (j + 1) = false) := by
          show _ = _
          rw [HSQ.out]; rfl
        go_wp2_with (go_at_call 15; (with_reducible refine (hsh _).mono ?_); rintro e w1 ⟨rfl, rfl⟩)
        go_round
        case rel =>
          refine ⟨j + 1, by omega, rfl, HPG.out.congr fun i _ => ?_, below_set (below_set (below_set (below_set HBB.out HG.out _ _) HG.out _ _) HG.out _ _) HG.out _ _, HHS.out⟩
          rw [show (((j + 1 : Nat) : Int)) = (j : Int) + 1 by omega, ← mapP_succ, show (q : Int) = (a : Int) + j by have := HQ.out; omega, if_neg (show ¬ shr 4 by decide)]
        case measure => simp [RowKit.intOf]; omega
      · have hbn : (hh1 != 0) = true := by simpa using hbig
        have HE2 : Hid (er = 7) := by
          show _ = _
          rw [HER.out, if_pos]
          have h1 := HSQ.out
          rw [decide_eq_true hbig] at h1
          unfold usedB at h1 ⊢
          rw [anyB_true] at h1 ⊢
          obtain ⟨k, hk, h⟩ := h1
          exact ⟨k, by omega, h⟩
        clear k0 f0 k1 f1 k2 f2 k3 f3
        go_wp2
        go_ret
        rw [HE2.out]
        exact DidE.no (by decide) HP.out HBB.out
    · obtain rfl : j = n := by omega
      have hjn : ¬ (j : Int) < j := by omega
      have hbe := become_is (HP.out.call hb) (hx.px (HP.out.ok.map (by decide) (by omega) (by have := HR.out; omega))) HP.out.lw
      have HER1 : Hid (er = if fullB (mapP P a j 4 p 0) = true then 13 else 0) := by
        show _ = _
        rw [HER.out, if_neg (by rw [hh]; decide)]
      unfold Became at hbe
      rw [← HER1.out] at hbe
      clear hx hb hh HX HBX
      go_wp2_with fail
      refine hbe.mono ?_
      rintro e w4 ⟨rfl, hd⟩
      have HD := Lib.hid (hd.pre (B := B) HBB.out)
      clear hd hbe
      go_wp2
      go_ret
      refine ⟨rfl, ?_⟩
      have hd := HD.out
      by_cases e : fullB (mapP P a j 4 p 0) = true
      · rw [if_pos e] at hd
        rw [if_neg (by rw [HER1.out, if_pos e]; decide)]; exact hd
      · rw [if_neg e] at hd
        rw [if_pos (by rw [HER1.out, if_neg e])]; exact hd
set_option maxRecDepth 100000 in
set_option maxHeartbeats 4000000 in
theorem map_5sz (h : Px B w xa v P) {a n : Nat} {p : Int} (hp : prB p = true) (hp0 : p ≠ 0) (hr : rtI a n 3 = 0) (hin : 1 ≤ a ∧ 1 ≤ n ∧ a + n ≤ 4096) : Calls Tryz.prog 54 #[.pointer (some ⟨xa, 0, none⟩), .int .i64 a, .int .i64 n, .int .i64 5, .int .i64 p, .int .i64 0] w (DidE B w xa P (mapP P a n 5 p 0) (if usedB P a n = true then 7 else if fullB (mapP P a n 5 p 0) = true then 13 else 0)) := by
  have hri := fun w => refRight_any a n 3 (by omega) (by omega) (by omega) (by omega) w
  rw [hr] at hri
  have hpr := fun w => prot_is p w
  rw [hp] at hpr
  have hsz := fun w => size_is 5 w
  rw [show szO 5 = 8 by decide] at hsz
  have hsh := fun w => shared_is 5 w
  rw [show decide (shr 5) = true by decide] at hsh
  have p0 : (p == 0) = false := by simpa using hp0
  have HR := Lib.hid hin
  have HP := Lib.hid h
  have n4 : (n : Int) ≤ 4096 := by omega
  have a4 : (a : Int) ≤ 4096 := by omega
  have hcp := copied_is h
  obtain ⟨er, her⟩ : ∃ er : Int, er = if usedB P a n = true then 7 else if fullB (mapP P a n 5 p 0) = true then 13 else 0 := ⟨_, rfl⟩
  rw [← her]
  have HER := Lib.hid her
  clear h hr hin her hp hp0
  go_enter Tryz.func54, Tryz.ntmps54
  go_wp2_with (first | (go_at_call 58; (with_reducible refine (hri _).mono ?_); rintro e w1 ⟨rfl, rfl⟩) | (go_at_call 80; (with_reducible refine (hpr _).mono ?_); rintro e w1 ⟨rfl, rfl⟩) | (go_at_call 18; (with_reducible refine (hsz _).mono ?_); rintro e w1 ⟨rfl, rfl⟩) | (go_at_call 15; (with_reducible refine (hsh _).mono ?_); rintro e w1 ⟨rfl, rfl⟩))
  refine hcp.mono ?_
  rintro e w2 ⟨xb, vb, rfl, hx2, hb2⟩
  obtain ⟨g, c, rfl, hgD, -, -⟩ := hx2.form
  have HG := Lib.hid hgD
  have hB0 : Bx w.heap.size w2 xb (.slice (some ⟨g, 0, none⟩) 4096 c) (mapP P a 0 5 p 0) := by rw [mapP_zero]; exact hx2.bx
  have HX := Lib.hid hB0
  have HB2 := Lib.hid hb2
  clear hcp hb2 hx2 hB0 hgD hri hpr hsz
  go_wp2_with fail
  go_loopw [16] (fun i wr => ∃ j : Nat, j ≤ n ∧ i = .int .i64 j ∧ Bx w.heap.size wr xb (.slice (some ⟨g, 0, none⟩) 4096 c) (mapP P a j 5 p 0) ∧ Below w.heap.size w wr ∧ usedB P a j = false) (fun i _ => n - (RowKit.intOf i).toNat)
  case atStart => exact ⟨0, Nat.zero_le _, rfl, HX.out, HB2.out, rfl⟩
  case round =>
    obtain ⟨j, hj, rfl, hx, hb, hh⟩ := hrel
    have HBX := Lib.hid hx
    have HBB := Lib.hid hb
    have HHU := Lib.hid hh
    by_cases hlt : j < n
    · obtain ⟨q, hq⟩ : ∃ q : Nat, q = a + j := ⟨_, rfl⟩
      have HQ := Lib.hid hq
      have c0 := hx.c0
      obtain ⟨hpg, ⟨u0, k0⟩, f0, ⟨u1, k1⟩, f1, ⟨u2, k2⟩, f2, ⟨u3, k3⟩, f3⟩ := hx.page rfl (i := q) (by have := HR.out; omega) 5 p 0 0
      have HPG := Lib.hid hpg
      obtain ⟨f4, hpg2⟩ := hpg.put rfl (i := q) (q := 3) (by have := HR.out; omega) (by decide) (u := .int .i64 j) (x := ⟨5, p, 0, j⟩) (by rw [if_pos rfl]; rfl)
      have f4 := f4 (q * 4 + 3)
      have k4 := (hpg.cells rfl (i := q) (by have := HR.out; omega)).2.2.2
      have c4 := hpg.c0
      rw [if_pos rfl] at k4
      dsimp only at k4
      have HPG2 := Lib.hid hpg2
      clear hpg2
      have hjn : (j : Int) < n := by omega
      have hqe : (a : Int) + j = (q : Int) := by omega
      have hq0 : (0 : Int) ≤ q := by omega
      have hq4 : (q : Int) < 4096 := by have := HR.out; omega
      obtain ⟨gp, cp, hv, hat⟩ := (HP.out.call hb).how
      have ca := (HP.out.call hb).c0
      rw [hv] at ca
      have cq := hat q (by have := HR.out; omega)
      obtain ⟨hh1, hhe⟩ : ∃ z, z = (P q).h := ⟨_, rfl⟩
      rw [← hhe] at cq
      have HSQ : Hid (usedB P a (j + 1) = decide (hh1 ≠ 0)) := by
        show _ = _
        unfold usedB at hh ⊢
        rw [anyB_succ, hh, Bool.false_or, hhe, hqe]
      clear hx hb hpg hq hhe hat hv hh
      by_cases hbig : hh1 = 0
      · subst hbig
        have HHS : Hid (usedB P a (j + 1) = false) := by
          show _ = _
          rw [HSQ.out]; rfl
        go_wp2_with (go_at_call 15; (with_reducible refine (hsh _).mono ?_); rintro e w1 ⟨rfl, rfl⟩)
        go_round
        case rel =>
          refine ⟨j + 1, by omega, rfl, HPG2.out.congr fun i _ => ?_, below_set (below_set (below_set (below_set (below_set HBB.out HG.out _ _) HG.out _ _) HG.out _ _) HG.out _ _) HG.out _ _, HHS.out⟩
          rw [show (((j + 1 : Nat) : Int)) = (j : Int) + 1 by omega, ← mapP_succ, show (q : Int) = (a : Int) + j by have := HQ.out; omega, if_pos (show shr 5 by decide)]
          by_cases e : (i : Int) = a + j
          · rw [if_pos e, if_pos e]
          · rw [if_neg e, if_neg e, if_neg e]
        case measure => simp [RowKit.intOf]; omega
      · have hbn : (hh1 != 0) = true := by simpa using hbig
        have HE2 : Hid (er = 7) := by
          show _ = _
          rw [HER.out, if_pos]
          have h1 := HSQ.out
          rw [decide_eq_true hbig] at h1
          unfold usedB at h1 ⊢
          rw [anyB_true] at h1 ⊢
          obtain ⟨k, hk, h⟩ := h1
          exact ⟨k, by omega, h⟩
        clear k0 f0 k1 f1 k2 f2 k3 f3
        go_wp2
        go_ret
        rw [HE2.out]
        exact DidE.no (by decide) HP.out HBB.out
    · obtain rfl : j = n := by omega
      have hjn : ¬ (j : Int) < j := by omega
      have hbe := become_is (HP.out.call hb) (hx.px (HP.out.ok.map (by decide) (by omega) (by have := HR.out; omega))) HP.out.lw
      have HER1 : Hid (er = if fullB (mapP P a j 5 p 0) = true then 13 else 0) := by
        show _ = _
        rw [HER.out, if_neg (by rw [hh]; decide)]
      unfold Became at hbe
      rw [← HER1.out] at hbe
      clear hx hb hh HX HBX
      go_wp2_with fail
      refine hbe.mono ?_
      rintro e w4 ⟨rfl, hd⟩
      have HD := Lib.hid (hd.pre (B := B) HBB.out)
      clear hd hbe
      go_wp2
      go_ret
      refine ⟨rfl, ?_⟩
      have hd := HD.out
      by_cases e : fullB (mapP P a j 5 p 0) = true
      · rw [if_pos e] at hd
        rw [if_neg (by rw [HER1.out, if_pos e]; decide)]; exact hd
      · rw [if_neg e] at hd
        rw [if_pos (by rw [HER1.out, if_neg e])]; exact hd
set_option maxRecDepth 100000 in
set_option maxHeartbeats 4000000 in
theorem map_5ss (h : Px B w xa v P) {a n : Nat} {p : Int} (hp : prB p = true) (hp0 : p ≠ 0) {o : Int} (ho : 0 < o) (hr : rtI a n 3 = 0) (hin : 1 ≤ a ∧ 1 ≤ n ∧ a + n ≤ 4096) : Calls Tryz.prog 54 #[.pointer (some ⟨xa, 0, none⟩), .int .i64 a, .int .i64 n, .int .i64 5, .int .i64 p, .int .i64 o] w (DidE B w xa P (mapP P a n 5 p o) (if usedB P a n = true then 7 else if fullB (mapP P a n 5 p o) = true then 13 else 0)) := by
  have hri := fun w => refRight_any a n 3 (by omega) (by omega) (by omega) (by omega) w
  rw [hr] at hri
  have hpr := fun w => prot_is p w
  rw [hp] at hpr
  have hsz := fun w => size_is 5 w
  rw [show szO 5 = 8 by decide] at hsz
  have hsh := fun w => shared_is 5 w
  rw [show decide (shr 5) = true by decide] at hsh
  have p0 : (p == 0) = false := by simpa using hp0
  have ho1 : ¬ o < 0 := by omega
  have ho2 : decide (o < 0) = false := decide_eq_false ho1
  have ho3 : decide (0 < o) = true := decide_eq_true ho
  have HR := Lib.hid hin
  have HP := Lib.hid h
  have n4 : (n : Int) ≤ 4096 := by omega
  have a4 : (a : Int) ≤ 4096 := by omega
  have hcp := copied_is h
  obtain ⟨er, her⟩ : ∃ er : Int, er = if usedB P a n = true then 7 else if fullB (mapP P a n 5 p o) = true then 13 else 0 := ⟨_, rfl⟩
  rw [← her]
  have HER := Lib.hid her
  clear h hr hin her hp hp0
  go_enter Tryz.func54, Tryz.ntmps54
  go_wp2_with (first | (go_at_call 58; (with_reducible refine (hri _).mono ?_); rintro e w1 ⟨rfl, rfl⟩) | (go_at_call 80; (with_reducible refine (hpr _).mono ?_); rintro e w1 ⟨rfl, rfl⟩) | (go_at_call 18; (with_reducible refine (hsz _).mono ?_); rintro e w1 ⟨rfl, rfl⟩) | (go_at_call 15; (with_reducible refine (hsh _).mono ?_); rintro e w1 ⟨rfl, rfl⟩))
  refine hcp.mono ?_
  rintro e w2 ⟨xb, vb, rfl, hx2, hb2⟩
  obtain ⟨g, c, rfl, hgD, -, -⟩ := hx2.form
  have HG := Lib.hid hgD
  have hB0 : Bx w.heap.size w2 xb (.slice (some ⟨g, 0, none⟩) 4096 c) (mapP P a 0 5 p o) := by rw [mapP_zero]; exact hx2.bx
  have HX := Lib.hid hB0
  have HB2 := Lib.hid hb2
  clear hcp hb2 hx2 hB0 hgD hri hpr hsz
  go_wp2_with fail
  go_loopw [16] (fun i wr => ∃ j : Nat, j ≤ n ∧ i = .int .i64 j ∧ Bx w.heap.size wr xb (.slice (some ⟨g, 0, none⟩) 4096 c) (mapP P a j 5 p o) ∧ Below w.heap.size w wr ∧ usedB P a j = false) (fun i _ => n - (RowKit.intOf i).toNat)
  case atStart => exact ⟨0, Nat.zero_le _, rfl, HX.out, HB2.out, rfl⟩
  case round =>
    obtain ⟨j, hj, rfl, hx, hb, hh⟩ := hrel
    have HBX := Lib.hid hx
    have HBB := Lib.hid hb
    have HHU := Lib.hid hh
    by_cases hlt : j < n
    · obtain ⟨q, hq⟩ : ∃ q : Nat, q = a + j := ⟨_, rfl⟩
      have HQ := Lib.hid hq
      have c0 := hx.c0
      obtain ⟨hpg, ⟨u0, k0⟩, f0, ⟨u1, k1⟩, f1, ⟨u2, k2⟩, f2, ⟨u3, k3⟩, f3⟩ := hx.page rfl (i := q) (by have := HR.out; omega) 5 p o 0
      have HPG := Lib.hid hpg
      obtain ⟨f4, hpg2⟩ := hpg.put rfl (i := q) (q := 3) (by have := HR.out; omega) (by decide) (u := .int .i64 j) (x := ⟨5, p, o, j⟩) (by rw [if_pos rfl]; rfl)
      have f4 := f4 (q * 4 + 3)
      have k4 := (hpg.cells rfl (i := q) (by have := HR.out; omega)).2.2.2
      have c4 := hpg.c0
      rw [if_pos rfl] at k4
      dsimp only at k4
      have HPG2 := Lib.hid hpg2
      clear hpg2
      have hjn : (j : Int) < n := by omega
      have hqe : (a : Int) + j = (q : Int) := by omega
      have hq0 : (0 : Int) ≤ q := by omega
      have hq4 : (q : Int) < 4096 := by have := HR.out; omega
      obtain ⟨gp, cp, hv, hat⟩ := (HP.out.call hb).how
      have ca := (HP.out.call hb).c0
      rw [hv] at ca
      have cq := hat q (by have := HR.out; omega)
      obtain ⟨hh1, hhe⟩ : ∃ z, z = (P q).h := ⟨_, rfl⟩
      rw [← hhe] at cq
      have HSQ : Hid (usedB P a (j + 1) = decide (hh1 ≠ 0)) := by
        show _ = _
        unfold usedB at hh ⊢
        rw [anyB_succ, hh, Bool.false_or, hhe, hqe]
      clear hx hb hpg hq hhe hat hv hh
      by_cases hbig : hh1 = 0
      · subst hbig
        have HHS : Hid (usedB P a (j + 1) = false) := by
          show _ = _
          rw [HSQ.out]; rfl
        go_wp2_with (go_at_call 15; (with_reducible refine (hsh _).mono ?_); rintro e w1 ⟨rfl, rfl⟩)
        go_round
        case rel =>
          refine ⟨j + 1, by omega, rfl, HPG2.out.congr fun i _ => ?_, below_set (below_set (below_set (below_set (below_set HBB.out HG.out _ _) HG.out _ _) HG.out _ _) HG.out _ _) HG.out _ _, HHS.out⟩
          rw [show (((j + 1 : Nat) : Int)) = (j : Int) + 1 by omega, ← mapP_succ, show (q : Int) = (a : Int) + j by have := HQ.out; omega, if_pos (show shr 5 by decide)]
          by_cases e : (i : Int) = a + j
          · rw [if_pos e, if_pos e]
          · rw [if_neg e, if_neg e, if_neg e]
        case measure => simp [RowKit.intOf]; omega
      · have hbn : (hh1 != 0) = true := by simpa using hbig
        have HE2 : Hid (er = 7) := by
          show _ = _
          rw [HER.out, if_pos]
          have h1 := HSQ.out
          rw [decide_eq_true hbig] at h1
          unfold usedB at h1 ⊢
          rw [anyB_true] at h1 ⊢
          obtain ⟨k, hk, h⟩ := h1
          exact ⟨k, by omega, h⟩
        clear k0 f0 k1 f1 k2 f2 k3 f3
        go_wp2
        go_ret
        rw [HE2.out]
        exact DidE.no (by decide) HP.out HBB.out
    · obtain rfl : j = n := by omega
      have hjn : ¬ (j : Int) < j := by omega
      have hbe := become_is (HP.out.call hb) (hx.px (HP.out.ok.map (by decide) (by omega) (by have := HR.out; omega))) HP.out.lw
      have HER1 : Hid (er = if fullB (mapP P a j 5 p o) = true then 13 else 0) := by
        show _ = _
        rw [HER.out, if_neg (by rw [hh]; decide)]
      unfold Became at hbe
      rw [← HER1.out] at hbe
      clear hx hb hh HX HBX
      go_wp2_with fail
      refine hbe.mono ?_
      rintro e w4 ⟨rfl, hd⟩
      have HD := Lib.hid (hd.pre (B := B) HBB.out)
      clear hd hbe
      go_wp2
      go_ret
      refine ⟨rfl, ?_⟩
      have hd := HD.out
      by_cases e : fullB (mapP P a j 5 p o) = true
      · rw [if_pos e] at hd
        rw [if_neg (by rw [HER1.out, if_pos e]; decide)]; exact hd
      · rw [if_neg e] at hd
        rw [if_pos (by rw [HER1.out, if_neg e])]; exact hd
set_option maxRecDepth 100000 in
set_option maxHeartbeats 4000000 in
theorem map_6sz (h : Px B w xa v P) {a n : Nat} {p : Int} (hp : prB p = true) (hp0 : p ≠ 0) (hr : rtI a n 3 = 0) (hin : 1 ≤ a ∧ 1 ≤ n ∧ a + n ≤ 4096) : Calls Tryz.prog 54 #[.pointer (some ⟨xa, 0, none⟩), .int .i64 a, .int .i64 n, .int .i64 6, .int .i64 p, .int .i64 0] w (DidE B w xa P (mapP P a n 6 p 0) (if usedB P a n = true then 7 else if fullB (mapP P a n 6 p 0) = true then 13 else 0)) := by
  have hri := fun w => refRight_any a n 3 (by omega) (by omega) (by omega) (by omega) w
  rw [hr] at hri
  have hpr := fun w => prot_is p w
  rw [hp] at hpr
  have hsz := fun w => size_is 6 w
  rw [show szO 6 = 8 by decide] at hsz
  have hsh := fun w => shared_is 6 w
  rw [show decide (shr 6) = false by decide] at hsh
  have p0 : (p == 0) = false := by simpa using hp0
  have HR := Lib.hid hin
  have HP := Lib.hid h
  have n4 : (n : Int) ≤ 4096 := by omega
  have a4 : (a : Int) ≤ 4096 := by omega
  have hcp := copied_is h
  obtain ⟨er, her⟩ : ∃ er : Int, er = if usedB P a n = true then 7 else if fullB (mapP P a n 6 p 0) = true then 13 else 0 := ⟨_, rfl⟩
  rw [← her]
  have HER := Lib.hid her
  clear h hr hin her hp hp0
  go_enter Tryz.func54, Tryz.ntmps54
  go_wp2_with (first | (go_at_call 58; (with_reducible refine (hri _).mono ?_); rintro e w1 ⟨rfl, rfl⟩) | (go_at_call 80; (with_reducible refine (hpr _).mono ?_); rintro e w1 ⟨rfl, rfl⟩) | (go_at_call 18; (with_reducible refine (hsz _).mono ?_); rintro e w1 ⟨rfl, rfl⟩) | (go_at_call 15; (with_reducible refine (hsh _).mono ?_); rintro e w1 ⟨rfl, rfl⟩))
  refine hcp.mono ?_
  rintro e w2 ⟨xb, vb, rfl, hx2, hb2⟩
  obtain ⟨g, c, rfl, hgD, -, -⟩ := hx2.form
  have HG := Lib.hid hgD
  have hB0 : Bx w.heap.size w2 xb (.slice (some ⟨g, 0, none⟩) 4096 c) (mapP P a 0 6 p 0) := by rw [mapP_zero]; exact hx2.bx
  have HX := Lib.hid hB0
  have HB2 := Lib.hid hb2
  clear hcp hb2 hx2 hB0 hgD hri hpr hsz
  go_wp2_with fail
  go_loopw [16] (fun i wr => ∃ j : Nat, j ≤ n ∧ i = .int .i64 j ∧ Bx w.heap.size wr xb (.slice (some ⟨g, 0, none⟩) 4096 c) (mapP P a j 6 p 0) ∧ Below w.heap.size w wr ∧ usedB P a j = false) (fun i _ => n - (RowKit.intOf i).toNat)
  case atStart => exact ⟨0, Nat.zero_le _, rfl, HX.out, HB2.out, rfl⟩
  case round =>
    obtain ⟨j, hj, rfl, hx, hb, hh⟩ := hrel
    have HBX := Lib.hid hx
    have HBB := Lib.hid hb
    have HHU := Lib.hid hh
    by_cases hlt : j < n
    · obtain ⟨q, hq⟩ : ∃ q : Nat, q = a + j := ⟨_, rfl⟩
      have HQ := Lib.hid hq
      have c0 := hx.c0
      obtain ⟨hpg, ⟨u0, k0⟩, f0, ⟨u1, k1⟩, f1, ⟨u2, k2⟩, f2, ⟨u3, k3⟩, f3⟩ := hx.page rfl (i := q) (by have := HR.out; omega) 6 p 0 0
      have HPG := Lib.hid hpg
      have hjn : (j : Int) < n := by omega
      have hqe : (a : Int) + j = (q : Int) := by omega
      have hq0 : (0 : Int) ≤ q := by omega
      have hq4 : (q : Int) < 4096 := by have := HR.out; omega
      obtain ⟨gp, cp, hv, hat⟩ := (HP.out.call hb).how
      have ca := (HP.out.call hb).c0
      rw [hv] at ca
      have cq := hat q (by have := HR.out; omega)
      obtain ⟨hh1, hhe⟩ : ∃ z, z = (P q).h := ⟨_, rfl⟩
      rw [← hhe] at cq
      have HSQ : Hid (usedB P a (j + 1) = decide (hh1 ≠ 0)) := by
        show _ = _
        unfold usedB at hh ⊢
        rw [anyB_succ, hh, Bool.false_or, hhe, hqe]
      clear hx hb hpg hq hhe hat hv hh
      by_cases hbig : hh1 = 0
      · subst hbig
        have HHS : Hid (usedB P a (j + 1) = false) := by
          show _ = _
          rw [HSQ.out]; rfl
        go_wp2_with (go_at_call 15; (with_reducible refine (hsh _).mono ?_); rintro e w1 ⟨rfl, rfl⟩)
        go_round
        case rel =>
          refine ⟨j + 1, by omega, rfl, HPG.out.congr fun i _ => ?_, below_set (below_set (below_set (below_set HBB.out HG.out _ _) HG.out _ _) HG.out _ _) HG.out _ _, HHS.out⟩
          rw [show (((j + 1 : Nat) : Int)) = (j : Int) + 1 by omega, ← mapP_succ, show (q : Int) = (a : Int) + j by have := HQ.out; omega, if_neg (show ¬ shr 6 by decide)]
        case measure => simp [RowKit.intOf]; omega
      · have hbn : (hh1 != 0) = true := by simpa using hbig
        have HE2 : Hid (er = 7) := by
          show _ = _
          rw [HER.out, if_pos]
          have h1 := HSQ.out
          rw [decide_eq_true hbig] at h1
          unfold usedB at h1 ⊢
          rw [anyB_true] at h1 ⊢
          obtain ⟨k, hk, h⟩ := h1
          exact ⟨k, by omega, h⟩
        clear k0 f0 k1 f1 k2 f2 k3 f3
        go_wp2
        go_ret
        rw [HE2.out]
        exact DidE.no (by decide) HP.out HBB.out
    · obtain rfl : j = n := by omega
      have hjn : ¬ (j : Int) < j := by omega
      have hbe := become_is (HP.out.call hb) (hx.px (HP.out.ok.map (by decide) (by omega) (by have := HR.out; omega))) HP.out.lw
      have HER1 : Hid (er = if fullB (mapP P a j 6 p 0) = true then 13 else 0) := by
        show _ = _
        rw [HER.out, if_neg (by rw [hh]; decide)]
      unfold Became at hbe
      rw [← HER1.out] at hbe
      clear hx hb hh HX HBX
      go_wp2_with fail
      refine hbe.mono ?_
      rintro e w4 ⟨rfl, hd⟩
      have HD := Lib.hid (hd.pre (B := B) HBB.out)
      clear hd hbe
      go_wp2
      go_ret
      refine ⟨rfl, ?_⟩
      have hd := HD.out
      by_cases e : fullB (mapP P a j 6 p 0) = true
      · rw [if_pos e] at hd
        rw [if_neg (by rw [HER1.out, if_pos e]; decide)]; exact hd
      · rw [if_neg e] at hd
        rw [if_pos (by rw [HER1.out, if_neg e])]; exact hd
end
end Go.Proofs.YtnppnoabhpkmkaaGreat
