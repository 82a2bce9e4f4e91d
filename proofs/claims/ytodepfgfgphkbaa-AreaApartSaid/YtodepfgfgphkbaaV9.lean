/- The reference's Map (gen/genV9.py). -/
import Derived.Test.YtodepfgfgphkbaaV8
namespace Go.Proofs.Ytodepfgfgphkbaa
open Go.RowKit
/-- What a call with an error alone comes to. -/
def DidE (B : Nat) (w : World) (xa : Nat) (P Q : Int → Pg) (er : Int) (e : Ending) (w' : World) : Prop :=
  e = .returned (.int .i64 er) ∧ DidP B w xa (if er = 0 then Q else P) w'
section
variable {w w' : World} {B D xa xb : Nat} {v vb : Value} {P Q : Int → Pg}
theorem DidE.no {er : Int} (h0 : er ≠ 0) (h : Px B w xa v P) (hb : Below w.heap.size w w') : DidE B w xa P Q er (.returned (.int .i64 er)) w' := by
  refine ⟨rfl, ?_⟩
  rw [if_neg h0]
  exact ⟨v, h.call hb, Foot.of_below hb⟩
theorem mapP_zero (P : Int → Pg) (a how p o : Int) : mapP P a 0 how p o = P := by
  funext i; unfold mapP; rw [if_neg (by unfold inS; omega)]
theorem mapP_succ (P : Int → Pg) (a how p o : Int) (j : Nat) (i : Int) : (if i = a + j then ⟨how, p, o, if shr how then (j : Int) else 0⟩ else mapP P a j how p o i) = mapP P a ((j : Int) + 1) how p o i := by
  unfold mapP
  by_cases e : i = a + j
  · have q : inS a ((j : Int) + 1) i := by unfold inS; omega
    rw [if_pos e, if_pos q, show i - a = j by omega]
  · rw [if_neg e]
    by_cases e2 : inS a j i
    · have q : inS a ((j : Int) + 1) i := by unfold inS at *; omega
      rw [if_pos e2, if_pos q]
    · have q : ¬ inS a ((j : Int) + 1) i := by unfold inS at *; omega
      rw [if_neg e2, if_neg q]
set_option maxRecDepth 100000 in
set_option maxHeartbeats 4000000 in
theorem map_1zz (h : Px B w xa v P) {a n : Nat} (hr : rtI a n 0 = 0) (hin : 1 ≤ a ∧ 1 ≤ n ∧ a + n ≤ 4096) : Calls Try.prog 38 #[.pointer (some ⟨xa, 0, none⟩), .int .i64 a, .int .i64 n, .int .i64 1, .int .i64 0, .int .i64 0] w (DidE B w xa P (mapP P a n 1 0 0) (if usedB P a n = true then 7 else if fullB (mapP P a n 1 0 0) = true then 13 else 0)) := by
  have hri := fun w => refRight_any a n 0 (by omega) (by omega) (by omega) (by omega) w
  rw [hr] at hri
  have hpr := fun w => prot_is 0 w
  rw [show prB 0 = true by decide] at hpr
  have hsz := fun w => size_is 1 w
  rw [show szO 1 = 1 by decide] at hsz
  have hsh := fun w => shared_is 1 w
  rw [show decide (shr 1) = false by decide] at hsh
  have HR := Lib.hid hin
  have HP := Lib.hid h
  have n4 : (n : Int) ≤ 4096 := by omega
  have a4 : (a : Int) ≤ 4096 := by omega
  have hcp := copied_is h
  obtain ⟨er, her⟩ : ∃ er : Int, er = if usedB P a n = true then 7 else if fullB (mapP P a n 1 0 0) = true then 13 else 0 := ⟨_, rfl⟩
  rw [← her]
  have HER := Lib.hid her
  clear h hr hin her
  go_enter Try.func38, Try.ntmps38
  go_wp2_with (first | (go_at_call 51; (with_reducible refine (hri _).mono ?_); rintro e w1 ⟨rfl, rfl⟩) | (go_at_call 49; (with_reducible refine (hpr _).mono ?_); rintro e w1 ⟨rfl, rfl⟩) | (go_at_call 50; (with_reducible refine (hsz _).mono ?_); rintro e w1 ⟨rfl, rfl⟩) | (go_at_call 13; (with_reducible refine (hsh _).mono ?_); rintro e w1 ⟨rfl, rfl⟩))
  refine hcp.mono ?_
  rintro e w2 ⟨xb, vb, rfl, hx2, hb2⟩
  obtain ⟨g, c, rfl, hgD, -, -⟩ := hx2.form
  have HG := Lib.hid hgD
  have hB0 : Bx w.heap.size w2 xb (.slice (some ⟨g, 0, none⟩) 4096 c) (mapP P a 0 1 0 0) := by rw [mapP_zero]; exact hx2.bx
  have HX := Lib.hid hB0
  have HB2 := Lib.hid hb2
  clear hcp hb2 hx2 hB0 hgD hri hpr hsz
  go_wp2_with fail
  go_loopw [16] (fun i wr => ∃ j : Nat, j ≤ n ∧ i = .int .i64 j ∧ Bx w.heap.size wr xb (.slice (some ⟨g, 0, none⟩) 4096 c) (mapP P a j 1 0 0) ∧ Below w.heap.size w wr ∧ usedB P a j = false) (fun i _ => n - (RowKit.intOf i).toNat)
  case atStart => exact ⟨0, Nat.zero_le _, rfl, HX.out, HB2.out, rfl⟩
  case round =>
    obtain ⟨j, hj, rfl, hx, hb, hh⟩ := hrel
    have HBX := Lib.hid hx
    have HBB := Lib.hid hb
    have HHU := Lib.hid hh
    by_cases hlt : j < n
    · obtain ⟨q, hq⟩ : ∃ q : Nat, q = a + j := ⟨_, rfl⟩
      have HQ := Lib.hid hq
      have c0 := hx.c0
      obtain ⟨hpg, ⟨u0, k0⟩, f0, ⟨u1, k1⟩, f1, ⟨u2, k2⟩, f2, ⟨u3, k3⟩, f3⟩ := hx.page rfl (i := q) (by have := HR.out; omega) 1 0 0 0
      have HPG := Lib.hid hpg
      have hjn : (j : Int) < n := by omega
      have hqe : (a : Int) + j = (q : Int) := by omega
      have hq0 : (0 : Int) ≤ q := by omega
      have hq4 : (q : Int) < 4096 := by have := HR.out; omega
      obtain ⟨gp, cp, hv, hat⟩ := (HP.out.call hb).how
      have ca := (HP.out.call hb).c0
      rw [hv] at ca
      have cq := hat q (by have := HR.out; omega)
      obtain ⟨hh1, hhe⟩ : ∃ z, z = (P q).h := ⟨_, rfl⟩
      rw [← hhe] at cq
      have HSQ : Hid (usedB P a (j + 1) = decide (hh1 ≠ 0)) := by
        show _ = _
        unfold usedB at hh ⊢
        rw [anyB_succ, hh, Bool.false_or, hhe, hqe]
      clear hx hb hpg hq hhe hat hv hh
      by_cases hbig : hh1 = 0
      · subst hbig
        have HHS : Hid (usedB P a (j + 1) = false) := by
          show _ = _
          rw [HSQ.out]; rfl
        go_wp2_with (go_at_call 13; (with_reducible refine (hsh _).mono ?_); rintro e w1 ⟨rfl, rfl⟩)
        go_round
        case rel =>
          refine ⟨j + 1, by omega, rfl, HPG.out.congr fun i _ => ?_, below_set (below_set (below_set (below_set HBB.out HG.out _ _) HG.out _ _) HG.out _ _) HG.out _ _, HHS.out⟩
          rw [show (((j + 1 : Nat) : Int)) = (j : Int) + 1 by omega, ← mapP_succ, show (q : Int) = (a : Int) + j by have := HQ.out; omega, if_neg (show ¬ shr 1 by decide)]
        case measure => simp [RowKit.intOf]; omega
      · have hbn : (hh1 != 0) = true := by simpa using hbig
        have HE2 : Hid (er = 7) := by
          show _ = _
          rw [HER.out, if_pos]
          have h1 := HSQ.out
          rw [decide_eq_true hbig] at h1
          unfold usedB at h1 ⊢
          rw [anyB_true] at h1 ⊢
          obtain ⟨k, hk, h⟩ := h1
          exact ⟨k, by omega, h⟩
        clear k0 f0 k1 f1 k2 f2 k3 f3
        go_wp2
        go_ret
        rw [HE2.out]
        exact DidE.no (by decide) HP.out HBB.out
    · obtain rfl : j = n := by omega
      have hjn : ¬ (j : Int) < j := by omega
      have hbe := become_is (HP.out.call hb) (hx.px (HP.out.ok.map (by decide) (by omega) (by have := HR.out; omega))) HP.out.lw
      have HER1 : Hid (er = if fullB (mapP P a j 1 0 0) = true then 13 else 0) := by
        show _ = _
        rw [HER.out, if_neg (by rw [hh]; decide)]
      unfold Became at hbe
      rw [← HER1.out] at hbe
      clear hx hb hh HX HBX
      go_wp2_with fail
      refine hbe.mono ?_
      rintro e w4 ⟨rfl, hd⟩
      have HD := Lib.hid (hd.pre (B := B) HBB.out)
      clear hd hbe
      go_wp2
      go_ret
      refine ⟨rfl, ?_⟩
      have hd := HD.out
      by_cases e : fullB (mapP P a j 1 0 0) = true
      · rw [if_pos e] at hd
        rw [if_neg (by rw [HER1.out, if_pos e]; decide)]; exact hd
      · rw [if_neg e] at hd
        rw [if_pos (by rw [HER1.out, if_neg e])]; exact hd
set_option maxRecDepth 100000 in
set_option maxHeartbeats 4000000 in
theorem map_1sz (h : Px B w xa v P) {a n : Nat} {p : Int} (hp : prB p = true) (hp0 : p ≠ 0) (hr : rtI a n 0 = 0) (hin : 1 ≤ a ∧ 1 ≤ n ∧ a + n ≤ 4096) : Calls Try.prog 38 #[.pointer (some ⟨xa, 0, none⟩), .int .i64 a, .int .i64 n, .int .i64 1, .int .i64 p, .int .i64 0] w (DidE B w xa P (mapP P a n 1 p 0) (if usedB P a n = true then 7 else if fullB (mapP P a n 1 p 0) = true then 13 else 0)) := by
  have hri := fun w => refRight_any a n 0 (by omega) (by omega) (by omega) (by omega) w
  rw [hr] at hri
  have hpr := fun w => prot_is p w
  rw [hp] at hpr
  have hsz := fun w => size_is 1 w
  rw [show szO 1 = 1 by decide] at hsz
  have hsh := fun w => shared_is 1 w
  rw [show decide (shr 1) = false by decide] at hsh
  have p0 : (p == 0) = false := by simpa using hp0
  have HR := Lib.hid hin
  have HP := Lib.hid h
  have n4 : (n : Int) ≤ 4096 := by omega
  have a4 : (a : Int) ≤ 4096 := by omega
  have hcp := copied_is h
  obtain ⟨er, her⟩ : ∃ er : Int, er = if usedB P a n = true then 7 else if fullB (mapP P a n 1 p 0) = true then 13 else 0 := ⟨_, rfl⟩
  rw [← her]
  have HER := Lib.hid her
  clear h hr hin her hp hp0
  go_enter Try.func38, Try.ntmps38
  go_wp2_with (first | (go_at_call 51; (with_reducible refine (hri _).mono ?_); rintro e w1 ⟨rfl, rfl⟩) | (go_at_call 49; (with_reducible refine (hpr _).mono ?_); rintro e w1 ⟨rfl, rfl⟩) | (go_at_call 50; (with_reducible refine (hsz _).mono ?_); rintro e w1 ⟨rfl, rfl⟩) | (go_at_call 13; (with_reducible refine (hsh _).mono ?_); rintro e w1 ⟨rfl, rfl⟩))
  refine hcp.mono ?_
  rintro e w2 ⟨xb, vb, rfl, hx2, hb2⟩
  obtain ⟨g, c, rfl, hgD, -, -⟩ := hx2.form
  have HG := Lib.hid hgD
  have hB0 : Bx w.heap.size w2 xb (.slice (some ⟨g, 0, none⟩) 4096 c) (mapP P a 0 1 p 0) := by rw [mapP_zero]; exact hx2.bx
  have HX := Lib.hid hB0
  have HB2 := Lib.hid hb2
  clear hcp hb2 hx2 hB0 hgD hri hpr hsz
  go_wp2_with fail
  go_loopw [16] (fun i wr => ∃ j : Nat, j ≤ n ∧ i = .int .i64 j ∧ Bx w.heap.size wr xb (.slice (some ⟨g, 0, none⟩) 4096 c) (mapP P a j 1 p 0) ∧ Below w.heap.size w wr ∧ usedB P a j = false) (fun i _ => n - (RowKit.intOf i).toNat)
  case atStart => exact ⟨0, Nat.zero_le _, rfl, HX.out, HB2.out, rfl⟩
  case round =>
    obtain ⟨j, hj, rfl, hx, hb, hh⟩ := hrel
    have HBX := Lib.hid hx
    have HBB := Lib.hid hb
    have HHU := Lib.hid hh
    by_cases hlt : j < n
    · obtain ⟨q, hq⟩ : ∃ q : Nat, q = a + j := ⟨_, rfl⟩
      have HQ := Lib.hid hq
      have c0 := hx.c0
      obtain ⟨hpg, ⟨u0, k0⟩, f0, ⟨u1, k1⟩, f1, ⟨u2, k2⟩, f2, ⟨u3, k3⟩, f3⟩ := hx.page rfl (i := q) (by have := HR.out; omega) 1 p 0 0
      have HPG := Lib.hid hpg
      have hjn : (j : Int) < n := by omega
      have hqe : (a : Int) + j = (q : Int) := by omega
      have hq0 : (0 : Int) ≤ q := by omega
      have hq4 : (q : Int) < 4096 := by have := HR.out; omega
      obtain ⟨gp, cp, hv, hat⟩ := (HP.out.call hb).how
      have ca := (HP.out.call hb).c0
      rw [hv] at ca
      have cq := hat q (by have := HR.out; omega)
      obtain ⟨hh1, hhe⟩ : ∃ z, z = (P q).h := ⟨_, rfl⟩
      rw [← hhe] at cq
      have HSQ : Hid (usedB P a (j + 1) = decide (hh1 ≠ 0)) := by
        show _ = _
        unfold usedB at hh ⊢
        rw [anyB_succ, hh, Bool.false_or, hhe, hqe]
      clear hx hb hpg hq hhe hat hv hh
      by_cases hbig : hh1 = 0
      · subst hbig
        have HHS : Hid (usedB P a (j + 1) = false) := by
          show _ = _
          rw [HSQ.out]; rfl
        go_wp2_with (go_at_call 13; (with_reducible refine (hsh _).mono ?_); rintro e w1 ⟨rfl, rfl⟩)
        go_round
        case rel =>
          refine ⟨j + 1, by omega, rfl, HPG.out.congr fun i _ => ?_, below_set (below_set (below_set (below_set HBB.out HG.out _ _) HG.out _ _) HG.out _ _) HG.out _ _, HHS.out⟩
          rw [show (((j + 1 : Nat) : Int)) = (j : Int) + 1 by omega, ← mapP_succ, show (q : Int) = (a : Int) + j by have := HQ.out; omega, if_neg (show ¬ shr 1 by decide)]
        case measure => simp [RowKit.intOf]; omega
      · have hbn : (hh1 != 0) = true := by simpa using hbig
        have HE2 : Hid (er = 7) := by
          show _ = _
          rw [HER.out, if_pos]
          have h1 := HSQ.out
          rw [decide_eq_true hbig] at h1
          unfold usedB at h1 ⊢
          rw [anyB_true] at h1 ⊢
          obtain ⟨k, hk, h⟩ := h1
          exact ⟨k, by omega, h⟩
        clear k0 f0 k1 f1 k2 f2 k3 f3
        go_wp2
        go_ret
        rw [HE2.out]
        exact DidE.no (by decide) HP.out HBB.out
    · obtain rfl : j = n := by omega
      have hjn : ¬ (j : Int) < j := by omega
      have hbe := become_is (HP.out.call hb) (hx.px (HP.out.ok.map (by decide) (by omega) (by have := HR.out; omega))) HP.out.lw
      have HER1 : Hid (er = if fullB (mapP P a j 1 p 0) = true then 13 else 0) := by
        show _ = _
        rw [HER.out, if_neg (by rw [hh]; decide)]
      unfold Became at hbe
      rw [← HER1.out] at hbe
      clear hx hb hh HX HBX
      go_wp2_with fail
      refine hbe.mono ?_
      rintro e w4 ⟨rfl, hd⟩
      have HD := Lib.hid (hd.pre (B := B) HBB.out)
      clear hd hbe
      go_wp2
      go_ret
      refine ⟨rfl, ?_⟩
      have hd := HD.out
      by_cases e : fullB (mapP P a j 1 p 0) = true
      · rw [if_pos e] at hd
        rw [if_neg (by rw [HER1.out, if_pos e]; decide)]; exact hd
      · rw [if_neg e] at hd
        rw [if_pos (by rw [HER1.out, if_neg e])]; exact hd
set_option maxRecDepth 100000 in
set_option maxHeartbeats 4000000 in
theorem map_2zz (h : Px B w xa v P) {a n : Nat} (hr : rtI a n 0 = 0) (hin : 1 ≤ a ∧ 1 ≤ n ∧ a + n ≤ 4096) : Calls Try.prog 38 #[.pointer (some ⟨xa, 0, none⟩), .int .i64 a, .int .i64 n, .int .i64 2, .int .i64 0, .int .i64 0] w (DidE B w xa P (mapP P a n 2 0 0) (if usedB P a n = true then 7 else if fullB (mapP P a n 2 0 0) = true then 13 else 0)) := by
  have hri := fun w => refRight_any a n 0 (by omega) (by omega) (by omega) (by omega) w
  rw [hr] at hri
  have hpr := fun w => prot_is 0 w
  rw [show prB 0 = true by decide] at hpr
  have hsz := fun w => size_is 2 w
  rw [show szO 2 = 1 by decide] at hsz
  have hsh := fun w => shared_is 2 w
  rw [show decide (shr 2) = true by decide] at hsh
  have HR := Lib.hid hin
  have HP := Lib.hid h
  have n4 : (n : Int) ≤ 4096 := by omega
  have a4 : (a : Int) ≤ 4096 := by omega
  have hcp := copied_is h
  obtain ⟨er, her⟩ : ∃ er : Int, er = if usedB P a n = true then 7 else if fullB (mapP P a n 2 0 0) = true then 13 else 0 := ⟨_, rfl⟩
  rw [← her]
  have HER := Lib.hid her
  clear h hr hin her
  go_enter Try.func38, Try.ntmps38
  go_wp2_with (first | (go_at_call 51; (with_reducible refine (hri _).mono ?_); rintro e w1 ⟨rfl, rfl⟩) | (go_at_call 49; (with_reducible refine (hpr _).mono ?_); rintro e w1 ⟨rfl, rfl⟩) | (go_at_call 50; (with_reducible refine (hsz _).mono ?_); rintro e w1 ⟨rfl, rfl⟩) | (go_at_call 13; (with_reducible refine (hsh _).mono ?_); rintro e w1 ⟨rfl, rfl⟩))
  refine hcp.mono ?_
  rintro e w2 ⟨xb, vb, rfl, hx2, hb2⟩
  obtain ⟨g, c, rfl, hgD, -, -⟩ := hx2.form
  have HG := Lib.hid hgD
  have hB0 : Bx w.heap.size w2 xb (.slice (some ⟨g, 0, none⟩) 4096 c) (mapP P a 0 2 0 0) := by rw [mapP_zero]; exact hx2.bx
  have HX := Lib.hid hB0
  have HB2 := Lib.hid hb2
  clear hcp hb2 hx2 hB0 hgD hri hpr hsz
  go_wp2_with fail
  go_loopw [16] (fun i wr => ∃ j : Nat, j ≤ n ∧ i = .int .i64 j ∧ Bx w.heap.size wr xb (.slice (some ⟨g, 0, none⟩) 4096 c) (mapP P a j 2 0 0) ∧ Below w.heap.size w wr ∧ usedB P a j = false) (fun i _ => n - (RowKit.intOf i).toNat)
  case atStart => exact ⟨0, Nat.zero_le _, rfl, HX.out, HB2.out, rfl⟩
  case round =>
    obtain ⟨j, hj, rfl, hx, hb, hh⟩ := hrel
    have HBX := Lib.hid hx
    have HBB := Lib.hid hb
    have HHU := Lib.hid hh
    by_cases hlt : j < n
    · obtain ⟨q, hq⟩ : ∃ q : Nat, q = a + j := ⟨_, rfl⟩
      have HQ := Lib.hid hq
      have c0 := hx.c0
      obtain ⟨hpg, ⟨u0, k0⟩, f0, ⟨u1, k1⟩, f1, ⟨u2, k2⟩, f2, ⟨u3, k3⟩, f3⟩ := hx.page rfl (i := q) (by have := HR.out; omega) 2 0 0 0
      have HPG := Lib.hid hpg
      obtain ⟨f4, hpg2⟩ := hpg.put rfl (i := q) (q := 3) (by have := HR.out; omega) (by decide) (u := .int .i64 j) (x := ⟨2, 0, 0, j⟩) (by rw [if_pos rfl]; rfl)
      have f4 := f4 (q * 4 + 3)
      have k4 := (hpg.cells rfl (i := q) (by have := HR.out; omega)).2.2.2
      have c4 := hpg.c0
      rw [if_pos rfl] at k4
      dsimp only at k4
      have HPG2 := Lib.hid hpg2
      clear hpg2
      have hjn : (j : Int) < n := by omega
      have hqe : (a : Int) + j = (q : Int) := by omega
      have hq0 : (0 : Int) ≤ q := by omega
      have hq4 : (q : Int) < 4096 := by have := HR.out; omega
      obtain ⟨gp, cp, hv, hat⟩ := (HP.out.call hb).how
      have ca := (HP.out.call hb).c0
      rw [hv] at ca
      have cq := hat q (by have := HR.out; omega)
      obtain ⟨hh1, hhe⟩ : ∃ z, z = (P q).h := ⟨_, rfl⟩
      rw [← hhe] at cq
      have HSQ : Hid (usedB P a (j + 1) = decide (hh1 ≠ 0)) := by
        show _ = _
        unfold usedB at hh ⊢
        rw [anyB_succ, hh, Bool.false_or, hhe, hqe]
      clear hx hb hpg hq hhe hat hv hh
      by_cases hbig : hh1 = 0
      · subst hbig
        have HHS : Hid (usedB P a (j + 1) = false) := by
          show _ = _
          rw [HSQ.out]; rfl
        go_wp2_with (go_at_call 13; (with_reducible refine (hsh _).mono ?_); rintro e w1 ⟨rfl, rfl⟩)
        go_round
        case rel =>
          refine ⟨j + 1, by omega, rfl, HPG2.out.congr fun i _ => ?_, below_set (below_set (below_set (below_set (below_set HBB.out HG.out _ _) HG.out _ _) HG.out _ _) HG.out _ _) HG.out _ _, HHS.out⟩
          rw [show (((j + 1 : Nat) : Int)) = (j : Int) + 1 by omega, ← mapP_succ, show (q : Int) = (a : Int) + j by have := HQ.out; omega, if_pos (show shr 2 by decide)]
          by_cases e : (i : Int) = a + j
          · rw [if_pos e, if_pos e]
          · rw [if_neg e, if_neg e, if_neg e]
        case measure => simp [RowKit.intOf]; omega
      · have hbn : (hh1 != 0) = true := by simpa using hbig
        have HE2 : Hid (er = 7) := by
          show _ = _
          rw [HER.out, if_pos]
          have h1 := HSQ.out
          rw [decide_eq_true hbig] at h1
          unfold usedB at h1 ⊢
          rw [anyB_true] at h1 ⊢
          obtain ⟨k, hk, h⟩ := h1
          exact ⟨k, by omega, h⟩
        clear k0 f0 k1 f1 k2 f2 k3 f3
        go_wp2
        go_ret
        rw [HE2.out]
        exact DidE.no (by decide) HP.out HBB.out
    · obtain rfl : j = n := by omega
      have hjn : ¬ (j : Int) < j := by omega
      have hbe := become_is (HP.out.call hb) (hx.px (HP.out.ok.map (by decide) (by omega) (by have := HR.out; omega))) HP.out.lw
      have HER1 : Hid (er = if fullB (mapP P a j 2 0 0) = true then 13 else 0) := by
        show _ = _
        rw [HER.out, if_neg (by rw [hh]; decide)]
      unfold Became at hbe
      rw [← HER1.out] at hbe
      clear hx hb hh HX HBX
      go_wp2_with fail
      refine hbe.mono ?_
      rintro e w4 ⟨rfl, hd⟩
      have HD := Lib.hid (hd.pre (B := B) HBB.out)
      clear hd hbe
      go_wp2
      go_ret
      refine ⟨rfl, ?_⟩
      have hd := HD.out
      by_cases e : fullB (mapP P a j 2 0 0) = true
      · rw [if_pos e] at hd
        rw [if_neg (by rw [HER1.out, if_pos e]; decide)]; exact hd
      · rw [if_neg e] at hd
        rw [if_pos (by rw [HER1.out, if_neg e])]; exact hd
set_option maxRecDepth 100000 in
set_option maxHeartbeats 4000000 in
theorem map_2zs (h : Px B w xa v P) {a n : Nat} {o : Int} (ho : 0 < o) (hr : rtI a n 0 = 0) (hin : 1 ≤ a ∧ 1 ≤ n ∧ a + n ≤ 4096) : Calls Try.prog 38 #[.pointer (some ⟨xa, 0, none⟩), .int .i64 a, .int .i64 n, .int .i64 2, .int .i64 0, .int .i64 o] w (DidE B w xa P (mapP P a n 2 0 o) (if usedB P a n = true then 7 else if fullB (mapP P a n 2 0 o) = true then 13 else 0)) := by
  have hri := fun w => refRight_any a n 0 (by omega) (by omega) (by omega) (by omega) w
  rw [hr] at hri
  have hpr := fun w => prot_is 0 w
  rw [show prB 0 = true by decide] at hpr
  have hsz := fun w => size_is 2 w
  rw [show szO 2 = 1 by decide] at hsz
  have hsh := fun w => shared_is 2 w
  rw [show decide (shr 2) = true by decide] at hsh
  have ho1 : ¬ o < 0 := by omega
  have ho2 : decide (o < 0) = false := decide_eq_false ho1
  have ho3 : decide (0 < o) = true := decide_eq_true ho
  have HR := Lib.hid hin
  have HP := Lib.hid h
  have n4 : (n : Int) ≤ 4096 := by omega
  have a4 : (a : Int) ≤ 4096 := by omega
  have hcp := copied_is h
  obtain ⟨er, her⟩ : ∃ er : Int, er = if usedB P a n = true then 7 else if fullB (mapP P a n 2 0 o) = true then 13 else 0 := ⟨_, rfl⟩
  rw [← her]
  have HER := Lib.hid her
  clear h hr hin her
  go_enter Try.func38, Try.ntmps38
  go_wp2_with (first | (go_at_call 51; (with_reducible refine (hri _).mono ?_); rintro e w1 ⟨rfl, rfl⟩) | (go_at_call 49; (with_reducible refine (hpr _).mono ?_); rintro e w1 ⟨rfl, rfl⟩) | (go_at_call 50; (with_reducible refine (hsz _).mono ?_); rintro e w1 ⟨rfl, rfl⟩) | (go_at_call 13; (with_reducible refine (hsh _).mono ?_); rintro e w1 ⟨rfl, rfl⟩))
  refine hcp.mono ?_
  rintro e w2 ⟨xb, vb, rfl, hx2, hb2⟩
  obtain ⟨g, c, rfl, hgD, -, -⟩ := hx2.form
  have HG := Lib.hid hgD
  have hB0 : Bx w.heap.size w2 xb (.slice (some ⟨g, 0, none⟩) 4096 c) (mapP P a 0 2 0 o) := by rw [mapP_zero]; exact hx2.bx
  have HX := Lib.hid hB0
  have HB2 := Lib.hid hb2
  clear hcp hb2 hx2 hB0 hgD hri hpr hsz
  go_wp2_with fail
  go_loopw [16] (fun i wr => ∃ j : Nat, j ≤ n ∧ i = .int .i64 j ∧ Bx w.heap.size wr xb (.slice (some ⟨g, 0, none⟩) 4096 c) (mapP P a j 2 0 o) ∧ Below w.heap.size w wr ∧ usedB P a j = false) (fun i _ => n - (RowKit.intOf i).toNat)
  case atStart => exact ⟨0, Nat.zero_le _, rfl, HX.out, HB2.out, rfl⟩
  case round =>
    obtain ⟨j, hj, rfl, hx, hb, hh⟩ := hrel
    have HBX := Lib.hid hx
    have HBB := Lib.hid hb
    have HHU := Lib.hid hh
    by_cases hlt : j < n
    · obtain ⟨q, hq⟩ : ∃ q : Nat, q = a + j := ⟨_, rfl⟩
      have HQ := Lib.hid hq
      have c0 := hx.c0
      obtain ⟨hpg, ⟨u0, k0⟩, f0, ⟨u1, k1⟩, f1, ⟨u2, k2⟩, f2, ⟨u3, k3⟩, f3⟩ := hx.page rfl (i := q) (by have := HR.out; omega) 2 0 o 0
      have HPG := Lib.hid hpg
      obtain ⟨f4, hpg2⟩ := hpg.put rfl (i := q) (q := 3) (by have := HR.out; omega) (by decide) (u := .int .i64 j) (x := ⟨2, 0, o, j⟩) (by rw [if_pos rfl]; rfl)
      have f4 := f4 (q * 4 + 3)
      have k4 := (hpg.cells rfl (i := q) (by have := HR.out; omega)).2.2.2
      have c4 := hpg.c0
      rw [if_pos rfl] at k4
      dsimp only at k4
      have HPG2 := Lib.hid hpg2
      clear hpg2
      have hjn : (j : Int) < n := by omega
      have hqe : (a : Int) + j = (q : Int) := by omega
      have hq0 : (0 : Int) ≤ q := by omega
      have hq4 : (q : Int) < 4096 := by have := HR.out; omega
      obtain ⟨gp, cp, hv, hat⟩ := (HP.out.call hb).how
      have ca := (HP.out.call hb).c0
      rw [hv] at ca
      have cq := hat q (by have := HR.out; omega)
      obtain ⟨hh1, hhe⟩ : ∃ z, z = (P q).h := ⟨_, rfl⟩
      rw [← hhe] at cq
      have HSQ : Hid (usedB P a (j + 1) = decide (hh1 ≠ 0)) := by
        show _ = _
        unfold usedB at hh ⊢
        rw [anyB_succ, hh, Bool.false_or, hhe, hqe]
      clear hx hb hpg hq hhe hat hv hh
      by_cases hbig : hh1 = 0
      · subst hbig
        have HHS : Hid (usedB P a (j + 1) = false) := by
          show _ = _
          rw [HSQ.out]; rfl
        go_wp2_with (go_at_call 13; (with_reducible refine (hsh _).mono ?_); rintro e w1 ⟨rfl, rfl⟩)
        go_round
        case rel =>
          refine ⟨j + 1, by omega, rfl, HPG2.out.congr fun i _ => ?_, below_set (below_set (below_set (below_set (below_set HBB.out HG.out _ _) HG.out _ _) HG.out _ _) HG.out _ _) HG.out _ _, HHS.out⟩
          rw [show (((j + 1 : Nat) : Int)) = (j : Int) + 1 by omega, ← mapP_succ, show (q : Int) = (a : Int) + j by have := HQ.out; omega, if_pos (show shr 2 by decide)]
          by_cases e : (i : Int) = a + j
          · rw [if_pos e, if_pos e]
          · rw [if_neg e, if_neg e, if_neg e]
        case measure => simp [RowKit.intOf]; omega
      · have hbn : (hh1 != 0) = true := by simpa using hbig
        have HE2 : Hid (er = 7) := by
          show _ = _
          rw [HER.out, if_pos]
          have h1 := HSQ.out
          rw [decide_eq_true hbig] at h1
          unfold usedB at h1 ⊢
          rw [anyB_true] at h1 ⊢
          obtain ⟨k, hk, h⟩ := h1
          exact ⟨k, by omega, h⟩
        clear k0 f0 k1 f1 k2 f2 k3 f3
        go_wp2
        go_ret
        rw [HE2.out]
        exact DidE.no (by decide) HP.out HBB.out
    · obtain rfl : j = n := by omega
      have hjn : ¬ (j : Int) < j := by omega
      have hbe := become_is (HP.out.call hb) (hx.px (HP.out.ok.map (by decide) (by omega) (by have := HR.out; omega))) HP.out.lw
      have HER1 : Hid (er = if fullB (mapP P a j 2 0 o) = true then 13 else 0) := by
        show _ = _
        rw [HER.out, if_neg (by rw [hh]; decide)]
      unfold Became at hbe
      rw [← HER1.out] at hbe
      clear hx hb hh HX HBX
      go_wp2_with fail
      refine hbe.mono ?_
      rintro e w4 ⟨rfl, hd⟩
      have HD := Lib.hid (hd.pre (B := B) HBB.out)
      clear hd hbe
      go_wp2
      go_ret
      refine ⟨rfl, ?_⟩
      have hd := HD.out
      by_cases e : fullB (mapP P a j 2 0 o) = true
      · rw [if_pos e] at hd
        rw [if_neg (by rw [HER1.out, if_pos e]; decide)]; exact hd
      · rw [if_neg e] at hd
        rw [if_pos (by rw [HER1.out, if_neg e])]; exact hd
set_option maxRecDepth 100000 in
set_option maxHeartbeats 4000000 in
theorem map_2sz (h : Px B w xa v P) {a n : Nat} {p : Int} (hp : prB p = true) (hp0 : p ≠ 0) (hr : rtI a n 0 = 0) (hin : 1 ≤ a ∧ 1 ≤ n ∧ a + n ≤ 4096) : Calls Try.prog 38 #[.pointer (some ⟨xa, 0, none⟩), .int .i64 a, .int .i64 n, .int .i64 2, .int .i64 p, .int .i64 0] w (DidE B w xa P (mapP P a n 2 p 0) (if usedB P a n = true then 7 else if fullB (mapP P a n 2 p 0) = true then 13 else 0)) := by
  have hri := fun w => refRight_any a n 0 (by omega) (by omega) (by omega) (by omega) w
  rw [hr] at hri
  have hpr := fun w => prot_is p w
  rw [hp] at hpr
  have hsz := fun w => size_is 2 w
  rw [show szO 2 = 1 by decide] at hsz
  have hsh := fun w => shared_is 2 w
  rw [show decide (shr 2) = true by decide] at hsh
  have p0 : (p == 0) = false := by simpa using hp0
  have HR := Lib.hid hin
  have HP := Lib.hid h
  have n4 : (n : Int) ≤ 4096 := by omega
  have a4 : (a : Int) ≤ 4096 := by omega
  have hcp := copied_is h
  obtain ⟨er, her⟩ : ∃ er : Int, er = if usedB P a n = true then 7 else if fullB (mapP P a n 2 p 0) = true then 13 else 0 := ⟨_, rfl⟩
  rw [← her]
  have HER := Lib.hid her
  clear h hr hin her hp hp0
  go_enter Try.func38, Try.ntmps38
  go_wp2_with (first | (go_at_call 51; (with_reducible refine (hri _).mono ?_); rintro e w1 ⟨rfl, rfl⟩) | (go_at_call 49; (with_reducible refine (hpr _).mono ?_); rintro e w1 ⟨rfl, rfl⟩) | (go_at_call 50; (with_reducible refine (hsz _).mono ?_); rintro e w1 ⟨rfl, rfl⟩) | (go_at_call 13; (with_reducible refine (hsh _).mono ?_); rintro e w1 ⟨rfl, rfl⟩))
  refine hcp.mono ?_
  rintro e w2 ⟨xb, vb, rfl, hx2, hb2⟩
  obtain ⟨g, c, rfl, hgD, -, -⟩ := hx2.form
  have HG := Lib.hid hgD
  have hB0 : Bx w.heap.size w2 xb (.slice (some ⟨g, 0, none⟩) 4096 c) (mapP P a 0 2 p 0) := by rw [mapP_zero]; exact hx2.bx
  have HX := Lib.hid hB0
  have HB2 := Lib.hid hb2
  clear hcp hb2 hx2 hB0 hgD hri hpr hsz
  go_wp2_with fail
  go_loopw [16] (fun i wr => ∃ j : Nat, j ≤ n ∧ i = .int .i64 j ∧ Bx w.heap.size wr xb (.slice (some ⟨g, 0, none⟩) 4096 c) (mapP P a j 2 p 0) ∧ Below w.heap.size w wr ∧ usedB P a j = false) (fun i _ => n - (RowKit.intOf i).toNat)
  case atStart => exact ⟨0, Nat.zero_le _, rfl, HX.out, HB2.out, rfl⟩
  case round =>
    obtain ⟨j, hj, rfl, hx, hb, hh⟩ := hrel
    have HBX := Lib.hid hx
    have HBB := Lib.hid hb
    have HHU := Lib.hid hh
    by_cases hlt : j < n
    · obtain ⟨q, hq⟩ : ∃ q : Nat, q = a + j := ⟨_, rfl⟩
      have HQ := Lib.hid hq
      have c0 := hx.c0
      obtain ⟨hpg, ⟨u0, k0⟩, f0, ⟨u1, k1⟩, f1, ⟨u2, k2⟩, f2, ⟨u3, k3⟩, f3⟩ := hx.page rfl (i := q) (by have := HR.out; omega) 2 p 0 0
      have HPG := Lib.hid hpg
      obtain ⟨f4, hpg2⟩ := hpg.put rfl (i := q) (q := 3) (by have := HR.out; omega) (by decide) (u := .int .i64 j) (x := ⟨2, p, 0, j⟩) (by rw [if_pos rfl]; rfl)
      have f4 := f4 (q * 4 + 3)
      have k4 := (hpg.cells rfl (i := q) (by have := HR.out; omega)).2.2.2
      have c4 := hpg.c0
      rw [if_pos rfl] at k4
      dsimp only at k4
      have HPG2 := Lib.hid hpg2
      clear hpg2
      have hjn : (j : Int) < n := by omega
      have hqe : (a : Int) + j = (q : Int) := by omega
      have hq0 : (0 : Int) ≤ q := by omega
      have hq4 : (q : Int) < 4096 := by have := HR.out; omega
      obtain ⟨gp, cp, hv, hat⟩ := (HP.out.call hb).how
      have ca := (HP.out.call hb).c0
      rw [hv] at ca
      have cq := hat q (by have := HR.out; omega)
      obtain ⟨hh1, hhe⟩ : ∃ z, z = (P q).h := ⟨_, rfl⟩
      rw [← hhe] at cq
      have HSQ : Hid (usedB P a (j + 1) = decide (hh1 ≠ 0)) := by
        show _ = _
        unfold usedB at hh ⊢
        rw [anyB_succ, hh, Bool.false_or, hhe, hqe]
      clear hx hb hpg hq hhe hat hv hh
      by_cases hbig : hh1 = 0
      · subst hbig
        have HHS : Hid (usedB P a (j + 1) = false) := by
          show _ = _
          rw [HSQ.out]; rfl
        go_wp2_with (go_at_call 13; (with_reducible refine (hsh _).mono ?_); rintro e w1 ⟨rfl, rfl⟩)
        go_round
        case rel =>
          refine ⟨j + 1, by omega, rfl, HPG2.out.congr fun i _ => ?_, below_set (below_set (below_set (below_set (below_set HBB.out HG.out _ _) HG.out _ _) HG.out _ _) HG.out _ _) HG.out _ _, HHS.out⟩
          rw [show (((j + 1 : Nat) : Int)) = (j : Int) + 1 by omega, ← mapP_succ, show (q : Int) = (a : Int) + j by have := HQ.out; omega, if_pos (show shr 2 by decide)]
          by_cases e : (i : Int) = a + j
          · rw [if_pos e, if_pos e]
          · rw [if_neg e, if_neg e, if_neg e]
        case measure => simp [RowKit.intOf]; omega
      · have hbn : (hh1 != 0) = true := by simpa using hbig
        have HE2 : Hid (er = 7) := by
          show _ = _
          rw [HER.out, if_pos]
          have h1 := HSQ.out
          rw [decide_eq_true hbig] at h1
          unfold usedB at h1 ⊢
          rw [anyB_true] at h1 ⊢
          obtain ⟨k, hk, h⟩ := h1
          exact ⟨k, by omega, h⟩
        clear k0 f0 k1 f1 k2 f2 k3 f3
        go_wp2
        go_ret
        rw [HE2.out]
        exact DidE.no (by decide) HP.out HBB.out
    · obtain rfl : j = n := by omega
      have hjn : ¬ (j : Int) < j := by omega
      have hbe := become_is (HP.out.call hb) (hx.px (HP.out.ok.map (by decide) (by omega) (by have := HR.out; omega))) HP.out.lw
      have HER1 : Hid (er = if fullB (mapP P a j 2 p 0) = true then 13 else 0) := by
        show _ = _
        rw [HER.out, if_neg (by rw [hh]; decide)]
      unfold Became at hbe
      rw [← HER1.out] at hbe
      clear hx hb hh HX HBX
      go_wp2_with fail
      refine hbe.mono ?_
      rintro e w4 ⟨rfl, hd⟩
      have HD := Lib.hid (hd.pre (B := B) HBB.out)
      clear hd hbe
      go_wp2
      go_ret
      refine ⟨rfl, ?_⟩
      have hd := HD.out
      by_cases e : fullB (mapP P a j 2 p 0) = true
      · rw [if_pos e] at hd
        rw [if_neg (by rw [HER1.out, if_pos e]; decide)]; exact hd
      · rw [if_neg e] at hd
        rw [if_pos (by rw [HER1.out, if_neg e])]; exact hd
set_option maxRecDepth 100000 in
set_option maxHeartbeats 4000000 in
theorem map_2ss (h : Px B w xa v P) {a n : Nat} {p : Int} (hp : prB p = true) (hp0 : p ≠ 0) {o : Int} (ho : 0 < o) (hr : rtI a n 0 = 0) (hin : 1 ≤ a ∧ 1 ≤ n ∧ a + n ≤ 4096) : Calls Try.prog 38 #[.pointer (some ⟨xa, 0, none⟩), .int .i64 a, .int .i64 n, .int .i64 2, .int .i64 p, .int .i64 o] w (DidE B w xa P (mapP P a n 2 p o) (if usedB P a n = true then 7 else if fullB (mapP P a n 2 p o) = true then 13 else 0)) := by
  have hri := fun w => refRight_any a n 0 (by omega) (by omega) (by omega) (by omega) w
  rw [hr] at hri
  have hpr := fun w => prot_is p w
  rw [hp] at hpr
  have hsz := fun w => size_is 2 w
  rw [show szO 2 = 1 by decide] at hsz
  have hsh := fun w => shared_is 2 w
  rw [show decide (shr 2) = true by decide] at hsh
  have p0 : (p == 0) = false := by simpa using hp0
  have ho1 : ¬ o < 0 := by omega
  have ho2 : decide (o < 0) = false := decide_eq_false ho1
  have ho3 : decide (0 < o) = true := decide_eq_true ho
  have HR := Lib.hid hin
  have HP := Lib.hid h
  have n4 : (n : Int) ≤ 4096 := by omega
  have a4 : (a : Int) ≤ 4096 := by omega
  have hcp := copied_is h
  obtain ⟨er, her⟩ : ∃ er : Int, er = if usedB P a n = true then 7 else if fullB (mapP P a n 2 p o) = true then 13 else 0 := ⟨_, rfl⟩
  rw [← her]
  have HER := Lib.hid her
  clear h hr hin her hp hp0
  go_enter Try.func38, Try.ntmps38
  go_wp2_with (first | (go_at_call 51; (with_reducible refine (hri _).mono ?_); rintro e w1 ⟨rfl, rfl⟩) | (go_at_call 49; (with_reducible refine (hpr _).mono ?_); rintro e w1 ⟨rfl, rfl⟩) | (go_at_call 50; (with_reducible refine (hsz _).mono ?_); rintro e w1 ⟨rfl, rfl⟩) | (go_at_call 13; (with_reducible refine (hsh _).mono ?_); rintro e w1 ⟨rfl, rfl⟩))
  refine hcp.mono ?_
  rintro e w2 ⟨xb, vb, rfl, hx2, hb2⟩
  obtain ⟨g, c, rfl, hgD, -, -⟩ := hx2.form
  have HG := Lib.hid hgD
  have hB0 : Bx w.heap.size w2 xb (.slice (some ⟨g, 0, none⟩) 4096 c) (mapP P a 0 2 p o) := by rw [mapP_zero]; exact hx2.bx
  have HX := Lib.hid hB0
  have HB2 := Lib.hid hb2
  clear hcp hb2 hx2 hB0 hgD hri hpr hsz
  go_wp2_with fail
  go_loopw [16] (fun i wr => ∃ j : Nat, j ≤ n ∧ i = .int .i64 j ∧ Bx w.heap.size wr xb (.slice (some ⟨g, 0, none⟩) 4096 c) (mapP P a j 2 p o) ∧ Below w.heap.size w wr ∧ usedB P a j = false) (fun i _ => n - (RowKit.intOf i).toNat)
  case atStart => exact ⟨0, Nat.zero_le _, rfl, HX.out, HB2.out, rfl⟩
  case round =>
    obtain ⟨j, hj, rfl, hx, hb, hh⟩ := hrel
    have HBX := Lib.hid hx
    have HBB := Lib.hid hb
    have HHU := Lib.hid hh
    by_cases hlt : j < n
    · obtain ⟨q, hq⟩ : ∃ q : Nat, q = a + j := ⟨_, rfl⟩
      have HQ := Lib.hid hq
      have c0 := hx.c0
      obtain ⟨hpg, ⟨u0, k0⟩, f0, ⟨u1, k1⟩, f1, ⟨u2, k2⟩, f2, ⟨u3, k3⟩, f3⟩ := hx.page rfl (i := q) (by have := HR.out; omega) 2 p o 0
      have HPG := Lib.hid hpg
      obtain ⟨f4, hpg2⟩ := hpg.put rfl (i := q) (q := 3) (by have := HR.out; omega) (by decide) (u := .int .i64 j) (x := ⟨2, p, o, j⟩) (by rw [if_pos rfl]; rfl)
      have f4 := f4 (q * 4 + 3)
      have k4 := (hpg.cells rfl (i := q) (by have := HR.out; omega)).2.2.2
      have c4 := hpg.c0
      rw [if_pos rfl] at k4
      dsimp only at k4
      have HPG2 := Lib.hid hpg2
      clear hpg2
      have hjn : (j : Int) < n := by omega
      have hqe : (a : Int) + j = (q : Int) := by omega
      have hq0 : (0 : Int) ≤ q := by omega
      have hq4 : (q : Int) < 4096 := by have := HR.out; omega
      obtain ⟨gp, cp, hv, hat⟩ := (HP.out.call hb).how
      have ca := (HP.out.call hb).c0
      rw [hv] at ca
      have cq := hat q (by have := HR.out; omega)
      obtain ⟨hh1, hhe⟩ : ∃ z, z = (P q).h := ⟨_, rfl⟩
      rw [← hhe] at cq
      have HSQ : Hid (usedB P a (j + 1) = decide (hh1 ≠ 0)) := by
        show _ = _
        unfold usedB at hh ⊢
        rw [anyB_succ, hh, Bool.false_or, hhe, hqe]
      clear hx hb hpg hq hhe hat hv hh
      by_cases hbig : hh1 = 0
      · subst hbig
        have HHS : Hid (usedB P a (j + 1) = false) := by
          show _ = _
          rw [HSQ.out]; rfl
        go_wp2_with (go_at_call 13; (with_reducible refine (hsh _).mono ?_); rintro e w1 ⟨rfl, rfl⟩)
        go_round
        case rel =>
          refine ⟨j + 1, by omega, rfl, HPG2.out.congr fun i _ => ?_, below_set (below_set (below_set (below_set (below_set HBB.out HG.out _ _) HG.out _ _) HG.out _ _) HG.out _ _) HG.out _ _, HHS.out⟩
          rw [show (((j + 1 : Nat) : Int)) = (j : Int) + 1 by omega, ← mapP_succ, show (q : Int) = (a : Int) + j by have := HQ.out; omega, if_pos (show shr 2 by decide)]
          by_cases e : (i : Int) = a + j
          · rw [if_pos e, if_pos e]
          · rw [if_neg e, if_neg e, if_neg e]
        case measure => simp [RowKit.intOf]; omega
      · have hbn : (hh1 != 0) = true := by simpa using hbig
        have HE2 : Hid (er = 7) := by
          show _ = _
          rw [HER.out, if_pos]
          have h1 := HSQ.out
          rw [decide_eq_true hbig] at h1
          unfold usedB at h1 ⊢
          rw [anyB_true] at h1 ⊢
          obtain ⟨k, hk, h⟩ := h1
          exact ⟨k, by omega, h⟩
        clear k0 f0 k1 f1 k2 f2 k3 f3
        go_wp2
        go_ret
        rw [HE2.out]
        exact DidE.no (by decide) HP.out HBB.out
    · obtain rfl : j = n := by omega
      have hjn : ¬ (j : Int) < j := by omega
      have hbe := become_is (HP.out.call hb) (hx.px (HP.out.ok.map (by decide) (by omega) (by have := HR.out; omega))) HP.out.lw
      have HER1 : Hid (er = if fullB (mapP P a j 2 p o) = true then 13 else 0) := by
        show _ = _
        rw [HER.out, if_neg (by rw [hh]; decide)]
      unfold Became at hbe
      rw [← HER1.out] at hbe
      clear hx hb hh HX HBX
      go_wp2_with fail
      refine hbe.mono ?_
      rintro e w4 ⟨rfl, hd⟩
      have HD := Lib.hid (hd.pre (B := B) HBB.out)
      clear hd hbe
      go_wp2
      go_ret
      refine ⟨rfl, ?_⟩
      have hd := HD.out
      by_cases e : fullB (mapP P a j 2 p o) = true
      · rw [if_pos e] at hd
        rw [if_neg (by rw [HER1.out, if_pos e]; decide)]; exact hd
      · rw [if_neg e] at hd
        rw [if_pos (by rw [HER1.out, if_neg e])]; exact hd
set_option maxRecDepth 100000 in
set_option maxHeartbeats 4000000 in
theorem map_3sz (h : Px B w xa v P) {a n : Nat} {p : Int} (hp : prB p = true) (hp0 : p ≠ 0) (hr : rtI a n 3 = 0) (hin : 1 ≤ a ∧ 1 ≤ n ∧ a + n ≤ 4096) : Calls Try.prog 38 #[.pointer (some ⟨xa, 0, none⟩), .int .i64 a, .int .i64 n, .int .i64 3, .int .i64 p, .int .i64 0] w (DidE B w xa P (mapP P a n 3 p 0) (if usedB P a n = true then 7 else if fullB (mapP P a n 3 p 0) = true then 13 else 0)) := by
  have hri := fun w => refRight_any a n 3 (by omega) (by omega) (by omega) (by omega) w
  rw [hr] at hri
  have hpr := fun w => prot_is p w
  rw [hp] at hpr
  have hsz := fun w => size_is 3 w
  rw [show szO 3 = 8 by decide] at hsz
  have hsh := fun w => shared_is 3 w
  rw [show decide (shr 3) = false by decide] at hsh
  have p0 : (p == 0) = false := by simpa using hp0
  have HR := Lib.hid hin
  have HP := Lib.hid h
  have n4 : (n : Int) ≤ 4096 := by omega
  have a4 : (a : Int) ≤ 4096 := by omega
  have hcp := copied_is h
  obtain ⟨er, her⟩ : ∃ er : Int, er = if usedB P a n = true then 7 else if fullB (mapP P a n 3 p 0) = true then 13 else 0 := ⟨_, rfl⟩
  rw [← her]
  have HER := Lib.hid her
  clear h hr hin her hp hp0
  go_enter Try.func38, Try.ntmps38
  go_wp2_with (first | (go_at_call 51; (with_reducible refine (hri _).mono ?_); rintro e w1 ⟨rfl, rfl⟩) | (go_at_call 49; (with_reducible refine (hpr _).mono ?_); rintro e w1 ⟨rfl, rfl⟩) | (go_at_call 50; (with_reducible refine (hsz _).mono ?_); rintro e w1 ⟨rfl, rfl⟩) | (go_at_call 13; (with_reducible refine (hsh _).mono ?_); rintro e w1 ⟨rfl, rfl⟩))
  refine hcp.mono ?_
  rintro e w2 ⟨xb, vb, rfl, hx2, hb2⟩
  obtain ⟨g, c, rfl, hgD, -, -⟩ := hx2.form
  have HG := Lib.hid hgD
  have hB0 : Bx w.heap.size w2 xb (.slice (some ⟨g, 0, none⟩) 4096 c) (mapP P a 0 3 p 0) := by rw [mapP_zero]; exact hx2.bx
  have HX := Lib.hid hB0
  have HB2 := Lib.hid hb2
  clear hcp hb2 hx2 hB0 hgD hri hpr hsz
  go_wp2_with fail
  go_loopw [16] (fun i wr => ∃ j : Nat, j ≤ n ∧ i = .int .i64 j ∧ Bx w.heap.size wr xb (.slice (some ⟨g, 0, none⟩) 4096 c) (mapP P a j 3 p 0) ∧ Below w.heap.size w wr ∧ usedB P a j = false) (fun i _ => n - (RowKit.intOf i).toNat)
  case atStart => exact ⟨0, Nat.zero_le _, rfl, HX.out, HB2.out, rfl⟩
  case round =>
    obtain ⟨j, hj, rfl, hx, hb, hh⟩ := hrel
    have HBX := Lib.hid hx
    have HBB := Lib.hid hb
    have HHU := Lib.hid hh
    by_cases hlt : j < n
    · obtain ⟨q, hq⟩ : ∃ q : Nat, q = a + j := ⟨_, rfl⟩
      have HQ := Lib.hid hq
      have c0 := hx.c0
      obtain ⟨hpg, ⟨u0, k0⟩, f0, ⟨u1, k1⟩, f1, ⟨u2, k2⟩, f2, ⟨u3, k3⟩, f3⟩ := hx.page rfl (i := q) (by have := HR.out; omega) 3 p 0 0
      have HPG := Lib.hid hpg
      have hjn : (j : Int) < n := by omega
      have hqe : (a : Int) + j = (q : Int) := by omega
      have hq0 : (0 : Int) ≤ q := by omega
      have hq4 : (q : Int) < 4096 := by have := HR.out; omega
      obtain ⟨gp, cp, hv, hat⟩ := (HP.out.call hb).how
      have ca := (HP.out.call hb).c0
      rw [hv] at ca
      have cq := hat q (by have := HR.out; omega)
      obtain ⟨hh1, hhe⟩ : ∃ z, z = (P q).h := ⟨_, rfl⟩
      rw [← hhe] at cq
      have HSQ : Hid (usedB P a (j + 1) = decide (hh1 ≠ 0)) := by
        show _ = _
        unfold usedB at hh ⊢
        rw [anyB_succ, hh, Bool.false_or, hhe, hqe]
      clear hx hb hpg hq hhe hat hv hh
      by_cases hbig : hh1 = 0
      · subst hbig
        have HHS : Hid (usedB P a (j + 1) = false) := by
          show _ = _
          rw [HSQ.out]; rfl
        go_wp2_with (go_at_call 13; (with_reducible refine (hsh _).mono ?_); rintro e w1 ⟨rfl, rfl⟩)
        go_round
        case rel =>
          refine ⟨j + 1, by omega, rfl, HPG.out.congr fun i _ => ?_, below_set (below_set (below_set (below_set HBB.out HG.out _ _) HG.out _ _) HG.out _ _) HG.out _ _, HHS.out⟩
          rw [show (((j + 1 : Nat) : Int)) = (j : Int) + 1 by omega, ← mapP_succ, show (q : Int) = (a : Int) + j by have := HQ.out; omega, if_neg (show ¬ shr 3 by decide)]
        case measure => simp [RowKit.intOf]; omega
      · have hbn : (hh1 != 0) = true := by simpa using hbig
        have HE2 : Hid (er = 7) := by
          show _ = _
          rw [HER.out, if_pos]
          have h1 := HSQ.out
          rw [decide_eq_true hbig] at h1
          unfold usedB at h1 ⊢
          rw [anyB_true] at h1 ⊢
          obtain ⟨k, hk, h⟩ := h1
          exact ⟨k, by omega, h⟩
        clear k0 f0 k1 f1 k2 f2 k3 f3
        go_wp2
        go_ret
        rw [HE2.out]
        exact DidE.no (by decide) HP.out HBB.out
    · obtain rfl : j = n := by omega
      have hjn : ¬ (j : Int) < j := by omega
      have hbe := become_is (HP.out.call hb) (hx.px (HP.out.ok.map (by decide) (by omega) (by have := HR.out; omega))) HP.out.lw
      have HER1 : Hid (er = if fullB (mapP P a j 3 p 0) = true then 13 else 0) := by
        show _ = _
        rw [HER.out, if_neg (by rw [hh]; decide)]
      unfold Became at hbe
      rw [← HER1.out] at hbe
      clear hx hb hh HX HBX
      go_wp2_with fail
      refine hbe.mono ?_
      rintro e w4 ⟨rfl, hd⟩
      have HD := Lib.hid (hd.pre (B := B) HBB.out)
      clear hd hbe
      go_wp2
      go_ret
      refine ⟨rfl, ?_⟩
      have hd := HD.out
      by_cases e : fullB (mapP P a j 3 p 0) = true
      · rw [if_pos e] at hd
        rw [if_neg (by rw [HER1.out, if_pos e]; decide)]; exact hd
      · rw [if_neg e] at hd
        rw [if_pos (by rw [HER1.out, if_neg e])]; exact hd
set_option maxRecDepth 100000 in
set_option maxHeartbeats 4000000 in
theorem map_4sz (h : Px B w xa v P) {a n : Nat} {p : Int} (hp : prB p = true) (hp0 : p ≠ 0) (hr : rtI a n 6 = 0) (hin : 1 ≤ a ∧ 1 ≤ n ∧ a + n ≤ 4096) : Calls Try.prog 38 #[.pointer (some ⟨xa, 0, none⟩), .int .i64 a, .int .i64 n, .int .i64 4, .int .i64 p, .int .i64 0] w (DidE B w xa P (mapP P a n 4 p 0) (if usedB P a n = true then 7 else if fullB (mapP P a n 4 p 0) = true then 13 else 0)) := by
  have hri := fun w => refRight_any a n 6 (by omega) (by omega) (by omega) (by omega) w
  rw [hr] at hri
  have hpr := fun w => prot_is p w
  rw [hp] at hpr
  have hsz := fun w => size_is 4 w
  rw [show szO 4 = 64 by decide] at hsz
  have hsh := fun w => shared_is 4 w
  rw [show decide (shr 4) = false by decide] at hsh
  have p0 : (p == 0) = false := by simpa using hp0
  have HR := Lib.hid hin
  have HP := Lib.hid h
  have n4 : (n : Int) ≤ 4096 := by omega
  have a4 : (a : Int) ≤ 4096 := by omega
  have hcp := copied_is h
  obtain ⟨er, her⟩ : ∃ er : Int, er = if usedB P a n = true then 7 else if fullB (mapP P a n 4 p 0) = true then 13 else 0 := ⟨_, rfl⟩
  rw [← her]
  have HER := Lib.hid her
  clear h hr hin her hp hp0
  go_enter Try.func38, Try.ntmps38
  go_wp2_with (first | (go_at_call 51; (with_reducible refine (hri _).mono ?_); rintro e w1 ⟨rfl, rfl⟩) | (go_at_call 49; (with_reducible refine (hpr _).mono ?_); rintro e w1 ⟨rfl, rfl⟩) | (go_at_call 50; (with_reducible refine (hsz _).mono ?_); rintro e w1 ⟨rfl, rfl⟩) | (go_at_call 13; (with_reducible refine (hsh _).mono ?_); rintro e w1 ⟨rfl, rfl⟩))
  refine hcp.mono ?_
  rintro e w2 ⟨xb, vb, rfl, hx2, hb2⟩
  obtain ⟨g, c, rfl, hgD, -, -⟩ := hx2.form
  have HG := Lib.hid hgD
  have hB0 : Bx w.heap.size w2 xb (.slice (some ⟨g, 0, none⟩) 4096 c) (mapP P a 0 4 p 0) := by rw [mapP_zero]; exact hx2.bx
  have HX := Lib.hid hB0
  have HB2 := Lib.hid hb2
  clear hcp hb2 hx2 hB0 hgD hri hpr hsz
  go_wp2_with fail
  go_loopw [16] (fun i wr => ∃ j : Nat, j ≤ n ∧ i = .int .i64 j ∧ Bx w.heap.size wr xb (.slice (some ⟨g, 0, none⟩) 4096 c) (mapP P a j 4 p 0) ∧ Below w.heap.size w wr ∧ usedB P a j = false) (fun i _ => n - (RowKit.intOf i).toNat)
  case atStart => exact ⟨0, Nat.zero_le _, rfl, HX.out, HB2.out, rfl⟩
  case round =>
    obtain ⟨j, hj, rfl, hx, hb, hh⟩ := hrel
    have HBX := Lib.hid hx
    have HBB := Lib.hid hb
    have HHU := Lib.hid hh
    by_cases hlt : j < n
    · obtain ⟨q, hq⟩ : ∃ q : Nat, q = a + j := ⟨_, rfl⟩
      have HQ := Lib.hid hq
      have c0 := hx.c0
      obtain ⟨hpg, ⟨u0, k0⟩, f0, ⟨u1, k1⟩, f1, ⟨u2, k2⟩, f2, ⟨u3, k3⟩, f3⟩ := hx.page rfl (i := q) (by have := HR.out; omega) 4 p 0 0
      have HPG := Lib.hid hpg
      have hjn : (j : Int) < n := by omega
      have hqe : (a : Int) + j = (q : Int) := by omega
      have hq0 : (0 : Int) ≤ q := by omega
      have hq4 : (q : Int) < 4096 := by have := HR.out; omega
      obtain ⟨gp, cp, hv, hat⟩ := (HP.out.call hb).how
      have ca := (HP.out.call hb).c0
      rw [hv] at ca
      have cq := hat q (by have := HR.out; omega)
      obtain ⟨hh1, hhe⟩ : ∃ z, z = (P q).h := ⟨_, rfl⟩
      rw [← hhe] at cq
      have HSQ : Hid (usedB P a (j + 1) = decide (hh1 ≠ 0)) := by
        show _ = _
        unfold usedB at hh ⊢
        rw [anyB_succ, hh, Bool.false_or, hhe, hqe]
      clear hx hb hpg hq hhe hat hv hh
      by_cases hbig : hh1 = 0
      · subst hbig
        have HHS : Hid (usedB P a (j + 1) = false) := by
          show _ = _
          rw [HSQ.out]; rfl
        go_wp2_with (go_at_call 13; (with_reducible refine (hsh _).mono ?_); rintro e w1 ⟨rfl, rfl⟩)
        go_round
        case rel =>
          refine ⟨j + 1, by omega, rfl, HPG.out.congr fun i _ => ?_, below_set (below_set (below_set (below_set HBB.out HG.out _ _) HG.out _ _) HG.out _ _) HG.out _ _, HHS.out⟩
          rw [show (((j + 1 : Nat) : Int)) = (j : Int) + 1 by omega, ← mapP_succ, show (q : Int) = (a : Int) + j by have := HQ.out; omega, if_neg (show ¬ shr 4 by decide)]
        case measure => simp [RowKit.intOf]; omega
      · have hbn : (hh1 != 0) = true := by simpa using hbig
        have HE2 : Hid (er = 7) := by
          show _ = _
          rw [HER.out, if_pos]
          have h1 := HSQ.out
          rw [decide_eq_true hbig] at h1
          unfold usedB at h1 ⊢
          rw [anyB_true] at h1 ⊢
          obtain ⟨k, hk, h⟩ := h1
          exact ⟨k, by omega, h⟩
        clear k0 f0 k1 f1 k2 f2 k3 f3
        go_wp2
        go_ret
        rw [HE2.out]
        exact DidE.no (by decide) HP.out HBB.out
    · obtain rfl : j = n := by omega
      have hjn : ¬ (j : Int) < j := by omega
      have hbe := become_is (HP.out.call hb) (hx.px (HP.out.ok.map (by decide) (by omega) (by have := HR.out; omega))) HP.out.lw
      have HER1 : Hid (er = if fullB (mapP P a j 4 p 0) = true then 13 else 0) := by
        show _ = _
        rw [HER.out, if_neg (by rw [hh]; decide)]
      unfold Became at hbe
      rw [← HER1.out] at hbe
      clear hx hb hh HX HBX
      go_wp2_with fail
      refine hbe.mono ?_
      rintro e w4 ⟨rfl, hd⟩
      have HD := Lib.hid (hd.pre (B := B) HBB.out)
      clear hd hbe
      go_wp2
      go_ret
      refine ⟨rfl, ?_⟩
      have hd := HD.out
      by_cases e : fullB (mapP P a j 4 p 0) = true
      · rw [if_pos e] at hd
        rw [if_neg (by rw [HER1.out, if_pos e]; decide)]; exact hd
      · rw [if_neg e] at hd
        rw [if_pos (by rw [HER1.out, if_neg e])]; exact hd
set_option maxRecDepth 100000 in
set_option maxHeartbeats 4000000 in
theorem map_5sz (h : Px B w xa v P) {a n : Nat} {p : Int} (hp : prB p = true) (hp0 : p ≠ 0) (hr : rtI a n 3 = 0) (hin : 1 ≤ a ∧ 1 ≤ n ∧ a + n ≤ 4096) : Calls Try.prog 38 #[.pointer (some ⟨xa, 0, none⟩), .int .i64 a, .int .i64 n, .int .i64 5, .int .i64 p, .int .i64 0] w (DidE B w xa P (mapP P a n 5 p 0) (if usedB P a n = true then 7 else if fullB (mapP P a n 5 p 0) = true then 13 else 0)) := by
  have hri := fun w => refRight_any a n 3 (by omega) (by omega) (by omega) (by omega) w
  rw [hr] at hri
  have hpr := fun w => prot_is p w
  rw [hp] at hpr
  have hsz := fun w => size_is 5 w
  rw [show szO 5 = 8 by decide] at hsz
  have hsh := fun w => shared_is 5 w
  rw [show decide (shr 5) = true by decide] at hsh
  have p0 : (p == 0) = false := by simpa using hp0
  have HR := Lib.hid hin
  have HP := Lib.hid h
  have n4 : (n : Int) ≤ 4096 := by omega
  have a4 : (a : Int) ≤ 4096 := by omega
  have hcp := copied_is h
  obtain ⟨er, her⟩ : ∃ er : Int, er = if usedB P a n = true then 7 else if fullB (mapP P a n 5 p 0) = true then 13 else 0 := ⟨_, rfl⟩
  rw [← her]
  have HER := Lib.hid her
  clear h hr hin her hp hp0
  go_enter Try.func38, Try.ntmps38
  go_wp2_with (first | (go_at_call 51; (with_reducible refine (hri _).mono ?_); rintro e w1 ⟨rfl, rfl⟩) | (go_at_call 49; (with_reducible refine (hpr _).mono ?_); rintro e w1 ⟨rfl, rfl⟩) | (go_at_call 50; (with_reducible refine (hsz _).mono ?_); rintro e w1 ⟨rfl, rfl⟩) | (go_at_call 13; (with_reducible refine (hsh _).mono ?_); rintro e w1 ⟨rfl, rfl⟩))
  refine hcp.mono ?_
  rintro e w2 ⟨xb, vb, rfl, hx2, hb2⟩
  obtain ⟨g, c, rfl, hgD, -, -⟩ := hx2.form
  have HG := Lib.hid hgD
  have hB0 : Bx w.heap.size w2 xb (.slice (some ⟨g, 0, none⟩) 4096 c) (mapP P a 0 5 p 0) := by rw [mapP_zero]; exact hx2.bx
  have HX := Lib.hid hB0
  have HB2 := Lib.hid hb2
  clear hcp hb2 hx2 hB0 hgD hri hpr hsz
  go_wp2_with fail
  go_loopw [16] (fun i wr => ∃ j : Nat, j ≤ n ∧ i = .int .i64 j ∧ Bx w.heap.size wr xb (.slice (some ⟨g, 0, none⟩) 4096 c) (mapP P a j 5 p 0) ∧ Below w.heap.size w wr ∧ usedB P a j = false) (fun i _ => n - (RowKit.intOf i).toNat)
  case atStart => exact ⟨0, Nat.zero_le _, rfl, HX.out, HB2.out, rfl⟩
  case round =>
    obtain ⟨j, hj, rfl, hx, hb, hh⟩ := hrel
    have HBX := Lib.hid hx
    have HBB := Lib.hid hb
    have HHU := Lib.hid hh
    by_cases hlt : j < n
    · obtain ⟨q, hq⟩ : ∃ q : Nat, q = a + j := ⟨_, rfl⟩
      have HQ := Lib.hid hq
      have c0 := hx.c0
      obtain ⟨hpg, ⟨u0, k0⟩, f0, ⟨u1, k1⟩, f1, ⟨u2, k2⟩, f2, ⟨u3, k3⟩, f3⟩ := hx.page rfl (i := q) (by have := HR.out; omega) 5 p 0 0
      have HPG := Lib.hid hpg
      obtain ⟨f4, hpg2⟩ := hpg.put rfl (i := q) (q := 3) (by have := HR.out; omega) (by decide) (u := .int .i64 j) (x := ⟨5, p, 0, j⟩) (by rw [if_pos rfl]; rfl)
      have f4 := f4 (q * 4 + 3)
      have k4 := (hpg.cells rfl (i := q) (by have := HR.out; omega)).2.2.2
      have c4 := hpg.c0
      rw [if_pos rfl] at k4
      dsimp only at k4
      have HPG2 := Lib.hid hpg2
      clear hpg2
      have hjn : (j : Int) < n := by omega
      have hqe : (a : Int) + j = (q : Int) := by omega
      have hq0 : (0 : Int) ≤ q := by omega
      have hq4 : (q : Int) < 4096 := by have := HR.out; omega
      obtain ⟨gp, cp, hv, hat⟩ := (HP.out.call hb).how
      have ca := (HP.out.call hb).c0
      rw [hv] at ca
      have cq := hat q (by have := HR.out; omega)
      obtain ⟨hh1, hhe⟩ : ∃ z, z = (P q).h := ⟨_, rfl⟩
      rw [← hhe] at cq
      have HSQ : Hid (usedB P a (j + 1) = decide (hh1 ≠ 0)) := by
        show _ = _
        unfold usedB at hh ⊢
        rw [anyB_succ, hh, Bool.false_or, hhe, hqe]
      clear hx hb hpg hq hhe hat hv hh
      by_cases hbig : hh1 = 0
      · subst hbig
        have HHS : Hid (usedB P a (j + 1) = false) := by
          show _ = _
          rw [HSQ.out]; rfl
        go_wp2_with (go_at_call 13; (with_reducible refine (hsh _).mono ?_); rintro e w1 ⟨rfl, rfl⟩)
        go_round
        case rel =>
          refine ⟨j + 1, by omega, rfl, HPG2.out.congr fun i _ => ?_, below_set (below_set (below_set (below_set (below_set HBB.out HG.out _ _) HG.out _ _) HG.out _ _) HG.out _ _) HG.out _ _, HHS.out⟩
          rw [show (((j + 1 : Nat) : Int)) = (j : Int) + 1 by omega, ← mapP_succ, show (q : Int) = (a : Int) + j by have := HQ.out; omega, if_pos (show shr 5 by decide)]
          by_cases e : (i : Int) = a + j
          · rw [if_pos e, if_pos e]
          · rw [if_neg e, if_neg e, if_neg e]
        case measure => simp [RowKit.intOf]; omega
      · have hbn : (hh1 != 0) = true := by simpa using hbig
        have HE2 : Hid (er = 7) := by
          show _ = _
          rw [HER.out, if_pos]
          have h1 := HSQ.out
          rw [decide_eq_true hbig] at h1
          unfold usedB at h1 ⊢
          rw [anyB_true] at h1 ⊢
          obtain ⟨k, hk, h⟩ := h1
          exact ⟨k, by omega, h⟩
        clear k0 f0 k1 f1 k2 f2 k3 f3
        go_wp2
        go_ret
        rw [HE2.out]
        exact DidE.no (by decide) HP.out HBB.out
    · obtain rfl : j = n := by omega
      have hjn : ¬ (j : Int) < j := by omega
      have hbe := become_is (HP.out.call hb) (hx.px (HP.out.ok.map (by decide) (by omega) (by have := HR.out; omega))) HP.out.lw
      have HER1 : Hid (er = if fullB (mapP P a j 5 p 0) = true then 13 else 0) := by
        show _ = _
        rw [HER.out, if_neg (by rw [hh]; decide)]
      unfold Became at hbe
      rw [← HER1.out] at hbe
      clear hx hb hh HX HBX
      go_wp2_with fail
      refine hbe.mono ?_
      rintro e w4 ⟨rfl, hd⟩
      have HD := Lib.hid (hd.pre (B := B) HBB.out)
      clear hd hbe
      go_wp2
      go_ret
      refine ⟨rfl, ?_⟩
      have hd := HD.out
      by_cases e : fullB (mapP P a j 5 p 0) = true
      · rw [if_pos e] at hd
        rw [if_neg (by rw [HER1.out, if_pos e]; decide)]; exact hd
      · rw [if_neg e] at hd
        rw [if_pos (by rw [HER1.out, if_neg e])]; exact hd
set_option maxRecDepth 100000 in
set_option maxHeartbeats 4000000 in
theorem map_5ss (h : Px B w xa v P) {a n : Nat} {p : Int} (hp : prB p = true) (hp0 : p ≠ 0) {o : Int} (ho : 0 < o) (hr : rtI a n 3 = 0) (hin : 1 ≤ a ∧ 1 ≤ n ∧ a + n ≤ 4096) : Calls Try.prog 38 #[.pointer (some ⟨xa, 0, none⟩), .int .i64 a, .int .i64 n, .int .i64 5, .int .i64 p, .int .i64 o] w (DidE B w xa P (mapP P a n 5 p o) (if usedB P a n = true then 7 else if fullB (mapP P a n 5 p o) = true then 13 else 0)) := by
  have hri := fun w => refRight_any a n 3 (by omega) (by omega) (by omega) (by omega) w
  rw [hr] at hri
  have hpr := fun w => prot_is p w
  rw [hp] at hpr
  have hsz := fun w => size_is 5 w
  rw [show szO 5 = 8 by decide] at hsz
  have hsh := fun w => shared_is 5 w
  rw [show decide (shr 5) = true by decide] at hsh
  have p0 : (p == 0) = false := by simpa using hp0
  have ho1 : ¬ o < 0 := by omega
  have ho2 : decide (o < 0) = false := decide_eq_false ho1
  have ho3 : decide (0 < o) = true := decide_eq_true ho
  have HR := Lib.hid hin
  have HP := Lib.hid h
  have n4 : (n : Int) ≤ 4096 := by omega
  have a4 : (a : Int) ≤ 4096 := by omega
  have hcp := copied_is h
  obtain ⟨er, her⟩ : ∃ er : Int, er = if usedB P a n = true then 7 else if fullB (mapP P a n 5 p o) = true then 13 else 0 := ⟨_, rfl⟩
  rw [← her]
  have HER := Lib.hid her
  clear h hr hin her hp hp0
  go_enter Try.func38, Try.ntmps38
  go_wp2_with (first | (go_at_call 51; (with_reducible refine (hri _).mono ?_); rintro e w1 ⟨rfl, rfl⟩) | (go_at_call 49; (with_reducible refine (hpr _).mono ?_); rintro e w1 ⟨rfl, rfl⟩) | (go_at_call 50; (with_reducible refine (hsz _).mono ?_); rintro e w1 ⟨rfl, rfl⟩) | (go_at_call 13; (with_reducible refine (hsh _).mono ?_); rintro e w1 ⟨rfl, rfl⟩))
  refine hcp.mono ?_
  rintro e w2 ⟨xb, vb, rfl, hx2, hb2⟩
  obtain ⟨g, c, rfl, hgD, -, -⟩ := hx2.form
  have HG := Lib.hid hgD
  have hB0 : Bx w.heap.size w2 xb (.slice (some ⟨g, 0, none⟩) 4096 c) (mapP P a 0 5 p o) := by rw [mapP_zero]; exact hx2.bx
  have HX := Lib.hid hB0
  have HB2 := Lib.hid hb2
  clear hcp hb2 hx2 hB0 hgD hri hpr hsz
  go_wp2_with fail
  go_loopw [16] (fun i wr => ∃ j : Nat, j ≤ n ∧ i = .int .i64 j ∧ Bx w.heap.size wr xb (.slice (some ⟨g, 0, none⟩) 4096 c) (mapP P a j 5 p o) ∧ Below w.heap.size w wr ∧ usedB P a j = false) (fun i _ => n - (RowKit.intOf i).toNat)
  case atStart => exact ⟨0, Nat.zero_le _, rfl, HX.out, HB2.out, rfl⟩
  case round =>
    obtain ⟨j, hj, rfl, hx, hb, hh⟩ := hrel
    have HBX := Lib.hid hx
    have HBB := Lib.hid hb
    have HHU := Lib.hid hh
    by_cases hlt : j < n
    · obtain ⟨q, hq⟩ : ∃ q : Nat, q = a + j := ⟨_, rfl⟩
      have HQ := Lib.hid hq
      have c0 := hx.c0
      obtain ⟨hpg, ⟨u0, k0⟩, f0, ⟨u1, k1⟩, f1, ⟨u2, k2⟩, f2, ⟨u3, k3⟩, f3⟩ := hx.page rfl (i := q) (by have := HR.out; omega) 5 p o 0
      have HPG := Lib.hid hpg
      obtain ⟨f4, hpg2⟩ := hpg.put rfl (i := q) (q := 3) (by have := HR.out; omega) (by decide) (u := .int .i64 j) (x := ⟨5, p, o, j⟩) (by rw [if_pos rfl]; rfl)
      have f4 := f4 (q * 4 + 3)
      have k4 := (hpg.cells rfl (i := q) (by have := HR.out; omega)).2.2.2
      have c4 := hpg.c0
      rw [if_pos rfl] at k4
      dsimp only at k4
      have HPG2 := Lib.hid hpg2
      clear hpg2
      have hjn : (j : Int) < n := by omega
      have hqe : (a : Int) + j = (q : Int) := by omega
      have hq0 : (0 : Int) ≤ q := by omega
      have hq4 : (q : Int) < 4096 := by have := HR.out; omega
      obtain ⟨gp, cp, hv, hat⟩ := (HP.out.call hb).how
      have ca := (HP.out.call hb).c0
      rw [hv] at ca
      have cq := hat q (by have := HR.out; omega)
      obtain ⟨hh1, hhe⟩ : ∃ z, z = (P q).h := ⟨_, rfl⟩
      rw [← hhe] at cq
      have HSQ : Hid (usedB P a (j + 1) = decide (hh1 ≠ 0)) := by
        show _ = _
        unfold usedB at hh ⊢
        rw [anyB_succ, hh, Bool.false_or, hhe, hqe]
      clear hx hb hpg hq hhe hat hv hh
      by_cases hbig : hh1 = 0
      · subst hbig
        have HHS : Hid (usedB P a (j + 1) = false) := by
          show _ = _
          rw [HSQ.out]; rfl
        go_wp2_with (go_at_call 13; (with_reducible refine (hsh _).mono ?_); rintro e w1 ⟨rfl, rfl⟩)
        go_round
        case rel =>
          refine ⟨j + 1, by omega, rfl, HPG2.out.congr fun i _ => ?_, below_set (below_set (below_set (below_set (below_set HBB.out HG.out _ _) HG.out _ _) HG.out _ _) HG.out _ _) HG.out _ _, HHS.out⟩
          rw [show (((j + 1 : Nat) : Int)) = (j : Int) + 1 by omega, ← mapP_succ, show (q : Int) = (a : Int) + j by have := HQ.out; omega, if_pos (show shr 5 by decide)]
          by_cases e : (i : Int) = a + j
          · rw [if_pos e, if_pos e]
          · rw [if_neg e, if_neg e, if_neg e]
        case measure => simp [RowKit.intOf]; omega
      · have hbn : (hh1 != 0) = true := by simpa using hbig
        have HE2 : Hid (er = 7) := by
          show _ = _
          rw [HER.out, if_pos]
          have h1 := HSQ.out
          rw [decide_eq_true hbig] at h1
          unfold usedB at h1 ⊢
          rw [anyB_true] at h1 ⊢
          obtain ⟨k, hk, h⟩ := h1
          exact ⟨k, by omega, h⟩
        clear k0 f0 k1 f1 k2 f2 k3 f3
        go_wp2
        go_ret
        rw [HE2.out]
        exact DidE.no (by decide) HP.out HBB.out
    · obtain rfl : j = n := by omega
      have hjn : ¬ (j : Int) < j := by omega
      have hbe := become_is (HP.out.call hb) (hx.px (HP.out.ok.map (by decide) (by omega) (by have := HR.out; omega))) HP.out.lw
      have HER1 : Hid (er = if fullB (mapP P a j 5 p o) = true then 13 else 0) := by
        show _ = _
        rw [HER.out, if_neg (by rw [hh]; decide)]
      unfold Became at hbe
      rw [← HER1.out] at hbe
      clear hx hb hh HX HBX
      go_wp2_with fail
      refine hbe.mono ?_
      rintro e w4 ⟨rfl, hd⟩
      have HD := Lib.hid (hd.pre (B := B) HBB.out)
      clear hd hbe
      go_wp2
      go_ret
      refine ⟨rfl, ?_⟩
      have hd := HD.out
      by_cases e : fullB (mapP P a j 5 p o) = true
      · rw [if_pos e] at hd
        rw [if_neg (by rw [HER1.out, if_pos e]; decide)]; exact hd
      · rw [if_neg e] at hd
        rw [if_pos (by rw [HER1.out, if_neg e])]; exact hd
set_option maxRecDepth 100000 in
set_option maxHeartbeats 4000000 in
theorem map_6sz (h : Px B w xa v P) {a n : Nat} {p : Int} (hp : prB p = true) (hp0 : p ≠ 0) (hr : rtI a n 3 = 0) (hin : 1 ≤ a ∧ 1 ≤ n ∧ a + n ≤ 4096) : Calls Try.prog 38 #[.pointer (some ⟨xa, 0, none⟩), .int .i64 a, .int .i64 n, .int .i64 6, .int .i64 p, .int .i64 0] w (DidE B w xa P (mapP P a n 6 p 0) (if usedB P a n = true then 7 else if fullB (mapP P a n 6 p 0) = true then 13 else 0)) := by
  have hri := fun w => refRight_any a n 3 (by omega) (by omega) (by omega) (by omega) w
  rw [hr] at hri
  have hpr := fun w => prot_is p w
  rw [hp] at hpr
  have hsz := fun w => size_is 6 w
  rw [show szO 6 = 8 by decide] at hsz
  have hsh := fun w => shared_is 6 w
  rw [show decide (shr 6) = false by decide] at hsh
  have p0 : (p == 0) = false := by simpa using hp0
  have HR := Lib.hid hin
  have HP := Lib.hid h
  have n4 : (n : Int) ≤ 4096 := by omega
  have a4 : (a : Int) ≤ 4096 := by omega
  have hcp := copied_is h
  obtain ⟨er, her⟩ : ∃ er : Int, er = if usedB P a n = true then 7 else if fullB (mapP P a n 6 p 0) = true then 13 else 0 := ⟨_, rfl⟩
  rw [← her]
  have HER := Lib.hid her
  clear h hr hin her hp hp0
  go_enter Try.func38, Try.ntmps38
  go_wp2_with (first | (go_at_call 51; (with_reducible refine (hri _).mono ?_); rintro e w1 ⟨rfl, rfl⟩) | (go_at_call 49; (with_reducible refine (hpr _).mono ?_); rintro e w1 ⟨rfl, rfl⟩) | (go_at_call 50; (with_reducible refine (hsz _).mono ?_); rintro e w1 ⟨rfl, rfl⟩) | (go_at_call 13; (with_reducible refine (hsh _).mono ?_); rintro e w1 ⟨rfl, rfl⟩))
  refine hcp.mono ?_
  rintro e w2 ⟨xb, vb, rfl, hx2, hb2⟩
  obtain ⟨g, c, rfl, hgD, -, -⟩ := hx2.form
  have HG := Lib.hid hgD
  have hB0 : Bx w.heap.size w2 xb (.slice (some ⟨g, 0, none⟩) 4096 c) (mapP P a 0 6 p 0) := by rw [mapP_zero]; exact hx2.bx
  have HX := Lib.hid hB0
  have HB2 := Lib.hid hb2
  clear hcp hb2 hx2 hB0 hgD hri hpr hsz
  go_wp2_with fail
  go_loopw [16] (fun i wr => ∃ j : Nat, j ≤ n ∧ i = .int .i64 j ∧ Bx w.heap.size wr xb (.slice (some ⟨g, 0, none⟩) 4096 c) (mapP P a j 6 p 0) ∧ Below w.heap.size w wr ∧ usedB P a j = false) (fun i _ => n - (RowKit.intOf i).toNat)
  case atStart => exact ⟨0, Nat.zero_le _, rfl, HX.out, HB2.out, rfl⟩
  case round =>
    obtain ⟨j, hj, rfl, hx, hb, hh⟩ := hrel
    have HBX := Lib.hid hx
    have HBB := Lib.hid hb
    have HHU := Lib.hid hh
    by_cases hlt : j < n
    · obtain ⟨q, hq⟩ : ∃ q : Nat, q = a + j := ⟨_, rfl⟩
      have HQ := Lib.hid hq
      have c0 := hx.c0
      obtain ⟨hpg, ⟨u0, k0⟩, f0, ⟨u1, k1⟩, f1, ⟨u2, k2⟩, f2, ⟨u3, k3⟩, f3⟩ := hx.page rfl (i := q) (by have := HR.out; omega) 6 p 0 0
      have HPG := Lib.hid hpg
      have hjn : (j : Int) < n := by omega
      have hqe : (a : Int) + j = (q : Int) := by omega
      have hq0 : (0 : Int) ≤ q := by omega
      have hq4 : (q : Int) < 4096 := by have := HR.out; omega
      obtain ⟨gp, cp, hv, hat⟩ := (HP.out.call hb).how
      have ca := (HP.out.call hb).c0
      rw [hv] at ca
      have cq := hat q (by have := HR.out; omega)
      obtain ⟨hh1, hhe⟩ : ∃ z, z = (P q).h := ⟨_, rfl⟩
      rw [← hhe] at cq
      have HSQ : Hid (usedB P a (j + 1) = decide (hh1 ≠ 0)) := by
        show _ = _
        unfold usedB at hh ⊢
        rw [anyB_succ, hh, Bool.false_or, hhe, hqe]
      clear hx hb hpg hq hhe hat hv hh
      by_cases hbig : hh1 = 0
      · subst hbig
        have HHS : Hid (usedB P a (j + 1) = false) := by
          show _ = _
          rw [HSQ.out]; rfl
        go_wp2_with (go_at_call 13; (with_reducible refine (hsh _).mono ?_); rintro e w1 ⟨rfl, rfl⟩)
        go_round
        case rel =>
          refine ⟨j + 1, by omega, rfl, HPG.out.congr fun i _ => ?_, below_set (below_set (below_set (below_set HBB.out HG.out _ _) HG.out _ _) HG.out _ _) HG.out _ _, HHS.out⟩
          rw [show (((j + 1 : Nat) : Int)) = (j : Int) + 1 by omega, ← mapP_succ, show (q : Int) = (a : Int) + j by have := HQ.out; omega, if_neg (show ¬ shr 6 by decide)]
        case measure => simp [RowKit.intOf]; omega
      · have hbn : (hh1 != 0) = true := by simpa using hbig
        have HE2 : Hid (er = 7) := by
          show _ = _
          rw [HER.out, if_pos]
          have h1 := HSQ.out
          rw [decide_eq_true hbig] at h1
          unfold usedB at h1 ⊢
          rw [anyB_true] at h1 ⊢
          obtain ⟨k, hk, h⟩ := h1
          exact ⟨k, by omega, h⟩
        clear k0 f0 k1 f1 k2 f2 k3 f3
        go_wp2
        go_ret
        rw [HE2.out]
        exact DidE.no (by decide) HP.out HBB.out
    · obtain rfl : j = n := by omega
      have hjn : ¬ (j : Int) < j := by omega
      have hbe := become_is (HP.out.call hb) (hx.px (HP.out.ok.map (by decide) (by omega) (by have := HR.out; omega))) HP.out.lw
      have HER1 : Hid (er = if fullB (mapP P a j 6 p 0) = true then 13 else 0) := by
        show _ = _
        rw [HER.out, if_neg (by rw [hh]; decide)]
      unfold Became at hbe
      rw [← HER1.out] at hbe
      clear hx hb hh HX HBX
      go_wp2_with fail
      refine hbe.mono ?_
      rintro e w4 ⟨rfl, hd⟩
      have HD := Lib.hid (hd.pre (B := B) HBB.out)
      clear hd hbe
      go_wp2
      go_ret
      refine ⟨rfl, ?_⟩
      have hd := HD.out
      by_cases e : fullB (mapP P a j 6 p 0) = true
      · rw [if_pos e] at hd
        rw [if_neg (by rw [HER1.out, if_pos e]; decide)]; exact hd
      · rw [if_neg e] at hd
        rw [if_pos (by rw [HER1.out, if_neg e])]; exact hd
end
end Go.Proofs.Ytodepfgfgphkbaa
