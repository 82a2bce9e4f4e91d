/- The walk of the law WalkLeaves: pages of one huge leaf have frames one behind the other. -/
import Derived.Test.YtaphihoomipdaaaWl
namespace Go.Proofs.Ytaphihoomipdaaa
open Go.RowKit
theorem fol_lv {ws : List Int} {root p : Int} (h : (fol ws root p).er = 0) : (fol ws root p).lv ≤ 2 ∧ 0 ≤ p ∧ p ≤ 4095 := by
  unfold fol at h ⊢
  split
  · rename_i hc
    rw [if_pos hc] at h
    refine ⟨?_, hc.2⟩
    by_cases hs : say ((ws.length : Int) / 8) ((2 + 1 : Nat) : Int) (wd ws root (dg p (2 + 1))) = 2
    · rw [wk_on hs] at h ⊢
      have hv : (app [root] (wk ws p 2 (unF (wd ws root (dg p (2 + 1)))))).lv = (wk ws p 2 (unF (wd ws root (dg p (2 + 1))))).lv := by unfold app; split <;> rfl
      have hr : (wk ws p 2 (unF (wd ws root (dg p (2 + 1))))).er = 0 := by
        revert h; unfold app; split
        · exact id
        · exact id
      rw [hv]
      exact ((wk_fine ws p 2 _).ok hr).1
    · rw [wk_stop (l := 3) hs] at h
      exfalso
      unfold fin at h
      split at h
      · simp at h
      · split at h
        · rename_i h3
          exact say_leaf h3 rfl
        · simp at h
  · rename_i hc
    rw [if_neg hc] at h
    simp at h
set_option maxRecDepth 100000 in
set_option maxHeartbeats 2000000 in
theorem leaves_bad (f root page other : Int) (ap : Option Addr) (n c : Nat) (W : World) (hf : f < 8 ∨ 1024 < f) : Calls Try.prog 4 #[.agg #[.int .i64 f, .slice ap n c, .int .i64 root, .int .i64 page], .int .i64 other] W fun e W' => e = .returned (.bool true) ∧ Below W.heap.size W W' := by
  have b0 := Lib.hid (below_new W 39 [.int .i64 f, .slice ap n c, .int .i64 root, .int .i64 page])
  have HF := Lib.hid hf
  clear hf
  go_enter Try.func4, Try.ntmps4
  go_wp2_with fail
  refine (made_bad f ap n c _ HF.out).mono ?_
  rintro e w1 ⟨rfl, k1⟩
  have B1 := Lib.hid (below_chain b0.out k1 b0.out.size)
  clear k1
  go_wp2_with fail
  refine (awake_any _).mono ?_
  rintro e w2 ⟨rfl, k2⟩
  have B2 := Lib.hid (below_chain B1.out k2 B1.out.size)
  clear k2 B1
  go_wp2_with fail
  refine (awake_any _).mono ?_
  rintro e w3 ⟨rfl, k3⟩
  have B3 := Lib.hid (below_chain B2.out k3 B2.out.size)
  clear k3 B2
  go_wp2_with fail
  go_ret
  exact ⟨rfl, B3.out⟩
set_option maxRecDepth 100000 in
set_option maxHeartbeats 4000000 in
theorem leaves_ok (F : Nat) (root page other : Int) (ap : Option Addr) (n c : Nat) (W : World) (h8 : 8 ≤ F) (h1024 : F ≤ 1024) (hl : Lds W W.heap.size ap n) : Calls Try.prog 4 #[.agg #[.int .i64 F, .slice ap n c, .int .i64 root, .int .i64 page], .int .i64 other] W fun e W' => e = .returned (.bool true) ∧ Below W.heap.size W W' := by
  obtain ⟨g, hg⟩ : ∃ g, g = W.heap.size := ⟨_, rfl⟩
  have HG := Lib.hid hg
  obtain ⟨w0, hw0⟩ : ∃ w0, w0 = W.alloc (.cells #[.int .i64 F, .slice ap n c, .int .i64 root, .int .i64 page] 39) := ⟨_, rfl⟩
  have r0 : Row w0 g 39 [.int .i64 F, .slice ap n c, .int .i64 root, .int .i64 page] := by rw [hw0, hg]; exact Row.new W _ _
  have B0 : Below W.heap.size W w0 := by rw [hw0]; exact below_new W _ [.int .i64 F, .slice ap n c, .int .i64 root, .int .i64 page]
  have HL := Lib.hid (hl.call B0)
  have HW := Lib.hid hw0
  clear hg hw0 hl
  have c0 : w0.cell? ⟨g, 0, none⟩ = some (.int .i64 F) := r0.cell 0
  have c1 : w0.cell? ⟨g, 1, none⟩ = some (.slice ap n c) := r0.cell 1
  go_enter Try.func4, Try.ntmps4
  go_upto_region 1 with (fail)
  rw [← HW.out, ← HG.out]
  go_wp2_with fail
  refine (made_ok F ap n c _ h8 h1024 HL.out).mono ?_
  rintro e w1 ⟨ra, rb, xa, xb, ws, rfl, S1⟩
  have r1 := r0.below S1.bel r0.lt
  have B1 := below_chain B0 S1.bel B0.size
  clear HL r0 B0 c0 c1
  go_wp2_with fail
  refine (awake_any _).mono ?_
  rintro e w2 ⟨rfl, k2⟩
  have r2 := r1.below k2 r1.lt
  have B2 := below_chain B1 k2 B1.size
  have S2 := S1.call k2
  have c2 : w2.cell? ⟨g, 2, none⟩ = some (.int .i64 root) := r2.cell 2
  have c3 : w2.cell? ⟨g, 3, none⟩ = some (.int .i64 page) := r2.cell 3
  clear k2 r1 B1 S1
  go_wp2_with fail
  obtain ⟨r, hr⟩ : ∃ r, r = fol ws root page := ⟨_, rfl⟩
  have HR := Lib.hid hr
  refine (walk_any S2.r root page).mono ?_
  rw [← hr]
  unfold WalkAns leafE
  obtain ⟨er, her⟩ : ∃ y, y = r.er := ⟨_, rfl⟩
  obtain ⟨f, ef⟩ : ∃ y, y = lfF r := ⟨_, rfl⟩
  obtain ⟨y0, ey0⟩ : ∃ y, y = lfB r 0 := ⟨_, rfl⟩
  obtain ⟨y1, ey1⟩ : ∃ y, y = lfB r 1 := ⟨_, rfl⟩
  obtain ⟨y7, ey7⟩ : ∃ y, y = lfB r 7 := ⟨_, rfl⟩
  obtain ⟨y9, ey9⟩ : ∃ y, y = lfB r 9 := ⟨_, rfl⟩
  obtain ⟨y5, ey5⟩ : ∃ y, y = lfB r 5 := ⟨_, rfl⟩
  obtain ⟨y6, ey6⟩ : ∃ y, y = lfB r 6 := ⟨_, rfl⟩
  obtain ⟨lv, elv⟩ : ∃ y, y = lfV r := ⟨_, rfl⟩
  obtain ⟨fr, efr⟩ : ∃ y, y = lfP r page := ⟨_, rfl⟩
  rw [← her, ← ef, ← ey0, ← ey1, ← ey7, ← ey9, ← ey5, ← ey6, ← elv, ← efr]
  have HER := Lib.hid her
  have HLV := Lib.hid elv
  have HFR := Lib.hid efr
  have HE := Lib.hid (And.intro ef (And.intro ey0 (And.intro ey1 (And.intro ey7 (And.intro ey9 (And.intro ey5 ey6))))))
  rintro e w3 ⟨rfl, k3⟩
  obtain ⟨w4, hw4⟩ : ∃ w4, w4 = w3.alloc (.cells #[.int .i64 f, .bool y0, .bool y1, .bool y7, .bool y9, .bool y5, .bool y6, .int .i64 lv, .int .i64 fr] 41) := ⟨_, rfl⟩
  obtain ⟨q3, hq3⟩ : ∃ q, q = w3.heap.size := ⟨_, rfl⟩
  have k4 : Below w2.heap.size w2 w4 := by rw [hw4]; exact k3.alloc k3.size _
  have r4 := r2.below k4 r2.lt
  have l4 : Row w4 q3 41 [.int .i64 f, .bool y0, .bool y1, .bool y7, .bool y9, .bool y5, .bool y6, .int .i64 lv, .int .i64 fr] := by rw [hw4, hq3]; exact Row.new w3 _ _
  have B4 := below_chain B2 k4 B2.size
  have S4 := S2.call k4
  have HW4 := Lib.hid hw4
  have HQ3 := Lib.hid hq3
  have c2' : w4.cell? ⟨g, 2, none⟩ = some (.int .i64 root) := r4.cell 2
  have c3' : w4.cell? ⟨g, 3, none⟩ = some (.int .i64 page) := r4.cell 3
  clear c2 c3 k3 k4 hw4 hq3 r2 B2 S2 her hr ef ey0 ey1 ey7 ey9 ey5 ey6 elv efr
  go_upto_region 5 with (fail)
  rw [← HW4.out, ← HQ3.out]
  clear HW4 HQ3
  have her4 : er = 0 ∨ er = 3 ∨ er = 5 ∨ er = 6 := by rw [HER.out, HR.out]; exact fol_er ws root page
  have d7 : w4.cell? ⟨q3, 7, none⟩ = some (.int .i64 lv) := l4.cell 7
  have B4 := Lib.hid B4
  by_cases he0 : er = 0
  case' neg =>
    have he1 : (er != 0) = true := by simpa using he0
    clear her4 he0
    go_wp2_with fail
    go_ret
    exact ⟨rfl, B4.out⟩
  clear her4
  subst he0
  have hk := fol_lv (ws := ws) (root := root) (p := page) (by rw [← HR.out]; exact HER.out.symm)
  rw [← HR.out] at hk
  obtain ⟨k1, k2, k3⟩ := hk
  have hlv : lv = (r.lv : Int) := by rw [HLV.out]; unfold lfV; rw [if_pos HER.out.symm]
  by_cases ho0 : other < 0
  · have hlz : lv = 0 ∨ lv = 1 ∨ lv = 2 := by omega
    clear hlv k1
    rcases hlz with rfl | rfl | rfl
    all_goals
      go_wp2_with fail
      go_ret
      exact ⟨rfl, B4.out⟩
  by_cases ho1 : 4096 ≤ other
  · have hlz : lv = 0 ∨ lv = 1 ∨ lv = 2 := by omega
    clear hlv k1
    rcases hlz with rfl | rfl | rfl
    all_goals
      go_wp2_with fail
      go_ret
      exact ⟨rfl, B4.out⟩
  obtain ⟨ot, rfl⟩ : ∃ k : Nat, other = k := ⟨other.toNat, by omega⟩
  obtain ⟨pg, rfl⟩ : ∃ k : Nat, page = k := ⟨page.toNat, by omega⟩
  have hot : (ot : Int) < 4096 := by omega
  have hlz : (lv = 0 ∧ r.lv = 0) ∨ (lv = 1 ∧ r.lv = 1) ∨ (lv = 2 ∧ r.lv = 2) := by omega
  clear ho0 ho1 hlv k1
  rcases hlz with ⟨rfl, hrl⟩ | ⟨rfl, hrl⟩ | ⟨rfl, hrl⟩
  · go_wp2_with fail
    go_ret
    exact ⟨rfl, B4.out⟩
  · have hn : (((ot : Int) / 8 != (pg : Int) / 8) = true) ∨ (((ot : Int) / 8 != (pg : Int) / 8) = false) := by cases ((ot : Int) / 8 != (pg : Int) / 8) <;> simp
    rcases hn with hn | hn
    · go_wp2_with fail
      go_quiet (fail)
      go_wp2_with fail
      go_ret
      exact ⟨rfl, drewN_below B4.out _⟩
    · have hq : (pg : Int) / 8 ^ r.lv = (ot : Int) / 8 ^ r.lv := by
        rw [hrl]
        show (pg : Int) / 8 = (ot : Int) / 8
        simp at hn
        omega
      have hs : fol ws root ot = r := by
        rw [HR.out] at hq ⊢
        exact fol_same (by rw [← HR.out, ← HER.out]) ⟨by omega, by omega⟩ hq
      have HS := Lib.hid hs
      obtain ⟨fr2, efr2⟩ : ∃ y, y = lfP r ot := ⟨_, rfl⟩
      have hp1 : lfP r pg = lfF r + (pg : Int) % 8 := by
        unfold lfP lfF
        rw [← HER.out, if_pos rfl, if_pos rfl, hrl]; rfl
      have hp2 : lfP r ot = lfF r + (ot : Int) % 8 := by
        unfold lfP lfF
        rw [← HER.out, if_pos rfl, if_pos rfl, hrl]; rfl
      have hfb : 0 ≤ lfF r ∧ lfF r < 1048576 := by
        unfold lfF
        rw [← HER.out, if_pos rfl]; exact un_frame _
      have hfr := HFR.out
      simp at hn
      have hd : (fr2 - fr == (ot : Int) - (pg : Int)) = true := by
        simp only [beq_iff_eq]; rw [efr2, hfr, hp1, hp2]; omega
      have fb1 : 0 ≤ fr := by rw [hfr, hp1]; omega
      have fb2 : fr < 2000000 := by rw [hfr, hp1]; omega
      have fb3 : 0 ≤ fr2 := by rw [efr2, hp2]; omega
      have fb4 : fr2 < 2000000 := by rw [efr2, hp2]; omega
      have hn' : ((ot : Int) / 8 != (pg : Int) / 8) = false := by simp; omega
      have HF2 := Lib.hid efr2
      clear hq hs hp1 hp2 hfb hfr efr2 hrl hn
      go_wp2_with fail
      go_quiet (fail)
      have S6 := S4.call (drewN_below (Below.refl _ _) nq)
      have B6 := drewN_below B4.out nq
      have r6 : Row (w4.drewN nq) g 39 [.int .i64 F, .slice ap n c, .int .i64 root, .int .i64 pg] := r4
      have l6 : Row (w4.drewN nq) q3 41 [.int .i64 f, .bool y0, .bool y1, .bool y7, .bool y9, .bool y5, .bool y6, .int .i64 1, .int .i64 fr] := l4
      have z2 : (w4.drewN nq).cell? ⟨g, 2, none⟩ = some (.int .i64 root) := r6.cell 2
      clear c2' c3' d7 S4 B4 r4 l4
      generalize w4.drewN nq = w6 at *
      go_wp2_with fail
      refine (walk_any S6.r root ot).mono ?_
      rw [HS.out]
      unfold WalkAns leafE
      rw [← HER.out, ← HE.out.1, ← HE.out.2.1, ← HE.out.2.2.1, ← HE.out.2.2.2.1, ← HE.out.2.2.2.2.1, ← HE.out.2.2.2.2.2.1, ← HE.out.2.2.2.2.2.2, ← HLV.out, ← HF2.out]
      rintro e w7 ⟨rfl, k7⟩
      obtain ⟨w8, hw8⟩ : ∃ w8, w8 = w7.alloc (.cells #[.int .i64 f, .bool y0, .bool y1, .bool y7, .bool y9, .bool y5, .bool y6, .int .i64 1, .int .i64 fr2] 41) := ⟨_, rfl⟩
      obtain ⟨q7, hq7⟩ : ∃ q, q = w7.heap.size := ⟨_, rfl⟩
      have k8 : Below w6.heap.size w6 w8 := by rw [hw8]; exact k7.alloc k7.size _
      have r8 := r6.below k8 r6.lt
      have l8 := l6.below k8 l6.lt
      have m8 : Row w8 q7 41 [.int .i64 f, .bool y0, .bool y1, .bool y7, .bool y9, .bool y5, .bool y6, .int .i64 1, .int .i64 fr2] := by rw [hw8, hq7]; exact Row.new w7 _ _
      have B8 := Lib.hid (below_chain B6 k8 B6.size)
      have HW8 := Lib.hid hw8
      have HQ7 := Lib.hid hq7
      have x3 : w8.cell? ⟨g, 3, none⟩ = some (.int .i64 pg) := r8.cell 3
      have a0 : w8.cell? ⟨q3, 0, none⟩ = some (.int .i64 f) := l8.cell 0
      have a1 : w8.cell? ⟨q3, 1, none⟩ = some (.bool y0) := l8.cell 1
      have a2 : w8.cell? ⟨q3, 2, none⟩ = some (.bool y1) := l8.cell 2
      have a3 : w8.cell? ⟨q3, 3, none⟩ = some (.bool y7) := l8.cell 3
      have a4 : w8.cell? ⟨q3, 4, none⟩ = some (.bool y9) := l8.cell 4
      have a5 : w8.cell? ⟨q3, 5, none⟩ = some (.bool y5) := l8.cell 5
      have a6 : w8.cell? ⟨q3, 6, none⟩ = some (.bool y6) := l8.cell 6
      have a8 : w8.cell? ⟨q3, 8, none⟩ = some (.int .i64 fr) := l8.cell 8
      have b0 : w8.cell? ⟨q7, 0, none⟩ = some (.int .i64 f) := m8.cell 0
      have b1 : w8.cell? ⟨q7, 1, none⟩ = some (.bool y0) := m8.cell 1
      have b2 : w8.cell? ⟨q7, 2, none⟩ = some (.bool y1) := m8.cell 2
      have b3 : w8.cell? ⟨q7, 3, none⟩ = some (.bool y7) := m8.cell 3
      have b4 : w8.cell? ⟨q7, 4, none⟩ = some (.bool y9) := m8.cell 4
      have b5 : w8.cell? ⟨q7, 5, none⟩ = some (.bool y5) := m8.cell 5
      have b6 : w8.cell? ⟨q7, 6, none⟩ = some (.bool y6) := m8.cell 6
      have b8 : w8.cell? ⟨q7, 8, none⟩ = some (.int .i64 fr2) := m8.cell 8
      clear z2 k7 k8 hw8 hq7 r6 l6 B6 S6 r8 l8 m8 hn'
      go_upto_region 13 with (fail)
      rw [← HW8.out, ← HQ7.out]
      clear HW8 HQ7
      go_wp2_with fail
      go_ret
      exact ⟨rfl, B8.out⟩
  · have hn : (((ot : Int) / 64 != (pg : Int) / 64) = true) ∨ (((ot : Int) / 64 != (pg : Int) / 64) = false) := by cases ((ot : Int) / 64 != (pg : Int) / 64) <;> simp
    rcases hn with hn | hn
    · go_wp2_with fail
      go_quiet (fail)
      go_wp2_with fail
      go_ret
      exact ⟨rfl, drewN_below B4.out _⟩
    · have hq : (pg : Int) / 8 ^ r.lv = (ot : Int) / 8 ^ r.lv := by
        rw [hrl]
        show (pg : Int) / 64 = (ot : Int) / 64
        simp at hn
        omega
      have hs : fol ws root ot = r := by
        rw [HR.out] at hq ⊢
        exact fol_same (by rw [← HR.out, ← HER.out]) ⟨by omega, by omega⟩ hq
      have HS := Lib.hid hs
      obtain ⟨fr2, efr2⟩ : ∃ y, y = lfP r ot := ⟨_, rfl⟩
      have hp1 : lfP r pg = lfF r + (pg : Int) % 64 := by
        unfold lfP lfF
        rw [← HER.out, if_pos rfl, if_pos rfl, hrl]; rfl
      have hp2 : lfP r ot = lfF r + (ot : Int) % 64 := by
        unfold lfP lfF
        rw [← HER.out, if_pos rfl, if_pos rfl, hrl]; rfl
      have hfb : 0 ≤ lfF r ∧ lfF r < 1048576 := by
        unfold lfF
        rw [← HER.out, if_pos rfl]; exact un_frame _
      have hfr := HFR.out
      simp at hn
      have hd : (fr2 - fr == (ot : Int) - (pg : Int)) = true := by
        simp only [beq_iff_eq]; rw [efr2, hfr, hp1, hp2]; omega
      have fb1 : 0 ≤ fr := by rw [hfr, hp1]; omega
      have fb2 : fr < 2000000 := by rw [hfr, hp1]; omega
      have fb3 : 0 ≤ fr2 := by rw [efr2, hp2]; omega
      have fb4 : fr2 < 2000000 := by rw [efr2, hp2]; omega
      have hn' : ((ot : Int) / 64 != (pg : Int) / 64) = false := by simp; omega
      have HF2 := Lib.hid efr2
      clear hq hs hp1 hp2 hfb hfr efr2 hrl hn
      go_wp2_with fail
      go_quiet (fail)
      have S6 := S4.call (drewN_below (Below.refl _ _) nq)
      have B6 := drewN_below B4.out nq
      have r6 : Row (w4.drewN nq) g 39 [.int .i64 F, .slice ap n c, .int .i64 root, .int .i64 pg] := r4
      have l6 : Row (w4.drewN nq) q3 41 [.int .i64 f, .bool y0, .bool y1, .bool y7, .bool y9, .bool y5, .bool y6, .int .i64 2, .int .i64 fr] := l4
      have z2 : (w4.drewN nq).cell? ⟨g, 2, none⟩ = some (.int .i64 root) := r6.cell 2
      clear c2' c3' d7 S4 B4 r4 l4
      generalize w4.drewN nq = w6 at *
      go_wp2_with fail
      refine (walk_any S6.r root ot).mono ?_
      rw [HS.out]
      unfold WalkAns leafE
      rw [← HER.out, ← HE.out.1, ← HE.out.2.1, ← HE.out.2.2.1, ← HE.out.2.2.2.1, ← HE.out.2.2.2.2.1, ← HE.out.2.2.2.2.2.1, ← HE.out.2.2.2.2.2.2, ← HLV.out, ← HF2.out]
      rintro e w7 ⟨rfl, k7⟩
      obtain ⟨w8, hw8⟩ : ∃ w8, w8 = w7.alloc (.cells #[.int .i64 f, .bool y0, .bool y1, .bool y7, .bool y9, .bool y5, .bool y6, .int .i64 2, .int .i64 fr2] 41) := ⟨_, rfl⟩
      obtain ⟨q7, hq7⟩ : ∃ q, q = w7.heap.size := ⟨_, rfl⟩
      have k8 : Below w6.heap.size w6 w8 := by rw [hw8]; exact k7.alloc k7.size _
      have r8 := r6.below k8 r6.lt
      have l8 := l6.below k8 l6.lt
      have m8 : Row w8 q7 41 [.int .i64 f, .bool y0, .bool y1, .bool y7, .bool y9, .bool y5, .bool y6, .int .i64 2, .int .i64 fr2] := by rw [hw8, hq7]; exact Row.new w7 _ _
      have B8 := Lib.hid (below_chain B6 k8 B6.size)
      have HW8 := Lib.hid hw8
      have HQ7 := Lib.hid hq7
      have x3 : w8.cell? ⟨g, 3, none⟩ = some (.int .i64 pg) := r8.cell 3
      have a0 : w8.cell? ⟨q3, 0, none⟩ = some (.int .i64 f) := l8.cell 0
      have a1 : w8.cell? ⟨q3, 1, none⟩ = some (.bool y0) := l8.cell 1
      have a2 : w8.cell? ⟨q3, 2, none⟩ = some (.bool y1) := l8.cell 2
      have a3 : w8.cell? ⟨q3, 3, none⟩ = some (.bool y7) := l8.cell 3
      have a4 : w8.cell? ⟨q3, 4, none⟩ = some (.bool y9) := l8.cell 4
      have a5 : w8.cell? ⟨q3, 5, none⟩ = some (.bool y5) := l8.cell 5
      have a6 : w8.cell? ⟨q3, 6, none⟩ = some (.bool y6) := l8.cell 6
      have a8 : w8.cell? ⟨q3, 8, none⟩ = some (.int .i64 fr) := l8.cell 8
      have b0 : w8.cell? ⟨q7, 0, none⟩ = some (.int .i64 f) := m8.cell 0
      have b1 : w8.cell? ⟨q7, 1, none⟩ = some (.bool y0) := m8.cell 1
      have b2 : w8.cell? ⟨q7, 2, none⟩ = some (.bool y1) := m8.cell 2
      have b3 : w8.cell? ⟨q7, 3, none⟩ = some (.bool y7) := m8.cell 3
      have b4 : w8.cell? ⟨q7, 4, none⟩ = some (.bool y9) := m8.cell 4
      have b5 : w8.cell? ⟨q7, 5, none⟩ = some (.bool y5) := m8.cell 5
      have b6 : w8.cell? ⟨q7, 6, none⟩ = some (.bool y6) := m8.cell 6
      have b8 : w8.cell? ⟨q7, 8, none⟩ = some (.int .i64 fr2) := m8.cell 8
      clear z2 k7 k8 hw8 hq7 r6 l6 B6 S6 r8 l8 m8 hn'
      go_upto_region 13 with (fail)
      rw [← HW8.out, ← HQ7.out]
      clear HW8 HQ7
      go_wp2_with fail
      go_ret
      exact ⟨rfl, B8.out⟩
theorem leaves7_walk (f root page other : Int) (ap : Option Addr) (n c : Nat) (W : World) (hl : Lds W W.heap.size ap n) : Calls Try.prog 4 #[.agg #[.int .i64 f, .slice ap n c, .int .i64 root, .int .i64 page], .int .i64 other] W fun e W' => e = .returned (.bool true) ∧ Below W.heap.size W W' := by
  by_cases hf : f < 8 ∨ 1024 < f
  · exact leaves_bad f root page other ap n c W hf
  · obtain ⟨F, rfl⟩ : ∃ F : Nat, f = F := ⟨f.toNat, by omega⟩
    exact leaves_ok F root page other ap n c W (by omega) (by omega) hl
end Go.Proofs.Ytaphihoomipdaaa
