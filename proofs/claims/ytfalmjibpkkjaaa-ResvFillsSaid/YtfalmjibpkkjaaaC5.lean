/- The program's reservations: MinFunc, Oldest. -/
import Derived.Test.YtfalmjibpkkjaaaC4
import Derived.Deep.RegionHeld3
namespace Go.Proofs.Ytfalmjibpkkjaaa
open Go.RowKit
section
variable {w w' : World} {B : Nat} {T : ObT} {S S' : Rs} {n : Nat} {s p f : Int}
theorem cmpU_lt (a b : Int) : (decide (cmpU a b < 0)) = decide (a < b) := by
  unfold cmpU
  rw [decide_eq_decide]
  split
  · omega
  · split <;> omega
set_option maxRecDepth 100000 in
set_option maxHeartbeats 4000000 in
theorem min_r (h : ObAt B w T S) (hb : Bnd n S) (hn : n ≤ 900) {cb : Nat} (hc : Lrow w cb 23 [.pointer (some ⟨T.s, 0, none⟩)]) {D c : Nat} {A : Option Addr} (hk : EK.Own D w (.slice A S.L.length c) (keysR S.L)) {y : Rv} (h0 : 0 < S.L.length) (hy : S.L[oldK S.L (S.L.length - 1)]? = some y) :
    Calls Try.prog 37 #[.slice A S.L.length c, .func (.func 48) #[] #[.pointer (some ⟨cb, 0, none⟩)]] w fun e w' => e = .returned (.agg #[.int .i64 y.s, .int .i64 y.p]) ∧ Below w.heap.size w w' := by
  obtain ⟨m, hm⟩ : ∃ m, m = S.L.length := ⟨_, rfl⟩
  have m9 : (m : Int) ≤ 900 := by have := hb.ln; omega
  have m1 : (1 : Int) ≤ m := by omega
  have hkl : (keysR S.L).length = m := by unfold keysR; rw [List.length_map, hm]
  have hkx : ∀ j (hj : j < S.L.length) (hj' : j < (keysR S.L).length), (keysR S.L)[j] = (S.L[j].s, S.L[j].p) := fun j hj hj' => List.getElem_map (fun x : Rv => (x.s, x.p))
  obtain ⟨gk, e, -, hgk, -, hat⟩ := hk.some_ (by omega)
  subst e
  have HAT : Hid (∀ wr, Below w.heap.size w wr → ∀ j (hj : j < S.L.length), wr.cell? ⟨gk, j * 2, none⟩ = some (.int .i64 S.L[j].s) ∧ wr.cell? ⟨gk, j * 2 + 1, none⟩ = some (.int .i64 S.L[j].p)) := fun wr hbr j hj => by
    have h1 := hat j (by omega)
    rw [hkx j hj (by omega)] at h1
    have h2 := h1.heap (hbr.block gk hgk)
    exact ⟨h2 0 (by decide), h2 1 (by decide)⟩
  have HSO : Hid (∀ wr, Below w.heap.size w wr → ∀ (i j : Nat) (hi : i < S.L.length) (hj : j < S.L.length), Calls Try.prog 48 #[.agg #[.int .i64 S.L[i].s, .int .i64 S.L[i].p], .agg #[.int .i64 S.L[j].s, .int .i64 S.L[j].p], .pointer (some ⟨cb, 0, none⟩)] wr fun e w' => e = .returned (.int .i64 (cmpU S.L[i].t S.L[j].t)) ∧ Below wr.heap.size wr w') := fun wr hbr i j hi hj => sooner_r (h.call hbr) hb (hc.call hbr) (List.getElem_mem hi) (List.getElem_mem hj)
  have HH := Lib.hid (And.intro hm hy)
  rw [← hm] at hk ⊢
  obtain ⟨W1, hW1⟩ : ∃ W1, W1 = w.alloc (.cells #[.int .i64 0, .int .i64 0] 66) := ⟨_, rfl⟩
  obtain ⟨rb, hrb⟩ : ∃ rb, rb = w.heap.size := ⟨_, rfl⟩
  have b1 : Below w.heap.size w W1 := by rw [hW1]; exact below_new _ _
  have r1 : Lrow W1 rb 66 [.int .i64 0, .int .i64 0] := by rw [hW1, hrb]; exact Lrow.new w _ _
  obtain ⟨d0, d1⟩ := HAT.out W1 b1 0 (by omega)
  rw [Nat.zero_mul] at d0 d1
  have HW := Lib.hid (And.intro hW1 hrb)
  have HR := Lib.hid (And.intro b1 r1)
  obtain ⟨x0, hx0⟩ : ∃ x0, x0 = S.L[0] := ⟨_, rfl⟩
  rw [← hx0] at d0 d1
  obtain ⟨W2, hW2⟩ : ∃ W2, W2 = W1.alloc (.cells #[.int .i64 x0.s, .int .i64 x0.p] 66) := ⟨_, rfl⟩
  have b2 : Below W1.heap.size W1 W2 := by rw [hW2]; exact below_new _ _
  have s1 : W1.heap.size = rb + 1 := by rw [hW1, hrb]; simp
  have r2 : Lrow W2 (rb + 1) 66 [.int .i64 x0.s, .int .i64 x0.p] := by rw [← s1, hW2]; exact Lrow.new W1 _ _
  have HS2 : Hid (Lrow W2 (rb + 1) 66 [.int .i64 S.L[oldK S.L 0].s, .int .i64 S.L[oldK S.L 0].p] ∧ Lrow W2 rb 66 [.int .i64 0, .int .i64 0] ∧ Below w.heap.size w W2) := ⟨by show Lrow W2 (rb + 1) _ [.int .i64 S.L[0].s, .int .i64 S.L[0].p]; rw [← hx0]; exact r2, r1.call b2, b1.trans (b2.mono b1.size)⟩
  have HW2 := Lib.hid (And.intro hW2 s1)
  generalize x0.s = xs at *
  generalize x0.p = xp at *
  clear h hb hc hk hat hm hy hkx hkl hgk hW1 hrb b1 r1 hx0 hW2 b2 r2 s1
  go_enter Try.func37, Try.ntmps37
  go_upto_region 1 with (fail)
  rw [← HW.out.1, ← HW.out.2]
  go_upto_region 4 with (fail)
  rw [HW2.out.2, ← HW2.out.1]
  clear d0 d1
  go_wp2_with fail
  go_loopw [6] (fun i wr => ∃ (j : Nat) (hj : j < S.L.length), j + 1 ≤ m ∧ i = .int .i64 (j + 1 : Nat) ∧ Lrow wr (rb + 1) 66 [.int .i64 (S.L[oldK S.L j]'(Nat.lt_of_le_of_lt (oldK_le _ j) hj)).s, .int .i64 (S.L[oldK S.L j]'(Nat.lt_of_le_of_lt (oldK_le _ j) hj)).p] ∧ Lrow wr rb 66 [.int .i64 0, .int .i64 0] ∧ Below w.heap.size w wr) (fun i _ => m - (RowKit.intOf i).toNat)
  case atStart => exact ⟨0, by have := HH.out.1; omega, by omega, rfl, HS2.out.1, HS2.out.2.1, HS2.out.2.2⟩
  case round =>
    obtain ⟨j, hjl, hjm, rfl, hm1, hr1, hbw⟩ := hrel
    have hko : oldK S.L j < S.L.length := Nat.lt_of_le_of_lt (oldK_le _ j) hjl
    obtain ⟨y0, hy0⟩ : ∃ y0, y0 = S.L[oldK S.L j] := ⟨_, rfl⟩
    rw [← hy0] at hm1
    have HBW := Lib.hid hbw
    have HR1 := Lib.hid hr1
    by_cases hlt : j + 1 < m
    · have hjs : j + 1 < S.L.length := by have := HH.out.1; omega
      obtain ⟨d0, d1⟩ := HAT.out wr hbw (j + 1) hjs
      have d0' : ∀ k, (wr.drewN k).cell? ⟨gk, (j + 1) * 2, none⟩ = some (.int .i64 S.L[j + 1].s) := fun _ => d0
      have hso := HSO.out (wr.drewN 1) (below_dN hbw 1) (j + 1) (oldK S.L j) hjs hko
      rw [← hy0] at hso
      have HNX : Hid (∀ b, decide (S.L[j + 1].t < y0.t) = b → oldK S.L (j + 1) = if b = true then j + 1 else oldK S.L j) := fun b e => by
        rw [oldK_succ, tAt_get hjs, tAt_get hko, ← hy0, ← e]
        by_cases q : S.L[j + 1].t < y0.t
        · rw [if_pos q, decide_eq_true q, if_pos rfl]
        · rw [if_neg q, decide_eq_false q, if_neg (by decide)]
      have hcl := cmpU_lt S.L[j + 1].t y0.t
      obtain ⟨y1, hy1⟩ : ∃ y1, y1 = S.L[j + 1] := ⟨_, rfl⟩
      rw [← hy1] at d0 d1 hso HNX hcl
      obtain ⟨i, hi⟩ : ∃ i, i = j + 1 := ⟨_, rfl⟩
      rw [← hi] at d0 d1 HNX hlt ⊢
      have i1 : (i : Int) < m := by omega
      have i0 : (0 : Int) ≤ i := by omega
      have HI := Lib.hid (And.intro hi (And.intro hy0 hy1))
      have m0 := hm1.cell 0
      have m1' := hm1.cell 1
      have HM1 := Lib.hid hm1
      obtain ⟨r, hr⟩ : ∃ r, r = cmpU y1.t y0.t := ⟨_, rfl⟩
      rw [← hr] at hso hcl
      have S0 : wr.drew.cell? ⟨gk, i * 2, none⟩ = some (.int .i64 y1.s) ∧ wr.drew.cell? ⟨gk, i * 2 + 1, none⟩ = some (.int .i64 y1.p) ∧ wr.drew.cell? ⟨rb + 1, 0, none⟩ = some (.int .i64 y0.s) ∧ wr.drew.cell? ⟨rb + 1, 1, none⟩ = some (.int .i64 y0.p) := ⟨d0, d1, m0, m1'⟩
      have HSF : Hid (∀ w2, Below wr.heap.size wr w2 → (w2.cell? ⟨gk, i * 2, none⟩ = some (.int .i64 y1.s) ∧ w2.cell? ⟨gk, i * 2 + 1, none⟩ = some (.int .i64 y1.p) ∧ w2.cell? ⟨rb + 1, 0, none⟩ = some (.int .i64 y0.s) ∧ w2.cell? ⟨rb + 1, 1, none⟩ = some (.int .i64 y0.p)) ∧ Lrow w2 (rb + 1) 66 [.int .i64 y0.s, .int .i64 y0.p] ∧ Lrow w2 rb 66 [.int .i64 0, .int .i64 0] ∧ Below w.heap.size w w2) := fun w2 h2 => by
        have hx := HAT.out w2 (HBW.out.trans (h2.mono HBW.out.size)) (j + 1) hjs
        rw [← hy1, ← hi] at hx
        have hmm := HM1.out.call h2
        exact ⟨⟨hx.1, hx.2, hmm.cell 0, hmm.cell 1⟩, hmm, HR1.out.call h2, HBW.out.trans (h2.mono HBW.out.size)⟩
      have HN1 : Hid (decide (r < 0) = true → oldK S.L i = i) := fun e => by
        rw [hcl] at e
        have := HNX.out true e
        rw [if_pos rfl] at this
        exact this
      have HN0 : Hid (decide (r < 0) = false → oldK S.L i = oldK S.L j) := fun e => by
        rw [hcl] at e
        have := HNX.out false e
        rw [if_neg (by decide)] at this
        exact this
      have HK2 : Hid (rb < w.heap.size + 1 ∧ w.heap.size ≤ rb) := ⟨by have := HW.out.2; omega, by have := HW.out.2; omega⟩
      clear hcl hm1 hbw hr1 hr d0' HSO HNX d0 d1 m0 m1' hi hy0 hy1
      by_cases hrn : r < 0
      · have HF := Lib.hid (HN1.out (decide_eq_true hrn))
        go_upto_region 7 with (fail)
        go_region_held3 (fun V => V.cell? ⟨gk, i * 2, none⟩ = some (.int .i64 y1.s) ∧ V.cell? ⟨gk, i * 2 + 1, none⟩ = some (.int .i64 y1.p) ∧ V.cell? ⟨rb + 1, 0, none⟩ = some (.int .i64 y0.s) ∧ V.cell? ⟨rb + 1, 1, none⟩ = some (.int .i64 y0.p))
          (first | exact S0 | exact S2)
          (first | (go_at_call 48; refine hso.mono ?_; rintro e w2 ⟨rfl, hb2⟩; obtain ⟨S2, hmr, hrr, hbb⟩ := HSF.out w2 ((below_dN (Below.refl _ wr) 1).trans hb2)) | fail)
        all_goals
          obtain ⟨z0, z1, z2, z3⟩ := S2
          have g0 := hmr.frozen 0
          have r3 := hmr.set_ 0 (.int .i64 y1.s)
          have z4 := r3.cell 1
          have g1 := r3.frozen 1
          have r4 := r3.set_ 1 (.int .i64 y1.p)
          have hne : rb ≠ rb + 1 := by omega
          have hr4 := (hrr.far (p := ⟨rb + 1, 0, none⟩) hne (.int .i64 y1.s)).far (p := ⟨rb + 1, 1, none⟩) hne (.int .i64 y1.p)
          have HE : Hid (Lrow ((w2.setCell ⟨rb + 1, 0, none⟩ (.int .i64 y1.s)).setCell ⟨rb + 1, 1, none⟩ (.int .i64 y1.p)) (rb + 1) 66 [.int .i64 y1.s, .int .i64 y1.p] ∧ Lrow ((w2.setCell ⟨rb + 1, 0, none⟩ (.int .i64 y1.s)).setCell ⟨rb + 1, 1, none⟩ (.int .i64 y1.p)) rb 66 [.int .i64 0, .int .i64 0] ∧ Below w.heap.size w ((w2.setCell ⟨rb + 1, 0, none⟩ (.int .i64 y1.s)).setCell ⟨rb + 1, 1, none⟩ (.int .i64 y1.p))) := ⟨r4, hr4, (hbb.setCell (by have := HK2.out.2; show w.heap.size ≤ rb + 1; omega) _).setCell (by have := HK2.out.2; show w.heap.size ≤ rb + 1; omega) _⟩
          clear S0 hmr r3 r4 hr4 hrr hbb hb2
          go_wp2_with fail
          go_roundw
          case rel =>
            have hi' := HI.out.1
            have hy1' := HI.out.2.2
            refine ⟨i, by have := HH.out.1; omega, by omega, by go_num, ?_, HE.out.2.1, HE.out.2.2⟩
            have h1 := HE.out.1
            have hf := HF.out
            subst hi'
            simp only [hf, ← hy1']
            exact h1
          case measure => simp [RowKit.intOf]; omega
      · have HF := Lib.hid (HN0.out (decide_eq_false hrn))
        go_upto_region 7 with (fail)
        go_region_held3 (fun V => V.cell? ⟨gk, i * 2, none⟩ = some (.int .i64 y1.s) ∧ V.cell? ⟨gk, i * 2 + 1, none⟩ = some (.int .i64 y1.p) ∧ V.cell? ⟨rb + 1, 0, none⟩ = some (.int .i64 y0.s) ∧ V.cell? ⟨rb + 1, 1, none⟩ = some (.int .i64 y0.p))
          (first | exact S0 | exact S2)
          (first | (go_at_call 48; refine hso.mono ?_; rintro e w2 ⟨rfl, hb2⟩; obtain ⟨S2, hmr, hrr, hbb⟩ := HSF.out w2 ((below_dN (Below.refl _ wr) 1).trans hb2)) | fail)
        all_goals
          have HE : Hid (Lrow w2 (rb + 1) 66 [.int .i64 y0.s, .int .i64 y0.p] ∧ Lrow w2 rb 66 [.int .i64 0, .int .i64 0] ∧ Below w.heap.size w w2) := ⟨hmr, hrr, hbb⟩
          clear S0 S2 hmr hrr hbb hb2
          go_wp2_with fail
          go_roundw
          case rel =>
            have hi' := HI.out.1
            have hy0' := HI.out.2.1
            refine ⟨i, by have := HH.out.1; omega, by omega, by go_num, ?_, HE.out.2.1, HE.out.2.2⟩
            have h1 := HE.out.1
            have hf := HF.out
            subst hi'
            simp only [hf, ← hy0']
            exact h1
          case measure => simp [RowKit.intOf]; omega
    · have hjm' : j + 1 = m := by omega
      have HY : Hid (y0 = y) := by
        have h1 := HH.out.2
        rw [← HH.out.1, ← hjm', Nat.add_sub_cancel, List.getElem?_eq_getElem hko] at h1
        injection h1 with h1
        exact hy0.trans h1
      have hge : ¬ ((j + 1 : Nat) : Int) < (m : Int) := by omega
      have m0 := hm1.cell 0
      have m1' := hm1.cell 1
      have g0 := hr1.frozen 0
      have z0 := hr1.cell 0
      have r3 := hr1.set_ 0 (.int .i64 y0.s)
      have z4 := r3.cell 1
      have g1 := r3.frozen 1
      have r4 := r3.set_ 1 (.int .i64 y0.p)
      have o0 := r4.cell 0
      have o1 := r4.cell 1
      have HE : Hid (Below w.heap.size w ((wr.setCell ⟨rb, 0, none⟩ (.int .i64 y0.s)).setCell ⟨rb, 1, none⟩ (.int .i64 y0.p))) := (hbw.setCell (by have := HW.out.2; show w.heap.size ≤ rb; omega) _).setCell (by have := HW.out.2; show w.heap.size ≤ rb; omega) _
      obtain ⟨i, hi⟩ : ∃ i, i = j + 1 := ⟨_, rfl⟩
      rw [← hi] at hge ⊢
      have i0 : (0 : Int) ≤ i := by omega
      clear hm1 hr1 hbw r3 r4 hy0 hi hjm' HSO hlt
      go_wp2_with fail
      exact bodyPost_ret (v := .agg #[.int .i64 y0.s, .int .i64 y0.p]) (by simp [results, Try.results37, go_sem, *]) rfl ⟨by rw [HY.out], HE.out⟩
end
end Go.Proofs.Ytfalmjibpkkjaaa
