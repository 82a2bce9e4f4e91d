/- AreaApart, the way of Map (2). -/
import Derived.Test.YtodepfgfgphkbaaZ1
namespace Go.Proofs.Ytodepfgfgphkbaa
open Go.RowKit
set_option maxHeartbeats 8000000 in
set_option maxRecDepth 100000 in
theorem ap_map2 (A : Option Addr) (n c : Nat) (l : Ac) {pg : Nat} (w : World) (hA : Acs w w.heap.size A n) (hl : IsAc l) (hp : pg < 4096) (hk : l.k = 2) : Calls Try.prog 5 #[.slice A n c, .agg #[.int .i64 l.k, .int .i64 l.a, .int .i64 l.n, .int .i64 l.g, .int .i64 l.p, .int .i64 l.o, .int .i64 l.t], .int .i64 pg] w fun e w' => e = .returned (.bool true) ∧ Below w.heap.size w w' := by
  obtain ⟨W0, hW0⟩ : ∃ W0, W0 = w.alloc (.cells #[.int .i64 l.k, .int .i64 l.a, .int .i64 l.n, .int .i64 l.g, .int .i64 l.p, .int .i64 l.o, .int .i64 l.t] 36) := ⟨_, rfl⟩
  obtain ⟨q, hq⟩ : ∃ q, q = w.heap.size := ⟨_, rfl⟩
  have g0 : Below w.heap.size w W0 := by rw [hW0]; exact below_new _ _
  have rs : Lrow W0 q 36 (acCells l) := by rw [hW0, hq]; exact Lrow.new w _ (acCells l)
  obtain ⟨M, hM, hls⟩ := hA.list
  have hm := made_any A n c w.heap.size M W0 hM (hls.below g0) g0.size
  obtain ⟨P, hP⟩ : ∃ P, P = mdE M := ⟨_, rfl⟩
  rw [← hP] at hm
  have HG0 := Lib.hid g0
  have HRS := Lib.hid rs
  have HW := Lib.hid (And.intro hW0 hq)
  have HF := Lib.hid hl
  have HPG := Lib.hid hp
  have p0 : (0 : Int) ≤ pg := by omega
  have p4 : (pg : Int) < 4096 := by omega
  have hfp : Fits (pg : Int) := ⟨by omega, by omega⟩
  clear hA hM hls hP g0 hW0 hq rs hl hp
  obtain ⟨K, A0, N0, G, Pt, O, T⟩ := l
  dsimp only [acCells] at HRS HW HF hk
  subst hk
  go_enter Try.func5, Try.ntmps5
  go_upto_region 1 with (fail)
  rw [← HW.out.1, ← HW.out.2]
  go_wp2_with fail
  refine hm.mono ?_
  rintro e w1 ⟨s, x, rfl, hst, hb⟩
  have HST := Lib.hid hst
  have HB1 := Lib.hid hb
  clear hm hst hb
  go_wp2_with fail
  refine (awake_any _).mono ?_
  rintro e w2 ⟨rfl, hb2⟩
  have HB2 := Lib.hid (HB1.out.trans (hb2.mono HB1.out.size))
  have HST2 := Lib.hid (HST.out.call hb2)
  obtain ⟨Ap, cp, lp, hap⟩ := HST2.out.t
  have hfi := find_pr hap (pg : Int)
  have HLP := Lib.hid hap.wh
  clear hb2 hap
  go_wp2_with fail
  refine hfi.mono ?_
  rintro e w3 ⟨f1, t1, h1, p1, o1, z1, b1, rfl, hb3, hT1, hF1⟩
  obtain ⟨W3, hW3⟩ : ∃ W3, W3 = w3.alloc (.cells #[.int .i64 f1, .int .i64 t1, .int .i64 h1, .int .i64 p1, .int .i64 o1, .int .i64 z1] 33) := ⟨_, rfl⟩
  obtain ⟨d, hd⟩ : ∃ d, d = w3.heap.size := ⟨_, rfl⟩
  have hbn : Below w3.heap.size w3 W3 := by rw [hW3]; exact below_new _ _
  have HRD : Hid (Lrow W3 d 33 [.int .i64 f1, .int .i64 t1, .int .i64 h1, .int .i64 p1, .int .i64 o1, .int .i64 z1]) := by show Lrow _ _ _ _; rw [hW3, hd]; exact Lrow.new w3 _ _
  have HB3 := Lib.hid ((HB2.out.trans (hb3.mono HB2.out.size)).trans (hbn.mono (HB2.out.trans (hb3.mono HB2.out.size)).size))
  have HST3 := Lib.hid ((HST2.out.call hb3).call hbn)
  have HW3 := Lib.hid (And.intro hW3 hd)
  have HT1 := Lib.hid hT1
  have HF1 := Lib.hid hF1
  have hal := HST3.out.all
  have HLN := Lib.hid (all_len HST3.out.ok)
  obtain ⟨L, hL⟩ : ∃ L, L = allA P := ⟨_, rfl⟩
  rw [← hL] at hal HLN
  have HL := Lib.hid hL
  obtain ⟨ll, hll⟩ : ∃ ll, ll = L.length := ⟨_, rfl⟩
  unfold ToldL at hal
  rw [← hll] at hal
  have HLL := Lib.hid hll
  clear hfi hb3 hT1 hF1 hW3 hd hbn hL hll
  go_upto_region 5 with (fail)
  rw [← HW3.out.1, ← HW3.out.2]
  go_wp2_with fail
  refine hal.mono ?_
  rintro e w4 ⟨A4, c4, rfl, ho4, hb4⟩
  have HB4 := Lib.hid (HB3.out.trans (hb4.mono HB3.out.size))
  have HST4 := Lib.hid (HST3.out.call hb4)
  have HRD4 := Lib.hid (HRD.out.call hb4)
  have HRS4 := Lib.hid (HRS.out.call HB4.out)
  have HO4 := Lib.hid ho4
  obtain ⟨vx, hpx⟩ := HST4.out.r
  obtain ⟨gp, cx, hv, -, -, hat⟩ := hpx.form
  have k0 := hpx.c0
  rw [hv] at k0
  obtain ⟨-, -, -, kx⟩ := pg_at (hat pg (by have := HPG.out; omega))
  obtain ⟨ox, hox⟩ : ∃ ox, ox = (P pg).x := ⟨_, rfl⟩
  rw [← hox] at kx
  have HOX := Lib.hid hox
  obtain ⟨Aq, cq, lq, haq⟩ := HST4.out.t
  have e0 := HRS4.out.cell 0
  have e1 := HRS4.out.cell 1
  have e2 := HRS4.out.cell 2
  have e3 := HRS4.out.cell 3
  have e4 := HRS4.out.cell 4
  have e5 := HRS4.out.cell 5
  have hcall := map_pr haq (a := A0) (n := N0) (how := G) (p := Pt) (o := O) HF.out.a HF.out.n
  obtain ⟨er, her⟩ : ∃ er, er = mapE P A0 N0 G Pt O := ⟨_, rfl⟩
  rw [← her] at hcall
  have HER := Lib.hid her
  clear hal ho4 hb4 hpx hat hv haq hox her
  go_wp2_with fail
  refine hcall.mono ?_
  rintro e w5 ⟨rfl, hd5⟩
  obtain ⟨hT5, hR5, hb5, hk5⟩ := HST4.out.half hd5
  have HB5 : Hid (Below W0.heap.size W0 w5) := HB4.out.trans hb5
  have HRD5 := Lib.hid (hk5 HRD4.out (by decide))
  have HRS5 := Lib.hid (hk5 HRS4.out (by decide))
  have HO5 := Lib.hid (own_prog HO4.out HST4.out.t hd5)
  have HT5 := Lib.hid hT5
  clear hcall hd5 hT5 hR5 hb5 hk5
  by_cases h0 : er = 0
  · rw [if_pos h0] at HT5
    subst h0
    have hr := mapE_rt HER.out.symm
    obtain ⟨r1, r2, r3⟩ := rt_in hr
    have A1 := Lib.hid (And.intro r1 (And.intro r2 r3))

    have e0 := HRS5.out.cell 0
    have e1 := HRS5.out.cell 1
    have e2 := HRS5.out.cell 2
    have e3 := HRS5.out.cell 3
    have e4 := HRS5.out.cell 4
    have e5 := HRS5.out.cell 5
    have s3 : IntKind.i64.wrap ((pg : Int) - A0) = pg - A0 := IntWalk.i64_in _ (by omega)

    by_cases hin : inS A0 N0 pg
    · obtain ⟨i1, i2⟩ := hin
      have i3 : (pg : Int) - A0 < N0 := by omega
      clear r1 r2 r3 i2  hr
      go_wp2_with fail
      go_ret
      exact ⟨rfl, HG0.out.trans (HB5.out.mono HG0.out.size)⟩
    · have HQP : Hid ((mapP P A0 N0 G Pt O) pg = P pg) := map_out hin
      clear r1 r2 r3 hr
      by_cases i1 : A0 ≤ pg
      · have i3 : ¬ (pg : Int) - A0 < N0 := fun e => hin ⟨i1, by omega⟩
        clear hin
        obtain ⟨A5, c5, l5, ha5⟩ := HT5.out
        have hfi := find_pr ha5 (pg : Int)
        have HL5 := Lib.hid ha5.wh
        clear ha5
        go_wp2_with fail
        refine hfi.mono ?_
        rintro e w6 ⟨f2, t2, h2, p2, o2, z2, b2, rfl, hb6, hT2, hF2⟩
        have HB6 := Lib.hid (HB5.out.trans (hb6.mono HB5.out.size))
        have HRD6 := Lib.hid (HRD5.out.call hb6)
        have HEND : Hid (∀ o, Below w.heap.size w (w6.alloc o)) := fun o => HG0.out.trans ((HB6.out.alloc HB6.out.size o).mono HG0.out.size)
        have hdl := HRD6.out.lt
        have m0 : w6.cell? ⟨d, 0, none⟩ = some (.int .i64 f1) := HRD6.out.cell 0
        have m2 : w6.cell? ⟨d, 2, none⟩ = some (.int .i64 h1) := HRD6.out.cell 2
        have m3 : w6.cell? ⟨d, 3, none⟩ = some (.int .i64 p1) := HRD6.out.cell 3
        have m4 : w6.cell? ⟨d, 4, none⟩ = some (.int .i64 o1) := HRD6.out.cell 4
        have dn : ¬ d = w6.heap.size := by omega
        have hsh := fun w => shared_is h2 w
        rcases found_two HLP.out HL5.out HQP.out HT1.out HF1.out hT2 hF2 with ⟨q1, q2, q3⟩ | ⟨q1, q2, q3, q4, q5, hofs, b3, b4, b5, b6⟩
        · subst b1 b2 h2
          clear hfi hb6 hT2 hF2
          rw [decide_eq_false (show ¬ shr 0 by unfold shr; omega)] at hsh
          go_wp2_with (go_at_call 13; (with_reducible refine (hsh _).mono ?_); rintro e w7 ⟨rfl, rfl⟩)
          go_ret
          exact ⟨rfl, HEND.out _⟩
        · subst b1 b2 h2 p2 o2
          rw [← HOX.out] at hofs
          have s1 : IntKind.i64.wrap (z2 + (pg : Int)) = z2 + pg := IntWalk.i64_in _ (by omega)
          have s2 : IntKind.i64.wrap (z2 + (pg : Int) - f2) = z2 + pg - f2 := IntWalk.i64_in _ (by omega)
          clear hfi hb6 hT2 hF2 b3 b4 b5 b6
          by_cases hs : shr h1
          · rw [if_pos hs] at hofs
            subst hofs
            rw [decide_eq_true hs] at hsh
            clear hs
            go_wp2_with (go_at_call 13; (with_reducible refine (hsh _).mono ?_); rintro e w7 ⟨rfl, rfl⟩)
            go_ret
            exact ⟨ret_bool (by simp), HEND.out _⟩
          · rw [if_neg hs] at hofs
            subst hofs
            rw [decide_eq_false hs] at hsh
            clear hs
            go_wp2_with (go_at_call 13; (with_reducible refine (hsh _).mono ?_); rintro e w7 ⟨rfl, rfl⟩)
            go_ret
            exact ⟨ret_bool (by simp), HEND.out _⟩
      · have i3 : decide (A0 ≤ pg) = false := decide_eq_false i1
        clear hin
        obtain ⟨A5, c5, l5, ha5⟩ := HT5.out
        have hfi := find_pr ha5 (pg : Int)
        have HL5 := Lib.hid ha5.wh
        clear ha5
        go_wp2_with fail
        refine hfi.mono ?_
        rintro e w6 ⟨f2, t2, h2, p2, o2, z2, b2, rfl, hb6, hT2, hF2⟩
        have HB6 := Lib.hid (HB5.out.trans (hb6.mono HB5.out.size))
        have HRD6 := Lib.hid (HRD5.out.call hb6)
        have HEND : Hid (∀ o, Below w.heap.size w (w6.alloc o)) := fun o => HG0.out.trans ((HB6.out.alloc HB6.out.size o).mono HG0.out.size)
        have hdl := HRD6.out.lt
        have m0 : w6.cell? ⟨d, 0, none⟩ = some (.int .i64 f1) := HRD6.out.cell 0
        have m2 : w6.cell? ⟨d, 2, none⟩ = some (.int .i64 h1) := HRD6.out.cell 2
        have m3 : w6.cell? ⟨d, 3, none⟩ = some (.int .i64 p1) := HRD6.out.cell 3
        have m4 : w6.cell? ⟨d, 4, none⟩ = some (.int .i64 o1) := HRD6.out.cell 4
        have dn : ¬ d = w6.heap.size := by omega
        have hsh := fun w => shared_is h2 w
        rcases found_two HLP.out HL5.out HQP.out HT1.out HF1.out hT2 hF2 with ⟨q1, q2, q3⟩ | ⟨q1, q2, q3, q4, q5, hofs, b3, b4, b5, b6⟩
        · subst b1 b2 h2
          clear hfi hb6 hT2 hF2
          rw [decide_eq_false (show ¬ shr 0 by unfold shr; omega)] at hsh
          go_wp2_with (go_at_call 13; (with_reducible refine (hsh _).mono ?_); rintro e w7 ⟨rfl, rfl⟩)
          go_ret
          exact ⟨rfl, HEND.out _⟩
        · subst b1 b2 h2 p2 o2
          rw [← HOX.out] at hofs
          have s1 : IntKind.i64.wrap (z2 + (pg : Int)) = z2 + pg := IntWalk.i64_in _ (by omega)
          have s2 : IntKind.i64.wrap (z2 + (pg : Int) - f2) = z2 + pg - f2 := IntWalk.i64_in _ (by omega)
          clear hfi hb6 hT2 hF2 b3 b4 b5 b6
          by_cases hs : shr h1
          · rw [if_pos hs] at hofs
            subst hofs
            rw [decide_eq_true hs] at hsh
            clear hs
            go_wp2_with (go_at_call 13; (with_reducible refine (hsh _).mono ?_); rintro e w7 ⟨rfl, rfl⟩)
            go_ret
            exact ⟨ret_bool (by simp), HEND.out _⟩
          · rw [if_neg hs] at hofs
            subst hofs
            rw [decide_eq_false hs] at hsh
            clear hs
            go_wp2_with (go_at_call 13; (with_reducible refine (hsh _).mono ?_); rintro e w7 ⟨rfl, rfl⟩)
            go_ret
            exact ⟨ret_bool (by simp), HEND.out _⟩
  · rw [if_neg h0] at HT5
    have h0' : (er != 0) = true := by simpa using h0
    obtain ⟨A5, c5, l5, ha5⟩ := HT5.out
    have hal := all_pr ha5
    have hl5 : l5 = L := ha5.wh.all.trans HL.out.symm
    subst hl5
    unfold ToldL at hal
    rw [← HLL.out] at hal
    clear ha5
    go_wp2_with fail
    refine hal.mono ?_
    rintro e w6 ⟨A6, c6, rfl, ho6, hb6⟩
    have HB6 := Lib.hid (HB5.out.trans (hb6.mono HB5.out.size))
    have hsm := same_yes (c := c4) (c' := c6) (n := ll) (m := ll) ((HO5.out.call hb6).ls) (Enc.Own.ls ho6) HLL.out.symm HLL.out.symm (by have := HLN.out; omega)
    clear hal ho6 hb6
    go_wp2_with fail
    refine hsm.mono ?_
    rintro e w7 ⟨rfl, hb7⟩
    have HB7 := Lib.hid (HB6.out.trans (hb7.mono HB6.out.size))
    clear hsm hb7
    go_wp2_with fail
    go_ret
    exact ⟨rfl, HG0.out.trans (HB7.out.mono HG0.out.size)⟩
end Go.Proofs.Ytodepfgfgphkbaa
