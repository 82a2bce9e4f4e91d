/- RmapApart, walked. -/
import Derived.Test.YtgpbbmcadifdhaaT7
namespace Go.Proofs.Ytgpbbmcadifdhaa
open Go.RowKit
theorem doL_far {L : List On} (h : Good L) {l : Ac} {g : Int} (h1 : g ≠ l.f) (h2 : g ≠ l.t) : sps (doL L l) g = sps L g := by
  unfold doL
  split
  · unfold adL
    split
    · rw [sps_ins, if_neg h1]
    · rfl
  · split
    · rw [sps_del, if_neg h1]
    · by_cases he : moE L l.f l.t = 0
      · rw [sps_move h he, if_neg h2, if_neg h1]
      · unfold moL; rw [if_neg he]
set_option maxHeartbeats 8000000 in
set_option maxRecDepth 100000 in
theorem apart_walk (A : Option Addr) (n c : Nat) (l : Ac) {q : Int} (w : World) (hA : Acs w w.heap.size A n) (hl : IsAc l) (hq : Fits q) :
    Calls Try.prog 5 #[.slice A n c, .agg #[.int .i64 l.k, .int .i64 l.f, .int .i64 l.t, .int .i64 l.s, .int .i64 l.p], .int .i64 q] w fun e w' => e = .returned (.bool true) ∧ Below w.heap.size w w' := by
  obtain ⟨W0, hW0⟩ : ∃ W0, W0 = w.alloc (.cells #[.int .i64 l.k, .int .i64 l.f, .int .i64 l.t, .int .i64 l.s, .int .i64 l.p] 29) := ⟨_, rfl⟩
  obtain ⟨s, hs⟩ : ∃ s, s = w.heap.size := ⟨_, rfl⟩
  have g0 : Below w.heap.size w W0 := by rw [hW0]; exact below_new _ _
  have rs : Lrow W0 s 29 (acCells l) := by rw [hW0, hs]; exact Lrow.new w _ (acCells l)
  obtain ⟨M, hM, hls, hg, hl80⟩ := law_start hA
  have hls0 := hls.below g0
  have hm := made_any A n c w.heap.size M W0 hM hls0 g0.size
  obtain ⟨L, hL⟩ : ∃ L, L = mdE M := ⟨_, rfl⟩
  rw [← hL] at hm hg hl80
  have HG := Lib.hid hg
  have HL80 := Lib.hid hl80
  have HL200 : Hid (L.length ≤ 200) := by show L.length ≤ 200; omega
  have HSL : Hid (∀ f, (sps L f).length ≤ 1000) := fun f => by have := sps_len L f; omega
  have HLS := Lib.hid hls0
  have HLM := Lib.hid (And.intro hL hM)
  have HG0 := Lib.hid g0
  have HRS := Lib.hid rs
  have HW := Lib.hid (And.intro hW0 hs)
  have HIA := Lib.hid hl
  have HFAR := Lib.hid (@doL_far L hg l q)
  have HDG := Lib.hid (And.intro (doL_len L hg l) (doL_good hg hl))
  have hdo := fun {B : Nat} {w : World} {T : Rm} {xa : Nat} {xv : Value} (h : St B w T xa xv L) => do_any h HL200.out HIA.out
  clear hA hM hls hls0 hL hg hl80 hl hW0 hs g0 rs
  obtain ⟨N, hN⟩ : ∃ N, N = doL L l := ⟨_, rfl⟩
  rw [← hN] at hdo HFAR HDG
  have HNN := Lib.hid hN
  clear hN
  obtain ⟨K, F, To, S, P⟩ := l
  dsimp only [acCells] at HRS HW hdo HFAR
  have HS : Hid (∀ w', Below W0.heap.size W0 w' → w'.cell? ⟨s, 0, none⟩ = some (.int .i64 K) ∧ w'.cell? ⟨s, 1, none⟩ = some (.int .i64 F) ∧ w'.cell? ⟨s, 2, none⟩ = some (.int .i64 To) ∧ w'.cell? ⟨s, 3, none⟩ = some (.int .i64 S) ∧ w'.cell? ⟨s, 4, none⟩ = some (.int .i64 P)) := fun w' hb => ⟨(HRS.out.call hb).cell 0, (HRS.out.call hb).cell 1, (HRS.out.call hb).cell 2, (HRS.out.call hb).cell 3, (HRS.out.call hb).cell 4⟩
  go_enter Try.func5, Try.ntmps5
  go_upto_region 1 with (fail)
  rw [← HW.out.1, ← HW.out.2]
  go_wp2_with fail
  refine hm.mono ?_
  rintro e w1 ⟨t, xa, rfl, T, xv, hs, hst, hb⟩
  have HST := Lib.hid hst
  have HB1 : Hid (Below W0.heap.size W0 w1) := hb
  have HTS := Lib.hid hs
  clear hm hst hb hs
  go_wp2_with fail
  refine (awake_any _).mono ?_
  rintro e w2 ⟨rfl, hb2⟩
  have HB2 : Hid (Below W0.heap.size W0 w2) := HB1.out.trans (hb2.mono HB1.out.size)
  have HST2 := Lib.hid (HST.out.call hb2)
  clear HST hb2
  obtain ⟨c0, c1, c2, c3, c4⟩ := HS.out w2 HB2.out
  by_cases hqf : q = F
  · subst hqf
    clear hdo
    go_wp2_with fail
    go_ret
    exact ⟨rfl, HG0.out.trans (HB2.out.mono HG0.out.size)⟩
  · by_cases hqt : q = To
    · subst hqt
      clear hdo
      go_wp2_with fail
      go_ret
      exact ⟨rfl, HG0.out.trans (HB2.out.mono HG0.out.size)⟩
    · have HFQ := Lib.hid (HFAR.out hqf hqt)
      have hqf2 : (q == F) = false := by simpa using hqf
      have hqt2 : (q == To) = false := by simpa using hqt
      have hdo2 := hdo HST2.out
      rw [HTS.out] at hdo2
      clear hdo
      go_wp2_with fail
      refine hdo2.mono ?_
      rintro e w3 ⟨rfl, T3, xv3, hs3, hst3, hb3⟩
      have HB3 : Hid (Below W0.heap.size W0 w3) := HB2.out.trans (hb3)
      have HST3 := Lib.hid hst3
      have HS3 := Lib.hid hs3
      clear hdo2 hst3 hb3 hs3 c0 c1 c2 c3 c4
      have hm2 := made2_any A n c w.heap.size M w3 HLM.out.2 (HLS.out.below (HB3.out.mono HG0.out.size)) (Nat.le_trans HG0.out.size HB3.out.size)
      go_wp2_with fail
      refine hm2.mono ?_
      rintro e w4 ⟨ya, yv, rfl, hry, hb4⟩
      rw [← HLM.out.1] at hry
      have HB4 : Hid (Below W0.heap.size W0 w4) := HB3.out.trans (hb4.mono HB3.out.size)
      have HST4 := Lib.hid (HST3.out.call hb4)
      have HRY := Lib.hid hry
      have hsp := HST4.out.spots HS3.out (by have := HDG.out.1; have := HL80.out; omega) hq
      rw [HFQ.out] at hsp
      clear hm2 hry hb4
      go_wp2_with fail
      refine hsp.mono ?_
      rintro e w5 ⟨A5, c5, rfl, hls5, hb5⟩
      have HB5 : Hid (Below W0.heap.size W0 w5) := HB4.out.trans (hb5.mono HB4.out.size)
      have hxs := xspots_any (HRY.out.call hb5) HL200.out q
      have HLS5 := Lib.hid hls5
      clear hsp hls5 hb5
      go_wp2_with fail
      refine hxs.mono ?_
      rintro e w6 ⟨A6, c6, rfl, hls6, hb6⟩
      have HB6 : Hid (Below W0.heap.size W0 w6) := HB5.out.trans (hb6.mono HB5.out.size)
      have hsm := same_yes (c := c5) (c' := c6) (n := (sps L q).length) (m := (sps L q).length) (HLS5.out.call hb6) hls6.ls rfl rfl (HSL.out q)
      clear hxs hls6 hb6
      go_wp2_with fail
      refine hsm.mono ?_
      rintro e w7 ⟨rfl, hb7⟩
      have HB7 : Hid (Below W0.heap.size W0 w7) := HB6.out.trans (hb7.mono HB6.out.size)
      clear hsm hb7
      go_wp2_with fail
      go_ret
      exact ⟨rfl, HG0.out.trans (HB7.out.mono HG0.out.size)⟩
end Go.Proofs.Ytgpbbmcadifdhaa
