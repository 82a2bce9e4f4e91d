/- RmapMoves, walked. -/
import Derived.Test.YtgpbbmcadifdhaaT4
namespace Go.Proofs.Ytgpbbmcadifdhaa
open Go.RowKit
theorem St.spots {B : Nat} {w : World} {T : Rm} {xa s : Nat} {xv : Value} {L : List On} (h : St B w T xa xv L) (hs : T.s = s) (hL : L.length ≤ 200) {f : Int} (hf : Fits f) :
    Calls Try.prog 14 #[.pointer (some ⟨s, 0, none⟩), .int .i64 f] w fun e w' => ∃ A c, e = .returned (.slice A (sps L f).length c) ∧ ESp.Ls w' A (sps L f) ∧ Below w.heap.size w w' := by
  subst hs
  refine (spots_any h.t hL hf).mono ?_
  rintro e w' ⟨A, c, rfl, h1, h2⟩
  exact ⟨A, c, rfl, (sp_own h1).ls, h2⟩
theorem St.xspots {B : Nat} {w : World} {T : Rm} {xa : Nat} {xv : Value} {L : List On} (h : St B w T xa xv L) (hL : L.length ≤ 200) (f : Int) :
    Calls Try.prog 16 #[.pointer (some ⟨xa, 0, none⟩), .int .i64 f] w fun e w' => ∃ A c, e = .returned (.slice A (sps L f).length c) ∧ ESp.Ls w' A (sps L f) ∧ Below w.heap.size w w' := by
  refine (xspots_any h.r hL f).mono ?_
  rintro e w' ⟨A, c, rfl, h1, h2⟩
  exact ⟨A, c, rfl, h1.ls, h2⟩
theorem St.frames {B : Nat} {w : World} {T : Rm} {xa s : Nat} {xv : Value} {L : List On} (h : St B w T xa xv L) (hs : T.s = s) (hL : L.length ≤ 200) :
    Calls Try.prog 12 #[.pointer (some ⟨s, 0, none⟩)] w fun e w' => ∃ A c, e = .returned (.slice A (frs L).length c) ∧ EI.Ls w' A (frs L) ∧ Below w.heap.size w w' := by
  subst hs
  refine (frames_any h.t hL).mono ?_
  rintro e w' ⟨A, c, rfl, h1, h2⟩
  exact ⟨A, c, rfl, h1.ls, h2⟩
theorem St.xframes {B : Nat} {w : World} {T : Rm} {xa : Nat} {xv : Value} {L : List On} (h : St B w T xa xv L) (hL : L.length ≤ 200) :
    Calls Try.prog 19 #[.pointer (some ⟨xa, 0, none⟩)] w fun e w' => ∃ A c, e = .returned (.slice A (frs L).length c) ∧ EI.Ls w' A (frs L) ∧ Below w.heap.size w w' := by
  refine (xframes_any h.r hL).mono ?_
  rintro e w' ⟨A, c, rfl, h1, h2⟩
  exact ⟨A, c, rfl, h1.ls, h2⟩
/-- Both sides of Same, Numbers come to the same. -/
theorem same_yes {w : World} {A A' : Option Addr} {c c' n m : Nat} {L : List It} (hL : ESp.Ls w A L) (hM : ESp.Ls w A' L) (hn : L.length = n) (hm : L.length = m) (hl : L.length ≤ 1000) :
    Calls Try.prog 17 #[.slice A n c, .slice A' m c'] w fun e w' => e = .returned (.bool true) ∧ Below w.heap.size w w' := by
  subst hn hm
  have := same_any (c := c) (c' := c') hL hM hl hl
  rwa [show decide (L = L) = true from by simp] at this
theorem numbers_yes {w : World} {A A' : Option Addr} {c c' n m : Nat} {L : List Int} (hL : EI.Ls w A L) (hM : EI.Ls w A' L) (hn : L.length = n) (hm : L.length = m) (hl : L.length ≤ 1000) :
    Calls Try.prog 18 #[.slice A n c, .slice A' m c'] w fun e w' => e = .returned (.bool true) ∧ Below w.heap.size w w' := by
  subst hn hm
  have := numbers_any (c := c) (c' := c') hL hM hl hl
  rwa [show decide (L = L) = true from by simp] at this
theorem moE_back {L : List On} (h : Good L) {a b : Int} (he : moE L a b = 0) : moE (moL L a b) b a = 0 ∧ moL (moL L a b) b a = L ∧ sps (moL L a b) b = sps L a ∧ sps (moL L a b) a = [] ∧ sps L a ≠ [] ∧ a ≠ b := by
  obtain ⟨h1, h2, h3, h4⟩ := mo_zero he
  obtain ⟨k1, k2⟩ := move_back h he (has_frame h h2)
  exact ⟨k1, k2, by rw [sps_move h he, if_pos rfl], by rw [sps_move h he, if_neg h4, if_pos rfl], h2, h4⟩
/-- What the first calls of a law leave. -/
theorem law_start {A : Option Addr} {n : Nat} {w : World} (hA : Acs w w.heap.size A n) : ∃ M : List Ac, M.length = n ∧ Lsa w w.heap.size A M ∧ Good (mdE M) ∧ (mdE M).length ≤ 80 := by
  obtain ⟨M, h1, h2⟩ := hA.list
  have := mdt_good (lsa_ok h2) 80
  exact ⟨M, h1, h2, this.1, this.2⟩
/-- A slice of one's own that is none of the object's rows. -/
def NoM (T : Rm) (v : Value) : Prop := ∀ g, v.ownBlock = some g → ¬ Mine T g
theorem Enc.Own.chg {P : Program} {α : Type} {E : Enc P α} {B D : Nat} {w w' : World} {T T' : Rm} {N : List On} {v : Value} {l : List α} (h : E.Own D w v l) (c : Chg B w T T' N w') (hn : NoM T v) : E.Own D w' v l ∧ NoM T' v := by
  refine ⟨h.heap fun g e => ?_, fun g e hk => ?_⟩
  · obtain ⟨vs, r, _⟩ := h.block e
    exact c.foot.keep g r.lt (hn g e)
  · obtain ⟨vs, r, _⟩ := h.block e
    rcases c.own g hk with hk | hk
    · exact hn g e hk
    · have := r.lt; omega
theorem noM_new {P : Program} {α : Type} {E : Enc P α} {B : Nat} {w w' : World} {T : Rm} {L : List On} {v : Value} {l : List α} (h : E.Own w.heap.size w' v l) (t : RmIs B w T L) : NoM T v := fun g e hk => by
  obtain ⟨vs, _, r⟩ := h.block e
  have := t.lt g hk
  omega
set_option maxHeartbeats 8000000 in
set_option maxRecDepth 100000 in
theorem moves_walk (A : Option Addr) (n c : Nat) {fr to_ : Int} (w : World) (hA : Acs w w.heap.size A n) (hfr : Fits fr) (hto : Fits to_) :
    Calls Try.prog 4 #[.slice A n c, .int .i64 fr, .int .i64 to_] w fun e w' => e = .returned (.bool true) ∧ Below w.heap.size w w' := by
  obtain ⟨M, hM, hls, hg, hl80⟩ := law_start hA
  have hm := made_any A n c w.heap.size M w hM hls (Nat.le_refl _)
  obtain ⟨L, hL⟩ : ∃ L, L = mdE M := ⟨_, rfl⟩
  rw [← hL] at hm hg hl80
  have HG := Lib.hid hg
  have HL200 : Hid (L.length ≤ 200) := by show L.length ≤ 200; omega
  have HSL : Hid (∀ f, (sps L f).length ≤ 1000) := fun f => by have := sps_len L f; omega
  have HFL : Hid ((frs L).length ≤ 1000) := by have := frs_len L; show _ ≤ _; omega
  clear hA hM hls hL hg hl80
  go_enter Try.func4, Try.ntmps4
  go_wp2_with fail
  refine hm.mono ?_
  rintro e w1 ⟨s, xa, rfl, T, xv, hs, hst, hb⟩
  have HST := Lib.hid hst
  have HB1 := Lib.hid hb
  have HS := Lib.hid hs
  clear hm hst hb hs
  go_wp2_with fail
  refine (awake_any _).mono ?_
  rintro e w2 ⟨rfl, hb2⟩
  have HB2 : Hid (Below w.heap.size w w2) := HB1.out.trans (hb2.mono HB1.out.size)
  have HST2 := Lib.hid (HST.out.call hb2)
  clear HST hb2
  go_wp2_with fail
  refine (xspots_any HST2.out.r HL200.out fr).mono ?_
  rintro e w3 ⟨A3, c3, rfl, hls3, hb3⟩
  have HB3 : Hid (Below w.heap.size w w3) := HB2.out.trans (hb3.mono HB2.out.size)
  have HST3 := Lib.hid (HST2.out.call hb3)
  have HNO := Lib.hid (noM_new hls3 HST2.out.t)
  obtain ⟨n3, hn3⟩ : ∃ n3, n3 = (sps L fr).length := ⟨_, rfl⟩
  rw [← hn3] at hls3 HNO ⊢
  have HN3 := Lib.hid hn3
  have HW := Lib.hid hls3
  have hmv := mov_any HST3.out.t HL200.out hfr hto
  rw [HS.out] at hmv
  obtain ⟨er, her⟩ : ∃ er, er = moE L fr to_ := ⟨_, rfl⟩
  rw [← her] at hmv
  have HER := Lib.hid her
  clear hls3 hb3 hn3 her HST2
  by_cases he : er = 0
  · subst he
    obtain ⟨k1, k2, k3, k4, k5, k6⟩ := moE_back HG.out HER.out.symm
    have hft : ((fr : Int) == to_) = false := by simpa using k6
    have hft2 : ¬ fr = to_ := k6
    have hn3 : ¬ (n3 : Int) = 0 := by
      have := HN3.out
      have h5 : 0 < (sps L fr).length := by
        rcases Nat.eq_zero_or_pos (sps L fr).length with h | h
        · exact absurd (List.eq_nil_of_length_eq_zero h) k5
        · exact h
      omega
    have HK1 := Lib.hid k1
    have HK2 := Lib.hid k2
    have HK3 := Lib.hid k3
    have HK4 := Lib.hid k4
    have HGM := Lib.hid (HG.out.move fr to_)
    clear k1 k2 k3 k4 k5 k6
    go_wp2_with fail
    refine hmv.mono ?_
    rintro e w4 ⟨rfl, T4, hc⟩
    have HS4 : Hid (T4.s = s) := hc.s.trans HS.out
    have HB4 : Hid (Below w.heap.size w w4) := HB3.out.trans ((hc.down HST3.out.t HST3.out.r.lw).mono (by have := HB1.out.size; exact Nat.le_refl _))
    obtain ⟨hT4, hR4, -, -⟩ := HST3.out.half hc
    obtain ⟨hw4, hno4⟩ := HW.out.chg hc HNO.out
    have HM200 : Hid ((moL L fr to_).length ≤ 200) := by show _ ≤ _; rw [HGM.out.2]; exact HL200.out
    have HTT := Lib.hid hT4
    have HRR := Lib.hid hR4
    have HW4 := Lib.hid hw4
    have HNO4 := Lib.hid hno4
    have hsp := spots_any hT4 HM200.out hto
    rw [HS4.out, HK3.out] at hsp
    clear hc hT4 hR4 hw4 hno4 hmv
    go_wp2_with fail
    refine hsp.mono ?_
    rintro e w5 ⟨A5, c5, rfl, hls5, hb5⟩
    have HB5 : Hid (Below w.heap.size w w5) := HB4.out.trans (hb5.mono HB4.out.size)
    have hsm := same_yes (c := c3) (c' := c5) (n := n3) (m := (sps L fr).length) ((HW4.out.call hb5).ls) ((sp_own hls5).ls) HN3.out.symm rfl (HSL.out fr)
    have HT5 := Lib.hid (HTT.out.call hb5)
    have HR5 := Lib.hid (HRR.out.call hb5)
    have HW5 := Lib.hid (HW4.out.call hb5)
    clear hls5 hb5 hsp HTT HRR HW4
    go_wp2_with fail
    refine hsm.mono ?_
    rintro e w6 ⟨rfl, hb6⟩
    have HB6 : Hid (Below w.heap.size w w6) := HB5.out.trans (hb6.mono HB5.out.size)
    have HT6 := Lib.hid (HT5.out.call hb6)
    have HR6 := Lib.hid (HR5.out.call hb6)
    have HW6 := Lib.hid (HW5.out.call hb6)
    have hct := count_any HT6.out hfr
    rw [HS4.out, HK4.out] at hct
    clear hsm hb6 HT5 HR5 HW5
    go_wp2_with fail
    refine hct.mono ?_
    rintro e w6' ⟨rfl, rfl⟩
    have hmv := mov_any HT6.out HM200.out hto hfr
    rw [HS4.out, HK1.out, HK2.out] at hmv
    clear hct
    go_wp2_with fail
    refine hmv.mono ?_
    rintro e w7 ⟨rfl, T7, hc⟩
    have HS7 : Hid (T7.s = s) := hc.s.trans HS4.out
    have HB7 : Hid (Below w.heap.size w w7) := HB6.out.trans (hc.down HT6.out (HR6.out).lw)
    have HST7' : Hid (St w.heap.size w7 T7 xa xv L) := by
      refine ⟨hc.is, HR6.out.keep hc.foot.size fun k hk hl => hc.foot.keep k hl ?_⟩
      rcases hk with rfl | e
      · exact HT6.out.other HR6.out.top (by decide) (by decide)
      · obtain ⟨vs, r, _⟩ := HR6.out.own.block e
        exact HT6.out.other r (by decide) (by decide)
    have HW7 := Lib.hid (HW6.out.chg hc HNO4.out).1
    clear hc hmv HT6 HR6 HW6
    go_wp2_with fail
    refine (HST7'.out.spots HS7.out HL200.out hfr).mono ?_
    rintro e w6 ⟨A6, c6, rfl, hls6, hb6⟩
    have HB6 : Hid (Below w.heap.size w w6) := HB7.out.trans (hb6.mono HB7.out.size)
    have HST6 := Lib.hid (HST7'.out.call hb6)
    have hsm := same_yes (c := c3) (c' := c6) (n := n3) (m := (sps L fr).length) ((HW7.out.call hb6).ls) hls6 HN3.out.symm rfl (HSL.out fr)
    clear hls6 hb6
    go_wp2_with fail
    refine hsm.mono ?_
    rintro e w7 ⟨rfl, hb7⟩
    have HB7 : Hid (Below w.heap.size w w7) := HB6.out.trans (hb7.mono HB6.out.size)
    have HST7 := Lib.hid (HST6.out.call hb7)
    clear hsm hb7
    go_wp2_with fail
    refine (HST7.out.frames HS7.out HL200.out).mono ?_
    rintro e w8 ⟨A8, c8, rfl, hls8, hb8⟩
    have HB8 : Hid (Below w.heap.size w w8) := HB7.out.trans (hb8.mono HB7.out.size)
    have HST8 := Lib.hid (HST7.out.call hb8)
    have HLS8 := Lib.hid hls8
    clear hls8 hb8
    go_wp2_with fail
    refine (HST8.out.xframes HL200.out).mono ?_
    rintro e w9 ⟨A9, c9, rfl, hls9, hb9⟩
    have HB9 : Hid (Below w.heap.size w w9) := HB8.out.trans (hb9.mono HB8.out.size)
    have hnm := numbers_yes (c := c8) (c' := c9) (n := (frs L).length) (m := (frs L).length) (HLS8.out.call hb9) hls9 rfl rfl HFL.out
    clear hls9 hb9
    go_wp2_with fail
    refine hnm.mono ?_
    rintro e w10 ⟨rfl, hb10⟩
    have HB10 : Hid (Below w.heap.size w w10) := HB9.out.trans (hb10.mono HB9.out.size)
    clear hnm hb10
    go_wp2_with fail
    go_ret
    exact ⟨rfl, HB10.out⟩
  · have hne : ((er : Int) == 0) = false := by simpa using he
    have HMO : Hid (moL L fr to_ = L) := by
      show _ = _
      unfold moL; rw [← HER.out, if_neg he]
    rw [HMO.out] at hmv
    go_wp2_with fail
    refine hmv.mono ?_
    rintro e w4 ⟨rfl, T4, hc⟩
    have HS4 : Hid (T4.s = s) := hc.s.trans HS.out
    have HB4 : Hid (Below w.heap.size w w4) := HB3.out.trans (hc.down HST3.out.t HST3.out.r.lw)
    obtain ⟨hT4, hR4, -, -⟩ := HST3.out.half hc
    have HST4 : Hid (St w.heap.size w4 T4 xa xv L) := ⟨hT4, hR4⟩
    have HW4 := Lib.hid (HW.out.chg hc HNO.out).1
    clear hc hT4 hR4 hmv
    go_wp2_with fail
    refine (HST4.out.spots HS4.out HL200.out hfr).mono ?_
    rintro e w6 ⟨A6, c6, rfl, hls6, hb6⟩
    have HB6 : Hid (Below w.heap.size w w6) := HB4.out.trans (hb6.mono HB4.out.size)
    have HST6 := Lib.hid (HST4.out.call hb6)
    have hsm := same_yes (c := c3) (c' := c6) (n := n3) (m := (sps L fr).length) ((HW4.out.call hb6).ls) hls6 HN3.out.symm rfl (HSL.out fr)
    clear hls6 hb6
    go_wp2_with fail
    refine hsm.mono ?_
    rintro e w7 ⟨rfl, hb7⟩
    have HB7 : Hid (Below w.heap.size w w7) := HB6.out.trans (hb7.mono HB6.out.size)
    have HST7 := Lib.hid (HST6.out.call hb7)
    clear hsm hb7
    go_wp2_with fail
    refine (HST7.out.frames HS4.out HL200.out).mono ?_
    rintro e w8 ⟨A8, c8, rfl, hls8, hb8⟩
    have HB8 : Hid (Below w.heap.size w w8) := HB7.out.trans (hb8.mono HB7.out.size)
    have HST8 := Lib.hid (HST7.out.call hb8)
    have HLS8 := Lib.hid hls8
    clear hls8 hb8
    go_wp2_with fail
    refine (HST8.out.xframes HL200.out).mono ?_
    rintro e w9 ⟨A9, c9, rfl, hls9, hb9⟩
    have HB9 : Hid (Below w.heap.size w w9) := HB8.out.trans (hb9.mono HB8.out.size)
    have hnm := numbers_yes (c := c8) (c' := c9) (n := (frs L).length) (m := (frs L).length) (HLS8.out.call hb9) hls9 rfl rfl HFL.out
    clear hls9 hb9
    go_wp2_with fail
    refine hnm.mono ?_
    rintro e w10 ⟨rfl, hb10⟩
    have HB10 : Hid (Below w.heap.size w w10) := HB9.out.trans (hb10.mono HB9.out.size)
    clear hnm hb10
    go_wp2_with fail
    go_ret
    exact ⟨rfl, HB10.out⟩
end Go.Proofs.Ytgpbbmcadifdhaa
