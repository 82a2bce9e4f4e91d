/- Objects: ObjectMoves, walked. -/
import Derived.Test.YtnpacdbkmpchnaaP4
namespace Go.Proofs.Ytnpacdbkmpchnaa
open Go.RowKit
theorem ow_fits {H : List Int} {L : List Og} {n : Nat} (h : Bnd n H L) (hn : n ≤ 200) (a : Int) : Fits (owI L a) ∧ Fits (owP L a) := by
  unfold owI owP
  by_cases c : fi (byF a) L < L.length
  · rw [dif_pos c, dif_pos c]
    obtain ⟨e, hm⟩ := byF_mem c
    have h1 := h.good.rg _ hm
    obtain ⟨j, hj, hl, _⟩ := isB_get (h.good.al _ hm)
    have := h.hl
    unfold Fits
    constructor <;> omega
  · rw [dif_neg c, dif_neg c]
    unfold Fits
    constructor <;> omega
theorem chE_7 {L : List Og} {a t : Int} (h : chE L a t = 7) : owE L a = 0 := by
  unfold owE
  rw [if_pos]
  by_cases c : ofI L a < 0
  · unfold chE at h
    rw [if_pos c] at h
    cases h
  · exact ofI_pos.1 (by omega)
theorem frs_len (L : List Og) (i : Int) : (frs L i).length ≤ 1024 := frsN_len L i 1024
set_option maxHeartbeats 4000000 in
set_option maxRecDepth 100000 in
theorem moves_walk (I : ObI) (A : Option Addr) (n c : Nat) {a t : Int} (w : World) (hA : Acs w w.heap.size A n) (ha : Fits a) (ht : Fits t) :
    Calls Try.prog 5 #[.slice A n c, .int .i64 a, .int .i64 t] w fun e w' => e = .returned (.bool true) ∧ Below w.heap.size w w' := by
  obtain ⟨M, hM, hls⟩ := hA.list
  have hm := made_any I A n c w.heap.size M w hM hls (Nat.le_refl _)
  have hbd := mdE_bnd M
  generalize (mdE M).1 = H at hm hbd
  generalize (mdE M).2 = L at hm hbd
  have how := fun (w' : World) (x : Nat) (vh vl : Value) (h : Rx w.heap.size w' x vh vl H L) => owner_x h a
  have hch := fun (w' : World) (s : Nat) (X : Nat → Prop) (h : I.Ob w.heap.size w' s X H L) => I.change h (hbd.mono (by decide)) a t ha ht
  have hcb := fun c => ch_back hbd.good (a := a) (t := t) c
  have h7 : chE L a t = 7 → owE L a = 0 := chE_7
  have hfi := ow_fits hbd (by decide) a
  have hb2 := hbd.change a t
  generalize owI L a = oi at how hcb hfi
  generalize owP L a = op at how hcb hfi
  generalize owE L a = oe at how hcb h7
  generalize chE L a t = ce at hch hcb h7
  generalize chL L a t = L2 at hch hcb hb2
  have HBD := Lib.hid hbd
  have HBE := Lib.hid hb2
  have HF := Lib.hid (And.intro hfi (And.intro ha ht))
  have HOW := Lib.hid how
  have HCH := Lib.hid hch
  have HCB := Lib.hid hcb
  have H7 := Lib.hid h7
  clear hA hM hls how hch hcb h7 hfi hb2 hbd ha ht
  go_enter Try.func5, Try.ntmps5
  go_wp2_with fail
  refine hm.mono ?_
  rintro e w1 ⟨s, x, rfl, hst, hb⟩
  have HST := Lib.hid hst
  have HB1 := Lib.hid hb
  clear hm hst hb
  go_wp2_with fail
  refine (awake_any I _).mono ?_
  rintro e w2 ⟨rfl, hb2⟩
  have HB2 : Hid (Below w.heap.size w w2) := HB1.out.trans (hb2.mono HB1.out.size)
  obtain ⟨X, vh, vl, h1, h2, h3⟩ := HST.out.call hb2
  have how := HOW.out _ _ _ _ h2
  have HH := Lib.hid (And.intro h1 (And.intro h2 h3))
  clear hb2 h1 h2 h3
  go_wp2_with fail
  refine how.mono ?_
  rintro e w3 ⟨rfl, hb3⟩
  have HA3 : Hid (Ahead I w.heap.size w3 s x vh vl H L H L) := Ahead.call ⟨X, HH.out⟩ hb3
  have HB3 : Hid (Below w.heap.size w w3) := HB2.out.trans (hb3.mono HB2.out.size)
  obtain ⟨X3, k1, k2, k3⟩ := HA3.out
  have hch := HCH.out _ _ _ k1
  have HK := Lib.hid (And.intro k1 (And.intro k2 k3))
  clear how hb3 k1 k2 k3
  go_wp2_with fail
  refine hch.mono ?_
  rintro e w4 ⟨rfl, hd⟩
  obtain ⟨⟨X4, k1, k2, k3⟩, kb⟩ := Ahead.did HK.out.1 HK.out.2.1 HK.out.2.2 hd
  have HB4 : Hid (Below w.heap.size w w4) := HB3.out.trans kb
  have HK4 := Lib.hid (And.intro k1 (And.intro k2 k3))
  clear hch hd k1 k2 k3 kb
  by_cases hc : ce = 0
  · subst hc
    obtain ⟨e1, e2, e3, e4, e5⟩ := HCB.out rfl
    have hfr := I.frame HK4.out.1 (HBE.out.mono (by decide)) oi op HF.out.1.1 HF.out.1.2
    rw [e2, e3] at hfr
    have HE := Lib.hid (And.intro e4 e5)
    subst e1
    clear e2 e3 e4 e5
    go_wp2_with fail
    refine hfr.mono ?_
    rintro e w5 ⟨rfl, hb5⟩
    have HA5 : Hid (Ahead I w.heap.size w5 s x vh vl H L2 H L) := Ahead.call ⟨X4, HK4.out⟩ hb5
    have HB5 : Hid (Below w.heap.size w w5) := HB4.out.trans (hb5.mono HB4.out.size)
    obtain ⟨X5, k1, k2, k3⟩ := HA5.out
    have hch := I.change k1 (HBE.out.mono (by decide)) t a HF.out.2.2 HF.out.2.1
    rw [HE.out.1, HE.out.2] at hch
    have HK5 := Lib.hid (And.intro k1 (And.intro k2 k3))
    clear hfr hb5 k1 k2 k3
    go_wp2_with fail
    refine hch.mono ?_
    rintro e w6 ⟨rfl, hd⟩
    obtain ⟨⟨X6, k1, k2, k3⟩, kb⟩ := Ahead.did HK5.out.1 HK5.out.2.1 HK5.out.2.2 hd
    have HB6 : Hid (Below w.heap.size w w6) := HB5.out.trans kb
    have HA6 : Hid (Ahead I w.heap.size w6 s x vh vl H L H L) := ⟨X6, k1, k2, k3⟩
    obtain ⟨Ah, ch, hv⟩ := k2.hel.form
    obtain ⟨m, hm⟩ : ∃ m, m = H.length := ⟨_, rfl⟩
    rw [← hm] at hv
    subst hv
    have hm60 : m ≤ 61 := by rw [hm]; have := HBD.out.hl; omega
    clear hch hd k1 k2 k3 kb hm HH HST HK HA3 HK4 HA5 HK5
    go_wp2_with fail
    go_loopw [16] (fun i wr => ∃ j : Nat, j ≤ m ∧ i = .int .i64 j ∧ Ahead I w.heap.size wr s x (.slice Ah m ch) vl H L H L ∧ Below w.heap.size w wr) (fun i _ => m - (RowKit.intOf i).toNat)
    case atStart => exact ⟨0, by omega, rfl, HA6.out, HB6.out⟩
    case round =>
      obtain ⟨j, hj, rfl, ⟨X1, h1, h2, h3⟩, hb⟩ := hrel
      have HBL := Lib.hid hb
      have hj0 : 0 ≤ (j : Int) := by omega
      have c0 := h2.c0
      clear HA6 hb
      by_cases hlt : j < m
      · have hjl : (j : Int) < m := by omega
        have hf : Fits (j : Int) := by unfold Fits; omega
        have hfs := I.frames h1 (HBD.out.mono (by decide)) (j : Int) hf
        unfold ToldI at hfs
        have HLN := Lib.hid (frs_len L (j : Int))
        have HFX : Hid (∀ w', Below wr.heap.size wr w' → Calls Try.prog 22 #[.pointer (some ⟨x, 0, none⟩), .int .i64 (j : Int)] w' (ToldI (frs L (j : Int)) w')) := fun w' hb' => frames_x (h2.call hb') _
        generalize frs L (j : Int) = R at hfs HLN HFX
        obtain ⟨r, hr⟩ : ∃ r, r = R.length := ⟨_, rfl⟩
        rw [← hr] at hfs
        have HR := Lib.hid hr
        have HH := Lib.hid (show Ahead I w.heap.size wr s x (.slice Ah m ch) vl H L H L from ⟨X1, h1, h2, h3⟩)
        clear h1 h2 h3 hf hr
        go_wp2_with fail
        refine hfs.mono ?_
        rintro e w7 ⟨A7, c7, rfl, ho7, hb7⟩
        have HB7 := Lib.hid (HBL.out.trans (hb7.mono HBL.out.size))
        have HO7 := Lib.hid ho7
        have hfx := HFX.out _ hb7
        unfold ToldI at hfx
        rw [← HR.out] at hfx
        have HH7 := Lib.hid (HH.out.call hb7)
        clear hfs ho7 hb7
        go_wp2_with fail
        refine hfx.mono ?_
        rintro e w8 ⟨A8, c8, rfl, ho8, hb8⟩
        have HB8 := Lib.hid (HB7.out.trans (hb8.mono HB7.out.size))
        have hnm := numbers_yes (c := c7) (c' := c8) ((HO7.out.call hb8).ls) ho8.ls HR.out.symm HR.out.symm (by have := HLN.out; omega)
        have HH8 := Lib.hid (HH7.out.call hb8)
        clear hfx ho8 hb8
        go_wp2_with fail
        refine hnm.mono ?_
        rintro e w9 ⟨rfl, hb9⟩
        have HZ := Lib.hid (And.intro (HH8.out.call hb9) (HB8.out.trans (hb9.mono HB8.out.size)))
        clear hnm hb9
        go_wp2_with fail
        go_roundw
        case rel => exact ⟨j + 1, by omega, by go_num, HZ.out.1, HZ.out.2⟩
        case measure => simp [RowKit.intOf]; omega
      · have hjl : ¬ (j : Int) < m := by omega
        clear h1 h2 h3
        go_wp2_with fail
        go_ret
        exact ⟨rfl, HBL.out⟩
  · by_cases h7 : ce = 7
    · have h0 := H7.out h7
      subst h7 h0
      go_wp2_with fail
      go_ret
      exact ⟨rfl, HB4.out⟩
    · go_wp2_with fail
      go_ret
      exact ⟨rfl, HB4.out⟩
end Go.Proofs.Ytnpacdbkmpchnaa
