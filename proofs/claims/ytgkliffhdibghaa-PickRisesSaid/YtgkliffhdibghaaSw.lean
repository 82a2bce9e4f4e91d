/- The contracts of the queue's calls that package heap asks for: Swap. -/
import Derived.Test.YtgkliffhdibghaaSv
import Derived.BigRegion
namespace Go.Proofs.Ytgkliffhdibghaa
open Go.RowKit

/-- Two items have changed their places, and the map tells so. -/
def Swapped (B : Nat) (w : World) (q m : Nat) (iv : Value) (L : List It) (i j : Nat) (e : Ending) (w' : World) : Prop :=
  e = .returned (.tuple #[]) ∧ ∃ M', Que B w' q m iv (swp L i j) M' ∧ Foot (Mine q m iv) w w'
theorem AllFit.swp {L : List It} (h : AllFit L) {i j : Nat} (hi : i < L.length) (hj : j < L.length) : AllFit (swp L i j) := fun x hx => h x ((swp_perm L i j hi hj).mem_iff.1 hx)
theorem fits_of {n : Nat} (h : n ≤ 5000) : Fits (n : Int) := by unfold Fits; omega
theorem fits_fr {f : Int} (h : 0 ≤ f ∧ f ≤ 1023) : Fits f := by unfold Fits; omega
theorem grown_set' {a w : World} {g : Nat} (h : a.grownBy w (some g)) (i : Nat) (u : Value) : a.grownBy (w.setCell ⟨g, i, none⟩ u) (some g) := h.trans (grown_set w g i u)
set_option maxHeartbeats 4000000 in
theorem swap_ne {B : Nat} {w : World} {q m : Nat} {iv : Value} {L : List It} {M : Int → Option Int} (h : Que B w q m iv L M) {i j : Nat} (hi : i < L.length) (hj : j < L.length) (hij : i ≠ j) :
    Calls Try.prog 55 #[.pointer (some ⟨q, 0, none⟩), .int .i64 i, .int .i64 j] w (Swapped B w q m iv L i j) := by
  obtain ⟨A, c, hv⟩ := own_form h.own
  subst hv
  have H := Lib.hid h
  have h0 := h.c0
  have h1 := h.c1
  obtain ⟨g, hA, hc, hcm, hgl, hB, hfz, hit⟩ := h.items (by omega)
  subst hA
  obtain ⟨a1, a2⟩ := hit i hi
  obtain ⟨b1, b2⟩ := hit j hj
  obtain ⟨⟨f1, f2⟩, f3⟩ := h.fit.at_ hi
  obtain ⟨⟨f4, f5⟩, f6⟩ := h.fit.at_ hj
  have i0 : (0 : Int) ≤ i := by omega
  have j0 : (0 : Int) ≤ j := by omega
  have il : (i : Int) < L.length := by omega
  have jl : (j : Int) < L.length := by omega
  have za1 := hfz (i * 2)
  have za2 := hfz (i * 2 + 1)
  have zb1 := hfz (j * 2)
  have zb2 := hfz (j * 2 + 1)
  have HI := Lib.hid hi
  have HJ := Lib.hid hj
  have HM1 := Lib.hid (h.idx.at_ i hi)
  have HM2 := Lib.hid (h.idx.at_ j hj)
  have HIX := Lib.hid (h.idx.swp hi hj)
  have HF := Lib.hid (h.fit.swp hi hj)
  have HL := Lib.hid h.len
  have e5 : (at' (swp L i j) i) = at' L j := by rw [swp_at _ _ _ _ hi hj, if_neg hij, if_pos rfl]
  have e6 : (at' (swp L i j) j) = at' L i := by rw [swp_at _ _ _ _ hi hj, if_pos rfl]
  rw [e5, e6] at HIX
  have HSL := Lib.hid (swp_length L i j)
  have hwi := Lib.hid e5
  have hwj := Lib.hid e6
  obtain ⟨n, hn⟩ : ∃ n, n = L.length := ⟨_, rfl⟩
  rw [← hn] at h0 il jl
  have HN := Lib.hid hn
  obtain ⟨rest, hrow, -, -, -, -⟩ := own_row h.own rfl
  have HR := Lib.hid hrow
  obtain ⟨x1, e1⟩ : ∃ z, z = (at' L i).1 := ⟨_, rfl⟩
  obtain ⟨x2, e2⟩ : ∃ z, z = (at' L i).2 := ⟨_, rfl⟩
  obtain ⟨y1, e3⟩ : ∃ z, z = (at' L j).1 := ⟨_, rfl⟩
  obtain ⟨y2, e4⟩ : ∃ z, z = (at' L j).2 := ⟨_, rfl⟩
  rw [← e1] at a1 f1 f2 HM1
  rw [← e2] at a2
  rw [← e3] at b1 f4 f5 HM2
  rw [← e4] at b2
  rw [← e1, ← e3] at HIX
  have E1 := Lib.hid e1
  have E2 := Lib.hid e2
  have E3 := Lib.hid e3
  have E4 := Lib.hid e4
  clear hit h hfz e1 e2 e3 e4 e5 e6 hc hcm hB hrow hi hj hn f3 f6
  go_enter Try.func55, Try.ntmps55
  go_wp2_with fail
  go_region
  all_goals go_wp2_with fail
  have hR1 : Lrow (((((w.setCell ⟨g, i * 2, none⟩ (.int .i64 y1)).setCell ⟨g, i * 2 + 1, none⟩ (.int .i64 y2)).setCell ⟨g, j * 2, none⟩ (.int .i64 x1)).setCell ⟨g, j * 2 + 1, none⟩ (.int .i64 x2)).drew) g 55 (pcells (swp L i j) ++ rest) := by
    rw [← pcells_swp HI.out HJ.out, ← E1.out, ← E2.out, ← E3.out, ← E4.out]
    exact ((((HR.out.set_ _ _).set_ _ _).set_ _ _).set_ _ _).drewN 1
  have hG1 : w.grownBy (((((w.setCell ⟨g, i * 2, none⟩ (.int .i64 y1)).setCell ⟨g, i * 2 + 1, none⟩ (.int .i64 y2)).setCell ⟨g, j * 2, none⟩ (.int .i64 x1)).setCell ⟨g, j * 2 + 1, none⟩ (.int .i64 x2)).drew) (some g) := by
    have := grown_set' (grown_set' (grown_set' (grown_set w g (i * 2) (.int .i64 y1)) (i * 2 + 1) (.int .i64 y2)) (j * 2) (.int .i64 x1)) (j * 2 + 1) (.int .i64 x2)
    exact ⟨this.os, this.tape, this.output, this.size, this.block⟩
  generalize (((((w.setCell ⟨g, i * 2, none⟩ (.int .i64 y1)).setCell ⟨g, i * 2 + 1, none⟩ (.int .i64 y2)).setCell ⟨g, j * 2, none⟩ (.int .i64 x1)).setCell ⟨g, j * 2 + 1, none⟩ (.int .i64 x2)).drew) = w1 at hR1 hG1 ⊢
  obtain ⟨hl1, hft1⟩ := H.out.lay.row rfl HR.out hR1 hG1 HSL.out
  have HFT := Lib.hid hft1
  clear h0 h1 a1 a2 b1 b2 za1 za2 zb1 zb2 hft1 hG1 hR1 HR
  obtain ⟨w2, hr2, hg2, hm2⟩ := hl1.drew.map.put (f := y1) (v := i) (by have := HL.out; omega) (fits_fr ⟨f4, f5⟩) (fits_of (by have := HL.out; have := HI.out; omega))
  rw [HM2.out, Option.isSome_some, if_pos rfl] at hm2
  obtain ⟨hl2, hft2⟩ := hl1.drew.mapped hg2 hm2
  have hk0 := hl1.c0
  have hk1 := hl1.c1
  have hi1 := (hl1.at_ HSL.out.symm (j := i) (by rw [HSL.out]; exact HI.out)).1
  have hi2 := (hl2.at_ HSL.out.symm (j := j) (by rw [HSL.out]; exact HJ.out)).1
  rw [hwi.out, ← E3.out] at hi1
  rw [hwj.out, ← E1.out] at hi2
  rw [← HN.out] at hk0
  have LAY2 := Lib.hid hl2
  have FT2 := Lib.hid hft2
  have HI2 := Lib.hid hi2
  clear hl1 hg2 hm2 hl2 hft2 hi2
  go_region
  all_goals go_wp2_with fail
  have hl2 := LAY2.out
  obtain ⟨w3, hr3, hg3, hm3⟩ := hl2.drew.map.put (f := x1) (v := j) (by have := HL.out; omega) (fits_fr ⟨f1, f2⟩) (fits_of (by have := HL.out; have := HJ.out; omega))
  have hx1 : (updM M y1 (some (i : Int)) x1).isSome = true := by
    unfold updM
    split
    · rfl
    · rw [HM1.out]; rfl
  rw [hx1, if_pos rfl] at hm3
  obtain ⟨hl3, hft3⟩ := hl2.drew.mapped hg3 hm3
  have hk2 := hl2.c0
  have hk3 := hl2.c1
  rw [← HN.out] at hk2
  have hi2 := HI2.out
  have LAY3 := Lib.hid hl3
  have FT3 := Lib.hid hft3
  clear hl2 hg3 hm3 hl3 hft3 hx1 hr2 hk0 hk1 hi1
  go_region
  all_goals go_wp2_with fail
  go_end0
  refine ⟨rfl, _, LAY3.out.que HSL.out.symm HIX.out HF.out (by rw [HSL.out]; exact HL.out), ?_⟩
  exact ((HFT.out.drewN 1).trans (FT2.out.drewN 1) (fun _ h _ => h)).trans FT3.out (fun _ h _ => h)
set_option maxHeartbeats 4000000 in
theorem swap_eq {B : Nat} {w : World} {q m : Nat} {iv : Value} {L : List It} {M : Int → Option Int} (h : Que B w q m iv L M) {i : Nat} (hi : i < L.length) :
    Calls Try.prog 55 #[.pointer (some ⟨q, 0, none⟩), .int .i64 i, .int .i64 i] w (Swapped B w q m iv L i i) := by
  obtain ⟨A, c, hv⟩ := own_form h.own
  subst hv
  have H := Lib.hid h
  have h0 := h.c0
  have h1 := h.c1
  obtain ⟨g, hA, hc, hcm, hgl, hB, hfz, hit⟩ := h.items (by omega)
  subst hA
  obtain ⟨a1, a2⟩ := hit i hi
  obtain ⟨⟨f1, f2⟩, f3⟩ := h.fit.at_ hi
  have i0 : (0 : Int) ≤ i := by omega
  have il : (i : Int) < L.length := by omega
  have za1 := hfz (i * 2)
  have za2 := hfz (i * 2 + 1)
  have HI := Lib.hid hi
  have HM1 := Lib.hid (h.idx.at_ i hi)
  have HIX := Lib.hid (h.idx.swp hi hi)
  have HF := Lib.hid (h.fit.swp hi hi)
  have HL := Lib.hid h.len
  have e5 : (at' (swp L i i) i) = at' L i := by rw [swp_at _ _ _ _ hi hi, if_pos rfl]
  rw [e5] at HIX
  have HSL := Lib.hid (swp_length L i i)
  have hwi := Lib.hid e5
  obtain ⟨n, hn⟩ : ∃ n, n = L.length := ⟨_, rfl⟩
  rw [← hn] at h0 il
  have HN := Lib.hid hn
  obtain ⟨rest, hrow, -, -, -, -⟩ := own_row h.own rfl
  have HR := Lib.hid hrow
  obtain ⟨x1, e1⟩ : ∃ z, z = (at' L i).1 := ⟨_, rfl⟩
  obtain ⟨x2, e2⟩ : ∃ z, z = (at' L i).2 := ⟨_, rfl⟩
  rw [← e1] at a1 f1 f2 HM1
  rw [← e2] at a2
  rw [← e1] at HIX
  have E1 := Lib.hid e1
  have E2 := Lib.hid e2
  clear hit h hfz e1 e2 e5 hc hcm hB hrow hi hn f3
  go_enter Try.func55, Try.ntmps55
  go_wp2_with fail
  go_region
  all_goals go_wp2_with fail
  have hR1 : Lrow (((((w.setCell ⟨g, i * 2, none⟩ (.int .i64 x1)).setCell ⟨g, i * 2 + 1, none⟩ (.int .i64 x2)).setCell ⟨g, i * 2, none⟩ (.int .i64 x1)).setCell ⟨g, i * 2 + 1, none⟩ (.int .i64 x2)).drew) g 55 (pcells (swp L i i) ++ rest) := by
    rw [← pcells_swp HI.out HI.out, ← E1.out, ← E2.out]
    exact ((((HR.out.set_ _ _).set_ _ _).set_ _ _).set_ _ _).drewN 1
  have hG1 : w.grownBy (((((w.setCell ⟨g, i * 2, none⟩ (.int .i64 x1)).setCell ⟨g, i * 2 + 1, none⟩ (.int .i64 x2)).setCell ⟨g, i * 2, none⟩ (.int .i64 x1)).setCell ⟨g, i * 2 + 1, none⟩ (.int .i64 x2)).drew) (some g) := by
    have := grown_set' (grown_set' (grown_set' (grown_set w g (i * 2) (.int .i64 x1)) (i * 2 + 1) (.int .i64 x2)) (i * 2) (.int .i64 x1)) (i * 2 + 1) (.int .i64 x2)
    exact ⟨this.os, this.tape, this.output, this.size, this.block⟩
  generalize (((((w.setCell ⟨g, i * 2, none⟩ (.int .i64 x1)).setCell ⟨g, i * 2 + 1, none⟩ (.int .i64 x2)).setCell ⟨g, i * 2, none⟩ (.int .i64 x1)).setCell ⟨g, i * 2 + 1, none⟩ (.int .i64 x2)).drew) = w1 at hR1 hG1 ⊢
  obtain ⟨hl1, hft1⟩ := H.out.lay.row rfl HR.out hR1 hG1 HSL.out
  have HFT := Lib.hid hft1
  clear h0 h1 a1 a2 za1 za2 hft1 hG1 hR1 HR
  obtain ⟨w2, hr2, hg2, hm2⟩ := hl1.drew.map.put (f := x1) (v := i) (by have := HL.out; omega) (fits_fr ⟨f1, f2⟩) (fits_of (by have := HL.out; have := HI.out; omega))
  rw [HM1.out, Option.isSome_some, if_pos rfl] at hm2
  obtain ⟨hl2, hft2⟩ := hl1.drew.mapped hg2 hm2
  have hk0 := hl1.c0
  have hk1 := hl1.c1
  have hi1 := (hl1.at_ HSL.out.symm (j := i) (by rw [HSL.out]; exact HI.out)).1
  have hi2 := (hl2.at_ HSL.out.symm (j := i) (by rw [HSL.out]; exact HI.out)).1
  rw [hwi.out, ← E1.out] at hi1
  rw [hwi.out, ← E1.out] at hi2
  rw [← HN.out] at hk0
  have LAY2 := Lib.hid hl2
  have FT2 := Lib.hid hft2
  have HI2 := Lib.hid hi2
  clear hl1 hg2 hm2 hl2 hft2 hi2
  go_region
  all_goals go_wp2_with fail
  have hl2 := LAY2.out
  obtain ⟨w3, hr3, hg3, hm3⟩ := hl2.drew.map.put (f := x1) (v := i) (by have := HL.out; omega) (fits_fr ⟨f1, f2⟩) (fits_of (by have := HL.out; have := HI.out; omega))
  have hx1 : (updM M x1 (some (i : Int)) x1).isSome = true := by
    rw [updM_same]; rfl
  rw [hx1, if_pos rfl] at hm3
  obtain ⟨hl3, hft3⟩ := hl2.drew.mapped hg3 hm3
  have hk2 := hl2.c0
  have hk3 := hl2.c1
  rw [← HN.out] at hk2
  have hi2 := HI2.out
  have LAY3 := Lib.hid hl3
  have FT3 := Lib.hid hft3
  clear hl2 hg3 hm3 hl3 hft3 hx1 hr2 hk0 hk1 hi1
  go_region
  all_goals go_wp2_with fail
  go_end0
  refine ⟨rfl, _, LAY3.out.que HSL.out.symm HIX.out HF.out (by rw [HSL.out]; exact HL.out), ?_⟩
  exact ((HFT.out.drewN 1).trans (FT2.out.drewN 1) (fun _ h _ => h)).trans FT3.out (fun _ h _ => h)
theorem swap_any {B : Nat} {w : World} {q m : Nat} {iv : Value} {L : List It} {M : Int → Option Int} (h : Que B w q m iv L M) {i j : Nat} (hi : i < L.length) (hj : j < L.length) :
    Calls Try.prog 55 #[.pointer (some ⟨q, 0, none⟩), .int .i64 i, .int .i64 j] w (Swapped B w q m iv L i j) := by
  by_cases e : i = j
  · subst e; exact swap_eq h hi
  · exact swap_ne h hi hj e
end Go.Proofs.Ytgkliffhdibghaa
