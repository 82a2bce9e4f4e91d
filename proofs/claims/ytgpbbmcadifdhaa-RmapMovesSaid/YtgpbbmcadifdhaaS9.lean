/- The reference's Move. -/
import Derived.Test.YtgpbbmcadifdhaaS8
namespace Go.Proofs.Ytgpbbmcadifdhaa
open Go.RowKit
theorem xadd_any {w : World} {B xa : Nat} {v : Value} {L : List On} (h : Rx B w xa v L) (hu : Srt L) (hL : L.length ≤ 200) (f x y : Int) : Calls Try.prog 30 #[.pointer (some ⟨xa, 0, none⟩), .int .i64 f, .agg #[.int .i64 x, .int .i64 y]] w (DidX B w xa v (adL L f (x, y)) (adE L f (x, y))) := by
  by_cases hn : okF f ∧ okS (x, y)
  · exact xadd_in h hu hL hn
  · exact xadd_range h hn
theorem Mid.upto {L : List On} (h : Good L) {a b : Int} (he : moE L a b = 0) : ∀ i, i ≤ (sps L a).length → Mid L a b ((sps L a).take i) ((sps L a).drop i) (moS a b L ((sps L a).take i)) := by
  obtain ⟨h1, h2, h3, h4⟩ := mo_zero he
  intro i
  induction i with
  | zero => intro _; rw [List.take_zero, List.drop_zero]; exact h.mid h3
  | succ i ih =>
    intro hi
    have hil : i < (sps L a).length := by omega
    have k := ih (by omega)
    rw [List.drop_eq_getElem_cons hil] at k
    have hu : Up ((sps L a).take i ++ (sps L a)[i] :: (sps L a).drop (i + 1)) := by
      rw [← List.drop_eq_getElem_cons hil, List.take_append_drop]; exact sps_up h.up a
    have := (k.step h4 h1 hu).1
    rw [List.take_succ_eq_append_getElem hil]
    unfold moS at this ⊢
    rw [List.foldl_append]
    exact this
/-- One spot goes over. -/
theorem Mid.one {L : List On} (h : Good L) {a b : Int} (he : moE L a b = 0) {i : Nat} (hi : i < (sps L a).length) :
    Good (moS a b L ((sps L a).take i)) ∧ (moS a b L ((sps L a).take i)).length = L.length ∧ Good (deL (moS a b L ((sps L a).take i)) a (sps L a)[i]) ∧
      adL (deL (moS a b L ((sps L a).take i)) a (sps L a)[i]) b (sps L a)[i] = moS a b L ((sps L a).take (i + 1)) := by
  obtain ⟨h1, h2, h3, h4⟩ := mo_zero he
  have k := Mid.upto h he i (by omega)
  rw [List.drop_eq_getElem_cons hi] at k
  have hu : Up ((sps L a).take i ++ (sps L a)[i] :: (sps L a).drop (i + 1)) := by
    rw [← List.drop_eq_getElem_cons hi, List.take_append_drop]; exact sps_up h.up a
  obtain ⟨_, s1, s2, s3, _⟩ := k.step h4 h1 hu
  refine ⟨k.good, k.len, k.good.del _ _, ?_⟩
  rw [(adE_ok ⟨h1, s3⟩ s2).2, List.take_succ_eq_append_getElem hi]
  unfold moS
  rw [List.foldl_append]
  rfl
theorem Enc.Own.foot {P : Program} {α : Type} {E : Enc P α} {w w' : World} {D xa : Nat} {v : Value} {l : List α} (h : E.Own D w v l) (hf : Foot (fun k => k = xa) w w') (hx : xa < D) : E.Own D w' v l := h.heap fun g e => by
  obtain ⟨vs, r, hD⟩ := h.block e
  exact hf.keep g r.lt (by intro e; omega)
section
variable {w w' : World} {B xa : Nat} {v : Value} {L : List On}
set_option maxRecDepth 100000 in
set_option maxHeartbeats 4000000 in
theorem xmove_any (h : Rx B w xa v L) (hg : Good L) (hL : L.length ≤ 200) (a b : Int) : Calls Try.prog 32 #[.pointer (some ⟨xa, 0, none⟩), .int .i64 a, .int .i64 b] w (DidX B w xa v (moL L a b) (moE L a b)) := by
  have HE : Hid (∀ e : Int, e ≠ 0 → moE L a b = e → ∀ w', Below w.heap.size w w' → DidX B w xa v (moL L a b) (moE L a b) (.returned (.int .i64 e)) w') := fun e k1 k2 w' hb => by
    unfold moL
    rw [k2, if_neg k1]
    exact ⟨rfl, v, h.call hb, Foot.of_below hb, Or.inl rfl⟩
  by_cases h1 : okF b
  · obtain ⟨g0, g1⟩ : 0 ≤ b ∧ b ≤ 1023 := h1
    have hsa := xspots_any h hL a
    obtain ⟨na, hna⟩ : ∃ n, n = (sps L a).length := ⟨_, rfl⟩
    obtain ⟨nb, hnb⟩ : ∃ n, n = (sps L b).length := ⟨_, rfl⟩
    unfold ToldX at hsa
    rw [← hna] at hsa
    have HH := Lib.hid h
    have HG := Lib.hid hg
    have HNA := Lib.hid hna
    have HNB := Lib.hid hnb
    have hsb : ∀ w1, Below w.heap.size w w1 → Calls Try.prog 16 #[.pointer (some ⟨xa, 0, none⟩), .int .i64 b] w1 fun e w' => ∃ A c, e = .returned (.slice A nb c) ∧ Below w1.heap.size w1 w' := fun w1 hb => (xspots_any (h.call hb) hL b).mono fun e w' ⟨A, c, e1, _, e3⟩ => ⟨A, c, by rw [e1, hnb], e3⟩
    clear h hg hna hnb
    by_cases h2 : na = 0
    · subst h2
      have H2 : Hid (moE L a b = 6) := by
        show _ = _
        unfold moE; rw [if_neg (by simp [okF, g0, g1]), if_pos (List.eq_nil_of_length_eq_zero HNA.out.symm)]
      go_enter Try.func32, Try.ntmps32
      go_wp2_with (go_at_call 16; refine hsa.mono ?_; rintro e w1 ⟨A1, c1, rfl, ho1, hb1⟩)
      go_ret
      exact HE.out 6 (by decide) H2.out _ hb1
    · have h20 : sps L a ≠ [] := fun e => h2 (by rw [HNA.out, e]; rfl)
      have h2' : ¬ (na : Int) = 0 := by omega
      by_cases h3 : nb = 0
      · subst h3
        have h30 : sps L b = [] := List.eq_nil_of_length_eq_zero HNB.out.symm
        have HZ : Hid (moE L a b = 0) := by
          show _ = _
          unfold moE; rw [if_neg (by simp [okF, g0, g1]), if_neg h20, if_neg (by simpa using h30)]
        have HLL := Lib.hid hL
        have n200 : (na : Int) ≤ 200 := by have := sps_len L a; have := HNA.out; omega
        clear h20 h30
        go_enter Try.func32, Try.ntmps32
        go_wp2_with fail
        refine hsa.mono ?_
        rintro e w1 ⟨A1, c1, rfl, ho1, hb1⟩
        have HB1 := Lib.hid hb1
        have HO1 := Lib.hid ho1
        clear ho1 hb1 hsa
        go_wp2_with fail
        refine (hsb w1 HB1.out).mono ?_
        rintro e w2 ⟨A2, c2, rfl, hb2⟩
        have HB2 : Hid (Below w.heap.size w w2) := HB1.out.trans (hb2.mono HB1.out.size)
        have HO2 := Lib.hid (HO1.out.call hb2)
        clear hb2 hsb
        go_wp2_with fail
        go_loopw [8] (fun i wr => ∃ (j : Nat), j ≤ na ∧ i = .int .i64 j ∧ ESp.Own w.heap.size wr (.slice A1 na c1) (sps L a) ∧ ∃ v', Rx B wr xa v' (moS a b L ((sps L a).take j)) ∧ Foot (fun k => k = xa) w wr ∧ (v' = v ∨ ∀ g, v'.ownBlock = some g → w.heap.size ≤ g)) (fun i _ => na - (RowKit.intOf i).toNat)
        case atStart => exact ⟨0, Nat.zero_le _, rfl, HO2.out, v, by simpa [moS] using HH.out.call HB2.out, Foot.of_below HB2.out, Or.inl rfl⟩
        case round =>
          obtain ⟨j, hj, rfl, hls, hst⟩ := hrel
          by_cases hlt : j < na
          · have hjl : j < (sps L a).length := by have := HNA.out; omega
            obtain ⟨m1, m2, m3, m4⟩ := Mid.one HG.out HZ.out hjl
            obtain ⟨g, rfl, hlo, hgl, -, hat⟩ := hls.some_ (by omega)
            obtain ⟨s, hs⟩ : ∃ s, s = (sps L a)[j] := ⟨_, rfl⟩
            have hat := hat j hjl
            rw [← hs] at m3 m4 hat
            obtain ⟨sx, sy⟩ := s
            obtain ⟨M, hM⟩ : ∃ M, M = moS a b L ((sps L a).take j) := ⟨_, rfl⟩
            rw [← hM] at m1 m2 m3 m4 hst
            have e0 : wr.cell? ⟨g, j * 2, none⟩ = some (.int .i64 sx) := hat 0 (by decide)
            have e1 : wr.cell? ⟨g, j * 2 + 1, none⟩ = some (.int .i64 sy) := hat 1 (by decide)
            have jN : (j : Int) < na := by omega
            have j0 : (0 : Int) ≤ j := by omega
            have hMl : M.length ≤ 200 := by have := HLL.out; omega
            have hdl : (deL M a (sx, sy)).length ≤ 200 := Nat.le_trans (del_le M a _) hMl
            have hxg : xa < w.heap.size := HH.out.top.lt
            have hgx : ¬ g = xa := by omega
            obtain ⟨v1, hr1, hf1, ht1⟩ := hst
            have hdel := xdel_any hr1 m1.up hMl a sx sy
            have HM4 := Lib.hid m4
            have HM3 := Lib.hid m3
            have HR1 := Lib.hid (And.intro hr1 (And.intro hf1 ht1))
            have HLS := Lib.hid hls
            have HAT : Hid (∀ w', Foot (fun k => k = xa) wr w' → w'.cell? ⟨g, j * 2, none⟩ = some (.int .i64 sx) ∧ w'.cell? ⟨g, j * 2 + 1, none⟩ = some (.int .i64 sy)) := fun w' hf => by
              have hk := hf.keep g hgl hgx
              exact ⟨(World.cell?_of_block (a := ⟨g, j * 2, none⟩) hk).trans e0, (World.cell?_of_block (a := ⟨g, j * 2 + 1, none⟩) hk).trans e1⟩
            clear m1 m2 m3 m4 hr1 hf1 ht1 hls hat hs hM hj
            go_wp2_with fail
            refine hdel.mono ?_
            rintro e w3 ⟨rfl, v2, hr2, hf2, ht2⟩
            obtain ⟨k0, k1⟩ := HAT.out w3 hf2
            have hadd := xadd_any hr2 HM3.out.up hdl b sx sy
            rw [HM4.out] at hadd
            have hls3 := HLS.out.foot hf2 hxg
            have HLS3 := Lib.hid hls3
            have HST3 : Hid (∃ v', Rx B w3 xa v' (deL M a (sx, sy)) ∧ Foot (fun k => k = xa) w w3 ∧ (v' = v ∨ ∀ g, v'.ownBlock = some g → w.heap.size ≤ g)) := by
              obtain ⟨p1, p2, p3⟩ := HR1.out
              refine ⟨v2, hr2, p2.trans hf2 (fun _ hb _ => hb), ?_⟩
              rcases ht2 with rfl | ht2
              · exact p3
              · exact Or.inr fun g e => Nat.le_trans p2.size (ht2 g e)
            have HF3 : Hid (Foot (fun k => k = xa) w w3) := HR1.out.2.1.trans hf2 (fun _ hb _ => hb)
            have HT3 : Hid (v2 = v ∨ ∀ g, v2.ownBlock = some g → w.heap.size ≤ g) := by
              rcases ht2 with rfl | ht2
              · exact HR1.out.2.2
              · exact Or.inr fun g e => Nat.le_trans HR1.out.2.1.size (ht2 g e)
            clear hr2 hf2 ht2 hls3 hdel e0 e1
            go_wp2_with fail
            refine hadd.mono ?_
            rintro e w4 ⟨rfl, v3, hr4, hf4, ht4⟩
            have HLS4 := Lib.hid (HLS3.out.foot hf4 hxg)
            have HST4 : Hid (∃ v', Rx B w4 xa v' (moS a b L ((sps L a).take (j + 1))) ∧ Foot (fun k => k = xa) w w4 ∧ (v' = v ∨ ∀ g, v'.ownBlock = some g → w.heap.size ≤ g)) := by
              refine ⟨v3, hr4, HF3.out.trans hf4 (fun _ hb _ => hb), ?_⟩
              rcases ht4 with rfl | ht4
              · exact HT3.out
              · exact Or.inr fun g e => Nat.le_trans HF3.out.size (ht4 g e)
            clear hr4 hf4 ht4 hadd k0 k1
            go_wp2_with fail
            go_roundw
            case rel => exact ⟨j + 1, by omega, by go_num, HLS4.out, HST4.out⟩
            case measure => simp [RowKit.intOf]; omega
          · obtain rfl : j = na := by omega
            have e : (sps L a).take j = sps L a := by rw [HNA.out]; exact List.take_length
            rw [e] at hst
            have HST := Lib.hid hst
            clear hst hls e
            go_wp2
            go_ret
            unfold moL
            rw [HZ.out, if_pos rfl]
            exact ⟨rfl, HST.out⟩
      · have h30 : sps L b ≠ [] := fun e => h3 (by rw [HNB.out, e]; rfl)
        have h3' : (0 : Int) < nb := by omega
        have H2 : Hid (moE L a b = 7) := by
          show _ = _
          unfold moE; rw [if_neg (by simp [okF, g0, g1]), if_neg h20, if_pos h30]
        clear h20 h30
        go_enter Try.func32, Try.ntmps32
        go_wp2_with fail
        refine hsa.mono ?_
        rintro e w1 ⟨A1, c1, rfl, ho1, hb1⟩
        have HB1 := Lib.hid hb1
        clear ho1 hb1 hsa
        go_wp2_with fail
        refine (hsb w1 HB1.out).mono ?_
        rintro e w2 ⟨A2, c2, rfl, hb2⟩
        have HB2 : Hid (Below w.heap.size w w2) := HB1.out.trans (hb2.mono HB1.out.size)
        clear hb2 hsb
        go_wp2
        go_ret
        exact HE.out 7 (by decide) H2.out _ HB2.out
  · have H2 : Hid (moE L a b = 3) := by
      show _ = _
      unfold moE; rw [if_pos h1]
    have hb : b < 0 ∨ (0 ≤ b ∧ 1023 < b) := by unfold okF at h1; omega
    clear h hg h1
    rcases hb with hb | ⟨hb1, hb2⟩
    all_goals
      go_enter Try.func32, Try.ntmps32
      go_wp2
      go_ret
      exact HE.out 3 (by decide) H2.out _ (Below.refl _ _)
end
end Go.Proofs.Ytgpbbmcadifdhaa
