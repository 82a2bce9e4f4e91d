/- Del. -/
import Derived.Test.YtgpbbmcadifdhaaR9
namespace Go.Proofs.Ytgpbbmcadifdhaa
open Go.RowKit

section
variable {B : Nat} {w : World} {T : Rm} {L : List On} {f x y : Int}
set_option maxRecDepth 100000 in
set_option maxHeartbeats 2000000 in
theorem del_any (h : RmIs B w T L) (hL : L.length ≤ 200) (hff : Fits f) :
    Calls Try.prog 10 #[.pointer (some ⟨T.s, 0, none⟩), .int .i64 f, .agg #[.int .i64 x, .int .i64 y]] w (Changed B T (deE L f (x, y)) (deL L f (x, y)) w) := by
  have hX := h.alloc (.cells #[.int .i64 x, .int .i64 y] 27)
  obtain ⟨W, hW⟩ : ∃ W, W = w.alloc (.cells #[.int .i64 x, .int .i64 y] 27) := ⟨_, rfl⟩
  have hb : Lrow W w.heap.size 27 [.int .i64 x, .int .i64 y] := by rw [hW]; exact Lrow.new w _ _
  have hWB : Below w.heap.size w W := by rw [hW]; exact below_new _ _
  rw [← hW] at hX
  have HX := Lib.hid hX
  have HW := Lib.hid hW
  have HB := Lib.hid hb
  have HWB := Lib.hid hWB
  have c0 := hb.cell 0
  have c1 := hb.cell 1
  have HN := Lib.hid (h.good.del f (x, y))
  have HU := Lib.hid h.good.up
  have HO : Hid (∀ g, g ≠ f → sps (deL L f (x, y)) g = sps L g) := fun g e => by rw [sps_del, if_neg e]
  have hF : sps (deL L f (x, y)) f = (sps L f).filter (fun z => decide (z ≠ (x, y))) := by rw [sps_del, if_pos rfl]
  have HF := Lib.hid hF
  clear hF
  by_cases h3 : (f, (x, y)) ∈ L
  · have hE : deE L f (x, y) = 0 := if_pos h3
    rw [hE]
    have hd3 : decide ((x, y) ∈ sps L f) = true := by simpa using mem_sps.2 h3
    have HM := Lib.hid (mem_sps.2 h3)
    obtain ⟨n, hn⟩ : ∃ n, n = (sps L f).length := ⟨_, rfl⟩
    have HN2 := Lib.hid hn
    by_cases h1 : n = 1
    · have h1' : (n : Int) = 1 := by omega
      have H1 := Lib.hid h1
      clear h h3 hX hb hWB hE hn h1
      go_enter Try.func10, Try.ntmps10
      go_upto_region 1 with (fail)
      rw [← HW.out]
      clear hW
      go_wp2_with (first | (go_at_call 24; refine (place_any HX.out hL hff).mono ?_; rintro e w2 ⟨rfl, hb2⟩; rw [hd3]; have hc0 := (HX.out.call hb2).c0; obtain ⟨w4, hr4, hg4, hm4⟩ := (HX.out.call hb2).map.drop hff) | (go_at_call 13; refine (count_any (HX.out.call hb2) hff).mono ?_; rintro e w3 ⟨rfl, rfl⟩; rw [← HN2.out, h1']))
      go_ret
      refine ⟨rfl, _, ((HX.out.call hb2).gone HN.out hff HO.out ?_ hm4 hg4).pre (HWB.out.trans (hb2.mono HWB.out.size))⟩
      rw [HF.out]
      have hm := HM.out
      have hl := HN2.out
      rw [H1.out] at hl
      obtain ⟨z, hz⟩ := List.length_eq_one_iff.1 hl.symm
      rw [hz] at hm ⊢
      rw [List.mem_singleton] at hm
      subst hm
      simp
    · have h1' : ¬ (n : Int) = 1 := by omega
      have H1 := Lib.hid h1
      clear h h3 hX hb hWB hE hn h1
      go_enter Try.func10, Try.ntmps10
      go_upto_region 1 with (fail)
      rw [← HW.out]
      clear hW
      go_wp2_with (first | (go_at_call 24; refine (place_any HX.out hL hff).mono ?_; rintro e w2 ⟨rfl, hb2⟩; rw [hd3]; have hc0 := (HX.out.call hb2).c0) | (go_at_call 13; refine (count_any (HX.out.call hb2) hff).mono ?_; rintro e w3 ⟨rfl, rfl⟩; rw [← HN2.out]))
      have hX := (HX.out.call hb2).drewN 1
      have hVw : Below w.heap.size w (w2.drewN 1) := below_dN (HWB.out.trans (hb2.mono HWB.out.size)) 1
      obtain ⟨i, hi⟩ : ∃ i, i = cutS (x, y) (sps L f) := ⟨_, rfl⟩
      rw [← hi]
      have hil : i < (sps L f).length := by rw [hi]; exact cut_lt (sps_up HU.out f) HM.out
      have hdel := delete_own (hX.row f hff) hil (spsl hL f)
      have he : (sps L f).eraseIdx i = sps (deL L f (x, y)) f := by rw [HF.out, hi]; exact (cut_mem _ (sps_up HU.out f) _ HM.out).2
      rw [he] at hdel
      have hput : ∀ w3 v, (w2.drewN 1).grownBy w3 (T.row f).ownBlock → ∃ w4, (Instr.mapUpdate 49 (.map (some T.b)) (.int .i64 f) v).run Try.prog w3 = .ok () w4 ∧ w3.grownBy w4 (some T.b) ∧ MapV w4 T.b (L.length + 1) (updV T.M f (some v)) := fun w3 v hg =>
        (hX.map.heap (hg.block _ hX.map.lt (fun e => by
          obtain ⟨vs, r, _⟩ := own_block (hX.row f hff) e.symm
          exact hX.map.apart r rfl))).put (by omega) v hff
      have hne : sps (deL L f (x, y)) f ≠ [] := by
        rw [← he]
        intro e
        have h2 := congrArg List.length e
        rw [List.length_eraseIdx, if_pos hil] at h2
        have h4 := HN2.out
        have h5 := H1.out
        simp only [List.length_nil] at h2
        omega
      have hend : Hid (∀ w3 w4 v, Sp B w3 v (sps (deL L f (x, y)) f) → (w2.drewN 1).grownBy w3 (T.row f).ownBlock → v.ownBlock = (T.row f).ownBlock → w3.grownBy w4 (some T.b) → MapV w4 T.b (L.length + 1) (updV T.M f (some v)) →
          Changed B T 0 (deL L f (x, y)) w (.returned (.int .i64 0)) w4) := fun w3 w4 v k1 k2 k3 k4 k5 =>
        ⟨rfl, _, (hX.turn HN.out hff HO.out hne k1 k2 (Or.inl k3) k5 k4).pre hVw⟩
      have n1 : some T.s ≠ (T.row f).ownBlock := fun e => by
        obtain ⟨vs, r, _⟩ := own_block (hX.row f hff) e.symm
        exact hX.top.apart r (by decide) rfl
      have m1 : some T.s ≠ some T.b := fun e => hX.sb (by injection e)
      have hk : ∀ w3, (w2.drewN 1).grownBy w3 (T.row f).ownBlock → w3.cell? ⟨T.s, 0, none⟩ = some (.map (some T.b)) := fun w3 hg => (hX.top.grown hg n1).cell 0
      have hk2 : ∀ w3 w4, (w2.drewN 1).grownBy w3 (T.row f).ownBlock → w3.grownBy w4 (some T.b) → w4.cell? ⟨T.s, 0, none⟩ = some (.map (some T.b)) := fun w3 w4 hg hg4 => ((hX.top.grown hg n1).grown hg4 m1).cell 0
      have hs : w2.drew.cell? ⟨T.s, 0, none⟩ = some (.map (some T.b)) := hX.c0
      have hl1 : (Instr.lookup 49 (.map (some T.b)) (.int .i64 f) false).run Try.prog w2.drew = .ok (T.row f) w2.drew := hX.look hff
      obtain ⟨u, hu⟩ : ∃ u, u = T.row f := ⟨_, rfl⟩
      have hfo := own_form (hX.row f hff)
      rw [← hu] at hdel hput hend hk hk2 hl1 hfo
      obtain ⟨A, c, rfl⟩ := hfo
      have hw1 : IntKind.i64.wrap ((i : Int) + 1) = ((i + 1 : Nat) : Int) := by rw [IntKind.wrap_i64]; have := spsl hL f; omega
      clear hu hX hVw hi c0 c1 hd3 hb2 n1 m1 hne he hc0 h1' HN2 hil
      go_region_held3 (fun v => v.cell? ⟨T.s, 0, none⟩ = some (.map (some T.b)))
        (first | exact hs | exact hk3 | exact hk4)
        (first | (go_at_call 26; refine hdel.mono ?_; rintro e w3 ⟨v3, rfl, hsp3, hg3, hv3⟩; have hk3 := hk _ hg3; obtain ⟨A3, c3, rfl⟩ := own_form hsp3; obtain ⟨w4, hr4, hg4, hm4⟩ := hput _ (.slice A3 (sps (deL L f (x, y)) f).length c3) hg3; have hk4 := hk2 _ _ hg3 hg4))
      all_goals
        go_wp2
        go_ret
        exact hend.out _ _ _ hsp3 hg3 hv3 hg4 hm4
  · have hE : deE L f (x, y) = 6 := if_neg h3
    rw [hE, del_none h3]
    have H : Hid (∀ w', Below w.heap.size w w' → Changed B T 6 L w (.returned (.int .i64 6)) w') := fun w' hb => ⟨rfl, T, h.same hb⟩
    have hd3 : decide ((x, y) ∈ sps L f) = false := by simpa using fun k => h3 (mem_sps.1 k)
    clear h h3 hX hb hWB hE
    go_enter Try.func10, Try.ntmps10
    go_upto_region 1 with (fail)
    rw [← HW.out]
    clear hW
    go_wp2_with (go_at_call 24; refine (place_any HX.out hL hff).mono ?_; rintro e w2 ⟨rfl, hb2⟩; rw [hd3])
    go_ret
    exact H.out _ (HWB.out.trans (hb2.mono HWB.out.size))
end
end Go.Proofs.Ytgpbbmcadifdhaa
