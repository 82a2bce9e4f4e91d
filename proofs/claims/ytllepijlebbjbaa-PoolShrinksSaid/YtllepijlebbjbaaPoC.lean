/- The reference of pools: may, Grow, Extra, Promise, Unpromise. -/
import Derived.Test.YtllepijlebbjbaaPoB
namespace Go.Proofs.Ytllepijlebbjbaa
open Go.RowKit
section
variable {w w' : World} {B xa g : Nat} {S S' : Pk} {f : Int}
theorem sz_o (h : POk S) : ∃ z : Nat, szI S.o = (z : Int) ∧ (z = 8 ∨ z = 64) := by
  rcases h.o with e | e
  · exact ⟨8, by rw [e]; rfl, Or.inl rfl⟩
  · exact ⟨64, by rw [e]; rfl, Or.inr rfl⟩
set_option maxRecDepth 100000 in
set_option maxHeartbeats 2000000 in
theorem may_x (h : Px B w xa g S) (ok : POk S) (f : Int) : Calls Try.prog 47 #[.pointer (some ⟨xa, 0, none⟩), .int .i64 f] w fun e w' => e = .returned (.int .i64 (maE S f)) ∧ w = w' := by
  have hs := size_x ok.o w
  obtain ⟨z, hz, hz8⟩ := sz_o ok
  rw [hz] at hs
  have e0 := h.top.cell 0
  have e2 := h.top.cell 2
  have HX := Lib.hid (And.intro h ok)
  obtain ⟨M, hM⟩ : ∃ M, M = maE S f := ⟨_, rfl⟩
  have HM := Lib.hid hM
  rw [← hM]
  have hw : IntKind.i64.wrap (1024 - (z : Int)) = 1024 - (z : Int) := IntWalk.i64_in _ (by omega)
  have z0 : ¬ (z : Int) = 0 := by omega
  have zn : ((z : Int) == 0) = false := by simpa using z0
  unfold maE at hM
  rw [hz] at hM
  have HZ := Lib.hid hz8
  by_cases c1 : f < 0
  · rw [if_pos (Or.inl c1)] at hM
    subst hM
    clear h ok hz hz8
    go_enter Try.func47, Try.ntmps47
    go_wp2_with (go_at_call 51; (with_reducible refine hs.mono ?_); rintro e w1 ⟨rfl, rfl⟩)
    go_ret
    exact ⟨rfl, rfl⟩
  · by_cases c2 : 1024 - (z : Int) < f
    · rw [if_pos (Or.inr c2)] at hM
      subst hM
      clear h ok hz hz8
      go_enter Try.func47, Try.ntmps47
      go_wp2_with (go_at_call 51; (with_reducible refine hs.mono ?_); rintro e w1 ⟨rfl, rfl⟩)
      go_ret
      exact ⟨rfl, rfl⟩
    · obtain ⟨ff, rfl⟩ : ∃ k : Nat, f = k := ⟨f.toNat, by omega⟩
      rw [if_neg (by omega)] at hM
      have hfl : ff < S.I.length := by have := ok.ln; omega
      have d0 : w.cell? ⟨g, ff, none⟩ = some (.int .i64 S.I[ff]) := by rw [h.at_, List.getElem?_eq_getElem hfl]; rfl
      rw [Int.toNat_natCast, List.getElem?_eq_getElem hfl] at hM
      generalize S.I[ff] = x at d0 hM
      have f1 : (ff : Int) < 1024 := by omega
      have f0 : (0 : Int) ≤ ff := by omega
      have f0n : ¬ (ff : Int) < 0 := by omega
      by_cases c3 : (ff : Int) % (z : Int) = 0
      · rw [if_neg (by simpa using c3)] at hM
        have b3 : (((ff : Int) % (z : Int)) == 0) = true := by simpa using c3
        by_cases c4 : x = 0
        · rw [if_neg (by simpa using c4)] at hM
          subst hM c4
          clear h ok hz hz8 hfl
          go_enter Try.func47, Try.ntmps47
          go_wp2_with (go_at_call 51; (with_reducible refine hs.mono ?_); rintro e w1 ⟨rfl, rfl⟩)
          go_ret
          exact ⟨rfl, rfl⟩
        · rw [if_pos (by simpa using c4)] at hM
          have b4 : (x == 0) = false := by simpa using c4
          subst hM
          clear h ok hz hz8 hfl
          go_enter Try.func47, Try.ntmps47
          go_wp2_with (go_at_call 51; (with_reducible refine hs.mono ?_); rintro e w1 ⟨rfl, rfl⟩)
          go_ret
          exact ⟨rfl, rfl⟩
      · rw [if_pos c3] at hM
        have b3 : (((ff : Int) % (z : Int)) == 0) = false := by simpa using c3
        subst hM
        clear h ok hz hz8 hfl
        go_enter Try.func47, Try.ntmps47
        go_wp2_with (go_at_call 51; (with_reducible refine hs.mono ?_); rintro e w1 ⟨rfl, rfl⟩)
        go_ret
        exact ⟨rfl, rfl⟩
/-- The place of a frame. -/
theorem Px.spot (h : Px B w xa g S) {i : Nat} {x : Int} (hx : S.I[i]? = some x) : w.cell? ⟨g, i, none⟩ = some (.int .i64 x) ∧ w.frozen? ⟨g, i, none⟩ = false :=
  ⟨by rw [h.at_, hx]; rfl, h.row.frozen i⟩
set_option maxRecDepth 100000 in
set_option maxHeartbeats 2000000 in
theorem grow_x (h : Px B w xa g S) (ok : POk S) (f : Int) : Calls Try.prog 28 #[.pointer (some ⟨xa, 0, none⟩), .int .i64 f] w fun e w' => e = .returned (.int .i64 (maE S f)) ∧ DidX B w xa g (grS S f) w' := by
  have hm := may_x h ok f
  have e2 := h.top.cell 2
  by_cases c : maE S f = 0
  · obtain ⟨a1, a2, a3, a4⟩ := maE_ok c
    obtain ⟨ff, rfl⟩ : ∃ k : Nat, f = k := ⟨f.toNat, by omega⟩
    rw [Int.toNat_natCast] at a4
    obtain ⟨d0, y0⟩ := h.spot a4
    have hff : ff < 1024 := by have := ok.ln; have := (List.getElem?_eq_some_iff.1 a4).1; omega
    have f1 : (ff : Int) < 1024 := by omega
    have f0 : (0 : Int) ≤ ff := by omega
    have f0n : ¬ (ff : Int) < 0 := by omega
    have HD : Hid (DidX B w xa g (grS S ff) (w.setCell ⟨g, ff, none⟩ (.int .i64 1))) := ⟨by
      have := h.set_ ff 1
      unfold grS stP
      rw [if_pos c, Int.toNat_natCast]; exact this, Px.foot xa g (Or.inr rfl) w ff _⟩
    rw [c] at hm ⊢
    clear h ok c a1 a2 a3 a4
    go_enter Try.func28, Try.ntmps28
    go_wp2_with (go_at_call 47; (with_reducible refine hm.mono ?_); rintro e w1 ⟨rfl, rfl⟩)
    go_ret
    exact ⟨rfl, HD.out⟩
  · have HD : Hid (DidX B w xa g (grS S f) w) := by
      unfold grS
      rw [if_neg c]; exact h.did (Below.refl _ _)
    have cb : (maE S f == 0) = false := by simpa using c
    generalize maE S f = M at *
    clear h ok
    go_enter Try.func28, Try.ntmps28
    go_wp2_with (go_at_call 47; (with_reducible refine hm.mono ?_); rintro e w1 ⟨rfl, rfl⟩)
    go_ret
    exact ⟨rfl, HD.out⟩
set_option maxRecDepth 100000 in
set_option maxHeartbeats 2000000 in
theorem unpromise_x (h : Px B w xa g S) (ok : POk S) (n : Int) : Calls Try.prog 31 #[.pointer (some ⟨xa, 0, none⟩), .int .i64 n] w fun e w' => e = .returned (.int .i64 (unE S n)) ∧ DidX B w xa g (unS S n) w' := by
  have e3 := h.top.cell 3
  have y3 := h.top.frozen 3
  have p0 := ok.p0
  have p1 : S.P ≤ 1024 := by have := ok.p1; have := List.count_le_length (a := 1) (l := S.I); have := ok.ln; omega
  by_cases c1 : n < 0
  · have c : unE S n = 2 := by unfold unE; rw [if_pos c1]
    have HD : Hid (DidX B w xa g (unS S n) w) := by unfold unS; rw [c, if_neg (by decide)]; exact h.did (Below.refl _ _)
    rw [c]
    clear h ok c
    go_enter Try.func31, Try.ntmps31
    go_wp2_with fail
    go_ret
    exact ⟨rfl, HD.out⟩
  · by_cases c2 : S.P < n
    · have c : unE S n = 3 := by unfold unE; rw [if_neg c1, if_pos c2]
      have HD : Hid (DidX B w xa g (unS S n) w) := by unfold unS; rw [c, if_neg (by decide)]; exact h.did (Below.refl _ _)
      rw [c]
      clear h ok c
      generalize S.P = P at *
      go_enter Try.func31, Try.ntmps31
      go_wp2_with fail
      go_ret
      exact ⟨rfl, HD.out⟩
    · have c : unE S n = 0 := by unfold unE; rw [if_neg c1, if_neg c2]
      have HD : Hid (DidX B w xa g (unS S n) (w.setCell ⟨xa, 3, none⟩ (.int .i64 (S.P - n)))) := ⟨by unfold unS; rw [if_pos c]; exact h.setP _, Px.foot xa g (Or.inl rfl) w 3 _⟩
      have hw : IntKind.i64.wrap (S.P - n) = S.P - n := IntWalk.i64_in _ (by omega)
      rw [c]
      clear h ok c
      generalize S.P = P at *
      go_enter Try.func31, Try.ntmps31
      go_wp2_with fail
      go_ret
      exact ⟨rfl, HD.out⟩
end
end Go.Proofs.Ytllepijlebbjbaa
