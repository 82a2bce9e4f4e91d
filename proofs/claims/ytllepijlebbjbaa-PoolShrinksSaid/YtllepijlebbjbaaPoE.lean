/- The reference of pools: Promise, Give. -/
import Derived.Test.YtllepijlebbjbaaPoD
namespace Go.Proofs.Ytllepijlebbjbaa
open Go.RowKit
section
variable {w w' : World} {B xa g : Nat} {S S' : Pk} {f : Int}
set_option maxRecDepth 100000 in
set_option maxHeartbeats 2000000 in
theorem promise_x (h : Px B w xa g S) (ok : POk S) (n : Int) : Calls Try.prog 30 #[.pointer (some ⟨xa, 0, none⟩), .int .i64 n] w fun e w' => e = .returned (.int .i64 (prE S n)) ∧ DidX B w xa g (prS S n) w' := by
  by_cases c1 : n < 0
  · have c : prE S n = 2 := by unfold prE; rw [if_pos c1]
    have HD : Hid (DidX B w xa g (prS S n) w) := by unfold prS; rw [c, if_neg (by decide)]; exact h.did (Below.refl _ _)
    rw [c]
    clear h ok c
    go_enter Try.func30, Try.ntmps30
    go_wp2_with fail
    go_ret
    exact ⟨rfl, HD.out⟩
  · have hf := free_x (h.drewN 1) ok.ln
    obtain ⟨pk1, pk2, pk3⟩ := ok.p1k
    have p0 := ok.p0
    obtain ⟨R, hR⟩ : ∃ R, R = frL S.I := ⟨_, rfl⟩
    obtain ⟨m, hm⟩ : ∃ m, m = R.length := ⟨_, rfl⟩
    unfold ToldI at hf
    rw [← hR, ← hm] at hf pk2 pk3
    have m1 : (m : Int) ≤ 1024 := by omega
    have HX := Lib.hid (And.intro h ok)
    have HS0 : w.drew.cell? ⟨xa, 3, none⟩ = some (.int .i64 S.P) := (h.drewN 1).top.cell 3
    have hw : IntKind.i64.wrap ((m : Int) - S.P) = (m : Int) - S.P := IntWalk.i64_in _ (by omega)
    by_cases c2 : (m : Int) - S.P < n
    · have c : prE S n = 8 := by unfold prE; rw [if_neg c1, ← hR, ← hm, if_pos c2]
      have HC := Lib.hid c
      rw [c]
      clear h ok hR hm c
      go_enter Try.func30, Try.ntmps30
      go_wp2_with fail
      go_region_held3 (fun v => v.cell? ⟨xa, 3, none⟩ = some (.int .i64 S.P))
        (first | exact HS0 | exact HS1)
        (first | (go_at_call 15; refine hf.mono ?_; rintro e w1 ⟨A, cc, rfl, ho, hb⟩; have HS1 : w1.cell? ⟨xa, 3, none⟩ = some (.int .i64 S.P) := ((HX.out.1.drewN 1).call hb).top.cell 3))
      all_goals
        have HD : Hid (DidX B w xa g (prS S n) w1) := by unfold prS; rw [HC.out, if_neg (by decide)]; exact HX.out.1.did ((below_dN (Below.refl _ w) 1).trans hb)
        clear hf ho hb
        generalize S.P = P at *
        go_wp2_with fail
        go_ret
        exact ⟨rfl, HD.out⟩
    · have c : prE S n = 0 := by unfold prE; rw [if_neg c1, ← hR, ← hm, if_neg c2]
      have HC := Lib.hid c
      have hw2 : IntKind.i64.wrap (S.P + n) = S.P + n := IntWalk.i64_in _ (by omega)
      rw [c]
      clear h ok hR hm c
      go_enter Try.func30, Try.ntmps30
      go_wp2_with fail
      go_region_held3 (fun v => v.cell? ⟨xa, 3, none⟩ = some (.int .i64 S.P))
        (first | exact HS0 | exact HS1)
        (first | (go_at_call 15; refine hf.mono ?_; rintro e w1 ⟨A, cc, rfl, ho, hb⟩; have HS1 : w1.cell? ⟨xa, 3, none⟩ = some (.int .i64 S.P) := ((HX.out.1.drewN 1).call hb).top.cell 3))
      all_goals
        have y3 := ((HX.out.1.drewN 1).call hb).top.frozen 3
        have HD : Hid (DidX B w xa g (prS S n) (w1.setCell ⟨xa, 3, none⟩ (.int .i64 (S.P + n)))) := DidX.pre ((below_dN (Below.refl _ w) 1).trans hb) ⟨by unfold prS; rw [if_pos HC.out]; exact ((HX.out.1.drewN 1).call hb).setP _, Px.foot xa g (Or.inl rfl) w1 3 _⟩
        clear hf ho hb
        generalize S.P = P at *
        go_wp2_with fail
        go_ret
        exact ⟨rfl, HD.out⟩
set_option maxRecDepth 100000 in
set_option maxHeartbeats 2000000 in
theorem give_x (h : Px B w xa g S) (ok : POk S) (f : Int) (b : Bool) : Calls Try.prog 34 #[.pointer (some ⟨xa, 0, none⟩), .int .i64 f, .bool b] w fun e w' => e = .returned (.tuple #[.bool (giV S f b), .int .i64 (giE S f)]) ∧ DidX B w xa g (giS S f b) w' := by
  have e2 := h.top.cell 2
  by_cases c1 : f < 0
  · have c : giE S f = 6 := by unfold giE; rw [if_pos (Or.inl c1)]
    have HD : Hid (DidX B w xa g (giS S f b) w) := by unfold giS; rw [c, if_neg (by decide)]; exact h.did (Below.refl _ _)
    rw [show giV S f b = false by unfold giV; rw [c]; simp, c]
    clear h ok c
    go_enter Try.func34, Try.ntmps34
    go_wp2_with fail
    go_ret2
    exact ⟨rfl, HD.out⟩
  · by_cases c2 : 1023 < f
    · have c : giE S f = 6 := by unfold giE; rw [if_pos (Or.inr (Or.inl c2))]
      have HD : Hid (DidX B w xa g (giS S f b) w) := by unfold giS; rw [c, if_neg (by decide)]; exact h.did (Below.refl _ _)
      rw [show giV S f b = false by unfold giV; rw [c]; simp, c]
      clear h ok c
      go_enter Try.func34, Try.ntmps34
      go_wp2_with fail
      go_ret2
      exact ⟨rfl, HD.out⟩
    · obtain ⟨ff, rfl⟩ : ∃ k : Nat, f = k := ⟨f.toNat, by omega⟩
      have hfl : ff < S.I.length := by have := ok.ln; omega
      have hx : S.I[ff]? = some S.I[ff] := List.getElem?_eq_getElem hfl
      obtain ⟨x, hxx⟩ : ∃ x, x = S.I[ff] := ⟨_, rfl⟩
      rw [← hxx] at hx
      obtain ⟨d0, y0⟩ := h.spot hx
      have f1 : (ff : Int) < 1024 := by omega
      have f0 : (0 : Int) ≤ ff := by omega
      have f0n : ¬ (ff : Int) < 0 := by omega
      by_cases c3 : x = 2
      · subst c3
        have c : giE S ff = 0 := by unfold giE; rw [if_neg]; rw [Int.toNat_natCast, hx]; simp; omega
        have e4 := h.top.cell 4
        have u0 := ok.u0
        have u1 : S.U ≤ 64 := by have := ok.u1; have := ok.m1; omega
        have pk := ok.p1k
        have p0 := ok.p0
        by_cases c4 : 0 < S.U ∧ b = false
        · obtain ⟨c5, rfl⟩ := c4
          have h1 := h.set_ ff 0
          have u4 := h1.top.cell 4
          have v4 := h1.top.frozen 4
          have HD : Hid (DidX B w xa g (giS S ff false) ((w.setCell ⟨g, ff, none⟩ (.int .i64 0)).setCell ⟨xa, 4, none⟩ (.int .i64 (S.U - 1)))) := ⟨by
            unfold giS
            rw [if_pos c, if_pos ⟨c5, rfl⟩, Int.toNat_natCast]; exact h1.setU (S.U - 1), (Px.foot xa g (Or.inr rfl) _ ff _).trans (Px.foot xa g (Or.inl rfl) _ 4 _) (fun _ e _ => e)⟩
          have hw : IntKind.i64.wrap (S.U - 1) = S.U - 1 := IntWalk.i64_in _ (by omega)
          rw [show giV S ff false = true by unfold giV; rw [c]; simpa using c5, c]
          dsimp only at u4
          clear h h1 ok c hxx hx
          generalize S.U = U at *
          go_enter Try.func34, Try.ntmps34
          go_wp2_with fail
          go_ret2
          exact ⟨rfl, HD.out⟩
        · have hV : giV S ff b = false := by unfold giV; rw [decide_eq_false_iff_not]; exact fun e => c4 e.2
          rw [hV, c]
          cases b
          · have c5 : ¬ 0 < S.U := fun e => c4 ⟨e, rfl⟩
            have HD : Hid (DidX B w xa g (giS S ff false) (w.setCell ⟨g, ff, none⟩ (.int .i64 1))) := ⟨by
              unfold giS
              rw [if_pos c, if_neg c4, Int.toNat_natCast]; exact h.set_ ff 1, Px.foot xa g (Or.inr rfl) _ ff _⟩
            have c6 : decide (S.U > 0) = false := decide_eq_false c5
            clear h ok c hxx hx hV
            generalize S.U = U at *
            go_enter Try.func34, Try.ntmps34
            go_wp2_with fail
            go_ret2
            exact ⟨rfl, HD.out⟩
          · have h1 := h.set_ ff 1
            have u3 := h1.top.cell 3
            have v3 := h1.top.frozen 3
            have HD : Hid (DidX B w xa g (giS S ff true) ((w.setCell ⟨g, ff, none⟩ (.int .i64 1)).setCell ⟨xa, 3, none⟩ (.int .i64 (S.P + 1)))) := ⟨by
              unfold giS
              rw [if_pos c, if_neg c4, Int.toNat_natCast]; exact h1.setP (S.P + 1), (Px.foot xa g (Or.inr rfl) _ ff _).trans (Px.foot xa g (Or.inl rfl) _ 3 _) (fun _ e _ => e)⟩
            have hw : IntKind.i64.wrap (S.P + 1) = S.P + 1 := IntWalk.i64_in _ (by omega)
            dsimp only at u3
            clear h h1 ok c hxx hx hV pk
            generalize S.P = P at *
            generalize S.U = U at *
            by_cases c5 : 0 < U
            · have c6 : decide (U > 0) = true := decide_eq_true c5
              go_enter Try.func34, Try.ntmps34
              go_wp2_with fail
              go_ret2
              exact ⟨rfl, HD.out⟩
            · have c6 : decide (U > 0) = false := decide_eq_false c5
              go_enter Try.func34, Try.ntmps34
              go_wp2_with fail
              go_ret2
              exact ⟨rfl, HD.out⟩
      · have c : giE S ff = 6 := by unfold giE; rw [if_pos]; right; right; rw [Int.toNat_natCast, hx]; simpa using c3
        have HD : Hid (DidX B w xa g (giS S ff b) w) := by unfold giS; rw [c, if_neg (by decide)]; exact h.did (Below.refl _ _)
        rw [show giV S ff b = false by unfold giV; rw [c]; simp, c]
        have b3 : (x == 2) = false := by simpa using c3
        clear h ok c hxx hx c3
        go_enter Try.func34, Try.ntmps34
        go_wp2_with fail
        go_ret2
        exact ⟨rfl, HD.out⟩
end
end Go.Proofs.Ytllepijlebbjbaa
