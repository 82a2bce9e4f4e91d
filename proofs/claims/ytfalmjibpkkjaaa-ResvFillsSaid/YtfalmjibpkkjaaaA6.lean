/- The reference of reservations: Make. -/
import Derived.Test.YtfalmjibpkkjaaaA5
namespace Go.Proofs.Ytfalmjibpkkjaaa
open Go.RowKit
section
variable {w w' : World} {B xa : Nat} {v : Value} {K : List Rw} {S S' : Rs} {n : Nat} {s p f : Int}
theorem ofI_yes (hl : ixF S.L f < S.L.length) : ofI S.L f = (ixF S.L f : Nat) ∧ (atF S.L f).isSome = true := ⟨if_pos hl, by
  have := ix_yes (q := hitF f) (L := S.L) hl
  unfold atF; rw [this]; rfl⟩
theorem ofI_no (hl : ¬ ixF S.L f < S.L.length) : ofI S.L f = -1 ∧ atF S.L f = none := ⟨if_neg hl, ix_no hl⟩
set_option maxRecDepth 100000 in
set_option maxHeartbeats 2000000 in
theorem make_range (h : Rx B w xa v K S) (c : rgR s p f = true) : Calls Try.prog 41 #[.pointer (some ⟨xa, 0, none⟩), .int .i64 s, .int .i64 p, .int .i64 f] w fun e w' => e = .returned (.int .i64 (mkE S s p f)) ∧ DidR B w xa v K (mkS S s p f) w' := by
  have e3 : mkE S s p f = 3 := if_pos c
  rw [mkS_no (by rw [e3]; decide), e3]
  have HD := Lib.hid (h.did (Below.refl w.heap.size w))
  unfold rgR at c
  simp only [decide_eq_true_eq] at c
  clear h e3
  rcases (show s < 0 ∨ (¬ s < 0 ∧ p < 0) ∨ (¬ s < 0 ∧ ¬ p < 0 ∧ 4095 < p) ∨ (¬ s < 0 ∧ ¬ p < 0 ∧ ¬ 4095 < p ∧ f < 0) ∨ (¬ s < 0 ∧ ¬ p < 0 ∧ ¬ 4095 < p ∧ ¬ f < 0 ∧ 1016 < f) by omega) with c1 | ⟨c1, c2⟩ | ⟨c1, c2, c3⟩ | ⟨c1, c2, c3, c4⟩ | ⟨c1, c2, c3, c4, c5⟩
  all_goals
    clear c
    go_enter Try.func41, Try.ntmps41
    go_wp2
    go_ret
    exact ⟨rfl, HD.out⟩
set_option maxRecDepth 100000 in
set_option maxHeartbeats 2000000 in
theorem make_align (h : Rx B w xa v K S) (c0 : ¬ rgR s p f = true) (c : alR p f = true) : Calls Try.prog 41 #[.pointer (some ⟨xa, 0, none⟩), .int .i64 s, .int .i64 p, .int .i64 f] w fun e w' => e = .returned (.int .i64 (mkE S s p f)) ∧ DidR B w xa v K (mkS S s p f) w' := by
  have e3 : mkE S s p f = 4 := by unfold mkE; rw [if_neg c0, if_pos c]
  rw [mkS_no (by rw [e3]; decide), e3]
  have HD := Lib.hid (h.did (Below.refl w.heap.size w))
  unfold rgR at c0
  unfold alR at c
  simp only [decide_eq_true_eq] at c c0
  clear h e3
  obtain ⟨pp, rfl⟩ : ∃ k : Nat, p = k := ⟨p.toNat, by omega⟩
  obtain ⟨ff, rfl⟩ : ∃ k : Nat, f = k := ⟨f.toNat, by omega⟩
  have c1 : ¬ s < 0 := by omega
  have c2 : ¬ (pp : Int) < 0 := by omega
  have c3 : ¬ (4095 : Int) < pp := by omega
  have c4 : ¬ (ff : Int) < 0 := by omega
  have c5 : ¬ (1016 : Int) < ff := by omega
  by_cases d : (pp : Int) % 8 = 0
  · have d2 : ¬ (ff : Int) % 8 = 0 := by omega
    have e1 : (((pp : Int) % 8) == 0) = true := by simpa using d
    have e2 : (((ff : Int) % 8) == 0) = false := by simpa using d2
    clear c c0
    go_enter Try.func41, Try.ntmps41
    go_wp2
    go_ret
    exact ⟨rfl, HD.out⟩
  · have e1 : (((pp : Int) % 8) == 0) = false := by simpa using d
    clear c c0
    go_enter Try.func41, Try.ntmps41
    go_wp2
    go_ret
    exact ⟨rfl, HD.out⟩
set_option maxRecDepth 100000 in
set_option maxHeartbeats 2000000 in
theorem make_there (h : Rx B w xa v K S) (hb : Bnd n S) (hn : n ≤ 900) (c0 : ¬ rgR s p f = true) (c : ¬ alR p f = true) (hx : (atP S.L s p).isSome = true ∨ (atF S.L f).isSome = true) : Calls Try.prog 41 #[.pointer (some ⟨xa, 0, none⟩), .int .i64 s, .int .i64 p, .int .i64 f] w fun e w' => e = .returned (.int .i64 (mkE S s p f)) ∧ DidR B w xa v K (mkS S s p f) w' := by
  have e3 : mkE S s p f = 7 := by unfold mkE; rw [if_neg c0, if_neg c, if_pos hx]
  rw [mkS_no (by rw [e3]; decide), e3]
  have HD := Lib.hid (h.did (Below.refl w.heap.size w))
  have ha := at_x h hb (by omega) s p
  have ho := of_x h hb (by omega) f
  unfold rgR at c0
  unfold alR at c
  simp only [decide_eq_true_eq] at c c0
  clear e3
  obtain ⟨pp, rfl⟩ : ∃ k : Nat, p = k := ⟨p.toNat, by omega⟩
  obtain ⟨ff, rfl⟩ : ∃ k : Nat, f = k := ⟨f.toNat, by omega⟩
  have c1 : ¬ s < 0 := by omega
  have c2 : ¬ (pp : Int) < 0 := by omega
  have c3 : ¬ (4095 : Int) < pp := by omega
  have c4 : ¬ (ff : Int) < 0 := by omega
  have c5 : ¬ (1016 : Int) < ff := by omega
  have d1 : (pp : Int) % 8 = 0 := by omega
  have d2 : (ff : Int) % 8 = 0 := by omega
  by_cases hl : ixP S.L s pp < S.L.length
  · rw [atI_yes hl] at ha
    obtain ⟨i, hi⟩ : ∃ i, i = ixP S.L s pp := ⟨_, rfl⟩
    rw [← hi] at ha
    have i0 : (0 : Int) ≤ i := by omega
    clear h hb hn c c0 hx ho hl hi
    go_enter Try.func41, Try.ntmps41
    go_wp2_with (go_at_call 24; (with_reducible refine ha.mono ?_); rintro e w1 ⟨rfl, rfl⟩)
    go_ret
    exact ⟨rfl, HD.out⟩
  · obtain ⟨e1, e2⟩ := atI_no hl
    rw [e1] at ha
    have hl2 : ixF S.L ff < S.L.length := by
      rcases Nat.lt_or_ge (ixF S.L ff) S.L.length with k | k
      · exact k
      · exfalso
        have := (ofI_no (S := S) (f := ff) (by omega)).2
        rw [e2, this] at hx
        rcases hx with hx | hx <;> cases hx
    rw [(ofI_yes hl2).1] at ho
    obtain ⟨i, hi⟩ : ∃ i, i = ixF S.L ff := ⟨_, rfl⟩
    rw [← hi] at ho
    have i0 : (0 : Int) ≤ i := by omega
    clear h hb hn c c0 hx hl hl2 e1 e2 hi
    go_enter Try.func41, Try.ntmps41
    go_wp2_with (first | (go_at_call 24; (with_reducible refine ha.mono ?_); rintro e w1 ⟨rfl, rfl⟩) | (go_at_call 50; (with_reducible refine ho.mono ?_); rintro e w1 ⟨rfl, rfl⟩))
    go_ret
    exact ⟨rfl, HD.out⟩
end
end Go.Proofs.Ytfalmjibpkkjaaa
