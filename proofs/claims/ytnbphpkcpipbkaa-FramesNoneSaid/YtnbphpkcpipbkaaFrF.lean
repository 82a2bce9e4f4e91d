/- Package frames: Turn, every way. -/
import Derived.Test.YtnbphpkcpipbkaaFrE
namespace Go.Proofs.Ytnbphpkcpipbkaa
open Go.RowKit
section
variable {w w' : World} {B s g : Nat} {I : List Int} {f n a b : Int}
set_option maxHeartbeats 4000000 in
set_option maxRecDepth 100000 in
/-- An error: nothing has turned. -/
theorem turn_no (h : Fx B w s g I) (ok : OkF I) (hz : tuE I f n a b ≠ 0) :
    Calls Try.prog 17 #[.pointer (some ⟨s, 0, none⟩), .int .i64 f, .int .i64 n, .int .i64 a, .int .i64 b] w fun e w' => e = .returned (.int .i64 (tuE I f n a b)) ∧ w = w' := by
  have l1 := ok.l1
  have s1 := state_f a w
  have s2 := state_f b w
  have s3 := isFrame_f h f
  have s4 := len_f h
  obtain ⟨E, hE⟩ : ∃ E, E = tuE I f n a b := ⟨_, rfl⟩
  rw [← hE] at hz ⊢
  unfold tuE at hE
  by_cases c1 : n < 1
  · rw [if_pos (Or.inl c1)] at hE
    subst hE
    clear h ok l1 s1 s2 s3 s4 hz
    go_enter Try.func17, Try.ntmps17
    go_wp2_with fail
    go_ret
    exact ⟨rfl, rfl⟩
  · cases ca : isF a
    · rw [if_pos (Or.inr (Or.inl ca))] at hE
      subst hE
      rw [ca] at s1
      clear h ok l1 s2 s3 s4 hz
      go_enter Try.func17, Try.ntmps17
      go_wp2_with (go_at_call 22; (with_reducible refine s1.mono ?_); rintro e w1 ⟨rfl, rfl⟩)
      go_ret
      exact ⟨rfl, rfl⟩
    · cases cb : isF b
      · rw [if_pos (Or.inr (Or.inr cb))] at hE
        subst hE
        rw [ca] at s1
        rw [cb] at s2
        clear h ok l1 s3 s4 hz
        go_enter Try.func17, Try.ntmps17
        go_wp2_with (go_at_call 22; first | (with_reducible refine s1.mono ?_; rintro e w1 ⟨rfl, rfl⟩) | (with_reducible refine s2.mono ?_; rintro e w1 ⟨rfl, rfl⟩))
        go_ret
        exact ⟨rfl, rfl⟩
      · rw [if_neg (by rintro (e | e | e); exact c1 e; rw [ca] at e; cases e; rw [cb] at e; cases e)] at hE
        have s5 := may_f ca cb w
        rw [ca] at s1
        rw [cb] at s2
        obtain ⟨l, hll⟩ : ∃ l, l = I.length := ⟨_, rfl⟩
        rw [← hll] at s4 l1 hE
        cases cf : frB I f
        · have c2 := of_decide_eq_false cf
          rw [if_pos (by omega)] at hE
          subst hE
          rw [cf] at s3
          clear h ok s4 s5 hz hll c2 cf ca cb l1
          go_enter Try.func17, Try.ntmps17
          go_wp2_with (first
            | (go_at_call 22; first | (with_reducible refine s1.mono ?_; rintro e w1 ⟨rfl, rfl⟩) | (with_reducible refine s2.mono ?_; rintro e w1 ⟨rfl, rfl⟩))
            | (go_at_call 21; (with_reducible refine s3.mono ?_); rintro e w1 ⟨rfl, rfl⟩))
          go_ret
          exact ⟨rfl, rfl⟩
        · have c2 := of_decide_eq_true cf
          rw [cf] at s3
          obtain ⟨k, rfl⟩ : ∃ k : Nat, f = k := ⟨f.toNat, by omega⟩
          have hw : IntKind.i64.wrap ((l : Int) - (k : Int)) = (l : Int) - (k : Int) := IntWalk.i64_in _ (by omega)
          by_cases c3 : (l : Int) - (k : Int) < n
          · rw [if_pos (Or.inr (Or.inr c3))] at hE
            subst hE
            clear h ok s5 hz hll c2 cf ca cb l1
            go_enter Try.func17, Try.ntmps17
            go_wp2_with (first
              | (go_at_call 22; first | (with_reducible refine s1.mono ?_; rintro e w1 ⟨rfl, rfl⟩) | (with_reducible refine s2.mono ?_; rintro e w1 ⟨rfl, rfl⟩))
              | (go_at_call 21; (with_reducible refine s3.mono ?_); rintro e w1 ⟨rfl, rfl⟩)
              | (go_at_call 16; (with_reducible refine s4.mono ?_); rintro e w1 ⟨rfl, rfl⟩))
            go_ret
            exact ⟨rfl, rfl⟩
          · rw [if_neg (by omega)] at hE
            obtain ⟨m, rfl⟩ : ∃ m : Nat, n = m := ⟨n.toNat, by omega⟩
            cases cm : mayF a b
            · rw [if_pos cm] at hE
              subst hE
              rw [cm] at s5
              clear h ok hz hll c2 cf ca cb l1
              go_enter Try.func17, Try.ntmps17
              go_wp2_with (first
                | (go_at_call 22; first | (with_reducible refine s1.mono ?_; rintro e w1 ⟨rfl, rfl⟩) | (with_reducible refine s2.mono ?_; rintro e w1 ⟨rfl, rfl⟩))
                | (go_at_call 21; (with_reducible refine s3.mono ?_); rintro e w1 ⟨rfl, rfl⟩)
                | (go_at_call 16; (with_reducible refine s4.mono ?_); rintro e w1 ⟨rfl, rfl⟩)
                | (go_at_call 23; (with_reducible refine s5.mono ?_); rintro e w1 ⟨rfl, rfl⟩))
              go_ret
              exact ⟨rfl, rfl⟩
            · rw [if_neg (by rw [cm]; decide), Int.toNat_natCast, Int.toNat_natCast] at hE
              rw [cm] at s5
              have s6 := are_f h ok.l1 (f := k) (n := m) (by omega) a
              cases cr : areF I k m a
              · rw [if_pos cr] at hE
                subst hE
                rw [cr] at s6
                clear h ok hz hll c2 cf ca cb l1
                go_enter Try.func17, Try.ntmps17
                go_wp2_with (first
                  | (go_at_call 22; first | (with_reducible refine s1.mono ?_; rintro e w1 ⟨rfl, rfl⟩) | (with_reducible refine s2.mono ?_; rintro e w1 ⟨rfl, rfl⟩))
                  | (go_at_call 21; (with_reducible refine s3.mono ?_); rintro e w1 ⟨rfl, rfl⟩)
                  | (go_at_call 16; (with_reducible refine s4.mono ?_); rintro e w1 ⟨rfl, rfl⟩)
                  | (go_at_call 23; (with_reducible refine s5.mono ?_); rintro e w1 ⟨rfl, rfl⟩)
                  | (go_at_call 24; (with_reducible refine s6.mono ?_); rintro e w1 ⟨rfl, rfl⟩))
                go_ret
                exact ⟨rfl, rfl⟩
              · rw [if_neg (by rw [cr]; decide)] at hE
                exact absurd hE hz
theorem turn_f (h : Fx B w s g I) (ok : OkF I) (f n a b : Int) :
    Calls Try.prog 17 #[.pointer (some ⟨s, 0, none⟩), .int .i64 f, .int .i64 n, .int .i64 a, .int .i64 b] w fun e w' => e = .returned (.int .i64 (tuE I f n a b)) ∧ Turned B w s g I (tuL I f n a b) w' := by
  by_cases c : tuE I f n a b = 0
  · unfold tuL
    rw [c, if_pos rfl]
    obtain ⟨f', n', rfl, rfl, c1, c2, c3, c4, c5, c6, c7⟩ := tuE_ok c
    obtain ⟨a', rfl⟩ : ∃ k : Nat, a = k := ⟨a.toNat, by have := isF_iff.1 c3; omega⟩
    obtain ⟨b', rfl⟩ : ∃ k : Nat, b = k := ⟨b.toNat, by have := isF_iff.1 c4; omega⟩
    rw [Int.toNat_natCast, Int.toNat_natCast]
    exact turn_ok h ok c1 c2 c3 c4 c5 c6 (by omega)
  · refine (turn_no h ok c).mono ?_
    rintro e w' ⟨rfl, rfl⟩
    unfold tuL
    rw [if_neg c]
    exact ⟨rfl, Turned.same h⟩
theorem turn_nil (f n a b : Int) (w : World) :
    Calls Try.prog 17 #[.pointer none, .int .i64 f, .int .i64 n, .int .i64 a, .int .i64 b] w fun e w' => e = .returned (.int .i64 1) ∧ w = w' := by
  go_enter Try.func17, Try.ntmps17
  go_wp2_with fail
  go_ret
  exact ⟨rfl, rfl⟩
end
end Go.Proofs.Ytnbphpkcpipbkaa
