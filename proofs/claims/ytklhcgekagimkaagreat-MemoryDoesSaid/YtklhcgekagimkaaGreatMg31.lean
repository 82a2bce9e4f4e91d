/- Package frames: Turn, every way. -/
import Derived.Test.YtklhcgekagimkaaGreatMg30
namespace Go.Proofs.YtklhcgekagimkaaGreat
open Go.RowKit
section
variable {w w' : World} {B s g : Nat} {I : List Int} {f n a b : Int}
set_option maxHeartbeats 4000000 in
set_option maxRecDepth 100000 in
/-- An error: nothing has turned. -/
theorem turn_no (h : Fx B w s g I) (ok : OkF I) (hz : tuE I f n a b ≠ 0) :
    Calls Tryz.prog 64 #[.pointer (some ⟨s, 0, none⟩), .int .i64 f, .int .i64 n, .int .i64 a, .int .i64 b] w fun e w' => e = .returned (.int .i64 (tuE I f n a b)) ∧ w = w' := by
  have l1 := ok.l1
  have s1 := state_f a w
  have s2 := state_f b w
  have s3 := isFrame_f h f
  have s4 := len_f h
  obtain ⟨E, hE⟩ : ∃ E, E = tuE I f n a b := ⟨_, rfl⟩
  rw [← hE] at hz ⊢
  unfold tuE at hE
  by_cases c1 : n < 1
  · rw [if_pos (Or.inl c1)] at hE
    subst hE
    clear h ok l1 s1 s2 s3 s4 hz
    go_enter Tryz.func64, Tryz.ntmps64
    go_wp2_with fail
    go_ret
    exact ⟨rfl, rfl⟩
  · cases ca : isF a
    · rw [if_pos (Or.inr (Or.inl ca))] at hE
      subst hE
      rw [ca] at s1
      clear h ok l1 s2 s3 s4 hz
      go_enter Tryz.func64, Tryz.ntmps64
      go_wp2_with (go_at_call 72; (with_reducible refine s1.mono ?_); rintro e w1 ⟨rfl, rfl⟩)
      go_ret
      exact ⟨rfl, rfl⟩
    · cases cb : isF b
      · rw [if_pos (Or.inr (Or.inr cb))] at hE
        subst hE
        rw [ca] at s1
        rw [cb] at s2
        clear h ok l1 s3 s4 hz
        go_enter Tryz.func64, Tryz.ntmps64
        go_wp2_with (go_at_call 72; first | (with_reducible refine s1.mono ?_; rintro e w1 ⟨rfl, rfl⟩) | (with_reducible refine s2.mono ?_; rintro e w1 ⟨rfl, rfl⟩))
        go_ret
        exact ⟨rfl, rfl⟩
      · rw [if_neg (by rintro (e | e | e); exact c1 e; rw [ca] at e; cases e; rw [cb] at e; cases e)] at hE
        have s5 := may_f ca cb w
        rw [ca] at s1
        rw [cb] at s2
        obtain ⟨l, hll⟩ : ∃ l, l = I.length := ⟨_, rfl⟩
        rw [← hll] at s4 l1 hE
        cases cf : frB I f
        · have c2 := of_decide_eq_false cf
          rw [if_pos (by omega)] at hE
          subst hE
          rw [cf] at s3
          clear h ok s4 s5 hz hll c2 cf ca cb l1
          go_enter Tryz.func64, Tryz.ntmps64
          go_wp2_with (first
            | (go_at_call 72; first | (with_reducible refine s1.mono ?_; rintro e w1 ⟨rfl, rfl⟩) | (with_reducible refine s2.mono ?_; rintro e w1 ⟨rfl, rfl⟩))
            | (go_at_call 70; (with_reducible refine s3.mono ?_); rintro e w1 ⟨rfl, rfl⟩))
          go_ret
          exact ⟨rfl, rfl⟩
        · have c2 := of_decide_eq_true cf
          rw [cf] at s3
          obtain ⟨k, rfl⟩ : ∃ k : Nat, f = k := ⟨f.toNat, by omega⟩
          have hw : IntKind.i64.wrap ((l : Int) - (k : Int)) = (l : Int) - (k : Int) := IntWalk.i64_in _ (by omega)
          by_cases c3 : (l : Int) - (k : Int) < n
          · rw [if_pos (Or.inr (Or.inr c3))] at hE
            subst hE
            clear h ok s5 hz hll c2 cf ca cb l1
            go_enter Tryz.func64, Tryz.ntmps64
            go_wp2_with (first
              | (go_at_call 72; first | (with_reducible refine s1.mono ?_; rintro e w1 ⟨rfl, rfl⟩) | (with_reducible refine s2.mono ?_; rintro e w1 ⟨rfl, rfl⟩))
              | (go_at_call 70; (with_reducible refine s3.mono ?_); rintro e w1 ⟨rfl, rfl⟩)
              | (go_at_call 61; (with_reducible refine s4.mono ?_); rintro e w1 ⟨rfl, rfl⟩))
            go_ret
            exact ⟨rfl, rfl⟩
          · rw [if_neg (by omega)] at hE
            obtain ⟨m, rfl⟩ : ∃ m : Nat, n = m := ⟨n.toNat, by omega⟩
            cases cm : mayF a b
            · rw [if_pos cm] at hE
              subst hE
              rw [cm] at s5
              clear h ok hz hll c2 cf ca cb l1
              go_enter Tryz.func64, Tryz.ntmps64
              go_wp2_with (first
                | (go_at_call 72; first | (with_reducible refine s1.mono ?_; rintro e w1 ⟨rfl, rfl⟩) | (with_reducible refine s2.mono ?_; rintro e w1 ⟨rfl, rfl⟩))
                | (go_at_call 70; (with_reducible refine s3.mono ?_); rintro e w1 ⟨rfl, rfl⟩)
                | (go_at_call 61; (with_reducible refine s4.mono ?_); rintro e w1 ⟨rfl, rfl⟩)
                | (go_at_call 86; (with_reducible refine s5.mono ?_); rintro e w1 ⟨rfl, rfl⟩))
              go_ret
              exact ⟨rfl, rfl⟩
            · rw [if_neg (by rw [cm]; decide), Int.toNat_natCast, Int.toNat_natCast] at hE
              rw [cm] at s5
              have s6 := are_f h ok.l1 (f := k) (n := m) (by omega) a
              cases cr : areF I k m a
              · rw [if_pos cr] at hE
                subst hE
                rw [cr] at s6
                clear h ok hz hll c2 cf ca cb l1
                go_enter Tryz.func64, Tryz.ntmps64
                go_wp2_with (first
                  | (go_at_call 72; first | (with_reducible refine s1.mono ?_; rintro e w1 ⟨rfl, rfl⟩) | (with_reducible refine s2.mono ?_; rintro e w1 ⟨rfl, rfl⟩))
                  | (go_at_call 70; (with_reducible refine s3.mono ?_); rintro e w1 ⟨rfl, rfl⟩)
                  | (go_at_call 61; (with_reducible refine s4.mono ?_); rintro e w1 ⟨rfl, rfl⟩)
                  | (go_at_call 86; (with_reducible refine s5.mono ?_); rintro e w1 ⟨rfl, rfl⟩)
                  | (go_at_call 87; (with_reducible refine s6.mono ?_); rintro e w1 ⟨rfl, rfl⟩))
                go_ret
                exact ⟨rfl, rfl⟩
              · rw [if_neg (by rw [cr]; decide)] at hE
                exact absurd hE hz
theorem turn_f (h : Fx B w s g I) (ok : OkF I) (f n a b : Int) :
    Calls Tryz.prog 64 #[.pointer (some ⟨s, 0, none⟩), .int .i64 f, .int .i64 n, .int .i64 a, .int .i64 b] w fun e w' => e = .returned (.int .i64 (tuE I f n a b)) ∧ Turned B w s g I (tuL I f n a b) w' := by
  by_cases c : tuE I f n a b = 0
  · unfold tuL
    rw [c, if_pos rfl]
    obtain ⟨f', n', rfl, rfl, c1, c2, c3, c4, c5, c6, c7⟩ := tuE_ok c
    obtain ⟨a', rfl⟩ : ∃ k : Nat, a = k := ⟨a.toNat, by have := isF_iff.1 c3; omega⟩
    obtain ⟨b', rfl⟩ : ∃ k : Nat, b = k := ⟨b.toNat, by have := isF_iff.1 c4; omega⟩
    rw [Int.toNat_natCast, Int.toNat_natCast]
    exact turn_ok h ok c1 c2 c3 c4 c5 c6 (by omega)
  · refine (turn_no h ok c).mono ?_
    rintro e w' ⟨rfl, rfl⟩
    unfold tuL
    rw [if_neg c]
    exact ⟨rfl, Turned.same h⟩
theorem turn_nil (f n a b : Int) (w : World) :
    Calls Tryz.prog 64 #[.pointer none, .int .i64 f, .int .i64 n, .int .i64 a, .int .i64 b] w fun e w' => e = .returned (.int .i64 1) ∧ w = w' := by
  go_enter Tryz.func64, Tryz.ntmps64
  go_wp2_with fail
  go_ret
  exact ⟨rfl, rfl⟩
end
end Go.Proofs.YtklhcgekagimkaaGreat
/- The reference of frames: New, Count, Next. -/
namespace Go.Proofs.YtklhcgekagimkaaGreat
open Go.RowKit
section
variable {n : Int}
end
section
variable {w w' : World} {B x : Nat} {v : Value} {I : List Int} {y f r : Int}
set_option maxRecDepth 100000 in
set_option maxHeartbeats 2000000 in
theorem rcount (h : Rx B w x v I) (l1 : I.length ≤ 1024) (y : Int) : Calls Tryz.prog 17 #[.pointer (some ⟨x, 0, none⟩), .int .i64 y] w fun e w' => e = .returned (.int .i64 (I.count y : Nat)) ∧ w = w' := by
  obtain ⟨A, c, hv⟩ := h.2.1.form
  subst hv
  obtain ⟨n, hn⟩ : ∃ n, n = I.length := ⟨_, rfl⟩
  have HX := Lib.hid (And.intro h hn)
  have c0 : w.cell? ⟨x, 0, none⟩ = some (.slice A n c) := by rw [hn]; exact HX.out.1.1.cell 0
  rw [← hn] at l1
  clear h hn
  go_enter Tryz.func17, Tryz.ntmps17
  go_wp2_with fail
  go_loopw [5, 6] (fun r k wr => ∃ j : Nat, j ≤ n ∧ k = .int .i64 j ∧ r = .int .i64 (cnF I y j) ∧ w = wr) (fun _ k _ => n - (RowKit.intOf k).toNat)
  case atStart => exact ⟨0, Nat.zero_le _, rfl, by simp [cnF], rfl⟩
  case round =>
    obtain ⟨j, hj, rfl, rfl, rfl⟩ := hrel
    by_cases hlt : j < n
    · have hjl : j < I.length := by rw [← HX.out.2]; exact hlt
      obtain ⟨g, rest, rfl, hr, -⟩ := EI_row HX.out.1.2.1 (by omega)
      have d0 : w.cell? ⟨g, j, none⟩ = some (.int .i64 I[j]) := by
        rw [hr.cell, List.getElem?_append_left (by rw [List.length_map]; exact hjl), List.getElem?_map, List.getElem?_eq_getElem hjl]; rfl
      have HSU := Lib.hid (cnF_succ I y j)
      have hle := cnF_le I y j
      rw [List.getElem?_eq_getElem hjl] at HSU
      generalize I[j] = z at d0 HSU
      obtain ⟨m, hm⟩ : ∃ m, m = cnF I y j := ⟨_, rfl⟩
      rw [← hm] at HSU hle ⊢
      have j1 : (j : Int) < n := by omega
      have j0 : (0 : Int) ≤ j := by omega
      have hw : IntKind.i64.wrap ((m : Int) + 1) = (m : Int) + 1 := IntWalk.i64_in _ (by omega)
      have hw2 : IntKind.i64.wrap ((j : Int) + 1) = (j : Int) + 1 := IntWalk.i64_in _ (by omega)
      clear hjl hm hr
      by_cases hc : z = y
      · have HF : Hid (cnF I y (j + 1) = m + 1) := by show _ = _; rw [HSU.out, if_pos (by rw [hc])]
        have hc1 : (z == y) = true := by simpa using hc
        clear hc
        go_wp2_with fail
        go_roundw
        case rel => exact ⟨j + 1, by omega, by go_num, by rw [HF.out]; rfl, trivial⟩
        case measure => simp [RowKit.intOf]; omega
      · have HF : Hid (cnF I y (j + 1) = m) := by show _ = _; rw [HSU.out, if_neg (by simpa using hc)]
        have hc1 : (z == y) = false := by simpa using hc
        clear hc
        go_wp2_with fail
        go_roundw
        case rel => exact ⟨j + 1, by omega, by go_num, by rw [HF.out], trivial⟩
        case measure => simp [RowKit.intOf]; omega
    · have hjn : j = n := by omega
      subst hjn
      have HE : Hid (cnF I y j = I.count y) := by show _ = _; rw [HX.out.2]; exact cnF_all I y
      go_wp2_with fail
      go_ret
      exact ⟨ret_int (by rw [HE.out]), rfl⟩
end
end Go.Proofs.YtklhcgekagimkaaGreat
