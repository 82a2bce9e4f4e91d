/- The reference's right, All, Cuts, Covers, copied, become. -/
import Derived.Test.YtodepfgfgphkbaaV3
import Derived.Test.YtodepfgfgphkbaaGa
namespace Go.Proofs.Ytodepfgfgphkbaa
open Go.RowKit
/-- A number that fits. -/
def Fits (n : Int) : Prop := -9223372036854775808 ≤ n ∧ n ≤ 9223372036854775807
theorem right_is {a n : Int} (ha : Fits a) (hn : Fits n) (w : World) : Calls Try.prog 54 #[.int .i64 a, .int .i64 n] w fun e w' => e = .returned (.int .i64 (rtI a n 0)) ∧ w = w' := by
  have h := fun w => refRight_any a n 0 ha.1 ha.2 hn.1 hn.2 w
  clear ha hn
  go_enter Try.func54, Try.ntmps54
  go_wp2_with (go_at_call 51; refine (h _).mono ?_; rintro e w1 ⟨rfl, rfl⟩)
  go_ret
  exact ⟨rfl, rfl⟩
section
variable {w w' : World} {B D xa xb : Nat} {v vb : Value} {P Q : Int → Pg}
theorem xall_is (h : Px B w xa v P) : Calls Try.prog 12 #[.pointer (some ⟨xa, 0, none⟩)] w (ToldA (allA P) w) := by
  have hp := pieces_is h (a := 0) (n := 4096) (by omega)
  change Calls _ _ #[.pointer (some ⟨xa, 0, none⟩), .int .i64 0, .int .i64 4096] w (ToldA (allA P) w) at hp
  clear h
  go_enter Try.func12, Try.ntmps12
  go_wp2_with (go_at_call 25; refine hp.mono ?_; rintro e w1 ⟨A1, c1, rfl, h1, h2⟩)
  go_ret
  exact ⟨A1, c1, rfl, h1, h2⟩
/-- What one page says. -/
theorem Px.how (h : Px B w xa v P) : ∃ g c, v = .slice (some ⟨g, 0, none⟩) 4096 c ∧ ∀ i : Nat, i < 4096 → w.cell? ⟨g, i * 4, none⟩ = some (.int .i64 (P i).h) := by
  obtain ⟨g, c, e, _, _, hat⟩ := h.form
  exact ⟨g, c, e, fun i hi => (pg_at (hat i hi)).1⟩
set_option maxRecDepth 100000 in
set_option maxHeartbeats 2000000 in
theorem cuts_is (h : Px B w xa v P) {a n : Nat} (h1 : 1 ≤ a) (hn : a + n ≤ 4096) (hn1 : 1 ≤ n) : Calls Try.prog 55 #[.pointer (some ⟨xa, 0, none⟩), .int .i64 a, .int .i64 n] w fun e w' => e = .returned (.bool (cutsB P a n)) ∧ w = w' := by
  obtain ⟨g, c, rfl, hat⟩ := h.how
  have c0 := h.c0
  have c1 := hat a (by omega)
  obtain ⟨s1, hs1⟩ : ∃ s1, s1 = szO (P a).h := ⟨_, rfl⟩
  have hz1 := szO_pos (P a).h
  rw [← hs1] at hz1
  obtain ⟨ha1, hha1⟩ : ∃ z, z = (P a).h := ⟨_, rfl⟩
  rw [← hha1] at c1 hs1
  have HS1 := Lib.hid hs1
  have a0 : (0 : Int) ≤ a := by omega
  have a4 : (a : Int) < 4096 := by omega
  have n0 : (0 : Int) ≤ n := by omega
  have n4 : (n : Int) ≤ 4096 := by omega
  have hs10 : ¬ s1 = 0 := by omega
  have hs1p : 0 < s1 := by omega
  have hsz := fun w => size_is ha1 w
  rw [← hs1] at hsz
  have HC : Hid (cutsB P a n = (decide ((a : Int) % s1 ≠ 0) || (decide ((a : Int) + n < 4096) && decide (((a : Int) + n) % szO (P ((a : Int) + n)).h ≠ 0)))) := by
    show _ = _
    unfold cutsB; rw [hs1, hha1]
  clear hs1 hha1
  by_cases hm : (a : Int) % s1 = 0
  · have hm1 : ((a : Int) % s1 == 0) = true := by simpa using hm
    by_cases hl : a + n < 4096
    · obtain ⟨b, hb⟩ : ∃ b, b = a + n := ⟨_, rfl⟩
      have c2 := hat b (by omega)
      obtain ⟨s2, hs2⟩ : ∃ s2, s2 = szO (P b).h := ⟨_, rfl⟩
      have hz2 := szO_pos (P b).h
      rw [← hs2] at hz2
      obtain ⟨ha2, hha2⟩ : ∃ z, z = (P b).h := ⟨_, rfl⟩
      rw [← hha2] at c2 hs2
      have hsz2 := fun w => size_is ha2 w
      rw [← hs2] at hsz2
      have hs20 : ¬ s2 = 0 := by omega
      have hs2p : 0 < s2 := by omega
      have hbe : (a : Int) + n = (b : Int) := by omega
      have b0 : (0 : Int) ≤ b := by omega
      have b4 : (b : Int) < 4096 := by omega
      have HC2 : Hid (cutsB P a n = !((b : Int) % s2 == 0)) := by
        show _ = _
        rw [HC.out, hbe, decide_eq_false (by simpa using hm), decide_eq_true b4, Bool.false_or, Bool.true_and, hs2, hha2, Bool.eq_iff_iff]
        simp
      clear HC hs2 hha2 hat h hb
      go_enter Try.func55, Try.ntmps55
      go_wp2_with (go_at_call 50; first | ((with_reducible refine (hsz _).mono ?_); rintro e w1 ⟨rfl, rfl⟩) | ((with_reducible refine (hsz2 _).mono ?_); rintro e w1 ⟨rfl, rfl⟩))
      go_ret
      exact ⟨ret_bool (by rw [HC2.out] <;> simp [bne]), rfl⟩
    · have hl' : ¬ (a : Int) + n < 4096 := by omega
      have hl2 : decide ((a : Int) + n < 4096) = false := by simp only [decide_eq_false_iff_not]; omega
      have hl3 : decide (a + n < 4096) = false := by simp only [decide_eq_false_iff_not]; omega
      have HC2 : Hid (cutsB P a n = false) := by
        show _ = _
        rw [HC.out, decide_eq_false (by simpa using hm), decide_eq_false hl']; rfl
      clear HC hat h
      go_enter Try.func55, Try.ntmps55
      go_wp2_with (go_at_call 50; (with_reducible refine (hsz _).mono ?_); rintro e w1 ⟨rfl, rfl⟩)
      go_ret
      exact ⟨ret_bool (by rw [HC2.out]), rfl⟩
  · have hm1 : ((a : Int) % s1 == 0) = false := by simpa using hm
    have HC2 : Hid (cutsB P a n = true) := by
      show _ = _
      rw [HC.out, decide_eq_true (by simpa using hm)]; rfl
    clear HC hat h
    go_enter Try.func55, Try.ntmps55
    go_wp2_with (go_at_call 50; refine (hsz _).mono ?_; rintro e w1 ⟨rfl, rfl⟩)
    go_ret
    exact ⟨ret_bool (by rw [HC2.out]), rfl⟩
set_option maxRecDepth 100000 in
set_option maxHeartbeats 2000000 in
theorem covers_is (h : Px B w xa v P) {a n : Nat} (hr : rtI a n 0 = 0) (hn : a + n ≤ 4096) : Calls Try.prog 56 #[.pointer (some ⟨xa, 0, none⟩), .int .i64 a, .int .i64 n] w fun e w' => e = .returned (.bool (covB P a n)) ∧ w = w' := by
  obtain ⟨g, c, rfl, hat⟩ := h.how
  have c0 := h.c0
  have hri := fun w => right_is (a := a) (n := n) ⟨by omega, by omega⟩ ⟨by omega, by omega⟩ w
  rw [hr] at hri
  have HAT := Lib.hid hat
  have n4 : (n : Int) ≤ 4096 := by omega
  have a4 : (a : Int) ≤ 4096 := by omega
  clear hat h hr
  go_enter Try.func56, Try.ntmps56
  go_wp2_with (go_at_call 54; refine (hri _).mono ?_; rintro e w1 ⟨rfl, rfl⟩)
  go_loop [7] (fun i => ∃ j : Nat, j ≤ n ∧ i = .int .i64 ((a + j : Nat) : Int) ∧ anyB j (fun k => decide ((P (a + k)).h = 0)) = false) (fun i => a + n - (RowKit.intOf i).toNat)
  case atStart => exact ⟨0, Nat.zero_le _, rfl, rfl⟩
  case round =>
    obtain ⟨j, hj, rfl, hany⟩ := hrel
    have HA := Lib.hid hany
    clear hany
    obtain ⟨q, hq⟩ : ∃ q : Nat, q = a + j := ⟨_, rfl⟩
    rw [← hq]
    by_cases hlt : j < n
    · have hc := HAT.out q (by omega)
      obtain ⟨hh, hhe⟩ : ∃ hh, hh = (P q).h := ⟨_, rfl⟩
      rw [← hhe] at hc
      have hqn : (q : Int) < (a : Int) + n := by omega
      have hq0 : (0 : Int) ≤ q := by omega
      have hq4 : (q : Int) < 4096 := by omega
      have HE : Hid ((P ((a : Int) + j)).h = hh) := by show _ = _; rw [hhe]; congr 2; omega
      have HQ := Lib.hid hq
      clear hq hhe
      by_cases h0 : hh = 0
      · subst h0
        have HF : Hid (covB P a n = false) := by
          show _ = _
          unfold covB
          rw [Bool.not_eq_false', anyB_true]
          exact ⟨j, hlt, decide_eq_true HE.out⟩
        go_wp2
        go_ret
        exact ⟨ret_bool HF.out.symm, rfl⟩
      · have h0' : (hh == 0) = false := by simpa using h0
        have HN : Hid (anyB (j + 1) (fun k => decide ((P (a + k)).h = 0)) = false) := by
          show _ = _
          rw [anyB_succ, HA.out, HE.out, decide_eq_false h0]; rfl
        go_wp2
        go_round
        case rel => exact ⟨j + 1, by omega, congrArg (Value.int .i64) (by have := HQ.out; omega), HN.out⟩
        case measure => simp [RowKit.intOf]; omega
    · obtain rfl : j = n := by omega
      have hqn : ¬ (q : Int) < (a : Int) + j := by omega
      have HF : Hid (covB P a j = true) := by
        show _ = _
        unfold covB
        rw [HA.out]; rfl
      go_wp2
      go_ret
      exact ⟨ret_bool HF.out.symm, rfl⟩
end
end Go.Proofs.Ytodepfgfgphkbaa
