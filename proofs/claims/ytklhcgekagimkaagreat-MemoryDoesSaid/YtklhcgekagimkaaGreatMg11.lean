/- The contracts of check, Has, TakeAt and Give. -/
import Derived.Test.YtklhcgekagimkaaGreatMg10
namespace Go.Proofs.YtklhcgekagimkaaGreat
variable {Xc : Nat → Prop}
open Go.RowKit

/-- What is wrong with a block, free or not. -/
def ckE (n : Nat) (f o : Int) : Int := if orB o = false then 2 else if f % 2 ^ o.toNat = 0 then (if f < 0 ∨ (n : Int) < f + 2 ^ o.toNat then 3 else 0) else 2
theorem chE_bad {F : List Bool} {f o : Int} (v : Bool) (h : ckE F.length f o ≠ 0) : chE F f o v = ckE F.length f o ∧ chL F f o v = F := by
  have e : chE F f o v = ckE F.length f o := by
    unfold ckE at h ⊢
    unfold chE
    by_cases h1 : orB o = false
    · rw [if_pos h1, if_pos h1]
    · rw [if_neg h1] at h
      rw [if_neg h1, if_neg h1]
      by_cases h2 : f % 2 ^ o.toNat = 0
      · rw [if_pos h2] at h
        rw [if_pos h2, if_pos h2]
        by_cases h3 : f < 0 ∨ (F.length : Int) < f + 2 ^ o.toNat
        · rw [if_pos h3, if_pos h3]
        · rw [if_neg h3] at h; exact absurd rfl h
      · rw [if_neg h2, if_neg h2]
  exact ⟨e, by unfold chL; rw [e, if_neg h]⟩
theorem ckE_ok {n : Nat} {f o : Int} (h : ckE n f o = 0) : ∃ x k : Nat, f = x ∧ o = k ∧ k ≤ 8 ∧ x % 2 ^ k = 0 ∧ x + 2 ^ k ≤ n := by
  unfold ckE at h
  by_cases h1 : orB o = false
  · rw [if_pos h1] at h; omega
  · rw [if_neg h1] at h
    have h1' : 0 ≤ o ∧ o ≤ 8 := by simpa [orB] using h1
    by_cases h2 : f % 2 ^ o.toNat = 0
    · rw [if_pos h2] at h
      by_cases h3 : f < 0 ∨ (n : Int) < f + 2 ^ o.toNat
      · rw [if_pos h3] at h; omega
      · obtain ⟨k, rfl⟩ : ∃ k : Nat, o = k := ⟨o.toNat, by omega⟩
        obtain ⟨a, rfl⟩ : ∃ a : Nat, f = a := ⟨f.toNat, by omega⟩
        simp only [Int.toNat_natCast] at h2 h3
        refine ⟨a, k, rfl, rfl, by omega, ?_, ?_⟩
        · have e : ((a : Int) % 2 ^ k) = ((a % 2 ^ k : Nat) : Int) := by simp
          rw [e] at h2; omega
        · have e : ((2 : Int) ^ k) = ((2 ^ k : Nat) : Int) := by simp
          rw [e] at h3; omega
    · rw [if_neg h2] at h; omega
theorem chE_good {F : List Bool} {x k : Nat} (v : Bool) (h : ckE F.length x k = 0) : chE F x k v = (if allB F x (2 ^ k) (!v) = true then 0 else 12) := by
  unfold ckE at h
  unfold chE
  by_cases h1 : orB (k : Int) = false
  · rw [if_pos h1] at h; omega
  · rw [if_neg h1] at h ⊢
    by_cases h2 : (x : Int) % 2 ^ (k : Int).toNat = 0
    · rw [if_pos h2] at h ⊢
      by_cases h3 : (x : Int) < 0 ∨ (F.length : Int) < x + 2 ^ (k : Int).toNat
      · rw [if_pos h3] at h; omega
      · rw [if_neg h3]; rfl
    · rw [if_neg h2] at h; omega
section
variable {w : World} {B a n : Nat} {L : Nat → List Nat}
theorem check_nil (f o : Int) (w : World) : Calls Tryz.prog 107 #[.pointer none, .int .i64 f, .int .i64 o] w fun e w' => e = .returned (.int .i64 1) ∧ ∃ q, w' = w.drewN q := by
  go_enter Tryz.func107, Tryz.ntmps107
  go_wp2
  go_ret
  exact ⟨rfl, 0, rfl⟩
theorem check_any (h : BudAt Xc B w a n L) (hn : n ≤ 1024) (f o : Int) (hl : -9223372036854775808 ≤ f) (hh : f ≤ 9223372036854775807) :
    Calls Tryz.prog 107 #[.pointer (some ⟨a, 0, none⟩), .int .i64 f, .int .i64 o] w fun e w' => e = .returned (.int .i64 (ckE n f o)) ∧ ∃ q, w' = w.drewN q := by
  have hc : w.cell? ⟨a, 0, none⟩ = some (.int .i64 n) := by obtain ⟨p, c, h⟩ := h; exact h.size
  clear h
  rcases Bool.eq_false_or_eq_true (orB o) with ho | ho
  · have hO := isOrder_yes ho
    have h1 : 0 ≤ o ∧ o ≤ 8 := by simpa [orB] using ho
    obtain ⟨k, rfl⟩ : ∃ k : Nat, o = k := ⟨o.toNat, by omega⟩
    have hk : k ≤ 8 := by omega
    have hD := fun W => down_any f k hk hl hh W
    have HD := Lib.hid hD
    clear hD
    by_cases h2 : f % 2 ^ k = 0
    · have e : dnZ f k = f := by unfold dnZ; omega
      rw [e] at HD
      by_cases h3 : f < 0
      · have HE := Lib.hid (show 3 = ckE n f k by unfold ckE; rw [if_neg (by simp [ho]), Int.toNat_natCast, if_pos h2, if_pos (Or.inl h3)])
        clear ho h1 h2 e
        go_enter Tryz.func107, Tryz.ntmps107
        go_wp2_with (first | (go_at_call 128; refine (hO _).mono ?_; rintro e w' ⟨rfl, rfl⟩) | (go_at_call 123; refine (HD.out _).mono ?_; rintro e w' ⟨rfl, rfl⟩))
        go_quiet (fail)
        go_wp2
        go_ret
        exact ⟨ret_int HE.out, _, rfl⟩
      · have h0 : 0 ≤ f := by omega
        have hd : decide (f < 0) = false := by simpa using h3
        by_cases h4 : (n : Int) < f + 2 ^ k
        · have HE := Lib.hid (show 3 = ckE n f k by unfold ckE; rw [if_neg (by simp [ho]), Int.toNat_natCast, if_pos h2, if_pos (Or.inr h4)])
          clear ho h1 h2 e h3
          rcases pow9 hk with rfl | rfl | rfl | rfl | rfl | rfl | rfl | rfl | rfl
          · have hs : IntKind.i64.wrap ((n : Int) - 1) = n - 1 := IntWalk.i64_in _ (by omega)
            have hg : (n : Int) - 1 < f := by simp only [Int.reducePow] at h4; omega
            clear h4
            go_enter Tryz.func107, Tryz.ntmps107
            go_wp2_with (first | (go_at_call 128; refine (hO _).mono ?_; rintro e w' ⟨rfl, rfl⟩) | (go_at_call 123; refine (HD.out _).mono ?_; rintro e w' ⟨rfl, rfl⟩))
            go_quiet (fail)
            go_wp2
            go_ret
            exact ⟨ret_int HE.out, _, rfl⟩
          · have hs : IntKind.i64.wrap ((n : Int) - 2) = n - 2 := IntWalk.i64_in _ (by omega)
            have hg : (n : Int) - 2 < f := by simp only [Int.reducePow] at h4; omega
            clear h4
            go_enter Tryz.func107, Tryz.ntmps107
            go_wp2_with (first | (go_at_call 128; refine (hO _).mono ?_; rintro e w' ⟨rfl, rfl⟩) | (go_at_call 123; refine (HD.out _).mono ?_; rintro e w' ⟨rfl, rfl⟩))
            go_quiet (fail)
            go_wp2
            go_ret
            exact ⟨ret_int HE.out, _, rfl⟩
          · have hs : IntKind.i64.wrap ((n : Int) - 4) = n - 4 := IntWalk.i64_in _ (by omega)
            have hg : (n : Int) - 4 < f := by simp only [Int.reducePow] at h4; omega
            clear h4
            go_enter Tryz.func107, Tryz.ntmps107
            go_wp2_with (first | (go_at_call 128; refine (hO _).mono ?_; rintro e w' ⟨rfl, rfl⟩) | (go_at_call 123; refine (HD.out _).mono ?_; rintro e w' ⟨rfl, rfl⟩))
            go_quiet (fail)
            go_wp2
            go_ret
            exact ⟨ret_int HE.out, _, rfl⟩
          · have hs : IntKind.i64.wrap ((n : Int) - 8) = n - 8 := IntWalk.i64_in _ (by omega)
            have hg : (n : Int) - 8 < f := by simp only [Int.reducePow] at h4; omega
            clear h4
            go_enter Tryz.func107, Tryz.ntmps107
            go_wp2_with (first | (go_at_call 128; refine (hO _).mono ?_; rintro e w' ⟨rfl, rfl⟩) | (go_at_call 123; refine (HD.out _).mono ?_; rintro e w' ⟨rfl, rfl⟩))
            go_quiet (fail)
            go_wp2
            go_ret
            exact ⟨ret_int HE.out, _, rfl⟩
          · have hs : IntKind.i64.wrap ((n : Int) - 16) = n - 16 := IntWalk.i64_in _ (by omega)
            have hg : (n : Int) - 16 < f := by simp only [Int.reducePow] at h4; omega
            clear h4
            go_enter Tryz.func107, Tryz.ntmps107
            go_wp2_with (first | (go_at_call 128; refine (hO _).mono ?_; rintro e w' ⟨rfl, rfl⟩) | (go_at_call 123; refine (HD.out _).mono ?_; rintro e w' ⟨rfl, rfl⟩))
            go_quiet (fail)
            go_wp2
            go_ret
            exact ⟨ret_int HE.out, _, rfl⟩
          · have hs : IntKind.i64.wrap ((n : Int) - 32) = n - 32 := IntWalk.i64_in _ (by omega)
            have hg : (n : Int) - 32 < f := by simp only [Int.reducePow] at h4; omega
            clear h4
            go_enter Tryz.func107, Tryz.ntmps107
            go_wp2_with (first | (go_at_call 128; refine (hO _).mono ?_; rintro e w' ⟨rfl, rfl⟩) | (go_at_call 123; refine (HD.out _).mono ?_; rintro e w' ⟨rfl, rfl⟩))
            go_quiet (fail)
            go_wp2
            go_ret
            exact ⟨ret_int HE.out, _, rfl⟩
          · have hs : IntKind.i64.wrap ((n : Int) - 64) = n - 64 := IntWalk.i64_in _ (by omega)
            have hg : (n : Int) - 64 < f := by simp only [Int.reducePow] at h4; omega
            clear h4
            go_enter Tryz.func107, Tryz.ntmps107
            go_wp2_with (first | (go_at_call 128; refine (hO _).mono ?_; rintro e w' ⟨rfl, rfl⟩) | (go_at_call 123; refine (HD.out _).mono ?_; rintro e w' ⟨rfl, rfl⟩))
            go_quiet (fail)
            go_wp2
            go_ret
            exact ⟨ret_int HE.out, _, rfl⟩
          · have hs : IntKind.i64.wrap ((n : Int) - 128) = n - 128 := IntWalk.i64_in _ (by omega)
            have hg : (n : Int) - 128 < f := by simp only [Int.reducePow] at h4; omega
            clear h4
            go_enter Tryz.func107, Tryz.ntmps107
            go_wp2_with (first | (go_at_call 128; refine (hO _).mono ?_; rintro e w' ⟨rfl, rfl⟩) | (go_at_call 123; refine (HD.out _).mono ?_; rintro e w' ⟨rfl, rfl⟩))
            go_quiet (fail)
            go_wp2
            go_ret
            exact ⟨ret_int HE.out, _, rfl⟩
          · have hs : IntKind.i64.wrap ((n : Int) - 256) = n - 256 := IntWalk.i64_in _ (by omega)
            have hg : (n : Int) - 256 < f := by simp only [Int.reducePow] at h4; omega
            clear h4
            go_enter Tryz.func107, Tryz.ntmps107
            go_wp2_with (first | (go_at_call 128; refine (hO _).mono ?_; rintro e w' ⟨rfl, rfl⟩) | (go_at_call 123; refine (HD.out _).mono ?_; rintro e w' ⟨rfl, rfl⟩))
            go_quiet (fail)
            go_wp2
            go_ret
            exact ⟨ret_int HE.out, _, rfl⟩
        · have HE := Lib.hid (show 0 = ckE n f k by unfold ckE; rw [if_neg (by simp [ho]), Int.toNat_natCast, if_pos h2, if_neg (by omega)])
          clear ho h1 h2 e h3
          rcases pow9 hk with rfl | rfl | rfl | rfl | rfl | rfl | rfl | rfl | rfl
          · have hs : IntKind.i64.wrap ((n : Int) - 1) = n - 1 := IntWalk.i64_in _ (by omega)
            have hg : ¬ (n : Int) - 1 < f := by simp only [Int.reducePow] at h4; omega
            clear h4
            go_enter Tryz.func107, Tryz.ntmps107
            go_wp2_with (first | (go_at_call 128; refine (hO _).mono ?_; rintro e w' ⟨rfl, rfl⟩) | (go_at_call 123; refine (HD.out _).mono ?_; rintro e w' ⟨rfl, rfl⟩))
            go_quiet (fail)
            go_wp2
            go_ret
            exact ⟨ret_int HE.out, _, rfl⟩
          · have hs : IntKind.i64.wrap ((n : Int) - 2) = n - 2 := IntWalk.i64_in _ (by omega)
            have hg : ¬ (n : Int) - 2 < f := by simp only [Int.reducePow] at h4; omega
            clear h4
            go_enter Tryz.func107, Tryz.ntmps107
            go_wp2_with (first | (go_at_call 128; refine (hO _).mono ?_; rintro e w' ⟨rfl, rfl⟩) | (go_at_call 123; refine (HD.out _).mono ?_; rintro e w' ⟨rfl, rfl⟩))
            go_quiet (fail)
            go_wp2
            go_ret
            exact ⟨ret_int HE.out, _, rfl⟩
          · have hs : IntKind.i64.wrap ((n : Int) - 4) = n - 4 := IntWalk.i64_in _ (by omega)
            have hg : ¬ (n : Int) - 4 < f := by simp only [Int.reducePow] at h4; omega
            clear h4
            go_enter Tryz.func107, Tryz.ntmps107
            go_wp2_with (first | (go_at_call 128; refine (hO _).mono ?_; rintro e w' ⟨rfl, rfl⟩) | (go_at_call 123; refine (HD.out _).mono ?_; rintro e w' ⟨rfl, rfl⟩))
            go_quiet (fail)
            go_wp2
            go_ret
            exact ⟨ret_int HE.out, _, rfl⟩
          · have hs : IntKind.i64.wrap ((n : Int) - 8) = n - 8 := IntWalk.i64_in _ (by omega)
            have hg : ¬ (n : Int) - 8 < f := by simp only [Int.reducePow] at h4; omega
            clear h4
            go_enter Tryz.func107, Tryz.ntmps107
            go_wp2_with (first | (go_at_call 128; refine (hO _).mono ?_; rintro e w' ⟨rfl, rfl⟩) | (go_at_call 123; refine (HD.out _).mono ?_; rintro e w' ⟨rfl, rfl⟩))
            go_quiet (fail)
            go_wp2
            go_ret
            exact ⟨ret_int HE.out, _, rfl⟩
          · have hs : IntKind.i64.wrap ((n : Int) - 16) = n - 16 := IntWalk.i64_in _ (by omega)
            have hg : ¬ (n : Int) - 16 < f := by simp only [Int.reducePow] at h4; omega
            clear h4
            go_enter Tryz.func107, Tryz.ntmps107
            go_wp2_with (first | (go_at_call 128; refine (hO _).mono ?_; rintro e w' ⟨rfl, rfl⟩) | (go_at_call 123; refine (HD.out _).mono ?_; rintro e w' ⟨rfl, rfl⟩))
            go_quiet (fail)
            go_wp2
            go_ret
            exact ⟨ret_int HE.out, _, rfl⟩
          · have hs : IntKind.i64.wrap ((n : Int) - 32) = n - 32 := IntWalk.i64_in _ (by omega)
            have hg : ¬ (n : Int) - 32 < f := by simp only [Int.reducePow] at h4; omega
            clear h4
            go_enter Tryz.func107, Tryz.ntmps107
            go_wp2_with (first | (go_at_call 128; refine (hO _).mono ?_; rintro e w' ⟨rfl, rfl⟩) | (go_at_call 123; refine (HD.out _).mono ?_; rintro e w' ⟨rfl, rfl⟩))
            go_quiet (fail)
            go_wp2
            go_ret
            exact ⟨ret_int HE.out, _, rfl⟩
          · have hs : IntKind.i64.wrap ((n : Int) - 64) = n - 64 := IntWalk.i64_in _ (by omega)
            have hg : ¬ (n : Int) - 64 < f := by simp only [Int.reducePow] at h4; omega
            clear h4
            go_enter Tryz.func107, Tryz.ntmps107
            go_wp2_with (first | (go_at_call 128; refine (hO _).mono ?_; rintro e w' ⟨rfl, rfl⟩) | (go_at_call 123; refine (HD.out _).mono ?_; rintro e w' ⟨rfl, rfl⟩))
            go_quiet (fail)
            go_wp2
            go_ret
            exact ⟨ret_int HE.out, _, rfl⟩
          · have hs : IntKind.i64.wrap ((n : Int) - 128) = n - 128 := IntWalk.i64_in _ (by omega)
            have hg : ¬ (n : Int) - 128 < f := by simp only [Int.reducePow] at h4; omega
            clear h4
            go_enter Tryz.func107, Tryz.ntmps107
            go_wp2_with (first | (go_at_call 128; refine (hO _).mono ?_; rintro e w' ⟨rfl, rfl⟩) | (go_at_call 123; refine (HD.out _).mono ?_; rintro e w' ⟨rfl, rfl⟩))
            go_quiet (fail)
            go_wp2
            go_ret
            exact ⟨ret_int HE.out, _, rfl⟩
          · have hs : IntKind.i64.wrap ((n : Int) - 256) = n - 256 := IntWalk.i64_in _ (by omega)
            have hg : ¬ (n : Int) - 256 < f := by simp only [Int.reducePow] at h4; omega
            clear h4
            go_enter Tryz.func107, Tryz.ntmps107
            go_wp2_with (first | (go_at_call 128; refine (hO _).mono ?_; rintro e w' ⟨rfl, rfl⟩) | (go_at_call 123; refine (HD.out _).mono ?_; rintro e w' ⟨rfl, rfl⟩))
            go_quiet (fail)
            go_wp2
            go_ret
            exact ⟨ret_int HE.out, _, rfl⟩
    · have HE := Lib.hid (show 2 = ckE n f k by unfold ckE; rw [if_neg (by simp [ho]), Int.toNat_natCast, if_neg h2])
      have hne : (dnZ f k == f) = false := by
        have : dnZ f k ≠ f := by unfold dnZ; omega
        simpa using this
      have hne2 : (dnZ f k != f) = true := by simp [bne, hne]
      generalize dnZ f k = d at HD hne hne2
      clear ho h1 h2
      go_enter Tryz.func107, Tryz.ntmps107
      go_wp2_with (first | (go_at_call 128; refine (hO _).mono ?_; rintro e w' ⟨rfl, rfl⟩) | (go_at_call 123; refine (HD.out _).mono ?_; rintro e w' ⟨rfl, rfl⟩))
      go_ret
      exact ⟨ret_int HE.out, 0, rfl⟩
  · have hO := isOrder_no ho
    have HE := Lib.hid (show 2 = ckE n f o by unfold ckE; rw [if_pos ho])
    clear ho
    go_enter Tryz.func107, Tryz.ntmps107
    go_wp2_with (go_at_call 128; refine (hO _).mono ?_; rintro e w' ⟨rfl, rfl⟩)
    go_ret
    exact ⟨ret_int HE.out, 0, rfl⟩
end
end Go.Proofs.YtklhcgekagimkaaGreat
