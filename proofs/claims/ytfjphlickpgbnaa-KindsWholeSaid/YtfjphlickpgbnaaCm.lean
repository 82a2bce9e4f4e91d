/- The reference: Blocks, Greatest. -/
import Derived.Test.YtfjphlickpgbnaaCl
namespace Go.Proofs.Ytfjphlickpgbnaa
open Go.RowKit

/-- An order that may be none. -/
def kI : Option Nat → Int
  | none => -1
  | some k => k
theorem kb_succ (F : List Bool) (a j : Nat) : kb F a (j + 1) = if a % 2 ^ j = 0 ∧ allB F a (2 ^ j) true = true then some j else kb F a j := by
  have e : (freB F a j = true) ↔ (a % 2 ^ j = 0 ∧ allB F a (2 ^ j) true = true) := by
    unfold freB; rw [Bool.and_eq_true, decide_eq_true_eq]
  conv => lhs; unfold kb
  by_cases h : freB F a j = true
  · rw [if_pos h, if_pos (e.1 h)]
  · rw [if_neg h, if_neg (fun g => h (e.2 g))]
theorem kb_range {F : List Bool} {a j : Nat} : kb F a j = none ∨ ∃ k, kb F a j = some k ∧ k < j := by
  cases h : kb F a j with
  | none => exact Or.inl rfl
  | some k => exact Or.inr ⟨k, rfl, (kb_some h).1⟩
theorem blF_none {F : List Bool} {a : Nat} (h : a < F.length) (hk : kb F a 9 = none) : blF F (F.length - a) a = blF F (F.length - (a + 1)) (a + 1) := by
  obtain ⟨f, hf⟩ : ∃ f, F.length - a = f + 1 := ⟨F.length - a - 1, by omega⟩
  rw [hf]
  conv => lhs; unfold blF
  rw [if_pos h, hk]
  exact blF_more F _ _ _ (by omega) (by omega)
theorem blF_some {F : List Bool} {a k : Nat} (h : a < F.length) (hk : kb F a 9 = some k) : blF F (F.length - a) a = (a, k) :: blF F (F.length - (a + 2 ^ k)) (a + 2 ^ k) ∧ a + 2 ^ k ≤ F.length := by
  obtain ⟨f, hf⟩ : ∃ f, F.length - a = f + 1 := ⟨F.length - a - 1, by omega⟩
  have h1 := kb_some hk
  have hp := two_pos k
  have h2 : a + 2 ^ k ≤ F.length := by
    have := h1.2.1.2 (a + 2 ^ k - 1) (by omega) (by omega)
    rcases Nat.lt_or_ge (a + 2 ^ k - 1) F.length with g | g
    · omega
    · rw [List.getElem?_eq_none g] at this; cases this
  refine ⟨?_, h2⟩
  rw [hf]
  conv => lhs; unfold blF
  rw [if_pos h, hk]
  simp only
  rw [blF_more F f (F.length - (a + 2 ^ k)) (a + 2 ^ k) (by omega) (by omega)]
theorem own_form {W : World} {C n : Nat} {v : Value} {xs : List Value} (h : W.ownsRow C 53 2 v n xs) : ∃ A c, v = .slice A n c := by
  rcases h.2 with ⟨h1, h2⟩ | ⟨g, cap, cur, h1, _⟩
  · exact ⟨none, 0, by rw [h1, h2]⟩
  · exact ⟨_, _, h1⟩
section
variable {w : World} {x y n : Nat} {F : List Bool}
set_option maxHeartbeats 1000000 in
theorem refBlocks_any (h : RefAt w x y n F) : Calls Try.prog 33 #[.pointer (some ⟨x, 0, none⟩)] w (Lists (bk F) w) := by
  have hn := h.hi
  have hlen := h.len
  obtain ⟨i0, hi0, hz0, hz1, hz2⟩ := info_parts info_block
  have HI := Lib.hid (And.intro hi0 (And.intro hz0 (And.intro hz1 hz2)))
  have HX := Lib.hid h
  have HLN := Lib.hid hlen
  clear h hi0 hz0 hz1 hz2 hlen
  go_enter Try.func33, Try.ntmps33
  go_wp2
  go_loopw [3, 4] (fun v s wr => ∃ (a : Nat) (M : List (Nat × Nat)), a ≤ n ∧ s = .int .i64 a ∧ bk F = M ++ blF F (F.length - a) a ∧ M.length ≤ a ∧ wr.ownsRow w.heap.size 53 2 v M.length (bcells M) ∧ Below w.heap.size w wr) (fun _ s _ => n - (intOf s).toNat)
  case atStart => exact ⟨0, [], Nat.zero_le _, rfl, rfl, Nat.le_refl _, World.ownsRow_nil _ _ _ _, Below.refl _ _⟩
  case round =>
    obtain ⟨a, M, ha, rfl, hbk, hMa, hown, hb⟩ := hrel
    have hc := (HX.out.call hb).field
    have HBK := Lib.hid hbk
    have HO := Lib.hid hown
    have HB := Lib.hid hb
    have HXr := Lib.hid (HX.out.call hb)
    clear hbk hown hb
    by_cases hlt : a < n
    · have haF : a < F.length := by rw [HLN.out]; exact hlt
      have HAF := Lib.hid haF
      clear haF
      go_wp2
      clear hc
      go_loop [5, 6] (fun s t => ∃ j : Nat, j ≤ 9 ∧ t = .int .i64 j ∧ s = .int .i64 (kI (kb F a j))) (fun _ t => 9 - (intOf t).toNat)
      case atStart => exact ⟨0, by omega, rfl, rfl⟩
      case round =>
        obtain ⟨j, hj, rfl, rfl⟩ := hrel
        by_cases hlj : j < 9
        · have hj8 : j ≤ 8 := by omega
          have hS := fun W => size_any hj8 W
          have hAll := all_any HXr.out hj8 (show a ≤ 4096 by omega) true
          have HK := Lib.hid (kb_succ F a j)
          have hp := Nat.pow_le_pow_right (by omega : 0 < 2) hj8
          have hp0 := two_pos j
          obtain ⟨m, hm⟩ : ∃ m, m = 2 ^ j := ⟨_, rfl⟩
          rw [← hm] at hS hp hp0 HK hAll
          clear hm
          by_cases hr : a % m = 0
          · have hrb : ((a : Int) % m == 0) = true := by
              have e : ((a : Int) % m) = ((a % m : Nat) : Int) := by simp
              rw [e, hr]; rfl
            cases hab : allB F a m true with
            | true =>
              rw [hab] at hAll
              have HK2 : Hid (kb F a (j + 1) = some j) := by
                show _ = _
                rw [HK.out, if_pos ⟨hr, hab⟩]
              clear hr hab
              go_wp2_with (first | (go_at_call 16; refine (hS _).mono ?_; rintro e w' ⟨rfl, rfl⟩) | (go_at_call 49; refine Calls.mono hAll ?_; rintro e w' ⟨rfl, rfl⟩))
              go_round
              case rel => exact ⟨j + 1, by omega, by go_num, by rw [HK2.out]; rfl⟩
              case measure => simp [intOf]; omega
            | false =>
              rw [hab] at hAll
              have HK2 : Hid (kb F a (j + 1) = kb F a j) := by
                show _ = _
                rw [HK.out, if_neg (by rw [hab]; simp)]
              clear hr hab
              go_wp2_with (first | (go_at_call 16; refine (hS _).mono ?_; rintro e w' ⟨rfl, rfl⟩) | (go_at_call 49; refine Calls.mono hAll ?_; rintro e w' ⟨rfl, rfl⟩))
              go_round
              case rel => exact ⟨j + 1, by omega, by go_num, by rw [HK2.out]⟩
              case measure => simp [intOf]; omega
          · have hrb : ((a : Int) % m == 0) = false := by
              have e : ((a : Int) % m) = ((a % m : Nat) : Int) := by simp
              rw [e]; simp; omega
            have HK2 : Hid (kb F a (j + 1) = kb F a j) := by
              show _ = _
              rw [HK.out, if_neg (fun g => hr g.1)]
            clear hr
            go_wp2_with (first | (go_at_call 16; refine (hS _).mono ?_; rintro e w' ⟨rfl, rfl⟩) | (go_at_call 49; refine Calls.mono hAll ?_; rintro e w' ⟨rfl, rfl⟩))
            go_round
            case rel => exact ⟨j + 1, by omega, by go_num, by rw [HK2.out]⟩
            case measure => simp [intOf]; omega
        · obtain rfl : j = 9 := by omega
          cases hkb : kb F a 9 with
          | none =>
            have HKB := Lib.hid (blF_none HAF.out hkb)
            clear hkb
            go_wp2
            go_roundw
            case rel => exact ⟨a + 1, M, by omega, by go_num, by rw [← HKB.out]; exact HBK.out, by omega, HO.out, HB.out⟩
            case measure => simp [intOf]; omega
          | some k =>
            obtain ⟨hb1, hb2⟩ := blF_some HAF.out hkb
            have hk8 : k ≤ 8 := by have := (kb_some hkb).1; omega
            have HKB := Lib.hid hb1
            rw [HLN.out] at hb2
            have hS := fun W => size_any hk8 W
            have hp0 := two_pos k
            obtain ⟨m, hm⟩ : ∃ m, m = 2 ^ k := ⟨_, rfl⟩
            rw [← hm] at hS hp0 hb2
            have HM := Lib.hid hm
            clear hm hkb hb1
            have e0 : kI (some k) = (k : Int) := rfl
            rw [e0]
            clear e0
            have k0 : ¬ (k : Int) < 0 := by omega
            obtain ⟨hi0, hz0, hz1, hz2⟩ := HI.out
            have hown := HO.out
            have hsz := HB.out.size
            have HB2 := Lib.hid (HB.out.alloc hsz (.cells #[.int .i64 a, .int .i64 k] 53))
            go_wp2_with (at_builtin; refine wpList_append_own _ rfl _ _ 32 rfl w.heap.size 53 i0 (.agg #[.int .i64 0, .int .i64 0]) 2 16 Try.underlying32 hi0 hz0 hz1 hz2 rfl (by decide) _ M.length (bcells M) rfl (hown.alloc _) ⟨wr.heap.size, 0, none⟩ 1 1 [.int .i64 a, .int .i64 k] rfl rfl (new_cells wr a k) (two_one a k) (by unfold maxLen; omega) (by omega) (by simp; omega) ?_; intro v' w2 hown2 hgr hn2)
            have HO2 := Lib.hid hown2
            have HB3 := Lib.hid (own_below HB2.out HB2.out.size (hown.alloc _) hgr)
            clear hown hown2 hgr hn2 HB2 hsz hi0 hz0 hz1 hz2
            go_wp2_with (go_at_call 16; refine (hS _).mono ?_; rintro e w' ⟨rfl, rfl⟩)
            go_roundw
            case rel => exact ⟨a + m, M ++ [(a, k)], by omega, by go_num, by rw [HBK.out, HKB.out, HM.out]; simp, by simp; omega, by
                have h1 := HO2.out
                rw [bcells_append]
                simpa [bcells] using h1, HB3.out⟩
            case measure => simp [intOf]; omega
    · obtain rfl : a = n := by omega
      obtain ⟨A, cc, hv⟩ := own_form HO.out
      subst hv
      obtain ⟨_, hrow, _⟩ := own_row HO.out
      have HR := Lib.hid hrow
      have HE : Hid (bk F = M) := by
        show _ = _
        rw [HBK.out, HLN.out, Nat.sub_self]; simp [blF]
      clear hrow
      go_wp2
      go_ret
      refine ⟨A, cc, ?_, by rw [HE.out]; exact HR.out, HB.out⟩
      show Ending.returned (.slice A M.length cc) = _
      rw [HE.out]
end
end Go.Proofs.Ytfjphlickpgbnaa
