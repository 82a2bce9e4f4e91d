/- The law BuddyFinds. -/
import Derived.Test.YtgkjkjpeolhgbaaCi
namespace Go.Proofs.Ytgkjkjpeolhgbaa
open Go.RowKit

theorem step_free {P : Nat → Prop} {sz f : Nat} (hs : 0 < sz) (hf : f % sz = 0) : (∃ a, a < f + sz ∧ a % sz = 0 ∧ P a) ↔ (∃ a, a < f ∧ a % sz = 0 ∧ P a) ∨ P f := by
  constructor
  · rintro ⟨a, h1, h2, h3⟩
    by_cases h : a < f
    · exact Or.inl ⟨a, h, h2, h3⟩
    · have h4 : (a - f) % sz = 0 := Nat.sub_mod_eq_zero_of_mod_eq (by rw [h2, hf])
      rw [Nat.mod_eq_of_lt (by omega)] at h4
      obtain rfl : a = f := by omega
      exact Or.inr h3
  · rintro (⟨a, h1, h2, h3⟩ | h)
    · exact ⟨a, by omega, h2, h3⟩
    · exact ⟨f, by omega, hf, h⟩
/-- What a taking finds. -/
theorem finds_case (F : List Bool) (k f : Nat) (hk : k ≤ 8) (hf : F.length ≤ f) (v : Bool) (hv : v = true ↔ ∃ a, a < f ∧ a % 2 ^ k = 0 ∧ allB F a (2 ^ k) true = true) :
    (v = false ∧ tkV F k = 0 ∧ tkE F k = 8 ∧ tkL F k = F) ∨ (v = true ∧ ∃ z : Nat, tkV F k = z ∧ tkE F k = 0 ∧ z ≤ F.length ∧ allB F z (2 ^ k) true = true ∧ (tkL F k).count true + 2 ^ k = F.count true) := by
  have hfi : v = true ↔ (tkB F k).isSome = true := by
    rw [hv, tk_finds hk]
    constructor
    · rintro ⟨a, -, h2, h3⟩
      exact ⟨a, h2, allB_iff.1 h3⟩
    · rintro ⟨a, h2, h3⟩
      refine ⟨a, ?_, h2, allB_iff.2 h3⟩
      have := h3 a (Nat.le_refl _) (by have := two_pos k; omega)
      have := (List.getElem?_eq_some_iff.1 this).1
      omega
  cases hb : tkB F k with
  | none =>
    rw [hb] at hfi
    refine Or.inl ⟨?_, ?_, ?_, ?_⟩
    · cases v with
      | false => rfl
      | true => exact absurd (hfi.1 rfl) (by simp)
    · unfold tkV; rw [hb]
    · unfold tkE; rw [if_neg (by rw [orB_nat hk]; decide), hb]; rfl
    · unfold tkL; rw [hb]
  | some z =>
    rw [hb] at hfi
    obtain ⟨_, h2, h3⟩ := tk_fre hb
    refine Or.inr ⟨hfi.2 (by simp), z.1, ?_, ?_, by have := two_pos k; omega, allB_iff.2 h2.2, ?_⟩
    · unfold tkV; rw [hb]
    · unfold tkE; rw [if_neg (by rw [orB_nat hk]; decide), hb]; rfl
    · have e : tkL F k = setR F z.1 (2 ^ k) false := by unfold tkL; rw [hb]; simp
      rw [e]
      exact count_setR (v := false) h3 h2.2
set_option maxHeartbeats 2000000 in
set_option maxRecDepth 100000 in
theorem finds_walk (fr : Int) (A : Option Addr) (m c : Nat) (t : Int) (w : World) (hA : Acts w w.heap.size A m) (ht0 : 0 ≤ t) (_ : t < 256) :
    Calls Try.prog 6 #[.int .i64 fr, .slice A m c, .int .u8 t] w fun e w' => e = .returned (.bool true) ∧ Below w.heap.size w w' := by
  obtain ⟨k, hk⟩ : ∃ k : Nat, t % 9 = k := ⟨(t % 9).toNat, by omega⟩
  have hk8 : k ≤ 8 := by omega
  have hkt : t.tmod 9 = k := by rw [Int.tmod_eq_emod_of_nonneg ht0]; exact hk
  by_cases hf : fr < 8 ∨ 1024 < fr
  · have hsm : ∀ W', Calls Try.prog 11 #[.int .i64 fr] W' fun e w' => e = .returned (.int .i64 fr) ∧ W' = w' := fun W' => by
      have := small_any fr W'
      rw [smI_bad hf] at this
      exact this
    have hmd := fun W' => made_bad hf W'
    go_enter Try.func6, Try.ntmps6
    go_wp2_with (first | (go_at_call 11; refine (hsm _).mono ?_; rintro e w' ⟨rfl, rfl⟩) | (go_at_call 10; refine (hmd _).mono ?_; rintro e w' ⟨rfl, rfl⟩))
    refine (awake_any _).mono ?_
    rintro e w1 ⟨rfl, hb1⟩
    go_wp2_with fail
    refine (awake_any _).mono ?_
    rintro e w2 ⟨rfl, hb2⟩
    go_wp2
    go_ret
    exact ⟨rfl, hb1.trans (hb2.mono hb1.size)⟩
  · obtain ⟨n, hn, h8, h300⟩ := smI_good hf
    have hsm : ∀ W', Calls Try.prog 11 #[.int .i64 fr] W' fun e w' => e = .returned (.int .i64 n) ∧ W' = w' := fun W' => by
      have := small_any fr W'
      rw [hn] at this
      exact this
    have hmd := fun W' => made_any n h8 (by omega) W'
    have HA := Lib.hid hA
    clear hA hn hf
    go_enter Try.func6, Try.ntmps6
    go_wp2_with (first | (go_at_call 11; refine (hsm _).mono ?_; rintro e w' ⟨rfl, rfl⟩))
    refine (hmd _).mono ?_
    intro e w1 h1
    obtain ⟨s, a, x, y, rfl, hg1, hb1⟩ := h1.going
    clear h1 hsm hmd
    go_wp2_with fail
    refine (awake_any _).mono ?_
    rintro e w2 ⟨rfl, hb2⟩
    have HG := Lib.hid (hg1.call hb2)
    have HB1 := Lib.hid hb1
    clear hg1 hb2 hb1
    go_wp2_with fail
    go_loopw [9] (fun i wr => ∃ j : Nat, j ≤ m ∧ i = .int .i64 j ∧ Going w.heap.size s a x y n w1 wr) (fun i _ => m - (intOf i).toNat)
    case atStart => exact ⟨0, by omega, rfl, HG.out⟩
    case round =>
      obtain ⟨j, hj, rfl, hgo⟩ := hrel
      clear HG
      have hbw : Below w.heap.size w wr := HB1.out.trans hgo.below
      by_cases hboth : j < m ∧ j < 60
      · obtain ⟨hlt, hlim⟩ := hboth
        obtain ⟨ad, rfl, ac, ok, c0, c1, c2, c3, c4⟩ := acts_now HA.out hbw hlt
        go_wp2_with fail
        refine (hgo.do_ ok).mono ?_
        rintro e w' ⟨rfl, hgo'⟩
        clear hgo hbw c0 c1 c2 c3 c4
        go_wp2
        go_roundw
        case rel => exact ⟨j + 1, by omega, by go_num, hgo'⟩
        case measure => simp [intOf]; omega
      · obtain ⟨F, T, tv, hst, hhe, hsp⟩ := hgo
        have HST := Lib.hid hst
        have HH := Lib.hid hhe
        have HSP := Lib.hid hsp
        have HBW := Lib.hid hbw
        have hcz := hst.c0
        clear hst hhe hsp hbw HA
        by_cases hlt : j < m
        case' pos => have hlim : 60 ≤ j := by omega
        all_goals
          clear hboth
          go_wp2_with fail
          obtain ⟨sz, hsz⟩ : ∃ sz, sz = 2 ^ k := ⟨_, rfl⟩
          have hs1 : 0 < sz := by have := two_pos k; omega
          have hs2 : sz ≤ 256 := by have := Nat.pow_le_pow_right (by omega : 0 < 2) hk8; omega
          have hln := HST.out.len
          have hc1 := HST.out.c1
          have hcf := HST.out.ref.field
          have hSZ : ∀ W', Calls Try.prog 25 #[.int .i64 k] W' fun e w' => e = .returned (.int .i64 sz) ∧ W' = w' := fun W' => by
            have := size_any hk8 W'
            rw [← hsz] at this
            exact this
          have HSZ := Lib.hid hSZ
          have HF := Lib.hid (finds_case F k)
          rw [← hsz] at HF
          have hAll : ∀ f : Nat, f ≤ 4096 → Calls Try.prog 26 #[.pointer (some ⟨x, 0, none⟩), .int .i64 f, .int .i64 k, .bool true] wr fun e w' => e = .returned (.bool (allB F f sz true)) ∧ wr = w' := fun f hf => by
            have := all_any HST.out.ref hk8 hf true
            rw [← hsz] at this
            exact this
          have HALL := Lib.hid hAll
          have HSE := Lib.hid hsz
          clear hSZ hAll hsz HB1 hlt hk hkt
          try clear hlim
          clear hj HSP HH
          go_loop [11, 12] (fun b i => ∃ f : Nat, ∃ v : Bool, i = .int .i64 f ∧ b = .bool v ∧ f ≤ n + 256 ∧ f % sz = 0 ∧ (v = true ↔ ∃ a, a < f ∧ a % sz = 0 ∧ allB F a sz true = true)) (fun _ i => n + 256 - (intOf i).toNat)
          case atStart => exact ⟨0, false, rfl, rfl, by omega, by simp, by simp⟩
          case round =>
            obtain ⟨f, v, rfl, rfl, hfn, hfs, hiff⟩ := hrel
            have HI := Lib.hid hiff
            clear hiff
            by_cases hf : f < n
            · have ifw : IntKind.i64.wrap ((f : Int) + sz) = f + sz := IntWalk.i64_in _ (by omega)
              cases v with
              | true =>
                go_wp2_with (first | (go_at_call 25; refine (HSZ.out _).mono ?_; rintro e w' ⟨rfl, rfl⟩))
                go_round
                case rel => exact ⟨f + sz, true, by simp, rfl, by omega, by rw [Nat.add_mod_right]; exact hfs, by rw [step_free (P := fun a => allB F a sz true = true) hs1 hfs, ← HI.out]; simp⟩
                case measure => simp [intOf]; omega
              | false =>
                go_wp2_with (first | (go_at_call 25; refine (HSZ.out _).mono ?_; rintro e w' ⟨rfl, rfl⟩) | (go_at_call 26; refine (HALL.out f (by omega)).mono ?_; rintro e w' ⟨rfl, rfl⟩))
                go_round
                case rel => exact ⟨f + sz, allB F f sz true, by simp, rfl, by omega, by rw [Nat.add_mod_right]; exact hfs, by rw [step_free (P := fun a => allB F a sz true = true) hs1 hfs, ← HI.out]; simp⟩
                case measure => simp [intOf]; omega
            · have hfz : F.length ≤ f := by omega
              rcases HF.out _ hk8 hfz _ HI.out with ⟨rfl, hV, hE, hL⟩ | ⟨rfl, z, hV, hE, hzl, hal, hcn⟩
              · have HV := Lib.hid hV
                have HE := Lib.hid hE
                have HL := Lib.hid hL
                clear hV hE hL
                go_wp2_with fail
                refine HST.out.free_.mono ?_
                rintro e w4 ⟨rfl, rfl⟩
                go_wp2_with fail
                refine (HST.out.take_ k).mono ?_
                rintro e w5 ⟨rfl, k5, ht5⟩
                rw [HV.out, HE.out]
                rw [HL.out] at k5
                have hc5 := k5.c0
                have K5 := Lib.hid k5
                have HT5 := Lib.hid ht5
                clear k5 ht5 hcz hc1 hcf
                go_wp2_with fail
                refine K5.out.free_.mono ?_
                rintro e w6 ⟨rfl, rfl⟩
                go_wp2
                go_ret
                exact ⟨rfl, HBW.out.trans HT5.out.below⟩
              · have HV := Lib.hid hV
                have HE := Lib.hid hE
                have HAZ := Lib.hid hal
                obtain ⟨p0, hp0⟩ : ∃ p, p = F.count true := ⟨_, rfl⟩
                obtain ⟨p1, hp1⟩ : ∃ p, p = (tkL F k).count true := ⟨_, rfl⟩
                have hpb : p0 ≤ 1024 := by have := List.count_le_length (a := true) (l := F); omega
                rw [← hp0, ← hp1] at hcn
                have iws : IntKind.i64.wrap ((p0 : Int) - sz) = p1 := by rw [IntWalk.i64_in _ (by omega)]; omega
                have HP0 := Lib.hid hp0
                have HP1 := Lib.hid hp1
                clear hV hE hcn hal hp0 hp1
                go_wp2_with fail
                refine HST.out.free_.mono ?_
                rintro e w4 ⟨rfl, rfl⟩
                rw [← HP0.out]
                go_wp2_with fail
                refine (HST.out.take_ k).mono ?_
                rintro e w5 ⟨rfl, k5, ht5⟩
                rw [HV.out, HE.out]
                have hc5 := k5.c0
                have hc51 := k5.c1
                have K5 := Lib.hid k5
                have HT5 := Lib.hid ht5
                have HAL5 : Hid (Calls Try.prog 26 #[.pointer (some ⟨x, 0, none⟩), .int .i64 z, .int .i64 k, .bool true] w5 fun e w' => e = .returned (.bool true) ∧ w5 = w') := by
                  have := all_any k5.ref hk8 (a := z) (by omega) true
                  rw [← HSE.out, HAZ.out] at this
                  exact this
                clear k5 ht5 hcz hc1 hcf
                go_wp2_with (first | (go_at_call 26; refine HAL5.out.mono ?_; rintro e w6 ⟨rfl, rfl⟩) | (go_at_call 25; refine (HSZ.out _).mono ?_; rintro e w' ⟨rfl, rfl⟩) | (go_at_call 14; refine K5.out.free_.mono ?_; rintro e w6 ⟨rfl, rfl⟩; rw [← HP1.out]))
                go_ret
                exact ⟨rfl, HBW.out.trans HT5.out.below⟩
end Go.Proofs.Ytgkjkjpeolhgbaa
