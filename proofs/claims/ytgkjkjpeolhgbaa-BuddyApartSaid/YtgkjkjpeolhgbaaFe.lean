/- The law BuddyApart. -/
import Derived.Test.YtgkjkjpeolhgbaaCi
namespace Go.Proofs.Ytgkjkjpeolhgbaa
open Go.RowKit

/-- What has been met is not free. -/
def Met (F M : List Bool) : Prop := ∀ i : Nat, M[i]? = some true → F[i]? ≠ some true
/-- The lists of free blocks, and the row of what has been met. -/
structure Ap (B : Nat) (w : World) (a n b : Nat) (F M : List Bool) : Prop where
  bud : ∃ L, BudAt B w a n L ∧ Good F L
  len : F.length = n
  met : Lrow w b 4 (bcl M)
  ml : M.length = 1024
  n10 : n ≤ 1024
  lb : B ≤ b
section
variable {w w' : World} {B a n b : Nat} {F M : List Bool}
theorem Ap.lo (h : Ap B w a n b F M) : B ≤ w.heap.size := by obtain ⟨L, h1, _⟩ := h.bud; exact h1.lo
theorem Ap.call (h : Ap B w a n b F M) (hb : Below w.heap.size w w') : Ap B w' a n b F M := by
  obtain ⟨L, h1, h2⟩ := h.bud
  exact ⟨⟨L, h1.call hb, h2⟩, h.len, h.met.call hb, h.ml, h.n10, h.lb⟩
theorem Ap.take_ (h : Ap B w a n b F M) (o : Int) : Calls Try.prog 24 #[.pointer (some ⟨a, 0, none⟩), .int .i64 o] w fun e w' => e = .returned (.tuple #[.int .i64 (tkV F o), .int .i64 (tkE F o)]) ∧ Ap B w' a n b (tkL F o) M ∧ Turn B w w' := by
  obtain ⟨L, h1, h2⟩ := h.bud
  refine (take_any h1 h2 (by have := h.len; have := h.n10; omega) o).mono ?_
  rintro e w' ⟨rfl, ht, L', k1, k2⟩
  exact ⟨rfl, ⟨⟨L', k1, k2⟩, by rw [tkL_length]; exact h.len, ht.row _ _ _ h.met (by decide) (by decide), h.ml, h.n10, h.lb⟩, ht⟩
theorem Ap.has_ (h : Ap B w a n b F M) (f : Int) (hl : -9223372036854775808 ≤ f) (hh : f ≤ 9223372036854775807) :
    Calls Try.prog 18 #[.pointer (some ⟨a, 0, none⟩), .int .i64 f] w fun e w' => e = .returned (.bool (hasB F f)) ∧ Below w.heap.size w w' := by
  obtain ⟨L, h1, h2⟩ := h.bud
  exact has_frame h1 h2 (by have := h.len; have := h.n10; omega) f hl hh
theorem Ap.set_ (h : Ap B w a n b F M) (i : Nat) : Ap B (w.setCell ⟨b, i, none⟩ (.bool true)) a n b F (M.set i true) := by
  obtain ⟨L, h1, h2⟩ := h.bud
  refine ⟨⟨L, h1.setFar h.met (by decide) (by decide) _ _, h2⟩, h.len, ?_, by rw [List.length_set]; exact h.ml, h.n10, h.lb⟩
  have := h.met.set_ i (.bool true)
  rwa [bcl_set] at this
theorem Ap.at_ (h : Ap B w a n b F M) {i : Nat} {v : Bool} (hi : M[i]? = some v) : w.cell? ⟨b, i, none⟩ = some (.bool v) := by
  rw [h.met.cell, bcl_get, hi]; rfl
/-- A taking of an order: what it takes was free, and lies even. -/
theorem apart_case (F : List Bool) (k : Nat) (hk : k ≤ 8) :
    (∃ f : Nat, tkV F k = f ∧ tkE F k = 0 ∧ f % 2 ^ k = 0 ∧ f + 2 ^ k ≤ F.length ∧ tkL F k = setR F f (2 ^ k) false ∧ Alq F f (2 ^ k) true) ∨ (tkE F k = 8 ∧ tkL F k = F) := by
  cases hb : tkB F k with
  | none =>
    refine Or.inr ⟨?_, by unfold tkL; rw [hb]⟩
    unfold tkE; rw [if_neg (by rw [orB_nat hk]; decide), hb]; rfl
  | some z =>
    obtain ⟨_, h2, h3⟩ := tk_fre hb
    refine Or.inl ⟨z.1, ?_, ?_, h2.1, h3, ?_, h2.2⟩
    · unfold tkV; rw [hb]
    · unfold tkE; rw [if_neg (by rw [orB_nat hk]; decide), hb]; rfl
    · unfold tkL; rw [hb]; simp
theorem Met.taken {f m : Nat} (h : Met F M) (hF : f + m ≤ F.length) (hM : f + m ≤ M.length) : Met (setR F f m false) (setR M f m true) := by
  intro i hi
  rw [setR_get _ _ _ _ hM] at hi
  rw [setR_get _ _ _ _ hF]
  by_cases hc : f ≤ i ∧ i < f + m
  · rw [if_pos hc]; simp
  · rw [if_neg hc] at hi ⊢
    exact h i hi
end
set_option maxHeartbeats 2000000 in
set_option maxRecDepth 100000 in
theorem apart_walk (fr : Int) (A : Option Addr) (m c : Nat) (w : World) (hA : Bytes w w.heap.size A m) :
    Calls Try.prog 5 #[.int .i64 fr, .slice A m c] w fun e w' => e = .returned (.bool true) ∧ Below w.heap.size w w' := by
  by_cases hf : fr < 8 ∨ 1024 < fr
  · have hsm : ∀ W', Calls Try.prog 11 #[.int .i64 fr] W' fun e w' => e = .returned (.int .i64 fr) ∧ W' = w' := fun W' => by
      have := small_any fr W'
      rw [smI_bad hf] at this
      exact this
    have hnw := fun W' => new_bad hf W'
    go_enter Try.func5, Try.ntmps5
    go_wp2_with (first | (go_at_call 11; refine (hsm _).mono ?_; rintro e w' ⟨rfl, rfl⟩) | (go_at_call 23; refine (hnw _).mono ?_; rintro e w' ⟨rfl, rfl⟩))
    refine (awake_any _).mono ?_
    rintro e w1 ⟨rfl, hb1⟩
    go_wp2_with fail
    refine (awake_any _).mono ?_
    rintro e w2 ⟨rfl, hb2⟩
    go_wp2
    go_ret
    exact ⟨rfl, hb1.trans (hb2.mono hb1.size)⟩
  · obtain ⟨n, hn, h8, h300⟩ := smI_good hf
    have hsm : ∀ W', Calls Try.prog 11 #[.int .i64 fr] W' fun e w' => e = .returned (.int .i64 n) ∧ W' = w' := fun W' => by
      have := small_any fr W'
      rw [hn] at this
      exact this
    have hnw := fun W' => new_any n h8 (by omega) W'
    have HA := Lib.hid hA
    have HSM := Lib.hid hsm
    clear hA hn hf hsm
    go_enter Try.func5, Try.ntmps5
    go_wp2_with (first | (go_at_call 11; refine (HSM.out _).mono ?_; rintro e w' ⟨rfl, rfl⟩))
    refine (hnw _).mono ?_
    rintro e w1 ⟨L1, rfl, hb1, hx1, hg1⟩
    clear hnw
    go_wp2_with fail
    refine (awake_any _).mono ?_
    rintro e w2 ⟨rfl, hb2⟩
    have HX := Lib.hid (hx1.call hb2)
    have HGD := Lib.hid hg1
    have HB2 := Lib.hid (hb1.trans (hb2.mono hb1.size))
    have hmk : (Instr.makeSlice 38 (.int .i64 1024) (.int .i64 1024)).run Try.prog w2 = .ok (.slice (some ⟨w2.heap.size, 0, none⟩) 1024 1024) (w2.alloc (.cells (madeCells #[.bool false] 1024) 4)) :=
      run_make_row' (P := Try.prog) 38 4 (.bool false) 1 Try.underlying38 info_bool rfl .i64 .i64 1024 (by omega) (by omega) w2
    have HAP : Hid (Ap w.heap.size (w2.alloc (.cells (madeCells #[.bool false] 1024) 4)) w.heap.size n w2.heap.size (List.replicate n true) (List.replicate 1024 false)) := by
      refine ⟨⟨L1, HX.out.alloc _, HGD.out⟩, by simp, ?_, by simp, by omega, HX.out.lo⟩
      have := Lrow.new w2 4 (bcl (List.replicate 1024 false))
      rw [← made_bools] at this
      rw [← made_bools]
      simpa using this
    have HB3 := Lib.hid (HB2.out.alloc (HX.out.lo) (.cells (madeCells #[.bool false] 1024) 4))
    have HM0 : Hid (Met (List.replicate n true) (List.replicate 1024 false)) := by
      show Met _ _
      intro i hi
      rw [List.getElem?_replicate] at hi
      split at hi <;> simp at hi
    clear hb1 hx1 hg1 hb2
    go_wp2_with (first | (go_at_call 11; refine (HSM.out _).mono ?_; rintro e w' ⟨rfl, rfl⟩))
    clear hmk HX HGD HB2
    generalize w2.heap.size = b at HAP ⊢
    generalize w2.alloc (.cells (madeCells #[.bool false] 1024) 4) = w3 at HAP HB3 ⊢
    generalize List.replicate n true = F0 at HAP HM0
    generalize List.replicate 1024 false = M0 at HAP HM0
    go_loopw [9] (fun i wr => ∃ j : Nat, ∃ F M, j ≤ m ∧ i = .int .i64 j ∧ Ap w.heap.size wr w.heap.size n b F M ∧ Met F M ∧ Below w.heap.size w wr) (fun i _ => m - (intOf i).toNat)
    case atStart => exact ⟨0, F0, M0, by omega, rfl, HAP.out, HM0.out, HB3.out⟩
    case round =>
      clear HAP HM0 HB3
      obtain ⟨j, F, M, hj, rfl, hap, hme, hbw⟩ := hrel
      have HAP := Lib.hid hap
      have HME := Lib.hid hme
      have HBW := Lib.hid hbw
      clear hap hme hbw
      by_cases hboth : j < m ∧ j < 300
      · obtain ⟨hlt, hlim⟩ := hboth
        obtain ⟨ad, rfl, -, hby⟩ := (HA.out.below HBW.out) (by omega)
        obtain ⟨tN, ht, hct⟩ := hby j hlt
        obtain ⟨t, htt⟩ : ∃ t : Int, t = tN := ⟨_, rfl⟩
        rw [← htt] at hct
        have ht0 : 0 ≤ t := by omega
        obtain ⟨k, hk⟩ : ∃ k : Nat, t % 9 = k := ⟨(t % 9).toNat, by omega⟩
        have hk8 : k ≤ 8 := by omega
        have hkt : t.tmod 9 = k := by rw [Int.tmod_eq_emod_of_nonneg ht0]; exact hk
        clear hby ht htt
        have hca := apart_case F k hk8
        go_wp2_with fail
        refine (HAP.out.take_ k).mono ?_
        rintro e w5 ⟨rfl, k5, ht5⟩
        rcases hca with ⟨f, hV, hE, hfm, hfl, hL, hal⟩ | ⟨hE, hL⟩
        · rw [hE, hV]
          obtain ⟨szN, hsz⟩ : ∃ s, s = 2 ^ k := ⟨_, rfl⟩
          rw [← hsz] at hfm hfl hL hal
          rw [hL] at k5
          have hs1 : 1 ≤ szN := by have := two_pos k; omega
          have hs2 : szN ≤ 256 := by have := Nat.pow_le_pow_right (by omega : 0 < 2) hk8; omega
          have hfn : f + szN ≤ n := by have := HAP.out.len; omega
          obtain ⟨z, hz⟩ : ∃ z : Int, z = f := ⟨_, rfl⟩
          obtain ⟨sz, hszI⟩ : ∃ sz : Int, sz = szN := ⟨_, rfl⟩
          rw [← hz]
          have hSZ : ∀ W', Calls Try.prog 25 #[.int .i64 k] W' fun e w' => e = .returned (.int .i64 sz) ∧ W' = w' := fun W' => by
            have := size_any hk8 W'
            rw [← hsz, ← hszI] at this
            exact this
          have HSZ := Lib.hid hSZ
          have z0 : 0 ≤ z := by omega
          have hzm : z % sz = 0 := by rw [hz, hszI]; exact_mod_cast hfm
          have hzt : z.tmod sz = 0 := by rw [Int.tmod_eq_emod_of_nonneg z0]; exact hzm
          have hsz0 : ¬ sz = 0 := by omega
          have zlt : ¬ z < 0 := by omega
          have iwd : IntKind.i64.wrap ((n : Int) - z) = n - z := IntWalk.i64_in _ (by omega)
          have hng : ¬ ((n : Int) - z < sz) := by omega
          have HK := Lib.hid k5
          have HB5 := Lib.hid (HBW.out.trans ht5.below)
          have HAL := Lib.hid hal
          have HZ := Lib.hid (And.intro hz hszI)
          clear k5 ht5 hE hL hV hct hfm hfl hal hSZ hz hszI hsz
          go_wp2_with (first | (go_at_call 25; refine (HSZ.out _).mono ?_; rintro e w' ⟨rfl, rfl⟩))
          clear hzm hzt iwd hng hk hkt
          go_loopw [13] (fun i wr => ∃ p : Nat, i = .int .i64 p ∧ p ≤ szN ∧ Ap w.heap.size wr w.heap.size n b (setR F f szN false) (setR M f p true) ∧ Below w.heap.size w wr) (fun i _ => szN - (intOf i).toNat)
          case atStart => exact ⟨0, rfl, by omega, HK.out, HB5.out⟩
          case round =>
            clear HK HB5
            obtain ⟨p, rfl, hp, hap, hbw⟩ := hrel
            by_cases hps : (p : Int) < sz
            · have hpN : p < szN := by have := HZ.out; omega
              obtain ⟨u, hu⟩ : ∃ u : Nat, u = f + p := ⟨_, rfl⟩
              have iwp : IntKind.i64.wrap (z + (p : Int)) = (u : Int) := by
                have := HZ.out
                rw [IntWalk.i64_in _ (by omega)]; omega
              have hu1 : u < 1024 := by omega
              have huI : (u : Int) < 1024 := by omega
              have hMu : (setR M f p true)[u]? = some false := by
                rw [setR_get _ _ _ _ (by have := HAP.out.ml; omega), if_neg (by omega)]
                have h1 := HME.out u
                have h2 := HAL.out u (by omega) (by omega)
                have h3 : u < M.length := by have := HAP.out.ml; omega
                rw [List.getElem?_eq_getElem h3] at h1 ⊢
                cases hv : M[u] with
                | false => rfl
                | true => rw [hv] at h1; exact absurd h2 (h1 rfl)
              have hFu : hasB (setR F f szN false) u = false := hasB_at (by rw [setR_get _ _ _ _ (by have := HAP.out.len; omega), if_pos (by omega)])
              have hcu := hap.at_ hMu
              have hset : (setR M f p true).set u true = setR M f (p + 1) true := by rw [hu]; rfl
              have HP := Lib.hid hap
              have HBW2 := Lib.hid hbw
              have HFU := Lib.hid hFu
              have HSE := Lib.hid hset
              have HMU := Lib.hid hMu
              clear hap hbw hMu hFu hset hu
              go_wp2_with (first | (go_at_call 25; refine (HSZ.out _).mono ?_; rintro e w' ⟨rfl, rfl⟩))
              refine (HP.out.has_ u (by omega) (by omega)).mono ?_
              rintro e w6 ⟨rfl, hb6⟩
              rw [HFU.out]
              have k6 := HP.out.call hb6
              have hc6 := k6.at_ HMU.out
              have hf6 := k6.met.frozen u
              have hl6 := k6.met.lt
              have K7 : Hid (Ap w.heap.size (w6.setCell ⟨b, u, none⟩ (.bool true)) w.heap.size n b (setR F f szN false) (setR M f (p + 1) true)) := by
                have := k6.set_ u
                rw [HSE.out] at this
                exact this
              have HB7 := Lib.hid ((HBW2.out.trans (hb6.mono HBW2.out.size)).setCell (p := ⟨b, u, none⟩) k6.lb (.bool true))
              clear hb6 hcu k6
              go_wp2
              go_roundw
              case rel => exact ⟨p + 1, by go_num, by omega, K7.out, HB7.out⟩
              case measure => simp [intOf]; omega
            · have hpz : p = szN := by have := HZ.out; omega
              subst hpz
              have HP := Lib.hid hap
              have HBW2 := Lib.hid hbw
              clear hap hbw
              go_wp2_with (first | (go_at_call 25; refine (HSZ.out _).mono ?_; rintro e w' ⟨rfl, rfl⟩))
              go_roundw
              case rel => exact ⟨j + 1, _, _, by omega, by go_num, HP.out, HME.out.taken (by have := HAP.out.len; omega) (by have := HAP.out.ml; omega), HBW2.out⟩
              case measure => simp [intOf]; omega
        · rw [hE]
          rw [hL] at k5
          have HK := Lib.hid k5
          have HB5 := Lib.hid (HBW.out.trans ht5.below)
          clear k5 ht5 hE hL hct
          go_wp2
          go_roundw
          case rel => exact ⟨j + 1, F, M, by omega, by go_num, HK.out, HME.out, HB5.out⟩
          case measure => simp [intOf]; omega
      · by_cases hlt : j < m
        case' pos => have hlim : 300 ≤ j := by omega
        all_goals
          clear hboth
          go_wp2
          go_ret
          exact ⟨rfl, HBW.out⟩
end Go.Proofs.Ytgkjkjpeolhgbaa
