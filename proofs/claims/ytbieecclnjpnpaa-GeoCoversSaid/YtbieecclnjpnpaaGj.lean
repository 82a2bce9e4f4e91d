/- The walk of the law GeoCovers. -/
import Derived.Test.YtbieecclnjpnpaaGh
import Derived.Deep.LoopGhost
import Derived.Deep.CutRange
namespace Go.Proofs.Ytbieecclnjpnpaa
open Go.RowKit

/-- The frame and the order of the block at a place. -/
def Fq (L : List (Nat × Nat)) (i : Nat) : Nat := (L.getD i (0, 0)).1
def Kq (L : List (Nat × Nat)) (i : Nat) : Nat := (L.getD i (0, 0)).2
/-- Where the next block should begin. -/
def nxq (L : List (Nat × Nat)) (e i : Nat) : Nat := if i < L.length then Fq L i else e
/-- So many blocks ahead of place i, behind the one there, have the order of the one there. -/
def RunAt (L : List (Nat × Nat)) (i q : Nat) : Prop := (i = 0 → q = 0) ∧ (0 < i → q + 1 ≤ i ∧ ∀ t, t ≤ q → Kq L (i - 1 - t) = Kq L (i - 1))
theorem run_start (L : List (Nat × Nat)) : RunAt L 0 0 := ⟨fun _ => rfl, fun h => absurd h (by omega)⟩
theorem run_zero (L : List (Nat × Nat)) (i : Nat) : RunAt L (i + 1) 0 := ⟨fun h => absurd h (by omega), fun _ => ⟨by omega, fun t ht => by rw [show t = 0 by omega]; rfl⟩⟩
theorem run_more {L : List (Nat × Nat)} {i q : Nat} (hi : 0 < i) (h : RunAt L i q) (hk : Kq L i = Kq L (i - 1)) : RunAt L (i + 1) (q + 1) := by
  refine ⟨fun h => absurd h (by omega), fun _ => ⟨by have := (h.2 hi).1; omega, fun t ht => ?_⟩⟩
  by_cases h0 : t = 0
  · subst h0; rfl
  · have := (h.2 hi).2 (t - 1) (by omega)
    rw [show i + 1 - 1 - t = i - 1 - (t - 1) by omega, this, show i + 1 - 1 = i by omega, hk]
section
variable {x m o : Nat}
theorem get_q (i : Nat) (hi : i < (gr x m o).length) : (gr x m o)[i]? = some (Fq (gr x m o) i, Kq (gr x m o) i) := getD_of _ _ _ hi
theorem nxq_zero (hm : 0 < m) : nxq (gr x m o) (x + m) 0 = x := by
  obtain ⟨k, hk⟩ := gr_head (a := x) (o := o) hm
  have hl : 0 < (gr x m o).length := by
    rcases Nat.eq_zero_or_pos (gr x m o).length with h | h
    · have := gr_nil h; omega
    · exact h
  rw [get_q 0 hl] at hk
  simp only [Option.some.injEq, Prod.mk.injEq] at hk
  unfold nxq
  rw [if_pos hl]
  exact hk.1
theorem nxq_next (i : Nat) (hi : i < (gr x m o).length) : nxq (gr x m o) (x + m) (i + 1) = Fq (gr x m o) i + 2 ^ Kq (gr x m o) i := by
  unfold nxq
  by_cases h : i + 1 < (gr x m o).length
  · rw [if_pos h]; exact gr_next (get_q i hi) (get_q (i + 1) h)
  · rw [if_neg h]; exact (gr_last (get_q i hi) (by omega)).symm
/-- Eight of one order, one behind the other, do not begin where one of the next order could. -/
theorem run_seven {i q : Nat} (hi : i < (gr x m o).length) (h : RunAt (gr x m o) (i + 1) q) (h7 : 7 ≤ q) (ho : o ≤ 8) (hk : Kq (gr x m o) i + 3 ≤ o) : evB (Fq (gr x m o) (i - 7)) ((Kq (gr x m o) i : Int) + 3) = false := by
  obtain ⟨h1, h2⟩ := h.2 (by omega)
  have hK : ∀ t, t ≤ 7 → Kq (gr x m o) (i - t) = Kq (gr x m o) i := fun t ht => by
    have := h2 t (by omega)
    rwa [show i + 1 - 1 - t = i - t by omega, show i + 1 - 1 = i by omega] at this
  have hF : ∀ t, t + 1 ≤ 7 → Fq (gr x m o) (i - 7 + (t + 1)) = Fq (gr x m o) (i - 7 + t) + 2 ^ Kq (gr x m o) i := fun t ht => by
    have := gr_next (get_q (x := x) (m := m) (o := o) (i - 7 + t) (by omega)) (get_q (i - 7 + t + 1) (by omega))
    simp only at this
    rw [← Nat.add_assoc, this]
    rw [show i - 7 + t = i - (7 - t) by omega, hK (7 - t) (by omega)]
  have f0 : Fq (gr x m o) (i - 7 + 1) = Fq (gr x m o) (i - 7) + 2 ^ Kq (gr x m o) i := hF 0 (by omega)
  have f1 := hF 1 (by omega)
  have f2 := hF 2 (by omega)
  have f3 := hF 3 (by omega)
  have f4 := hF 4 (by omega)
  have f5 := hF 5 (by omega)
  have f6 := hF 6 (by omega)
  have hfit := (gr_fits (get_q (x := x) (m := m) (o := o) i hi)).1
  simp only at hfit
  rw [show i - 7 + (6 + 1) = i by omega] at f6
  have hkind := (gr_block (get_q (x := x) (m := m) (o := o) i hi)).1
  simp only at hkind
  rw [show ((Kq (gr x m o) i : Int) + 3) = ((Kq (gr x m o) i + 3 : Nat) : Int) by omega, ev_nat _ _ (by omega), decide_eq_false_iff_not]
  intro he
  have hgreat := gr_great (get_q (x := x) (m := m) (o := o) (i - 7) (by omega)) (by simp only; rw [hK 7 (Nat.le_refl _)]; exact hk) ho (by simp only; rw [hK 7 (Nat.le_refl _)]; exact he)
  simp only at hgreat
  rw [hK 7 (Nat.le_refl _)] at hgreat
  simp only [Nat.reduceAdd] at f1 f2 f3 f4 f5
  omega
end
theorem quiet_same {f : FuncId} {args : Array Value} {w : World} {v : Value} (h : Calls Try.prog f args w fun e w' => e = .returned v ∧ w = w') : Calls Try.prog f args w fun e w' => e = .returned v ∧ w' = w := h.mono fun _ _ ⟨he, hw⟩ => ⟨he, hw.symm⟩

set_option maxHeartbeats 400000 in
theorem covers_none (a n o : Int) (W : World) (al : -9223372036854775808 ≤ a) (ah : a ≤ 9223372036854775807) (nl : -9223372036854775808 ≤ n) (nh : n ≤ 9223372036854775807) (h : ¬ (rtI a n 0 = 0 ∧ ordB o = true)) :
    Calls Try.prog 7 #[.int .i64 a, .int .i64 n, .int .i64 o] W fun e W' => e = .returned (.bool true) ∧ Below W.heap.size W W' := by
  have hc := fun w => cut_any a n o al ah nl nh w
  rw [show cutL a n o = [] from by simp only [cutL, if_neg h]] at hc
  have hr := fun w => refRight_any a n 0 al ah nl nh w
  by_cases h1 : rtI a n 0 = 0
  · rw [h1] at hr
    have h2 : ordB o = false := by
      rcases Bool.eq_false_or_eq_true (ordB o) with h2 | h2
      · exact absurd ⟨h1, h2⟩ h
      · exact h2
    have h3 := ord_not h2
    clear h h1 h2
    by_cases h4 : o < 0
    all_goals
      go_enter Try.func7, Try.ntmps7
      go_wp2_with fail
      refine (hc _).mono ?_
      rintro e w1 ⟨v1, rfl, o1, n1, b1⟩
      obtain rfl : v1 = .slice none 0 0 := n1.2 rfl
      have B1 := Lib.hid b1
      clear o1 n1 b1
      go_wp2_with fail
      refine (awake_any _).mono ?_
      rintro e w2 ⟨rfl, b2⟩
      have B2 := Lib.hid (B1.out.trans (b2.mono B1.out.size))
      clear b2 B1
      go_wp2_with fail
      refine (awake_any _).mono ?_
      rintro e w3 ⟨rfl, b3⟩
      have B3 := Lib.hid (B2.out.trans (b3.mono B2.out.size))
      clear b3 B2
      go_wp2_with (go_at_call 20; refine (hr _).mono ?_; rintro e w' ⟨rfl, rfl⟩)
      go_ret
      exact ⟨ret_bool (by simp; try omega), B3.out⟩
  · have hb : (rtI a n 0 != 0) = true := by simp [h1]
    clear h h1
    go_enter Try.func7, Try.ntmps7
    go_wp2_with fail
    refine (hc _).mono ?_
    rintro e w1 ⟨v1, rfl, o1, n1, b1⟩
    obtain rfl : v1 = .slice none 0 0 := n1.2 rfl
    have B1 := Lib.hid b1
    clear o1 n1 b1
    go_wp2_with fail
    refine (awake_any _).mono ?_
    rintro e w2 ⟨rfl, b2⟩
    have B2 := Lib.hid (B1.out.trans (b2.mono B1.out.size))
    clear b2 B1
    go_wp2_with fail
    refine (awake_any _).mono ?_
    rintro e w3 ⟨rfl, b3⟩
    have B3 := Lib.hid (B2.out.trans (b3.mono B2.out.size))
    clear b3 B2
    go_wp2_with (go_at_call 20; refine (hr _).mono ?_; rintro e w' ⟨rfl, rfl⟩)
    go_ret
    exact ⟨rfl, B3.out⟩

/-- What a place of the cut holds, all that the law asks of it. -/
theorem at_place (x m o i : Nat) (ho : o ≤ 8) (hs : x + m ≤ 4096) (hi : i < (gr x m o).length) :
    (Kq (gr x m o) i = 0 ∨ Kq (gr x m o) i = 3 ∨ Kq (gr x m o) i = 6) ∧ Kq (gr x m o) i ≤ o ∧ evB (Fq (gr x m o) i) (Kq (gr x m o) i) = true ∧ Fq (gr x m o) i + 2 ^ Kq (gr x m o) i ≤ 4096 := by
  have h := gr_block (get_q i hi)
  have g := gr_fits (get_q i hi)
  simp only at h g
  refine ⟨h.1, h.2.1, ?_, by omega⟩
  rw [ev_nat _ _ (by omega)]
  simpa using h.2.2
theorem place_facts (K o s : Nat) (k0 : K = 0 ∨ K = 3 ∨ K = 6) (k1 : K ≤ o) (es : s = 2 ^ K) :
    Value.int .i64 (wrap64 ((2 : Int) ^ K)) = Value.int .i64 (s : Int) ∧ Value.int .i64 ((K : Int).tmod 3) = Value.int .i64 0 ∧ decide ((K : Int) < 0) = false ∧ decide (o < K) = false ∧ decide ((o : Int) < K) = false ∧ K ≤ 6 := by
  have hp := pow_pos8 K (by omega)
  refine ⟨congrArg _ ((IntWalk.wrap64_in _ ⟨by omega, by omega⟩).trans (by rw [es]; simp)), ?_, decide_eq_false (by omega), decide_eq_false (by omega), decide_eq_false (by omega), by omega⟩
  rcases k0 with rfl | rfl | rfl <;> rfl
theorem place_even (F K : Nat) (hF : F ≤ 4096) (h : evB F K = true) (w : World) : Calls Try.prog 18 #[.int .i64 F, .int .i64 K] w fun e w' => e = .returned (.bool true) ∧ w' = w := by
  have he := refEven_any (o := (K : Int)) (F : Int) (by omega) (by omega) w
  rw [h] at he
  exact quiet_same he
theorem place_odd (F K : Nat) (hF : F ≤ 4096) (h : evB F ((K : Int) + 3) = false) (w : World) : Calls Try.prog 18 #[.int .i64 F, .int .i64 ((K : Int) + 3)] w fun e w' => e = .returned (.bool false) ∧ w' = w := by
  have he := refEven_any (o := (K : Int) + 3) (F : Int) (by omega) (by omega) w
  rw [h] at he
  exact quiet_same he
set_option maxRecDepth 100000 in
set_option maxHeartbeats 2000000 in
theorem covers_some (x m o : Nat) (W : World) (h1 : 1 ≤ x) (h2 : 1 ≤ m) (hs : x + m ≤ 4096) (ho : o ≤ 8) (hr0 : rtI x m 0 = 0) :
    Calls Try.prog 7 #[.int .i64 x, .int .i64 m, .int .i64 o] W fun e W' => e = .returned (.bool true) ∧ Below W.heap.size W W' := by
  have hc := fun w => cut_any (x : Int) (m : Int) (o : Int) (by omega) (by omega) (by omega) (by omega) w
  have hL : cutL x m o = gr x m o := by
    have hb : ordB o = true := by simp only [ordB, decide_eq_true_eq]; omega
    simp [cutL, hr0, hb]
  have hlen : (gr x m o).length ≤ 4096 := Nat.le_trans (gr_len m x m o (Nat.le_refl _)) (by omega)
  have hpos : 0 < (gr x m o).length := by
    rcases Nat.eq_zero_or_pos (gr x m o).length with h | h
    · have := gr_nil h; omega
    · exact h
  have HAT := Lib.hid (fun i hi => at_place x m o i ho hs hi)
  have HNX := Lib.hid (fun i hi => nxq_next (x := x) (m := m) (o := o) i hi)
  have HN0 := Lib.hid (nxq_zero (x := x) (o := o) h2)
  have HSV := Lib.hid (fun i q (hi : i < (gr x m o).length) (h : RunAt (gr x m o) (i + 1) q) h7 hk => run_seven hi h h7 ho hk)
  simp only [hL] at hc
  obtain ⟨L, eL⟩ : ∃ L, L = gr x m o := ⟨_, rfl⟩
  simp only [← eL] at hc hlen hpos HAT HNX HN0 HSV
  clear eL hL hr0
  obtain ⟨N, eN⟩ : ∃ N, N = L.length := ⟨_, rfl⟩
  have HE := Lib.hid eN
  rw [← eN] at hlen hpos
  clear eN
  go_enter Try.func7, Try.ntmps7
  go_wp2_with fail
  refine (hc _).mono ?_
  rintro e w1 ⟨v1, rfl, o1, n1, b1⟩
  rw [← HE.out] at o1
  obtain ⟨A1, d1, rfl⟩ := own_slice o1
  have H1 := Lib.hid (BlksAt.own o1).2
  have B1 := Lib.hid b1
  clear o1 n1 b1 hc
  go_wp2_with fail
  refine (awake_any _).mono ?_
  rintro e w2 ⟨rfl, b2⟩
  have H2 := Lib.hid (H1.out.call b2)
  have B2 := Lib.hid (B1.out.trans (b2.mono B1.out.size))
  clear b2 B1 H1
  obtain ⟨g, rfl, _, hcells⟩ := H2.out (by rw [← HE.out]; exact hpos)
  have HC : Hid (∀ k j : Nat, j < N → (w2.drewN k).cell? ⟨g, j * 2, none⟩ = some (.int .i64 (Fq L j)) ∧ (w2.drewN k).cell? ⟨g, j * 2 + 1, none⟩ = some (.int .i64 (Kq L j))) := fun k j hj => hcells j (by rw [← HE.out]; exact hj)
  clear hcells H2
  have hne : ((N : Int) == 0) = false := by simp; omega
  go_wp2_with fail
  go_loopg [8, 9, 10] N (fun gk nx_ q_ i_ wr => ∃ i k q : Nat, i ≤ N ∧ gk = N - i ∧ nx_ = .int .i64 (nxq L (x + m) i : Nat) ∧ q_ = .int .i64 q ∧ i_ = .int .i64 i ∧ wr = w2.drewN k ∧ Hid (RunAt L i q))
  case atStart => exact ⟨0, 0, 0, Nat.zero_le _, rfl, by rw [HN0.out], rfl, rfl, rfl, run_start L⟩
  case round =>
    obtain ⟨i, k, q, hi, hgk, rfl, rfl, rfl, hwr, HR⟩ := hrel
    subst hwr
    have HGK := Lib.hid hgk
    clear hgk
    by_cases hlt : i < N
    · obtain ⟨c0, c1⟩ := HC.out k i hlt
      obtain ⟨k0, k1, k2, k3⟩ := HAT.out i (by rw [← HE.out]; exact hlt)
      have hnx : nxq L (x + m) i = Fq L i := by unfold nxq; rw [if_pos (by rw [← HE.out]; exact hlt)]
      rw [hnx]
      have HX := Lib.hid (HNX.out i (by rw [← HE.out]; exact hlt))
      have hSV := HSV.out i
      obtain ⟨F, eF⟩ : ∃ F, F = Fq L i := ⟨_, rfl⟩
      obtain ⟨K, eK⟩ : ∃ K, K = Kq L i := ⟨_, rfl⟩
      simp only [← eF, ← eK] at c0 c1 k0 k1 k2 k3 HX hSV ⊢
      have HS := Lib.hid hSV
      have hF4 : F ≤ 4096 := Nat.le_trans (Nat.le_add_right _ _) k3
      have HE1 := Lib.hid (fun w => place_even F K hF4 k2 w)
      have HCi : Hid (∀ k, (w2.drewN k).cell? ⟨g, i * 2, none⟩ = some (.int .i64 F) ∧ (w2.drewN k).cell? ⟨g, i * 2 + 1, none⟩ = some (.int .i64 K)) := fun k => by rw [eF, eK]; exact HC.out k i hlt
      obtain ⟨s, es⟩ : ∃ s, s = 2 ^ K := ⟨_, rfl⟩
      obtain ⟨hs1, km, kb0, kb1, kb2, kl⟩ := place_facts K o s k0 k1 es
      rw [← es] at k3 HX
      obtain ⟨w3, ew⟩ : ∃ w3, w3 = w2.drewN k := ⟨_, rfl⟩
      rw [← ew] at c0 c1 ⊢
      have HW := Lib.hid ew
      have KK := Lib.hid k0
      have HEK := Lib.hid eK
      have HS1 := Lib.hid hs1
      clear hnx eF eK es ew k2 k0 hSV hs1
      go_upto_region 9 with (fail)
      go_cut [90] from 38 to 143 (fun s90 wx => s90 = .bool false ∧ ∃ k, wx = w2.drewN k)
      case first =>
        have he := HE1.out
        go_quiet ((go_at_call 18; exact Calls.quiet_of_same (he _)))
        go_wp2_with fail
        go_meet
        exact ⟨rfl, _, by rw [HW.out, drewN_add]⟩
      case rest =>
        obtain ⟨rfl, k4, hk4⟩ := hcut
        obtain ⟨d0, d1⟩ := HCi.out k4
        rw [← hk4] at d0 d1
        have HW4 := Lib.hid hk4
        have hs1 := HS1.out
        clear hk4 c0 c1 kb0 kb1 kb2 km HW HE1
        go_upto_region 12 with (fail)
        clear hs1 d0 d1
        go_cut [114] from 38 to 143 (fun s114 wx => ∃ b : Bool, s114 = .bool b ∧ Hid (b = true → 0 < i ∧ Kq L i = Kq L (i - 1)) ∧ ∃ k, wx = w2.drewN k)
        case first =>
          obtain ⟨d0, d1⟩ := HCi.out k4
          rw [← HW4.out] at d0 d1
          by_cases hi0 : 0 < i
          · have hlt1 : i - 1 < N := by omega
            obtain ⟨e0, e1⟩ := HC.out k4 (i - 1) hlt1
            rw [← HW4.out] at e0 e1
            by_cases hkk : K = Kq L (i - 1)
            · have HB : Hid (0 < i ∧ Kq L i = Kq L (i - 1)) := ⟨hi0, by rw [← HEK.out]; exact hkk⟩
              rw [← hkk] at e1
              clear hkk e0 d0
              have s1 : IntKind.i64.wrap ((i : Int) - 1) = (i : Int) - 1 := IntWalk.i64_in _ (by omega)
              have s2 : 0 ≤ (i : Int) - 1 := by omega
              have s3 : ((i : Int) - 1).toNat = i - 1 := by omega
              have s4 : (i : Int) - 1 < N := by omega
              go_quiet (fail)
              go_wp2_with fail
              go_meet
              exact ⟨true, rfl, fun _ => HB.out, _, by rw [HW4.out, drewN_add]⟩
            · obtain ⟨K', eK'⟩ : ∃ K', K' = Kq L (i - 1) := ⟨_, rfl⟩
              rw [← eK'] at e1 hkk
              have hb : ((K : Int) == (K' : Int)) = false := by simp; omega
              have hb2 : (K == K') = false := by simpa using hkk
              clear hkk e0 d0 eK'
              have s1 : IntKind.i64.wrap ((i : Int) - 1) = (i : Int) - 1 := IntWalk.i64_in _ (by omega)
              have s2 : 0 ≤ (i : Int) - 1 := by omega
              have s3 : ((i : Int) - 1).toNat = i - 1 := by omega
              have s4 : (i : Int) - 1 < N := by omega
              go_quiet (fail)
              go_wp2_with fail
              go_meet
              exact ⟨false, rfl, fun h => (by cases h), _, by rw [HW4.out, drewN_add]⟩
          · have hi1 : decide (0 < i) = false := decide_eq_false hi0
            have hi2 : decide ((0 : Int) < i) = false := decide_eq_false (by omega)
            clear d0 d1
            go_quiet (fail)
            go_wp2_with fail
            go_meet
            exact ⟨false, rfl, fun h => (by cases h), _, by rw [HW4.out, drewN_add]⟩
        case rest =>
          obtain ⟨b, rfl, HB, k5, hk5⟩ := hcut
          have HW5 := Lib.hid hk5
          have hq4 : q ≤ i := by
            rcases Nat.eq_zero_or_pos i with h | h
            · rw [HR.out.1 h]; omega
            · have := (HR.out.2 h).1; omega
          clear hk5 HW4
          cases b
          · have HR2 := Lib.hid (run_zero L i)
            clear HR HB
            go_upto_region 15 with (fail)
            go_cut [143] from 38 to 143 (fun s143 wx => s143 = .bool false ∧ ∃ k, wx = w2.drewN k)
            case first =>
              obtain ⟨d0, d1⟩ := HCi.out k5
              rw [← HW5.out] at d0 d1
              have s0 : IntKind.i64.wrap ((K : Int) + 3) = (K : Int) + 3 := IntWalk.i64_in _ (by omega)
              by_cases h3 : K + 3 ≤ o
              · have t0 : decide ((K : Int) + 3 ≤ o) = true := decide_eq_true (by omega)
                have t1 : decide (K + 3 ≤ o) = true := decide_eq_true h3
                clear d0
                go_quiet (fail)
                go_wp2_with fail
                go_meet
                exact ⟨rfl, _, by rw [HW5.out, drewN_add]⟩
              · have t0 : decide ((K : Int) + 3 ≤ o) = false := decide_eq_false (by omega)
                have t1 : decide (K + 3 ≤ o) = false := decide_eq_false h3
                clear d0
                go_quiet (fail)
                go_wp2_with fail
                go_meet
                exact ⟨rfl, _, by rw [HW5.out, drewN_add]⟩
            case rest =>
              obtain ⟨rfl, k6, hk6⟩ := hcut
              have HW6 := Lib.hid hk6
              clear hk6 HW5
              go_wp2_with fail
              go_roundg (N - (i + 1))
              case measure => rw [HGK.out]; omega
              case rel => exact ⟨i + 1, k6, 0, by omega, rfl, by rw [HX.out]; go_num, rfl, by go_num, HW6.out, HR2.out⟩
          · have HR2 := Lib.hid (run_more (HB.out rfl).1 HR.out (HB.out rfl).2)
            clear HR HB
            go_upto_region 15 with (fail)
            go_cut [143] from 38 to 143 (fun s143 wx => s143 = .bool false ∧ ∃ k, wx = w2.drewN k)
            case first =>
              obtain ⟨d0, d1⟩ := HCi.out k5
              rw [← HW5.out] at d0 d1
              have s0 : IntKind.i64.wrap ((K : Int) + 3) = (K : Int) + 3 := IntWalk.i64_in _ (by omega)
              by_cases h3 : K + 3 ≤ o
              · have t0 : decide ((K : Int) + 3 ≤ o) = true := decide_eq_true (by omega)
                have t1 : decide (K + 3 ≤ o) = true := decide_eq_true h3
                by_cases h7 : 7 ≤ q + 1
                · have he := HS.out (q + 1) (by rw [← HE.out]; exact hlt) HR2.out h7 h3
                  have hi7 : 7 ≤ i := by have := (HR2.out.2 (by omega)).1; omega
                  have hlt7 : i - 7 < N := by omega
                  obtain ⟨e0, e1⟩ := HC.out k5 (i - 7) hlt7
                  rw [← HW5.out] at e0
                  have h4 := Nat.le_trans (Nat.le_add_right _ _) (HAT.out (i - 7) (by rw [← HE.out]; exact hlt7)).2.2.2
                  obtain ⟨F7, e7⟩ : ∃ F7, F7 = Fq L (i - 7) := ⟨_, rfl⟩
                  rw [← e7] at he e0 h4
                  have ho := fun w => place_odd F7 K h4 he w
                  clear he e1 e7
                  have HO := Lib.hid ho
                  clear ho
                  have s1 : IntKind.i64.wrap ((i : Int) - 7) = (i : Int) - 7 := IntWalk.i64_in _ (by omega)
                  have s2 : 0 ≤ (i : Int) - 7 := by omega
                  have s3 : ((i : Int) - 7).toNat = i - 7 := by omega
                  have s4 : (i : Int) - 7 < N := by omega
                  have u0 : decide ((7 : Int) ≤ (q : Int) + 1) = true := decide_eq_true (by omega)
                  have u1 : decide (7 ≤ q + 1) = true := decide_eq_true h7
                  have ho := HO.out
                  clear d0
                  go_quiet ((go_at_call 18; exact Calls.quiet_of_same (ho _)))
                  go_wp2_with fail
                  go_meet
                  exact ⟨rfl, _, by rw [HW5.out, drewN_add]⟩
                · have u0 : decide ((7 : Int) ≤ (q : Int) + 1) = false := decide_eq_false (by omega)
                  have u1 : decide (7 ≤ q + 1) = false := decide_eq_false h7
                  clear d0
                  go_quiet (fail)
                  go_wp2_with fail
                  go_meet
                  exact ⟨rfl, _, by rw [HW5.out, drewN_add]⟩
              · have t0 : decide ((K : Int) + 3 ≤ o) = false := decide_eq_false (by omega)
                have t1 : decide (K + 3 ≤ o) = false := decide_eq_false h3
                clear d0
                go_quiet (fail)
                go_wp2_with fail
                go_meet
                exact ⟨rfl, _, by rw [HW5.out, drewN_add]⟩
            case rest =>
              obtain ⟨rfl, k6, hk6⟩ := hcut
              have HW6 := Lib.hid hk6
              clear hk6 HW5
              go_wp2_with fail
              go_roundg (N - (i + 1))
              case measure => rw [HGK.out]; omega
              case rel => exact ⟨i + 1, k6, q + 1, by omega, rfl, by rw [HX.out]; go_num, by go_num, by go_num, HW6.out, HR2.out⟩
    · have hN : i = N := by omega
      have hnx : nxq L (x + m) i = x + m := by unfold nxq; rw [if_neg (by rw [← HE.out]; omega)]
      rw [hnx]
      obtain ⟨e, ee⟩ : ∃ e, e = x + m := ⟨_, rfl⟩
      rw [← ee]
      have hfin : ((e : Int) == (x : Int) + m) = true := by simp; omega
      have HB9 : Hid (Below W.heap.size W (w2.drewN k)) := B2.out.trans (below_drewN _ _)
      clear ee hnx hN
      go_wp2_with fail
      go_ret
      exact ⟨rfl, HB9.out⟩
theorem covers_walk (a n o : Int) (W : World) (al : -9223372036854775808 ≤ a) (ah : a ≤ 9223372036854775807) (nl : -9223372036854775808 ≤ n) (nh : n ≤ 9223372036854775807) :
    Calls Try.prog 7 #[.int .i64 a, .int .i64 n, .int .i64 o] W fun e W' => e = .returned (.bool true) ∧ Below W.heap.size W W' := by
  by_cases h : rtI a n 0 = 0 ∧ ordB o = true
  · obtain ⟨a1, n1, an⟩ := rt_ok h.1
    obtain ⟨x, rfl⟩ : ∃ x : Nat, a = x := ⟨a.toNat, by omega⟩
    obtain ⟨m, rfl⟩ : ∃ m : Nat, n = m := ⟨n.toNat, by omega⟩
    obtain ⟨k, rfl, hk⟩ := ord_nat h.2
    exact covers_some x m k W (by omega) (by omega) (by omega) hk h.1
  · exact covers_none a n o W al ah nl nh h
end Go.Proofs.Ytbieecclnjpnpaa
