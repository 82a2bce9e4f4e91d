/- Plain facts of package table: Merge behind Split: no program. -/
import Derived.Test.YtpcpcgbejinlmaaMk27
import Derived.Test.YtpcpcgbejinlmaaMk18
namespace Go.Proofs.Ytpcpcgbejinlmaa
open Go.RowKit
section
variable {ws ws' L L' R : List Int} {p r q u o f y x : Int} {i v : Nat}
theorem dn8 (p : Int) : dnI p 3 = p - p % 8 := by
  unfold dnI
  rw [if_pos (by decide)]
  rfl
theorem mrE_zero {a : Int} : ∀ (n i : Nat), (∀ k : Nat, i ≤ k → k < i + n → (fol ws r (a + (k : Int))).er = 0 ∧ (fol ws r (a + (k : Int))).lv = 0) → mrE ws r a n i = 0
  | 0, _, _ => rfl
  | n + 1, i, h => by
    obtain ⟨h1, h2⟩ := h i (Nat.le_refl _) (by omega)
    unfold mrE
    rw [if_pos h1, if_pos h2]
    exact mrE_zero n (i + 1) fun k a b => h k (by omega) (by omega)
theorem merge_none (hr : r ∈ R) (hp : 0 ≤ p ∧ p ≤ 4095) (h : ∀ o, 0 ≤ o ∧ o ≤ 4095 → o / 8 ^ (1 + 1) = p / 8 ^ (1 + 1) → ∃ x, Ends ws r o 1 x) : meE ws R r p = 6 := by
  have e8 : (8 : Int) ^ (1 + 1) = 64 := rfl
  rw [e8] at h
  have ha := dn8 p
  obtain ⟨x, ts, s, e⟩ := h (dnI p 3 + ((0 : Nat) : Int)) (by rw [ha]; omega) (by rw [ha]; omega)
  have hm : mrE ws r (dnI p 3) 8 0 = 6 := by
    unfold mrE
    rw [if_pos (by rw [e]), if_neg (by rw [e]; exact Nat.one_ne_zero)]
  unfold meE rtE
  rw [if_pos hr, hm]
  rfl
theorem merge_back (hI : Inv ws L r q) (hr : r ∈ R) (hp : 0 ≤ p ∧ p ≤ 4095) (hx : say 512 ((0 + 1 : Nat) : Int) x = 3)
    (h : ∀ o, 0 ≤ o ∧ o ≤ 4095 → o / 8 ^ (0 + 1) = p / 8 ^ (0 + 1) → ∃ j : Nat, j < 8 ∧ dg o 0 = (j : Int) ∧ Ends ws r o 0 (partW x 0 j)) :
    meE ws R r p = 0 ∧ (∀ o, o / 8 ≠ p / 8 → fol (meW ws r p) r o = fol ws r o) ∧ ∀ o, 0 ≤ o ∧ o ≤ 4095 → o / 8 = p / 8 → ∃ y, Ends (meW ws r p) r o 1 y ∧ unF y = unF x ∧ unB y 0 = unB x 0 ∧ unB y 1 = unB x 1 ∧ unB y 7 = unB x 7 ∧ unB y 9 = unB x 9 ∧ unB y 5 = unB x 5 ∧ unB y 6 = unB x 6 := by
  have e8 : (8 : Int) ^ (0 + 1) = 8 := rfl
  rw [e8] at h
  have ha := dn8 p
  have hps := fun k (hk : k < 8) => part_says (v := 0) (k := k) (Or.inl rfl) (by decide) hx hk
  obtain ⟨x0, x9, x7, x8, xf0, xf1⟩ := huge_leaf (v := 0) (Or.inl rfl) hx
  have hk : ∀ k : Nat, k < 8 → ∃ ts s, fol ws r (dnI p 3 + (k : Int)) = ⟨0, 0, partW x 0 k, ts, s⟩ := fun k hk => by
    obtain ⟨j, hj, hd, ts, s, e⟩ := h (dnI p 3 + (k : Int)) (by rw [ha]; omega) (by rw [ha]; omega)
    have : j = k := by
      unfold dg at hd
      have e1 : (8 : Int) ^ 0 = 1 := rfl
      rw [e1, ha] at hd
      omega
    subst this
    exact ⟨ts, s, e⟩
  have hm : mrE ws r (dnI p 3) 8 0 = 0 := mrE_zero 8 0 fun k _ h2 => by
    obtain ⟨ts, s, e⟩ := hk k (by omega)
    rw [e]; exact ⟨rfl, rfl⟩
  have hE : ∀ k : Nat, k < 8 → mrG ws r (dnI p 3) k = ⟨unF x + k * 8 ^ 0, true, unB x 1, false, false, unB x 5, unB x 6⟩ := fun k hk8 => by
    obtain ⟨ts, s, e⟩ := hk k hk8
    obtain ⟨-, -, p3, p4, p5, p6, p7, p8, p9⟩ := hps k hk8
    unfold mrG enOf
    rw [e]
    show (⟨unF (partW x 0 k), unB (partW x 0 k) 0, unB (partW x 0 k) 1, unB (partW x 0 k) 7, unB (partW x 0 k) 9, unB (partW x 0 k) 5, unB (partW x 0 k) 6⟩ : En) = _
    rw [p3, p4, p5, p6, p7, p8, p9]
    rfl
  have hE0 := hE 0 (by omega)
  have hok : mgOk (mrG ws r (dnI p 3)) = true := by
    unfold mgOk
    rw [Bool.and_eq_true, List.all_eq_true]
    refine ⟨?_, fun k hk8 => ?_⟩
    · rw [hE0]
      unfold evB
      rw [Bool.and_eq_true]
      refine ⟨by decide, decide_eq_true ?_⟩
      have e1 : (2 : Int) ^ (3 : Int).toNat = 8 := rfl
      have e2 : (8 : Int) ^ (0 + 1) = 8 := rfl
      rw [e1]
      rw [e2] at x8
      show (unF x + ((0 : Nat) : Int) * 8 ^ 0) % 8 = 0
      simp
      exact x8
    · rw [hE k (List.mem_range.1 hk8), hE0]
      simp
  have hme : meE ws R r p = 0 := by
    unfold meE rtE
    rw [if_pos hr, if_pos rfl, if_pos hm, if_pos hok]
  -- the word that comes back
  have k7 := hk 7 (by omega)
  have e7 : (fol ws r (dnI p 3 + 7)).er = 0 ∧ (fol ws r (dnI p 3 + 7)).lv = 0 := by
    obtain ⟨ts, s, e⟩ := k7
    rw [show dnI p 3 + 7 = dnI p 3 + ((7 : Nat) : Int) from rfl, e]
    exact ⟨rfl, rfl⟩
  obtain ⟨g2, f2, f1, n2, e4, e5⟩ := fol_end e7.1
  rw [e7.2] at f2
  obtain ⟨g1, -⟩ := fol_wk (ws := ws) (r := r) (p := dnI p 3 + 7) (by rw [e7.1]; decide)
  have h2 : (wk ws (dnI p 3 + 7) 3 r).ts[2]? = some ((fol ws r (dnI p 3 + 7)).ts.getD 2 0) := by
    rw [g1, List.getD_eq_getElem?_getD, List.getElem?_eq_getElem (by rw [← g1]; omega)]; rfl
  obtain ⟨m1, m2⟩ := nod_ts 3 r (by rw [← g1, e7.1]; decide) _ _ h2
  have hc : enC (mrN (mrG ws r (dnI p 3))) = 0 := by
    show chkI (mrG ws r (dnI p 3) 0).f true (mrG ws r (dnI p 3) 0).w true false (anU (mrG ws r (dnI p 3)) 8) (anD (mrG ws r (dnI p 3)) 8) = 0
    have ef : (mrG ws r (dnI p 3) 0).f = unF x := by rw [hE0]; show unF x + ((0 : Nat) : Int) * 8 ^ 0 = unF x; simp
    rw [ef]
    unfold chkI
    rw [if_neg (by omega), if_neg (by omega)]; rfl
  have hu : anU (mrG ws r (dnI p 3)) 8 = unB x 5 := by
    unfold anU
    rw [show (List.range 8).any (fun k => (mrG ws r (dnI p 3) k).u) = (List.range 8).any (fun _ => unB x 5) from by
      rw [Bool.eq_iff_iff, List.any_eq_true, List.any_eq_true]
      constructor
      · rintro ⟨k, a, b⟩; exact ⟨k, a, by rw [hE k (List.mem_range.1 a)] at b; exact b⟩
      · rintro ⟨k, a, b⟩; exact ⟨k, a, by rw [hE k (List.mem_range.1 a)]; exact b⟩]
    cases unB x 5 <;> decide
  have hd : anD (mrG ws r (dnI p 3)) 8 = unB x 6 := by
    unfold anD
    rw [show (List.range 8).any (fun k => (mrG ws r (dnI p 3) k).d) = (List.range 8).any (fun _ => unB x 6) from by
      rw [Bool.eq_iff_iff, List.any_eq_true, List.any_eq_true]
      constructor
      · rintro ⟨k, a, b⟩; exact ⟨k, a, by rw [hE k (List.mem_range.1 a)] at b; exact b⟩
      · rintro ⟨k, a, b⟩; exact ⟨k, a, by rw [hE k (List.mem_range.1 a)]; exact b⟩]
    cases unB x 6 <;> decide
  have hN : mrN (mrG ws r (dnI p 3)) = ⟨unF x, true, unB x 1, true, false, unB x 5, unB x 6⟩ := by
    unfold mrN
    rw [hu, hd, hE0]
    show (⟨unF x + ((0 : Nat) : Int) * 8 ^ 0, true, unB x 1, true, false, unB x 5, unB x 6⟩ : En) = _
    simp
  rw [hN] at hc
  have hV : enV (mrN (mrG ws r (dnI p 3))) = wordI (unF x) true (unB x 1) true false (unB x 5) (unB x 6) := by
    rw [hN]
    unfold enV packI
    rw [if_pos (show chkI (unF x) true (unB x 1) true false (unB x 5) (unB x 6) = 0 from hc)]
  obtain ⟨s0, s1, s2, s3, s4, s5, s6, s7⟩ := word_says (unF x) true (unB x 1) true false (unB x 5) (unB x 6) hc
  have e2 : (8 : Int) ^ (0 + 1) = 8 := rfl
  rw [e2] at x8 xf1
  have hsay : say (FF ws) ((1 : Nat) : Int) (wordI (unF x) true (unB x 1) true false (unB x 5) (unB x 6)) = 3 := by
    rw [hI.ff]
    refine say_leaf_of s0 (fun e => by rw [s5] at e; cases e) (fun _ => by omega) ?_ ?_ ?_ (Or.inr s4)
    · rw [s1, s2]; simp [noB]
    · rw [s1, s4]
      unfold evB od
      rw [Bool.and_eq_true]
      refine ⟨by decide, decide_eq_true ?_⟩
      show unF x % 2 ^ (((1 : Nat) : Int) * 3).toNat = 0
      have e3 : (2 : Int) ^ (((1 : Nat) : Int) * 3).toNat = 8 := rfl
      rw [e3]; exact x8
    · rw [s1, s4]
      unfold od
      rw [if_pos rfl]
      have e3 : (2 : Int) ^ (((1 : Nat) : Int) * 3).toNat = 8 := rfl
      rw [e3]; omega
  unfold meW
  rw [hV, show enC (mrN (mrG ws r (dnI p 3))) = 0 by rw [hN]; exact hc]
  generalize (fol ws r (dnI p 3 + 7)).ts.getD 2 0 = t at *
  obtain ⟨i, hi, hi8⟩ := dg_nat (dnI p 3 + 7) 1
  have m2 : nod ws (dnI p 3 + 7) 3 r 1 = some t := m2
  have ht := (nod_mem 3 r _ _ m2).2
  have ho := wd_put (v := wordI (unF x) true (unB x 1) true false (unB x 5) (unB x 6)) (hI.inT ht hi8)
  have hp7 : 0 ≤ dnI p 3 + 7 ∧ dnI p 3 + 7 ≤ 4095 := by rw [ha]; omega
  have e1 : (8 : Int) ^ 1 = 8 := rfl
  have hq8 : (dnI p 3 + 7) / 8 = p / 8 := by rw [ha]; omega
  rw [hi]
  refine ⟨hme, fun o hne => one_off hI ho m2 hi hp7 (by rw [e1, hq8]; exact hne), fun o hc' heq => ⟨_, one_leaf hI ho m2 hi hc' (by rw [e1, hq8]; exact heq) hsay, s1, by rw [s2, x0], s3, by rw [s4, x7], by rw [s5, x9], s6, s7⟩⟩
end
end Go.Proofs.Ytpcpcgbejinlmaa
/- The reference of package table: which leaf a page has, told exactly; the facts that it keeps. -/
namespace Go.Proofs.Ytpcpcgbejinlmaa
open Go.RowKit
structure MK (m : Mp) : Prop where
  g0 : 0 ≤ m.g
  g1 : m.g ≤ 4095
  o : m.o = 0 ∨ m.o = 3 ∨ m.o = 6
  even : m.g % szO m.o = 0
structure RfT (w : World) (C x : Nat) (v : Value) (L : List Mp) : Prop where
  top : Row w x 65 [v]
  ms : Ms w C v L
  ok : ∀ m ∈ L, MK m
  len : L.length ≤ 5000
theorem RfT.call {w w' : World} {C x : Nat} {v : Value} {L : List Mp} (h : RfT w C x v L) (hb : Below w.heap.size w w') : RfT w' C x v L := ⟨h.top.below hb h.top.lt, h.ms.call hb, h.ok, h.len⟩
def hoB (m : Mp) (q : Int) : Bool := decide (m.g ≤ q) && decide (q - m.g < szO m.o)
def hoF (L : List Mp) (q : Int) : Int := match L.findIdx? (fun m => hoB m q) with | some k => (k : Int) | none => -1
section
variable {L : List Mp} {q : Int} {j : Nat}
theorem ho_next (hj : j < L.length) (h : ∀ m ∈ L.take j, hoB m q = false) (k : hoB L[j] q = false) : ∀ m ∈ L.take (j + 1), hoB m q = false := fun m hm => by
  rw [List.take_succ_eq_append_getElem hj, List.mem_append, List.mem_singleton] at hm
  rcases hm with hm | rfl
  · exact h m hm
  · exact k
theorem ho_ret (hj : j < L.length) (h : ∀ m ∈ L.take j, hoB m q = false) (k : hoB L[j] q = true) : Ending.returned (.int .i64 (j : Int)) = .returned (.int .i64 (hoF L q)) := by
  have : L.findIdx? (fun m => hoB m q) = some j := List.findIdx?_eq_some_iff_getElem.2 ⟨hj, k, fun t ht => by
    have := h L[t] (List.mem_take_iff_getElem.2 ⟨t, by omega, rfl⟩)
    simp [this]⟩
  simp only [hoF, this]
theorem ho_none {N : Nat} (hj : N ≤ j) (hN : N = L.length) (h : ∀ m ∈ L.take j, hoB m q = false) : Ending.returned (.int .i64 (-1)) = .returned (.int .i64 (hoF L q)) := by
  have : L.findIdx? (fun m => hoB m q) = none := List.findIdx?_eq_none_iff.2 fun m hm => h m (by rw [List.take_of_length_le (by omega)]; exact hm)
  simp only [hoF, this]
theorem ho_found (L : List Mp) (q : Int) : hoF L q = -1 ∨ ∃ k : Nat, hoF L q = k ∧ ∃ h : k < L.length, hoB L[k] q = true := by
  unfold hoF
  cases e : L.findIdx? (fun m => hoB m q) with
  | none => exact Or.inl rfl
  | some k => exact Or.inr ⟨k, rfl, (List.findIdx?_eq_some_iff_getElem.1 e).1, by simpa using (List.findIdx?_eq_some_iff_getElem.1 e).2.1⟩
end
section
variable {w : World} {C x : Nat} {v : Value} {L : List Mp}
set_option maxHeartbeats 1000000 in
theorem holds_is (h : RfT w C x v L) (q : Int) (q0 : 0 ≤ q) (q1 : q ≤ 5000) : Calls Try.prog 81 #[.pointer (some ⟨x, 0, none⟩), .int .i64 q] w fun e w' => e = .returned (.int .i64 (hoF L q)) ∧ ∃ n, w' = w.drewN n := by
  obtain ⟨A, c, rfl⟩ := h.ms.form
  have hc : w.cell? ⟨x, 0, none⟩ = some (.slice A L.length c) := h.top.cell 0
  have HM := Lib.hid h.ms
  have HO := Lib.hid h.ok
  have HL := Lib.hid h.len
  obtain ⟨N, hN⟩ : ∃ N, N = L.length := ⟨_, rfl⟩
  have HN := Lib.hid hN
  rw [← hN] at hc
  have hn5 : N ≤ 5000 := by rw [hN]; exact h.len
  clear h hN
  go_enter Try.func81, Try.ntmps81
  go_wp2
  go_loopw [5] (fun i wr => ∃ j k : Nat, j ≤ N ∧ i = .int .i64 j ∧ wr = w.drewN k ∧ Hid (∀ m ∈ L.take j, hoB m q = false)) (fun i _ => N - (intOf i).toNat)
  case atStart => exact ⟨0, 0, Nat.zero_le _, rfl, rfl, Lib.hid (fun m hm => by simp at hm)⟩
  case round =>
    obtain ⟨j, k, hj, rfl, rfl, HP⟩ := hrel
    have hcw : (w.drewN k).cell? ⟨x, 0, none⟩ = some (.slice A N c) := hc
    by_cases hlt : j < N
    · obtain ⟨a, rfl, -, -, m0, m1, -⟩ := HM.out.at_ j (by rw [← HN.out]; exact hlt)
      have hok := HO.out (L[j]'(by rw [← HN.out]; exact hlt)) (List.getElem_mem _)
      obtain ⟨g, hg⟩ : ∃ g, g = (L[j]'(by rw [← HN.out]; exact hlt)).g := ⟨_, rfl⟩
      obtain ⟨o, ho⟩ : ∃ o, o = (L[j]'(by rw [← HN.out]; exact hlt)).o := ⟨_, rfl⟩
      have g0 : 0 ≤ g := by rw [hg]; exact hok.g0
      have g1 : g ≤ 4095 := by rw [hg]; exact hok.g1
      rw [← hg] at m0
      rw [← ho] at m1
      have M0 : (w.drewN k).cell? (a.add (j * 9)) = some (.int .i64 g) := m0
      have M1 : (w.drewN k).cell? ⟨(a.add (j * 9)).block, (a.add (j * 9)).off + 1, none⟩ = some (.int .i64 o) := m1
      obtain ⟨w1, ew⟩ : ∃ w1, w1 = w.drewN k := ⟨_, rfl⟩
      have HW := Lib.hid ew
      have hjl : j < L.length := by rw [← HN.out]; exact hlt
      have HB : Hid (hoB (L[j]'hjl) q = (decide (g ≤ q) && decide (q - g < szO o))) := by show _ = _; rw [hg, ho]; rfl
      have HJ := Lib.hid hjl
      rw [← ew] at hcw M0 M1 ⊢
      clear hok hg ho m0 m1 ew hc
      by_cases hle : g ≤ q
      · have hd : decide (g ≤ q) = true := by simpa using hle
        have hwr : IntKind.i64.wrap (q - g) = q - g := IntWalk.i64_in _ (by omega)
        by_cases hin : q - g < szO o
        · have hd2 : decide (q - g < szO o) = true := by simpa using hin
          go_wp2_with fail
          go_quiet ((go_at_call 79; exact Calls.quiet_of_same (size8_q _ _)))
          go_wp2_with fail
          go_ret
          exact ⟨ho_ret HJ.out HP.out (by rw [HB.out, hd, hd2]; rfl), k + nq, by rw [HW.out, drewN_add]⟩
        · have hd2 : decide (q - g < szO o) = false := by simpa using hin
          go_wp2_with fail
          go_quiet ((go_at_call 79; exact Calls.quiet_of_same (size8_q _ _)))
          go_wp2_with fail
          clear hwr
          go_roundw
          case rel => exact ⟨j + 1, k + nq, by omega, by go_num, by rw [HW.out, drewN_add], Lib.hid (ho_next HJ.out HP.out (by rw [HB.out, hd, hd2]; rfl))⟩
          case measure => simp [intOf]; omega
      · have hd : decide (g ≤ q) = false := by simpa using hle
        go_wp2_with fail
        go_quiet ((go_at_call 79; exact Calls.quiet_of_same (size8_q _ _)))
        go_wp2_with fail
        go_roundw
        case rel => exact ⟨j + 1, k + nq, by omega, by go_num, by rw [HW.out, drewN_add], Lib.hid (ho_next HJ.out HP.out (by rw [HB.out, hd]; rfl))⟩
        case measure => simp [intOf]; omega
    · go_wp2
      go_ret
      exact ⟨ho_none (by omega) HN.out HP.out, k, rfl⟩
end
end Go.Proofs.Ytpcpcgbejinlmaa
