/- Package memory: Block, where nothing is taken. -/
import Derived.Test.YtklhcgekagimkaaGreatMg37
import Derived.Deep.RegionHeld3
namespace Go.Proofs.YtklhcgekagimkaaGreat
open Go.RowKit
section
variable {X : Nat → Prop} {w w' : World} {B n mk : Nat} {p : Pn} {M : Me}
set_option maxHeartbeats 4000000 in
set_option maxRecDepth 100000 in
theorem block_none (h : PmX B w p X n mk M) (ok : MeOk n M) (hk : mk ≤ n) {k c : Nat} (k8 : k ≤ 8) (c2 : c ≤ 2) {x : Int} (hx : isU x = true) (hc : ¬ (spN M mk : Nat) < 2 ^ k) {E V : Int} (hE : E ≠ 0) (he : ktE M.F M.S k c = E ∧ ktV M.F M.S k c = V ∧ ktF M.F M.S k c = M.F ∧ ktS M.F M.S k c = M.S) : Calls Tryz.prog 32 #[.pointer (some ⟨p.m, 0, none⟩), .int .i64 k, .int .i64 c, .int .i64 x] w fun e w' => e = .returned (.tuple #[.int .i64 0, .int .i64 E]) ∧ PDid B p X n mk M w w' := by
  have hu := isUse_any x w
  rw [hx] at hu
  have hS := spare_m (h.drewN 1) hk
  obtain ⟨s, hs⟩ : ∃ s, s = spN M mk := ⟨_, rfl⟩
  rw [← hs] at hS
  have s1 : s ≤ 1024 := by rw [hs]; have := spN_le M mk ok.kin; have := ok.f; have := ok.hi; omega
  obtain ⟨K, hK⟩ : ∃ K : Nat, K = 2 ^ k := ⟨_, rfl⟩
  have K2 : K ≤ 256 := by rw [hK]; exact Nat.pow_le_pow_right (by omega : 0 < 2) k8
  have hsv : Value.int .i64 (wrap64 (2 ^ k)) = Value.int .i64 (K : Int) := by rw [two_zpow, ← hK]; congr 1; unfold wrap64; omega
  have hsv2 : IntKind.i64.wrap (2 ^ k) = (K : Int) := by rw [two_zpow, ← hK]; exact IntWalk.i64_in _ (by omega)
  have t1 : ¬ (k : Int) < 0 := by omega
  have t2 : ¬ (8 : Int) < k := by omega
  have t3 : ¬ (c : Int) < 0 := by omega
  have t4 : ¬ (2 : Int) < c := by omega
  rw [← hs, ← hK] at hc
  have hlt : ¬ (s : Int) < (K : Int) := by omega
  have H := Lib.hid (And.intro h (And.intro ok he))
  have HE := Lib.hid hE
  clear h ok hx hs hK k8 c2 hc he hE
  go_enter Tryz.func32, Tryz.ntmps32
  go_wp2_with (go_at_call 65; (with_reducible refine hu.mono ?_); rintro e w1 ⟨rfl, rfl⟩)
  go_region_held3 (fun _ => True) (first | exact trivial) (first | (go_at_call 18; refine hS.mono ?_; rintro e wv ⟨rfl, hb5⟩))
  have HB5 : Hid (Below w.heap.size w wv) := (below_dN (Below.refl _ _) 1).trans hb5
  clear hb5 hS hu
  go_wp2_with fail
  have hB5 : Below w.heap.size w (wv.drewN 1) := below_dN HB5.out 1
  have hG := giver_any p.m k x (wv.drewN 1)
  have hR := boxed_rows (wv.drewN 1) p.m k x
  obtain ⟨h7, hN, hB7⟩ := boxes_out H.out.1 (wv.drewN 1) hB5 p.m k x
  have S0 : (wv.drewN 1).cell? ⟨p.m, 1, none⟩ = some (.pointer (some ⟨p.k, 0, none⟩)) := (H.out.1.call hB5).c1
  have S1 := h7.c1
  obtain ⟨b, hbb⟩ : ∃ b, b = (wv.drewN 1).heap.size := ⟨_, rfl⟩
  rw [← hbb] at hG hR hN
  clear hbb
  generalize boxed (wv.drewN 1) p.m k x = W7 at *
  have hT := nTake h7.kin k c
  rw [H.out.2.2.1, H.out.2.2.2.1, H.out.2.2.2.2.1, H.out.2.2.2.2.2] at hT
  go_region_held3 (fun v => v.cell? ⟨p.m, 1, none⟩ = some (.pointer (some ⟨p.k, 0, none⟩)))
    (first | exact S0 | exact S1 | exact hA8.1 | exact hd9.c1)
    (first | (go_at_call 66; refine hG.mono ?_; rintro e w7 ⟨rfl, rfl⟩) | (go_at_call 67; refine hT.mono ?_; rintro e w8 ⟨rfl, X8, hK8, hf8, hx8⟩; have hA8 := after_none h7 HE.out V b (b + 1) (b + 1 + 1) hK8 hf8 hx8) | (go_at_call 88; refine hA8.2.mono ?_; rintro e w9 ⟨rfl, hd9⟩))
  all_goals
    have HD := Lib.hid (PDid.first hB7 hd9)
    go_wp2_with fail
    go_ret2
    exact ⟨rfl, HD.out⟩
end
end Go.Proofs.YtklhcgekagimkaaGreat
/- Package memory: Block, One. -/
namespace Go.Proofs.YtklhcgekagimkaaGreat
open Go.RowKit
section
variable {X : Nat → Prop} {w w' : World} {B n mk : Nat} {p : Pn} {M : Me}
set_option maxHeartbeats 4000000 in
set_option maxRecDepth 100000 in
theorem block_ok (h : PmX B w p X n mk M) (ok : MeOk n M) (hk : mk ≤ n) {k c : Nat} (k8 : k ≤ 8) (c2 : c ≤ 2) {x : Int} (hx : isU x = true) (hc : ¬ (spN M mk : Nat) < 2 ^ k) {f : Nat} {F' : List Bool} {S' : List Nat} (hr : f + 2 ^ k ≤ n) (hq : Alq M.F f (2 ^ k) true) (he : ktE M.F M.S k c = 0 ∧ ktV M.F M.S k c = f ∧ ktF M.F M.S k c = F' ∧ ktS M.F M.S k c = S') : Calls Tryz.prog 32 #[.pointer (some ⟨p.m, 0, none⟩), .int .i64 k, .int .i64 c, .int .i64 x] w fun e w' => e = .returned (.tuple #[.int .i64 f, .int .i64 0]) ∧ PDid B p X n mk (gvM M F' S' f k x) w w' := by
  have hu := isUse_any x w
  rw [hx] at hu
  have hS := spare_m (h.drewN 1) hk
  obtain ⟨s, hs⟩ : ∃ s, s = spN M mk := ⟨_, rfl⟩
  rw [← hs] at hS
  have s1 : s ≤ 1024 := by rw [hs]; have := spN_le M mk ok.kin; have := ok.f; have := ok.hi; omega
  obtain ⟨K, hK⟩ : ∃ K : Nat, K = 2 ^ k := ⟨_, rfl⟩
  have K2 : K ≤ 256 := by rw [hK]; exact Nat.pow_le_pow_right (by omega : 0 < 2) k8
  have hsv : Value.int .i64 (wrap64 (2 ^ k)) = Value.int .i64 (K : Int) := by rw [two_zpow, ← hK]; congr 1; unfold wrap64; omega
  have hsv2 : IntKind.i64.wrap (2 ^ k) = (K : Int) := by rw [two_zpow, ← hK]; exact IntWalk.i64_in _ (by omega)
  have t1 : ¬ (k : Int) < 0 := by omega
  have t2 : ¬ (8 : Int) < k := by omega
  have t3 : ¬ (c : Int) < 0 := by omega
  have t4 : ¬ (2 : Int) < c := by omega
  rw [← hs, ← hK] at hc
  have hlt : ¬ (s : Int) < (K : Int) := by omega
  have H := Lib.hid (And.intro h (And.intro ok he))
  have HQ := Lib.hid (And.intro k8 (And.intro hr (And.intro hq hx)))
  clear h ok hx hs hK k8 c2 hc he hr hq
  go_enter Tryz.func32, Tryz.ntmps32
  go_wp2_with (go_at_call 65; (with_reducible refine hu.mono ?_); rintro e w1 ⟨rfl, rfl⟩)
  go_region_held3 (fun _ => True) (first | exact trivial) (first | (go_at_call 18; refine hS.mono ?_; rintro e wv ⟨rfl, hb5⟩))
  have HB5 : Hid (Below w.heap.size w wv) := (below_dN (Below.refl _ _) 1).trans hb5
  clear hb5 hS hu
  go_wp2_with fail
  have hB5 : Below w.heap.size w (wv.drewN 1) := below_dN HB5.out 1
  have hG := giver_any p.m k x (wv.drewN 1)
  have hR := boxed_rows (wv.drewN 1) p.m k x
  obtain ⟨h7, hN, hB7⟩ := boxes_out H.out.1 (wv.drewN 1) hB5 p.m k x
  have S0 : (wv.drewN 1).cell? ⟨p.m, 1, none⟩ = some (.pointer (some ⟨p.k, 0, none⟩)) := (H.out.1.call hB5).c1
  have S1 := h7.c1
  obtain ⟨b, hbb⟩ : ∃ b, b = (wv.drewN 1).heap.size := ⟨_, rfl⟩
  rw [← hbb] at hG hR hN
  clear hbb
  generalize boxed (wv.drewN 1) p.m k x = W7 at *
  have hT := nTake h7.kin k c
  rw [H.out.2.2.1, H.out.2.2.2.1, H.out.2.2.2.2.1, H.out.2.2.2.2.2] at hT
  go_region_held3 (fun v => v.cell? ⟨p.m, 1, none⟩ = some (.pointer (some ⟨p.k, 0, none⟩)))
    (first | exact S0 | exact S1 | exact hA8.1 | exact hd9.c1)
    (first | (go_at_call 66; refine hG.mono ?_; rintro e w7 ⟨rfl, rfl⟩) | (go_at_call 67; refine hT.mono ?_; rintro e w8 ⟨rfl, X8, hK8, hf8, hx8⟩; have hA8 := after_take h7 H.out.2.1 HQ.out.1 HQ.out.2.1 HQ.out.2.2.1 HQ.out.2.2.2 hR hN hK8 hf8 hx8) | (go_at_call 88; refine hA8.2.mono ?_; rintro e w9 ⟨rfl, hd9⟩))
  all_goals
    have HD := Lib.hid (PDid.first hB7 hd9)
    go_wp2_with fail
    go_ret2
    exact ⟨rfl, HD.out⟩
theorem block_m (h : PmX B w p X n mk M) (ok : MeOk n M) (hk : mk ≤ n) (o kd x : Int) : Calls Tryz.prog 32 #[.pointer (some ⟨p.m, 0, none⟩), .int .i64 o, .int .i64 kd, .int .i64 x] w fun e w' => e = .returned (.tuple #[.int .i64 (blV M mk o kd x), .int .i64 (blE M mk o kd x)]) ∧ PDid B p X n mk (blM M mk o kd x) w w' := by
  by_cases hb : okB o kd = false ∨ isU x = false
  · have he : blE M mk o kd x = 2 := by unfold blE; rw [if_pos hb]
    have hv : blV M mk o kd x = 0 := by unfold blV; rw [he, if_neg (by decide)]
    have hm : blM M mk o kd x = M := by unfold blM; rw [he, if_neg (by decide)]
    rw [he, hv, hm]
    refine (block_bad p w hb).mono ?_
    rintro e w' ⟨rfl, rfl⟩
    exact ⟨rfl, PDid.same h (Below.refl _ _)⟩
  · have hx : isU x = true := by cases c : isU x; exact absurd (Or.inr c) hb; rfl
    have ho : okB o kd = true := by cases c : okB o kd; exact absurd (Or.inl c) hb; rfl
    have ho' := of_decide_eq_true ho
    obtain ⟨k, rfl⟩ : ∃ k : Nat, o = k := ⟨o.toNat, by omega⟩
    obtain ⟨c, rfl⟩ : ∃ c : Nat, kd = c := ⟨kd.toNat, by omega⟩
    by_cases hc : spN M mk < 2 ^ k
    · have he : blE M mk k c x = 8 := by unfold blE; rw [if_neg hb, Int.toNat_natCast, if_pos (by omega)]
      have hv : blV M mk k c x = 0 := by unfold blV; rw [he, if_neg (by decide)]
      have hm : blM M mk k c x = M := by unfold blM; rw [he, if_neg (by decide)]
      rw [he, hv, hm]
      refine (block_few h ok hk (by omega) (by omega) hx hc).mono ?_
      rintro e w' ⟨rfl, hb⟩
      exact ⟨rfl, PDid.same h hb⟩
    · have he : blE M mk k c x = ktE M.F M.S k c := by unfold blE; rw [if_neg hb, Int.toNat_natCast, if_neg (by omega)]
      by_cases hE : ktE M.F M.S k c = 0
      · obtain ⟨k', f, c', q1, q2, q3, q4, hv, hr, hq, hF⟩ := kt_ok hE
        obtain rfl : k = k' := by omega
        obtain rfl : c = c' := by omega
        have hv2 : blV M mk k c x = f := by unfold blV; rw [he, if_pos hE, hv]
        have hm : blM M mk k c x = gvM M (ktF M.F M.S k c) (ktS M.F M.S k c) f k x := by unfold blM; rw [he, if_pos hE, hv, Int.toNat_natCast, Int.toNat_natCast]
        rw [he, hE, hv2, hm]
        exact block_ok h ok hk q3 q4 hx hc (by rw [← ok.f]; exact hr) hq.2 ⟨hE, hv, rfl, rfl⟩
      · obtain ⟨n1, n2, n3⟩ := kt_no hE
        have hv2 : blV M mk k c x = 0 := by unfold blV; rw [he, if_neg hE]
        have hm : blM M mk k c x = M := by unfold blM; rw [he, if_neg hE]
        rw [he, hv2, hm]
        exact block_none h ok hk (by omega) (by omega) hx hc hE ⟨rfl, n1, n2, n3⟩
theorem one_m (h : PmX B w p X n mk M) (ok : MeOk n M) (hk : mk ≤ n) (kd x : Int) : Calls Tryz.prog 29 #[.pointer (some ⟨p.m, 0, none⟩), .int .i64 kd, .int .i64 x] w fun e w' => e = .returned (.tuple #[.int .i64 (blV M mk 0 kd x), .int .i64 (blE M mk 0 kd x)]) ∧ PDid B p X n mk (blM M mk 0 kd x) w w' := by
  have hI := block_m h ok hk 0 kd x
  generalize blV M mk 0 kd x = V at *
  generalize blE M mk 0 kd x = E at *
  generalize blM M mk 0 kd x = M' at *
  clear h ok
  go_enter Tryz.func29, Tryz.ntmps29
  go_wp2_with fail
  refine hI.mono ?_
  rintro e w1 ⟨rfl, hd⟩
  have HD := Lib.hid hd
  clear hI hd
  go_wp2_with fail
  go_ret2
  exact ⟨rfl, HD.out⟩
end
end Go.Proofs.YtklhcgekagimkaaGreat
