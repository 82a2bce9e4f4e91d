/- Areas: the program's small functions. -/
import Derived.Test.YtodepfgfgphkbaaV2
import Derived.Test.YtodepfgfgphkbaaW3
import Derived.Test.YtodepfgfgphkbaaGa
namespace Go.Proofs.Ytodepfgfgphkbaa
open Go.RowKit
def arV (x : Ar) : Value := .agg #[.int .i64 x.f, .int .i64 x.t, .int .i64 x.h, .int .i64 x.p, .int .i64 x.o, .int .i64 x.x]
theorem order_is (h : Int) (w : World) : Calls Try.prog 30 #[.int .i64 h] w fun e w' => e = .returned (.int .i64 (ordO h)) ∧ w = w' := by
  unfold ordO
  by_cases h1 : h = 3 ∨ h = 5 ∨ h = 6
  · rw [if_pos h1]
    rcases h1 with rfl | rfl | rfl
    all_goals
      go_enter Try.func30, Try.ntmps30
      go_wp2
      go_ret
      exact ⟨rfl, rfl⟩
  · rw [if_neg h1]
    have k3 : (h == 3) = false := by simpa using (by omega : ¬ h = 3)
    have k5 : (h == 5) = false := by simpa using (by omega : ¬ h = 5)
    have k6 : (h == 6) = false := by simpa using (by omega : ¬ h = 6)
    clear h1
    by_cases h4 : h = 4
    · subst h4
      go_enter Try.func30, Try.ntmps30
      go_wp2
      go_ret
      exact ⟨rfl, rfl⟩
    · rw [if_neg h4]
      have k4 : (h == 4) = false := by simpa using h4
      go_enter Try.func30, Try.ntmps30
      go_wp2
      go_ret
      exact ⟨rfl, rfl⟩
theorem ofObj_is (h : Int) (w : World) : Calls Try.prog 43 #[.int .i64 h] w fun e w' => e = .returned (.bool (decide (shr h))) ∧ w = w' := by
  have H : Hid (decide (shr h) = (h == 2 || h == 5)) := by
    show _ = _
    rw [Bool.eq_iff_iff]; simp only [decide_eq_true_eq, Bool.or_eq_true, beq_iff_eq]; exact Iff.rfl
  go_enter Try.func43, Try.ntmps43
  go_wp2
  all_goals
    go_ret
    exact ⟨ret_bool (by rw [H.out] <;> simp [*]), rfl⟩
theorem isProt_is (p : Int) (w : World) : Calls Try.prog 35 #[.int .i64 p] w fun e w' => e = .returned (.bool (prB p)) ∧ w = w' := by
  have H : Hid (prB p = (p == 0 || p == 1 || p == 3)) := by
    show _ = _
    unfold prB
    rw [Bool.eq_iff_iff]; simp [or_assoc]
  go_enter Try.func35, Try.ntmps35
  go_wp2
  all_goals
    go_ret
    exact ⟨ret_bool (by rw [H.out] <;> simp [*]), rfl⟩
theorem ord_sz (h : Int) : decide (0 < ordO h) = decide (1 < szO h) := by
  unfold ordO szO
  by_cases c : h = 3 ∨ h = 5 ∨ h = 6
  · rw [if_pos c, if_pos c]; rfl
  · rw [if_neg c, if_neg c]
    by_cases d : h = 4
    · rw [if_pos d, if_pos d]; rfl
    · rw [if_neg d, if_neg d]; rfl
set_option maxHeartbeats 1000000 in
theorem mayBe_is (how p o : Int) (w : World) : Calls Try.prog 28 #[.int .i64 how, .int .i64 p, .int .i64 o] w fun e w' => e = .returned (.bool (!mapA how p o)) ∧ w = w' := by
  have hip := fun w => isProt_is p w
  have hor := fun w => order_is how w
  have hof := fun w => ofObj_is how w
  obtain ⟨b, hb⟩ : ∃ b, b = prB p := ⟨_, rfl⟩
  obtain ⟨s, hs⟩ : ∃ s, s = decide (shr how) := ⟨_, rfl⟩
  obtain ⟨k, hk⟩ : ∃ k, k = ordO how := ⟨_, rfl⟩
  have H : Hid (mapA how p o = (decide (how < 1) || decide (6 < how) || !b || (decide (p = 0) && decide (0 < k)) || decide (o < 0) || (decide (0 < o) && !s))) := by
    show _ = _
    unfold mapA
    rw [hb, hs, hk, ord_sz]
  rw [← hb] at hip
  rw [← hs] at hof
  rw [← hk] at hor
  have H0 : Hid (p = 0 → mapA how 0 o = (decide (how < 1) || decide (6 < how) || !b || (decide ((0 : Int) = 0) && decide (0 < k)) || decide (o < 0) || (decide (0 < o) && !s))) := fun e => by
    have := H.out
    rw [e] at this; exact this
  clear hb hs hk
  cases b
  all_goals
    cases s
    all_goals
      go_enter Try.func28, Try.ntmps28
      go_wp2_with (first | (go_at_call 35; (with_reducible refine (hip _).mono ?_); rintro e w1 ⟨rfl, rfl⟩) | (go_at_call 30; (with_reducible refine (hor _).mono ?_); rintro e w1 ⟨rfl, rfl⟩) | (go_at_call 43; (with_reducible refine (hof _).mono ?_); rintro e w1 ⟨rfl, rfl⟩))
      all_goals
        go_ret
        refine ⟨ret_bool ?_, rfl⟩
        first | rw [H.out, Bool.eq_iff_iff] | rw [H0.out (by assumption), Bool.eq_iff_iff]
        simp [*]
        try omega
theorem isGreat_is (x : Ar) (w : World) : Calls Try.prog 48 #[arV x] w fun e w' => e = .returned (.bool (decide (1 < szO x.h))) ∧ Below w.heap.size w w' := by
  obtain ⟨f, t, h, p, o, y⟩ := x
  have hor := fun w => order_is h w
  show Calls _ _ #[.agg #[.int .i64 f, .int .i64 t, .int .i64 h, .int .i64 p, .int .i64 o, .int .i64 y]] _ _
  have HB := Lib.hid (below_new w (.cells #[.int .i64 f, .int .i64 t, .int .i64 h, .int .i64 p, .int .i64 o, .int .i64 y] 33))
  have H : Hid (decide (1 < szO h) = decide (0 < ordO h)) := (ord_sz h).symm
  generalize ordO h = k at hor H
  go_enter Try.func48, Try.ntmps48
  go_wp2_with (go_at_call 30; (with_reducible refine (hor _).mono ?_); rintro e w1 ⟨rfl, rfl⟩)
  go_ret
  exact ⟨ret_bool H.out.symm, HB.out⟩
theorem side_is (x : Ar) (i : Int) (w : World) : Calls Try.prog 27 #[arV x, .int .i64 i] w fun e w' => e = .returned (.int .i64 (if x.t ≤ i then -1 else if i < x.f then 1 else 0)) ∧ Below w.heap.size w w' := by
  obtain ⟨f, t, h, p, o, y⟩ := x
  show Calls _ _ #[.agg #[.int .i64 f, .int .i64 t, .int .i64 h, .int .i64 p, .int .i64 o, .int .i64 y], .int .i64 i] _ (fun e w' => e = .returned (.int .i64 (if t ≤ i then -1 else if i < f then 1 else 0)) ∧ Below w.heap.size w w')
  have HB := Lib.hid (below_new w (.cells #[.int .i64 f, .int .i64 t, .int .i64 h, .int .i64 p, .int .i64 o, .int .i64 y] 33))
  by_cases h1 : t ≤ i
  · rw [if_pos h1]
    go_enter Try.func27, Try.ntmps27
    go_wp2
    go_ret
    exact ⟨rfl, HB.out⟩
  · rw [if_neg h1]
    by_cases h2 : i < f
    · rw [if_pos h2]
      go_enter Try.func27, Try.ntmps27
      go_wp2
      go_ret
      exact ⟨rfl, HB.out⟩
    · rw [if_neg h2]
      go_enter Try.func27, Try.ntmps27
      go_wp2
      go_ret
      exact ⟨rfl, HB.out⟩
/-- Bounds that keep sums within an int. -/
structure ArB (a : Ar) : Prop where
  f0 : 0 ≤ a.f
  f4 : a.f ≤ 4096
  t0 : 0 ≤ a.t
  t4 : a.t ≤ 4096
  x0 : 0 ≤ a.x
  x4 : a.x ≤ 10000
theorem cutA_b {a : Ar} (h : ArS a) {u t : Int} (hu : 0 ≤ u) (hu4 : u ≤ 4096) (ht : 0 ≤ t) (ht4 : t ≤ 4096) : ArB (cutA u t a) := by
  obtain ⟨h1, h2, h3, h4, h5⟩ := h
  refine ⟨?_, ?_, ?_, ?_, ?_, ?_⟩
  · show 0 ≤ max u a.f; omega
  · show max u a.f ≤ 4096; omega
  · show 0 ≤ min t a.t; omega
  · show min t a.t ≤ 4096; omega
  · show 0 ≤ if shr a.h then a.x + (max u a.f - a.f) else a.x
    split <;> omega
  · show (if shr a.h then a.x + (max u a.f - a.f) else a.x) ≤ 10000
    split <;> omega
theorem jput_b {T : List Ar} (h : ∀ a ∈ T, ArB a) {y : Ar} (hy : ArB y) : (∀ a ∈ jput T y, ArB a) ∧ (jput T y).length ≤ T.length + 1 := by
  rcases List.eq_nil_or_concat T with rfl | ⟨M, b, e⟩
  · rw [jput_nil]; exact ⟨fun a ha => by rw [List.mem_singleton] at ha; rw [ha]; exact hy, Nat.le_refl _⟩
  · rw [List.concat_eq_append] at e
    subst e
    have hM : ∀ a ∈ M, ArB a := fun a ha => h a (List.mem_append_left _ ha)
    have hb : ArB b := h b (List.mem_append_right _ (List.mem_singleton.2 rfl))
    rw [jput_snoc]
    split
    · refine ⟨fun a ha => ?_, by simp⟩
      rcases List.mem_append.1 ha with ha | ha
      · exact hM a ha
      · rw [List.mem_singleton] at ha; rw [ha]; exact ⟨hb.f0, hb.f4, hy.t0, hy.t4, hb.x0, hb.x4⟩
    · refine ⟨fun a ha => ?_, by simp⟩
      rcases List.mem_append.1 ha with ha | ha
      · exact h a ha
      · rw [List.mem_singleton] at ha; rw [ha]; exact hy
theorem putL_b {u t : Int} (hu : 0 ≤ u) (hu4 : u ≤ 4096) (ht : 0 ≤ t) (ht4 : t ≤ 4096) : ∀ (l T : List Ar), (∀ a ∈ l, ArS a) → (∀ a ∈ T, ArB a) → (∀ a ∈ putL u t T l, ArB a) ∧ (putL u t T l).length ≤ T.length + l.length
  | [], T, _, h => ⟨h, Nat.le_refl _⟩
  | x :: r, T, hl, h => by
    have hr : ∀ a ∈ r, ArS a := fun a ha => hl a (List.mem_cons_of_mem _ ha)
    unfold putL
    split
    · exact ⟨h, by omega⟩
    · split
      · have := putL_b hu hu4 ht ht4 r T hr h
        exact ⟨this.1, by rw [List.length_cons]; omega⟩
      · obtain ⟨j1, j2⟩ := jput_b h (cutA_b (hl x (List.mem_cons_self ..)) hu hu4 ht ht4)
        have := putL_b hu hu4 ht ht4 r _ hr j1
        exact ⟨this.1, by rw [List.length_cons]; omega⟩
theorem jn_dec (x y : Ar) : decide (jn x y) = (decide (y.f = x.t) && decide (x.h = y.h) && decide (x.p = y.p) && decide (x.o = y.o) && (!decide (shr x.h) || decide (y.x = x.x + x.t - x.f))) := by
  rw [Bool.eq_iff_iff, decide_eq_true_eq]
  unfold jn
  simp only [decide_eq_true_eq, Bool.and_eq_true, Bool.or_eq_true, Bool.not_eq_true', decide_eq_false_iff_not]
  rw [show x.x + (x.t - x.f) = x.x + x.t - x.f by omega]
  by_cases c : shr x.h
  · simp [c, and_assoc]
  · simp [c, and_assoc]
theorem join_is {x y : Ar} (hx : ArB x) (w : World) : Calls Try.prog 61 #[arV x, arV y] w fun e w' => e = .returned (.bool (decide (jn x y))) ∧ Below w.heap.size w w' := by
  obtain ⟨f, t, h, p, o, z⟩ := x
  obtain ⟨f', t', h', p', o', z'⟩ := y
  obtain ⟨b1, b2, b3, b4, b5, b6⟩ := hx
  dsimp only at b1 b2 b3 b4 b5 b6
  show Calls _ _ #[.agg #[.int .i64 f, .int .i64 t, .int .i64 h, .int .i64 p, .int .i64 o, .int .i64 z], .agg #[.int .i64 f', .int .i64 t', .int .i64 h', .int .i64 p', .int .i64 o', .int .i64 z']] _ _
  have hbl := fun o1 o2 => ((Below.refl w.heap.size w).alloc (Nat.le_refl _) o1).alloc (by simp) o2
  have HB := Lib.hid hbl
  clear hbl
  have hof := fun w => ofObj_is h w
  have w1 : IntKind.i64.wrap (z + t) = z + t := IntWalk.i64_in _ (by omega)
  have w2 : IntKind.i64.wrap (z + t - f) = z + t - f := IntWalk.i64_in _ (by omega)
  have H := Lib.hid (jn_dec ⟨f, t, h, p, o, z⟩)
  obtain ⟨s, hs⟩ : ∃ s, s = decide (shr h) := ⟨_, rfl⟩
  rw [← hs] at hof
  have HS := Lib.hid hs
  clear hs b1 b2 b3 b4 b5 b6
  by_cases hz : z' = z + t - f
  all_goals
   first | (have hz2 : (z' != z + t - f) = false := by simpa using hz) | (have hz2 : (z' != z + t - f) = true := by simpa using hz)
   have HZ := Lib.hid hz
   clear hz
   cases s
   all_goals
    go_enter Try.func61, Try.ntmps61
    go_wp2_with (go_at_call 43; (with_reducible refine (hof _).mono ?_); rintro e w1 ⟨rfl, rfl⟩)
    all_goals
      go_ret
      refine ⟨ret_bool ?_, HB.out _ _⟩
      rw [H.out]
      have hz := HZ.out
      dsimp only
      rw [← HS.out, Bool.eq_iff_iff]
      simp [*]
      try omega
end Go.Proofs.Ytodepfgfgphkbaa
