/- What a line is, and which pages it holds, on both sides. -/
import Derived.Test.YtbnnfgdlkldafaaAq
import Derived.Test.YtbnnfgdlkldafaaGa
import Derived.Deep.QuietTactic
import Derived.BigQuiet
import Derived.IntWalk
import Derived.Deep.CutRange
namespace Go.Proofs.Ytbnnfgdlkldafaa
open Go.RowKit
theorem size8_any (o : Int) (w : World) : Calls Try.prog 26 #[.int .i64 o] w fun e w' => e = .returned (.int .i64 (szO o)) ∧ w = w' := by
  by_cases h3 : o = 3
  · subst h3
    go_enter Try.func26, Try.ntmps26
    go_wp2
    go_ret
    exact ⟨rfl, rfl⟩
  · by_cases h6 : o = 6
    · subst h6
      go_enter Try.func26, Try.ntmps26
      go_wp2
      go_ret
      exact ⟨rfl, rfl⟩
    · have hs : szO o = 1 := by simp [szO, h3, h6]
      rw [hs]
      have k3 : (o == 3) = false := by simpa using h3
      have k6 : (o == 6) = false := by simpa using h6
      clear hs h3 h6
      go_enter Try.func26, Try.ntmps26
      go_wp2
      go_ret
      exact ⟨rfl, rfl⟩
theorem size8_q (o : Int) (w : World) : Calls Try.prog 26 #[.int .i64 o] w fun e w' => e = .returned (.int .i64 (szO o)) ∧ w' = w := (size8_any o w).mono fun _ _ h => ⟨h.1, h.2.symm⟩

/-- A line as a value. -/
abbrev cv (c : Cd) : Value := .agg #[.int .i64 c.s, .int .i64 c.p, .int .i64 c.o, .int .i64 c.f, .bool c.w]
def bgB (a o e : Int) : Bool := decide (0 ≤ a ∧ a < e ∧ a % szO o = 0)
theorem begins_any {o : Int} (ho : o = 0 ∨ o = 3 ∨ o = 6) {a e : Int} (ha : Fits a) (w : World) : Calls Try.prog 35 #[.int .i64 a, .int .i64 o, .int .i64 e] w fun r w' => r = .returned (.bool (bgB a o e)) ∧ w = w' := by
  have hev := fun w => even_any (o := o) a ha.1 ha.2 w
  have hE : evB a o = decide (a % szO o = 0) := by
    obtain ⟨h1, h2⟩ := szO_ord ho
    unfold evB; rw [h1, h2]; rfl
  by_cases h1 : 0 ≤ a
  · by_cases h2 : a < e
    · have H : Hid (evB a o = bgB a o e) := by
        show _ = _
        rw [hE]; unfold bgB
        apply decide_eq_decide.2
        exact ⟨fun h => ⟨h1, h2, h⟩, fun h => h.2.2⟩
      clear hE ho
      go_enter Try.func35, Try.ntmps35
      go_wp2_with (go_at_call 38; refine (hev _).mono ?_; rintro e w' ⟨rfl, rfl⟩)
      go_ret
      exact ⟨ret_bool H.out, rfl⟩
    · have H : Hid (false = bgB a o e) := by
        show _ = _
        symm; unfold bgB; rw [decide_eq_false_iff_not]; exact fun h => h2 h.2.1
      clear hE ho hev
      go_enter Try.func35, Try.ntmps35
      go_wp2
      go_ret
      exact ⟨ret_bool H.out, rfl⟩
  · have H : Hid (false = bgB a o e) := by
      show _ = _
      symm; unfold bgB; rw [decide_eq_false_iff_not]; exact fun h => h1 h.1
    clear hE ho hev
    go_enter Try.func35, Try.ntmps35
    go_wp2
    go_ret
    exact ⟨ret_bool H.out, rfl⟩
theorem below_1 {w : World} (o : Obj) : Below w.heap.size w (w.alloc o) := (Below.refl _ _).alloc (Nat.le_refl _) _
theorem below_1d {w : World} (o : Obj) (q : Nat) : Below w.heap.size w ((w.alloc o).drewN q) := below_dN (below_1 o) q
theorem rgB_not_o {c : Cd} (h0 : ¬ c.o = 0) (h3 : ¬ c.o = 3) (h6 : ¬ c.o = 6) : false = rgB c := by
  symm; unfold rgB; rw [decide_eq_false_iff_not]
  rintro ⟨h | h | h, _⟩ <;> contradiction
set_option maxHeartbeats 1000000 in
theorem mayBe_any {c : Cd} (hc : CFits c) (w : World) : Calls Try.prog 28 #[cv c] w fun e w' => e = .returned (.bool (rgB c)) ∧ Below w.heap.size w w' := by
  have hRG : (c.o = 0 ∨ c.o = 3 ∨ c.o = 6) → rgB c = (decide (0 ≤ c.s) && (bgB c.p c.o 4096 && bgB c.f c.o 1048576)) := fun ho => by
    unfold rgB bgB
    rw [Bool.eq_iff_iff]
    simp only [decide_eq_true_eq, Bool.and_eq_true]
    unfold ROk
    constructor
    · rintro ⟨_, a1, a2, a3, a4, a5, a6, a7⟩; exact ⟨a1, ⟨a2, a3, a4⟩, a5, a6, a7⟩
    · rintro ⟨a1, ⟨a2, a3, a4⟩, a5, a6, a7⟩; exact ⟨ho, a1, a2, a3, a4, a5, a6, a7⟩
  have hNO := @rgB_not_o c
  obtain ⟨⟨s, p, o, f, b⟩, rfl⟩ : ∃ z, z = c := ⟨_, rfl⟩
  obtain ⟨R, hR⟩ : ∃ R, R = rgB ⟨s, p, o, f, b⟩ := ⟨_, rfl⟩
  rw [← hR] at hRG hNO ⊢
  have fp := hc.p
  have ff := hc.f
  clear hR hc
  dsimp only at hRG hNO fp ff ⊢
  by_cases ho : o = 0 ∨ o = 3 ∨ o = 6
  · have hb1 := fun w => begins_any ho (e := 4096) fp w
    have hb2 := fun w => begins_any ho (e := 1048576) ff w
    have h := hRG ho
    clear hRG hNO fp ff
    generalize bgB p o 4096 = x1 at hb1 h
    generalize bgB f o 1048576 = x2 at hb2 h
    rcases ho with rfl | rfl | rfl
    all_goals
      by_cases h1 : 0 ≤ s
      · rw [decide_eq_true h1, Bool.true_and] at h
        cases x1
        · have H : Hid (false = R) := h.symm
          clear h
          go_enter Try.func28, Try.ntmps28
          go_wp2_with (first | (go_at_call 35; with_reducible refine (hb1 _).mono ?_; rintro e w' ⟨rfl, rfl⟩) | (go_at_call 35; with_reducible refine (hb2 _).mono ?_; rintro e w' ⟨rfl, rfl⟩))
          go_ret
          exact ⟨ret_bool H.out, below_1 _⟩
        · have H : Hid (x2 = R) := by rw [Bool.true_and] at h; exact h.symm
          clear h
          go_enter Try.func28, Try.ntmps28
          go_wp2_with (first | (go_at_call 35; with_reducible refine (hb1 _).mono ?_; rintro e w' ⟨rfl, rfl⟩) | (go_at_call 35; with_reducible refine (hb2 _).mono ?_; rintro e w' ⟨rfl, rfl⟩))
          go_ret
          exact ⟨ret_bool H.out, below_1 _⟩
      · have H : Hid (false = R) := by rw [decide_eq_false h1, Bool.false_and] at h; exact h.symm
        clear h hb1 hb2
        go_enter Try.func28, Try.ntmps28
        go_wp2
        go_ret
        exact ⟨ret_bool H.out, below_1 _⟩
  · have n0 : ¬ o = 0 := fun e => ho (Or.inl e)
    have n3 : ¬ o = 3 := fun e => ho (Or.inr (Or.inl e))
    have n6 : ¬ o = 6 := fun e => ho (Or.inr (Or.inr e))
    have H := Lib.hid (hNO n0 n3 n6)
    have k0 : (o == 0) = false := by simpa using n0
    have k3 : (o == 3) = false := by simpa using n3
    have k6 : (o == 6) = false := by simpa using n6
    clear hRG hNO fp ff ho
    go_enter Try.func28, Try.ntmps28
    go_wp2
    go_ret
    exact ⟨ret_bool H.out, below_1 _⟩
set_option maxHeartbeats 2000000 in
theorem right9_any (c : Cd) (w : World) : Calls Try.prog 16 #[cv c] w fun e w' => e = .returned (.bool (rgB c)) ∧ Below w.heap.size w w' := by
  have hNO := @rgB_not_o c
  have hYZ : (c.o = 0 ∨ c.o = 3 ∨ c.o = 6) → (rgB c = true ↔ (0 ≤ c.s ∧ 0 ≤ c.p ∧ c.p < 4096 ∧ c.p % szO c.o = 0 ∧ 0 ≤ c.f ∧ c.f < 1048576 ∧ c.f % szO c.o = 0)) := fun ho => by
    unfold rgB
    rw [decide_eq_true_eq]
    unfold ROk
    exact ⟨fun h => h.2, fun h => ⟨ho, h⟩⟩
  have hsz := fun w => size8_any c.o w
  obtain ⟨⟨s, p, o, f, b⟩, rfl⟩ : ∃ z, z = c := ⟨_, rfl⟩
  obtain ⟨R, hR⟩ : ∃ R, R = rgB ⟨s, p, o, f, b⟩ := ⟨_, rfl⟩
  rw [← hR] at hYZ hNO ⊢
  clear hR
  dsimp only at hYZ hNO hsz ⊢
  by_cases ho : o = 0 ∨ o = 3 ∨ o = 6
  · have hY := (hYZ ho).2
    have hZ := (hYZ ho).1
    have hn := (szO_pos o).1
    obtain ⟨n, en⟩ : ∃ n, n = szO o := ⟨_, rfl⟩
    rw [← en] at hY hZ hsz hn
    clear hYZ hNO en
    rcases ho with rfl | rfl | rfl
    all_goals
      by_cases h1 : 0 ≤ s
      · by_cases h2 : 0 ≤ p
        · by_cases h3 : p < 4096
          · by_cases h4 : p % n = 0
            · have h4b : (p % n == 0) = true := by simpa using h4
              by_cases h5 : 0 ≤ f
              · by_cases h6 : f < 1048576
                · have H : Hid ((f % n == 0) = R) := by
                    show _ = _
                    rw [Bool.eq_iff_iff, beq_iff_eq]
                    exact ⟨fun h => hY ⟨h1, h2, h3, h4, h5, h6, h⟩, fun h => (hZ h).2.2.2.2.2.2⟩
                  clear hY hZ
                  go_enter Try.func16, Try.ntmps16
                  go_wp2_with (go_at_call 26; refine (hsz _).mono ?_; rintro e w' ⟨rfl, rfl⟩)
                  go_ret
                  exact ⟨ret_bool H.out, below_1 _⟩
                · have H : Hid (false = R) := by
                    show _ = _
                    symm
                    rw [← Bool.not_eq_true]
                    exact fun h => h6 (hZ h).2.2.2.2.2.1
                  clear hY hZ
                  go_enter Try.func16, Try.ntmps16
                  go_wp2_with (go_at_call 26; refine (hsz _).mono ?_; rintro e w' ⟨rfl, rfl⟩)
                  go_ret
                  exact ⟨ret_bool H.out, below_1 _⟩
              · have H : Hid (false = R) := by
                  show _ = _
                  symm
                  rw [← Bool.not_eq_true]
                  exact fun h => h5 (hZ h).2.2.2.2.1
                clear hY hZ
                go_enter Try.func16, Try.ntmps16
                go_wp2_with (go_at_call 26; refine (hsz _).mono ?_; rintro e w' ⟨rfl, rfl⟩)
                go_ret
                exact ⟨ret_bool H.out, below_1 _⟩
            · have h4b : (p % n == 0) = false := by simpa using h4
              have H : Hid (false = R) := by
                show _ = _
                symm
                rw [← Bool.not_eq_true]
                exact fun h => h4 (hZ h).2.2.2.1
              clear hY hZ
              go_enter Try.func16, Try.ntmps16
              go_wp2_with (go_at_call 26; refine (hsz _).mono ?_; rintro e w' ⟨rfl, rfl⟩)
              go_ret
              exact ⟨ret_bool H.out, below_1 _⟩
          · have H : Hid (false = R) := by
              show _ = _
              symm
              rw [← Bool.not_eq_true]
              exact fun h => h3 (hZ h).2.2.1
            clear hY hZ
            go_enter Try.func16, Try.ntmps16
            go_wp2_with (go_at_call 26; refine (hsz _).mono ?_; rintro e w' ⟨rfl, rfl⟩)
            go_ret
            exact ⟨ret_bool H.out, below_1 _⟩
        · have H : Hid (false = R) := by
            show _ = _
            symm
            rw [← Bool.not_eq_true]
            exact fun h => h2 (hZ h).2.1
          clear hY hZ
          go_enter Try.func16, Try.ntmps16
          go_wp2_with (go_at_call 26; refine (hsz _).mono ?_; rintro e w' ⟨rfl, rfl⟩)
          go_ret
          exact ⟨ret_bool H.out, below_1 _⟩
      · have H : Hid (false = R) := by
          show _ = _
          symm
          rw [← Bool.not_eq_true]
          exact fun h => h1 (hZ h).1
        clear hY hZ
        go_enter Try.func16, Try.ntmps16
        go_wp2_with (go_at_call 26; refine (hsz _).mono ?_; rintro e w' ⟨rfl, rfl⟩)
        go_ret
        exact ⟨ret_bool H.out, below_1 _⟩
  · have n0 : ¬ o = 0 := fun e => ho (Or.inl e)
    have n3 : ¬ o = 3 := fun e => ho (Or.inr (Or.inl e))
    have n6 : ¬ o = 6 := fun e => ho (Or.inr (Or.inr e))
    have H := Lib.hid (hNO n0 n3 n6)
    have k0 : (o != 0) = true := by simpa using n0
    have k3 : (o != 3) = true := by simpa using n3
    have k6 : (o != 6) = true := by simpa using n6
    clear hYZ hNO hsz ho
    go_enter Try.func16, Try.ntmps16
    go_wp2
    go_ret
    exact ⟨ret_bool H.out, below_1 _⟩
theorem down_q {o : Int} (p : Int) (h : Fits p) (w : World) : Calls Try.prog 37 #[.int .i64 p, .int .i64 o] w fun e w' => e = .returned (.int .i64 (dnI p o)) ∧ w' = w := (down_any p h.1 h.2 w).mono fun _ _ h => ⟨h.1, h.2.symm⟩
set_option maxHeartbeats 1000000 in
theorem holds_any {c : Cd} (hc : ROk c) {q n : Int} (hq : Fits q) (hn : Fits n) (w : World) : Calls Try.prog 34 #[cv c, .int .i64 q, .int .i64 n] w fun e w' => e = .returned (.bool (metB c c.s q n)) ∧ Below w.heap.size w w' := by
  have hdn := fun w => down_q (o := c.o) q hq w
  have hdl := dn_le hc q
  have hsz := szO_pos c.o
  obtain ⟨hco, -, p0, p1, -, -, -, -⟩ := hc
  obtain ⟨⟨s, p, o, f, b⟩, rfl⟩ : ∃ z, z = c := ⟨_, rfl⟩
  dsimp only at hdn hdl hsz p0 p1 hco ⊢
  obtain ⟨M, hM⟩ : ∃ M, M = metB ⟨s, p, o, f, b⟩ s q n := ⟨_, rfl⟩
  rw [← hM]
  obtain ⟨q0, q1⟩ := hq
  obtain ⟨n0, n1⟩ := hn
  clear hco
  by_cases h1 : n < 1
  · have H : Hid (false = M) := by
      show _ = _
      rw [hM]; symm; unfold metB; rw [decide_eq_false_iff_not]; intro h; omega
    clear hM hdn hdl hsz
    go_enter Try.func34, Try.ntmps34
    go_wp2
    go_ret
    exact ⟨ret_bool H.out, below_1 _⟩
  · have h1' : 1 ≤ n := by omega
    obtain ⟨y, hy⟩ : ∃ y, y = dnI q o := ⟨_, rfl⟩
    rw [← hy] at hdn hdl
    replace hM : M = decide (y ≤ p ∧ p < q + n) := by
      rw [hM]; unfold metB
      apply decide_eq_decide.2
      dsimp only
      rw [← hdl]
      constructor
      · rintro ⟨_, _, a, b⟩; exact ⟨b, a⟩
      · rintro ⟨a, b⟩; exact ⟨h1', rfl, b, a⟩
    replace hdl : y ≤ p → q ≤ p + 64 := fun h => by have := hdl.1 h; omega
    clear hy h1 hsz
    by_cases h2 : q < 4096 - n
    · clear hdl
      have h2b : q + n < 4096 := by omega
      by_cases h3 : y ≤ p
      · have d3 : decide (y ≤ p) = true := by simpa using h3
        have H : Hid (decide (p < q + n) = M) := by
          show _ = _
          rw [hM, Bool.eq_iff_iff, decide_eq_true_eq, decide_eq_true_eq]
          constructor
          · intro h; exact ⟨h3, by omega⟩
          · intro h; omega
        clear hM h3
        go_enter Try.func34, Try.ntmps34
        go_wp2_with fail
        go_quiet ((go_at_call 37; exact Calls.quiet_of_same (hdn _)))
        go_wp2_with fail
        go_ret
        exact ⟨ret_bool H.out, below_1d _ _⟩
      · have d3 : decide (y ≤ p) = false := by simpa using h3
        have H : Hid (false = M) := by
          show _ = _
          rw [hM]; symm; rw [decide_eq_false_iff_not]
          intro h; exact h3 h.1
        clear hM h3
        go_enter Try.func34, Try.ntmps34
        go_wp2_with fail
        go_quiet ((go_at_call 37; exact Calls.quiet_of_same (hdn _)))
        go_wp2_with fail
        go_ret
        exact ⟨ret_bool H.out, below_1d _ _⟩
    · have h2b : 4096 ≤ q + n := by omega
      clear hdl
      by_cases h3 : y ≤ p
      · have d3 : decide (y ≤ p) = true := by simpa using h3
        have H : Hid (true = M) := by
          show _ = _
          rw [hM]; symm; rw [decide_eq_true_eq]; exact ⟨h3, by omega⟩
        clear hM h3
        go_enter Try.func34, Try.ntmps34
        go_wp2_with fail
        go_quiet ((go_at_call 37; exact Calls.quiet_of_same (hdn _)))
        go_wp2_with fail
        go_ret
        exact ⟨ret_bool H.out, below_1d _ _⟩
      · have d3 : decide (y ≤ p) = false := by simpa using h3
        have H : Hid (false = M) := by
          show _ = _
          rw [hM]; symm; rw [decide_eq_false_iff_not]
          intro h; exact h3 h.1
        clear hM h3
        go_enter Try.func34, Try.ntmps34
        go_wp2_with fail
        go_quiet ((go_at_call 37; exact Calls.quiet_of_same (hdn _)))
        go_wp2_with fail
        go_ret
        exact ⟨ret_bool H.out, below_1d _ _⟩
set_option maxHeartbeats 1000000 in
theorem hold9_any {c : Cd} (hc : ROk c) {s1 q : Int} (hq : Fits q) (w : World) : Calls Try.prog 15 #[cv c, .int .i64 s1, .int .i64 q] w fun e w' => e = .returned (.bool (hdB c s1 q)) ∧ Below w.heap.size w w' := by
  have hsz := fun w => size8_q c.o w
  have hz := szO_pos c.o
  obtain ⟨-, -, p0, p1, -, -, -, -⟩ := hc
  obtain ⟨⟨s, p, o, f, b⟩, rfl⟩ : ∃ z, z = c := ⟨_, rfl⟩
  dsimp only at hsz hz p0 p1 ⊢
  obtain ⟨M, hM⟩ : ∃ M, M = hdB ⟨s, p, o, f, b⟩ s1 q := ⟨_, rfl⟩
  rw [← hM]
  unfold hdB at hM
  dsimp only at hM
  obtain ⟨z, ez⟩ : ∃ z, z = szO o := ⟨_, rfl⟩
  rw [← ez] at hsz hz hM
  clear ez
  obtain ⟨q0, q1⟩ := hq
  obtain ⟨z0, z1⟩ := hz
  by_cases h1 : s = s1
  · have k1 : (s == s1) = true := by simpa using h1
    by_cases h2 : p ≤ q
    · have d2 : decide (p ≤ q) = true := by simpa using h2
      have H : Hid (decide (q < p + z) = M) := by
        show _ = _
        rw [hM]; apply decide_eq_decide.2
        exact ⟨fun h => ⟨h1, h2, h⟩, fun h => h.2.2⟩
      clear hM h1 h2
      go_enter Try.func15, Try.ntmps15
      go_wp2_with fail
      go_quiet ((go_at_call 26; exact Calls.quiet_of_same (hsz _)))
      go_wp2_with fail
      go_ret
      exact ⟨ret_bool H.out, below_1d _ _⟩
    · have d2 : decide (p ≤ q) = false := by simpa using h2
      have H : Hid (false = M) := by
        show _ = _
        rw [hM]; symm; rw [decide_eq_false_iff_not]; exact fun h => h2 h.2.1
      clear hM h1 h2
      go_enter Try.func15, Try.ntmps15
      go_wp2_with fail
      go_quiet ((go_at_call 26; exact Calls.quiet_of_same (hsz _)))
      go_wp2_with fail
      go_ret
      exact ⟨ret_bool H.out, below_1d _ _⟩
  · have k1 : (s == s1) = false := by simpa using h1
    have H : Hid (false = M) := by
      show _ = _
      rw [hM]; symm; rw [decide_eq_false_iff_not]; exact fun h => h1 h.1
    clear hM h1
    go_enter Try.func15, Try.ntmps15
    go_wp2_with fail
    go_quiet ((go_at_call 26; exact Calls.quiet_of_same (hsz _)))
    go_wp2_with fail
    go_ret
    exact ⟨ret_bool H.out, below_1d _ _⟩
end Go.Proofs.Ytbnnfgdlkldafaa
