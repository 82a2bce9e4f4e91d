/- The contracts of a walk's look at one entry, whatever it is; of the function that is made for a walk, and of the leaf as it is for one page. -/
import Derived.Test.YtaphihoomipdaaaWc
namespace Go.Proofs.Ytaphihoomipdaaa
open Go.RowKit

/-- Three kinds of entries there are. -/
theorem kinds {x : Int} (h : unOK x = true) : (unF x = 0 ∧ unB x 0 = false ∧ unB x 1 = false ∧ unB x 7 = false ∧ unB x 9 = false ∧ unB x 5 = false ∧ unB x 6 = false) ∨ (unB x 0 = true ∧ unB x 9 = false)
    ∨ (unB x 0 = false ∧ unB x 9 = true ∧ unB x 7 = false ∧ unB x 1 = false) := by
  have hc : unChk x = 0 := by simp [unOK] at h; exact h.1
  have hm : mayB (x / 4096) (onB x 0) (onB x 1) (onB x 7) (onB x 9) (onB x 5) (onB x 6) = true := by
    unfold unChk chkI at hc
    split at hc
    · omega
    split at hc
    · omega
    split at hc
    · assumption
    · omega
  have hf : unF x = x / 4096 := by simp [unF, h]
  have hb : ∀ b, unB x b = onB x b := fun b => by simp [unB, h]
  rw [hf, hb, hb, hb, hb, hb, hb]
  revert hm
  unfold mayB
  cases onB x 0 <;> cases onB x 9 <;> simp
  · intro a b c d e; exact ⟨a, b, c, d, e⟩
section
variable {w : World} {a b n : Nat} {T : TypeId} {ws : List Int} {rb fb : Nat}
theorem ask_any (h : RamAt w a b T n ws) (hr : w.cell? ⟨rb, 0, none⟩ = some (.pointer (some ⟨a, 0, none⟩))) (hF : w.cell? ⟨fb, 0, none⟩ = some (.int .i64 ((n : Int) / 8))) (hrb : rb < w.heap.size) (hfb : fb < w.heap.size) (t i l : Int) (hi : inT n t i = true) (h0 : 0 ≤ l) (h3 : l ≤ 3) :
    Calls Try.prog 44 #[.int .i64 t, .int .i64 i, .int .i64 l, .pointer (some ⟨rb, 0, none⟩), .pointer (some ⟨fb, 0, none⟩)] w fun e w' => e = .returned (.tuple #[unE (wd ws t i), .int .i64 (say ((n : Int) / 8) l (wd ws t i))]) ∧ Below w.heap.size w w' := by
  obtain ⟨x, hx⟩ : ∃ x, wd ws t i = x := ⟨_, rfl⟩
  have he0 : unOK x = true → wdE n (wd ws t i) t i = 0 := fun ho => by simp [wdE, hi, hx, unErr, ho]
  have hfr := un_frame x
  rw [hx]
  by_cases ho : unOK x = true
  · have he := he0 ho
    rcases kinds ho with ⟨k0, k1, k2, k3, k4, k5, k6⟩ | ⟨hp, hk⟩ | ⟨hp, hk, hh, hw⟩
    · have hE : unE x = .agg #[.int .i64 0, .bool false, .bool false, .bool false, .bool false, .bool false, .bool false] := by simp [unE, k0, k1, k2, k3, k4, k5, k6]
      have hs : say ((n : Int) / 8) l x = 1 := by simp [say, sayB, ho, k0, k1, k2, k3, k4, k5, k6, noB]
      rw [hE, hs]
      exact ask_none h hr hF hrb hfb t i l (by rw [hx]; exact hE) he
    · have hno : noB (unF x) (unB x 0) (unB x 1) (unB x 7) (unB x 9) (unB x 5) (unB x 6) = false := by simp [noB, hp]
      cases hh : unB x 7
      · have hE : unE x = .agg #[.int .i64 (unF x), .bool true, .bool (unB x 1), .bool false, .bool false, .bool (unB x 5), .bool (unB x 6)] := by simp [unE, hp, hk, hh]
        rw [hE]
        by_cases hb : (n : Int) / 8 - 1 < unF x
        · have hs : say ((n : Int) / 8) l x = 0 := by
            unfold say sayB; rw [hno]; simp [ho, hk, hh, od, ev0, hb]
          rw [hs]
          exact ask_far h hr hF hrb hfb _ _ _ t i l _ (by rw [hx]; exact hE) he hfr.1 hfr.2 hb
        · by_cases hl : l = 0
          · subst hl
            have hs : say ((n : Int) / 8) 0 x = 3 := by
              unfold say sayB; rw [hno]; simp [ho, hh, od, ev0, hb]
            rw [hs]
            exact ask_leaf h hr hF hrb hfb _ _ _ t i _ (by rw [hx]; exact hE) he hfr.1 hfr.2 (by omega)
          · have hs : say ((n : Int) / 8) l x = 2 := by
              unfold say sayB; rw [hno]; simp [ho, hk, hh, od, ev0, hb, hl]
            rw [hs]
            exact ask_further h hr hF hrb hfb _ _ _ t i l _ (by rw [hx]; exact hE) he hfr.1 hfr.2 (by omega) (by simp [hl])
      · have hE : unE x = .agg #[.int .i64 (unF x), .bool true, .bool (unB x 1), .bool true, .bool false, .bool (unB x 5), .bool (unB x 6)] := by simp [unE, hp, hk, hh]
        rw [hE]
        have hl : l = 0 ∨ l = 1 ∨ l = 2 ∨ l = 3 := by omega
        rcases hl with rfl | rfl | rfl | rfl
        · have hs : say ((n : Int) / 8) 0 x = 0 := by unfold say sayB; simp [hh]
          rw [hs]
          exact ask_huge_low h hr hF hrb hfb _ _ _ t i _ (by rw [hx]; exact hE) he
        · cases hv : evB (unF x) 3
          · have hs : say ((n : Int) / 8) 1 x = 0 := by unfold say sayB; rw [hno]; simp [hk, hh, od, hv]
            rw [hs]
            exact ask_huge_odd1 h hr hF hrb hfb _ _ _ t i _ (by rw [hx]; exact hE) he hfr.1 hfr.2 hv
          · by_cases hb : (n : Int) / 8 - 8 < unF x
            · have hs : say ((n : Int) / 8) 1 x = 0 := by unfold say sayB; rw [hno]; simp [hk, hh, od, hv, hb]
              rw [hs]
              exact ask_huge_far1 h hr hF hrb hfb _ _ _ t i _ (by rw [hx]; exact hE) he hfr.1 hfr.2 hv hb
            · have hs : say ((n : Int) / 8) 1 x = 3 := by unfold say sayB; rw [hno]; simp [ho, hk, hh, od, hv, hb]
              rw [hs]
              exact ask_huge_leaf1 h hr hF hrb hfb _ _ _ t i _ (by rw [hx]; exact hE) he hfr.1 hfr.2 hv (by omega)
        · cases hv : evB (unF x) 6
          · have hs : say ((n : Int) / 8) 2 x = 0 := by unfold say sayB; rw [hno]; simp [hk, hh, od, hv]
            rw [hs]
            exact ask_huge_odd2 h hr hF hrb hfb _ _ _ t i _ (by rw [hx]; exact hE) he hfr.1 hfr.2 hv
          · by_cases hb : (n : Int) / 8 - 64 < unF x
            · have hs : say ((n : Int) / 8) 2 x = 0 := by unfold say sayB; rw [hno]; simp [hk, hh, od, hv, hb]
              rw [hs]
              exact ask_huge_far2 h hr hF hrb hfb _ _ _ t i _ (by rw [hx]; exact hE) he hfr.1 hfr.2 hv hb
            · have hs : say ((n : Int) / 8) 2 x = 3 := by unfold say sayB; rw [hno]; simp [ho, hk, hh, od, hv, hb]
              rw [hs]
              exact ask_huge_leaf2 h hr hF hrb hfb _ _ _ t i _ (by rw [hx]; exact hE) he hfr.1 hfr.2 hv (by omega)
        · have hs : say ((n : Int) / 8) 3 x = 0 := by unfold say sayB; simp [hh]
          rw [hs]
          exact ask_huge_top h hr hF hrb hfb _ _ _ t i _ (by rw [hx]; exact hE) he
    · have hno : noB (unF x) (unB x 0) (unB x 1) (unB x 7) (unB x 9) (unB x 5) (unB x 6) = false := by simp [noB, hk]
      have hE : unE x = .agg #[.int .i64 (unF x), .bool false, .bool false, .bool false, .bool true, .bool (unB x 5), .bool (unB x 6)] := by simp [unE, hp, hk, hh, hw]
      rw [hE]
      by_cases hl : l = 0
      · subst hl
        by_cases hb : (n : Int) / 8 - 1 < unF x
        · have hs : say ((n : Int) / 8) 0 x = 0 := by
            unfold say sayB; rw [hno]; simp [hh, od, ev0, hb]
          rw [hs]
          exact ask_held_far h hr hF hrb hfb _ _ t i _ (by rw [hx]; exact hE) he hfr.1 hfr.2 hb
        · have hs : say ((n : Int) / 8) 0 x = 3 := by
            unfold say sayB; rw [hno]; simp [ho, hh, od, ev0, hb]
          rw [hs]
          exact ask_held_leaf h hr hF hrb hfb _ _ t i _ (by rw [hx]; exact hE) he hfr.1 hfr.2 (by omega)
      · have hl' : 0 < l := by omega
        have hs : say ((n : Int) / 8) l x = 0 := by unfold say sayB; simp [hk, hl']
        rw [hs]
        exact ask_held_up h hr hF hrb hfb _ _ t i l _ (by rw [hx]; exact hE) he hl'
  · simp only [Bool.not_eq_true] at ho
    have hs : say ((n : Int) / 8) l x = 0 := by simp [say, sayB, ho]
    rw [unE_bad ho, hs]
    unfold agg0
    exact ask_bad h hr hF hrb hfb t i l 5 (by rw [hx, unE_bad ho]; rfl) (by simp [wdE, hi, hx, unErr, ho]) rfl

theorem wasker_any (h : RamAt w a b T n ws) : Calls Try.prog 36 #[.pointer (some ⟨a, 0, none⟩)] w fun e w' => ∃ rb fb, e = .returned (.func (.func 44) #[] #[.pointer (some ⟨rb, 0, none⟩), .pointer (some ⟨fb, 0, none⟩)]) ∧
    w'.cell? ⟨rb, 0, none⟩ = some (.pointer (some ⟨a, 0, none⟩)) ∧ w'.cell? ⟨fb, 0, none⟩ = some (.int .i64 ((n : Int) / 8)) ∧ (w.heap.size ≤ rb ∧ rb < w'.heap.size) ∧ (w.heap.size ≤ fb ∧ fb < w'.heap.size) ∧ Below w.heap.size w w' := by
  have hn := h.hi
  go_enter Try.func36, Try.ntmps36
  go_wp2_with (go_at_call 33; first | (refine (frames_any (h.alloc _)).mono ?_; rintro e w' ⟨rfl, rfl⟩) | (refine (frames_any ((h.alloc _).alloc _)).mono ?_; rintro e w' ⟨rfl, rfl⟩))
  go_ret
  refine ⟨_, _, rfl, ?_, ?_, ?_, ?_, ((Below.refl _ _).alloc (Nat.le_refl _) _).alloc (by simp) _⟩
  · simp [go_sem]
  · simp [go_sem]
  · constructor
    · omega
    · simp; omega
  · constructor
    · simp
    · simp
end
theorem reached_any (f : Int) (p wr hu k u d : Bool) (v : Nat) (hv : v ≤ 2) (q : Int) (h0 : 0 ≤ q) (h1 : q ≤ 4095) (f0 : 0 ≤ f) (f1 : f < 1048576) (w : World) :
    Calls Try.prog 37 #[.agg #[.int .i64 f, .bool p, .bool wr, .bool hu, .bool k, .bool u, .bool d], .int .i64 v, .int .i64 q] w fun e w' =>
      e = .returned (.agg #[.int .i64 f, .bool p, .bool wr, .bool hu, .bool k, .bool u, .bool d, .int .i64 v, .int .i64 (f + q % 8 ^ v)]) ∧ Below w.heap.size w w' := by
  have hd : dnI q ((v : Int) * 3) = q - q % 8 ^ v := by
    have : v = 0 ∨ v = 1 ∨ v = 2 := by omega
    rcases this with rfl | rfl | rfl <;> simp [dnI, ordB]
  have hm : 0 ≤ q % 8 ^ v ∧ q % 8 ^ v ≤ q := by
    have : v = 0 ∨ v = 1 ∨ v = 2 := by omega
    rcases this with rfl | rfl | rfl <;> simp <;> omega
  obtain ⟨m, hm'⟩ : ∃ m, m = q % 8 ^ v := ⟨_, rfl⟩
  rw [← hm'] at hd hm ⊢
  have HD := Lib.hid hd
  obtain ⟨m0, m1⟩ := hm
  have hl : (v : Int) ≤ 3 := by omega
  clear hd hm'
  go_enter Try.func37, Try.ntmps37
  go_wp2_with (first | (go_at_call 45; refine (leafOrder_any _ (by omega) (by omega) _).mono ?_; rintro e w' ⟨rfl, rfl⟩) | (go_at_call 47; refine (down_any _ (by omega) (by omega) _).mono ?_; rw [HD.out]; rintro e w' ⟨rfl, rfl⟩))
  exact bodyPost_ret (v := .agg #[.int .i64 f, .bool p, .bool wr, .bool hu, .bool k, .bool u, .bool d, .int .i64 v, .int .i64 (f + (q - (q - m)))]) (by simp [results, Try.results37, go_sem]) rfl ⟨by rw [show f + (q - (q - m)) = f + m by omega], ((Below.refl _ _).alloc (Nat.le_refl _) _).alloc (by simp) _⟩
theorem reached_at (f : Int) (p wr hu k u d : Bool) (l : Int) (v : Nat) (hl : l = v) (hv : v ≤ 2) (q : Int) (h0 : 0 ≤ q) (h1 : q ≤ 4095) (f0 : 0 ≤ f) (f1 : f < 1048576) (w : World) :
    Calls Try.prog 37 #[.agg #[.int .i64 f, .bool p, .bool wr, .bool hu, .bool k, .bool u, .bool d], .int .i64 l, .int .i64 q] w fun e w' =>
      e = .returned (.agg #[.int .i64 f, .bool p, .bool wr, .bool hu, .bool k, .bool u, .bool d, .int .i64 l, .int .i64 (f + q % 8 ^ v)]) ∧ Below w.heap.size w w' := by
  subst hl
  exact reached_any f p wr hu k u d v hv q h0 h1 f0 f1 w
end Go.Proofs.Ytaphihoomipdaaa
