/- AreaApart: what its ways share. -/
import Derived.Test.YtodepfgfgphkbaaY9
namespace Go.Proofs.Ytodepfgfgphkbaa
open Go.RowKit
theorem map_out {P : Int → Pg} {a n how p o i : Int} (h : ¬ inS a n i) : mapP P a n how p o i = P i := by unfold mapP; rw [if_neg h]
theorem un_out {P : Int → Pg} {a n i : Int} (h : ¬ inS a n i) : unP P a n i = P i := by unfold unP; rw [if_neg h]
theorem pr_out {P : Int → Pg} {a n p i : Int} (h : ¬ inS a n i) : prP P a n p i = P i := by unfold prP; rw [if_neg h]
theorem mv_out {P : Int → Pg} {a n t i : Int} (h : ¬ inS a n i) (k : ¬ inS t n i) : mvP P a n t i = P i := by unfold mvP; rw [if_neg k, if_neg h]
theorem mapE_rt {P : Int → Pg} {a n how p o : Int} (e : mapE P a n how p o = 0) : rtI a n (ordO how) = 0 := by
  unfold mapE at e
  by_cases c : mapA how p o = true
  · rw [if_pos c] at e; cases e
  · rw [if_neg c] at e
    by_cases d : rtI a n (ordO how) = 0
    · exact d
    · rw [if_pos d] at e; exact e
theorem mvE_rt2 {P : Int → Pg} {a n t : Int} (e : mvE P a n t = 0) : rtI t n 0 = 0 := by
  have e' := e
  unfold mvE at e
  rw [if_neg (by rw [mvE_rt e']; decide)] at e
  by_cases d : rtI t n 0 = 0
  · exact d
  · rw [if_pos d] at e; exact e
/-- What two searches for one page come to. -/
theorem found_two {P Q : Int → Pg} {l m : List Ar} (hl : Whole P l) (hm : Whole Q m) {i : Int} (e : Q i = P i) {f t h p o z f' t' h' p' o' z' : Int} {b b' : Bool}
    (h1 : b = true → (⟨f, t, h, p, o, z⟩ : Ar) ∈ l ∧ f ≤ i ∧ i < t) (h2 : b = false → (⟨f, t, h, p, o, z⟩ : Ar) = zA ∧ pgs l i = zP)
    (k1 : b' = true → (⟨f', t', h', p', o', z'⟩ : Ar) ∈ m ∧ f' ≤ i ∧ i < t') (k2 : b' = false → (⟨f', t', h', p', o', z'⟩ : Ar) = zA ∧ pgs m i = zP) :
    (b = false ∧ b' = false ∧ h' = 0) ∨ (b = true ∧ b' = true ∧ h' = h ∧ p' = p ∧ o' = o ∧ (if shr h then z' + i - f' else 0) = (P i).x ∧ (0 ≤ f' ∧ f' ≤ 4096 ∧ 0 ≤ z' ∧ z' ≤ 4096)) := by
  cases b with
  | false =>
    have hz := (h2 rfl).2
    rw [hl.pg] at hz
    cases b' with
    | false => exact Or.inl ⟨rfl, rfl, by have := (k2 rfl).1; unfold zA at this; injection this⟩
    | true =>
      obtain ⟨q1, q2, q3⟩ := k1 rfl
      have := hm.found q1 q2 q3
      rw [e, hz] at this
      exact absurd this.symm (pg_ne (mem_ok hm.jd.rs q1) _)
  | true =>
    obtain ⟨q1, q2, q3⟩ := h1 rfl
    have e1 := hl.found q1 q2 q3
    cases b' with
    | false =>
      have hz := (k2 rfl).2
      rw [hm.pg, e, e1] at hz
      exact absurd hz (pg_ne (mem_ok hl.jd.rs q1) _)
    | true =>
      obtain ⟨r1, r2, r3⟩ := k1 rfl
      have e2 := hm.found r1 r2 r3
      have hb := hm.bound r1
      rw [e] at e2
      have e3 := e1.symm.trans e2
      have g1 : h = h' := congrArg Pg.h e3
      have g2 : p = p' := congrArg Pg.p e3
      have g3 : o = o' := congrArg Pg.o e3
      have g4 : (P i).x = if shr h' then z' + (i - f') else 0 := congrArg Pg.x e2
      refine Or.inr ⟨rfl, rfl, g1.symm, g2.symm, g3.symm, ?_, hb.f0, by have := hb.ft; have := hb.t4; have e9 : (⟨f', t', h', p', o', z'⟩ : Ar).f = f' := rfl; omega, hb.x0, hb.x4⟩
      rw [g4, ← g1]
      by_cases c : shr h
      · rw [if_pos c, if_pos c]; omega
      · rw [if_neg c, if_neg c]
set_option maxHeartbeats 8000000 in
set_option maxRecDepth 100000 in
theorem ap_out (A : Option Addr) (n c : Nat) (l : Ac) {pg : Int} (w : World) (hA : Acs w w.heap.size A n) (hp : ¬ (0 ≤ pg ∧ pg < 4096)) : Calls Try.prog 5 #[.slice A n c, .agg #[.int .i64 l.k, .int .i64 l.a, .int .i64 l.n, .int .i64 l.g, .int .i64 l.p, .int .i64 l.o, .int .i64 l.t], .int .i64 pg] w fun e w' => e = .returned (.bool true) ∧ Below w.heap.size w w' := by
  obtain ⟨W0, hW0⟩ : ∃ W0, W0 = w.alloc (.cells #[.int .i64 l.k, .int .i64 l.a, .int .i64 l.n, .int .i64 l.g, .int .i64 l.p, .int .i64 l.o, .int .i64 l.t] 36) := ⟨_, rfl⟩
  have g0 : Below w.heap.size w W0 := by rw [hW0]; exact below_new _ _
  obtain ⟨M, hM, hls⟩ := hA.list
  have hm := made_any A n c w.heap.size M W0 hM (hls.below g0) g0.size
  have HG0 := Lib.hid g0
  have HW := Lib.hid hW0
  clear hA hM hls g0 hW0
  by_cases h0 : pg < 0
  · have e1 : decide (pg < 0) = true := decide_eq_true h0
    go_enter Try.func5, Try.ntmps5
    go_upto_region 1 with (fail)
    rw [← HW.out]
    go_wp2_with fail
    refine hm.mono ?_
    rintro e w1 ⟨s, x, rfl, -, hb⟩
    have HB1 := Lib.hid (HG0.out.trans (hb.mono HG0.out.size))
    clear hm hb
    go_wp2_with fail
    refine (awake_any _).mono ?_
    rintro e w2 ⟨rfl, hb2⟩
    have HB2 := Lib.hid (HB1.out.trans (hb2.mono HB1.out.size))
    clear hb2
    go_wp2_with fail
    refine (awake_any _).mono ?_
    rintro e w3 ⟨rfl, hb3⟩
    have HB3 := Lib.hid (HB2.out.trans (hb3.mono HB2.out.size))
    clear hb3
    go_wp2_with fail
    go_ret
    exact ⟨rfl, HB3.out⟩
  · have h4 : ¬ pg < 4096 := fun e => hp ⟨by omega, e⟩
    have e2 : (4096 : Int) ≤ pg := by omega
    go_enter Try.func5, Try.ntmps5
    go_upto_region 1 with (fail)
    rw [← HW.out]
    go_wp2_with fail
    refine hm.mono ?_
    rintro e w1 ⟨s, x, rfl, -, hb⟩
    have HB1 := Lib.hid (HG0.out.trans (hb.mono HG0.out.size))
    clear hm hb
    go_wp2_with fail
    refine (awake_any _).mono ?_
    rintro e w2 ⟨rfl, hb2⟩
    have HB2 := Lib.hid (HB1.out.trans (hb2.mono HB1.out.size))
    clear hb2
    go_wp2_with fail
    refine (awake_any _).mono ?_
    rintro e w3 ⟨rfl, hb3⟩
    have HB3 := Lib.hid (HB2.out.trans (hb3.mono HB2.out.size))
    clear hb3
    go_wp2_with fail
    go_ret
    exact ⟨rfl, HB3.out⟩
end Go.Proofs.Ytodepfgfgphkbaa
