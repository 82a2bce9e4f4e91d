/- Package memory: its small functions; what is cleared and made so. -/
import Derived.Test.YtklhcgekagimkaaGreatMg33
import Derived.StillTailTactics
namespace Go.Proofs.YtklhcgekagimkaaGreat
open Go.RowKit
theorem isUse_any (x : Int) (w : World) : Calls Tryz.prog 65 #[.int .i64 x] w fun e w' => e = .returned (.bool (isU x)) ∧ w = w' := by
  by_cases c1 : 0 < x
  · have d1 : isU x = decide (x ≤ 5) := by unfold isU; rw [decide_eq_decide]; omega
    rw [d1]
    clear d1
    go_enter Tryz.func65, Tryz.ntmps65
    go_wp2_with fail
    go_ret
    exact ⟨rfl, rfl⟩
  · have d1 : isU x = false := by unfold isU; rw [decide_eq_false_iff_not]; omega
    rw [d1]
    clear d1
    go_enter Tryz.func65, Tryz.ntmps65
    go_wp2_with fail
    go_ret
    exact ⟨rfl, rfl⟩
section
variable {X : Nat → Prop} {w w' : World} {B n mk : Nat} {p : Pn} {M : Me}
theorem three_below {W1 : World} {q : Nat} {u0 u1 u2 : Value} (hb : Below w.heap.size w W1) (hq : q = w.heap.size) : Below w.heap.size w (((W1.setCell ⟨q, 0, none⟩ u0).setCell ⟨q, 1, none⟩ u1).setCell ⟨q, 2, none⟩ u2) := by
  have h1 := hb.grown (grown_set W1 q 0 u0) hb.size (fun k e => by injection e; omega)
  have h2 := h1.grown (grown_set _ q 1 u1) h1.size (fun k e => by injection e; omega)
  exact h2.grown (grown_set _ q 2 u2) h2.size (fun k e => by injection e; omega)
set_option maxHeartbeats 1000000 in
set_option maxRecDepth 100000 in
theorem lowr_nil (w : World) : Calls Tryz.prog 37 #[.pointer none] w fun e w' => e = .returned (.agg #[.pointer none, .pointer none, .pointer none]) ∧ Below w.heap.size w w' := by
  obtain ⟨W1, hW⟩ : ∃ W1, W1 = w.alloc (.cells #[.pointer none, .pointer none, .pointer none] 76) := ⟨_, rfl⟩
  obtain ⟨q, hq⟩ : ∃ q, q = w.heap.size := ⟨_, rfl⟩
  have hr : Lrow W1 q 76 [.pointer none, .pointer none, .pointer none] := by rw [hW, hq]; exact Lrow.new w _ _
  have hb : Below w.heap.size w W1 := by rw [hW]; exact below_new _ _
  have HD : Hid (∀ u0 u1 u2, Below w.heap.size w (((W1.setCell ⟨q, 0, none⟩ u0).setCell ⟨q, 1, none⟩ u1).setCell ⟨q, 2, none⟩ u2)) := fun u0 u1 u2 => three_below hb hq
  have HW := Lib.hid (And.intro hW hq)
  have y0 := hr.frozen 0
  have y1 := hr.frozen 1
  have y2 := hr.frozen 2
  have e0 := hr.cell 0
  have e1 := hr.cell 1
  have e2 := hr.cell 2
  clear hW hq hr hb
  go_enter Tryz.func37, Tryz.ntmps37
  go_upto_region 1 with (fail)
  rw [← HW.out.1, ← HW.out.2]
  go_wp2_with fail
  exact bodyPost_ret (v := .agg #[.pointer none, .pointer none, .pointer none]) (by simp [results, Tryz.results37, go_sem, *]) rfl ⟨rfl, HD.out _ _ _⟩
set_option maxHeartbeats 1000000 in
set_option maxRecDepth 100000 in
theorem lowr_any (h : PmX B w p X n mk M) : Calls Tryz.prog 37 #[.pointer (some ⟨p.m, 0, none⟩)] w fun e w' => e = .returned (.agg #[.pointer (some ⟨p.a, 0, none⟩), .pointer (some ⟨p.k, 0, none⟩), .pointer (some ⟨p.s, 0, none⟩)]) ∧ Below w.heap.size w w' := by
  obtain ⟨W1, hW⟩ : ∃ W1, W1 = w.alloc (.cells #[.pointer none, .pointer none, .pointer none] 76) := ⟨_, rfl⟩
  obtain ⟨q, hq⟩ : ∃ q, q = w.heap.size := ⟨_, rfl⟩
  have hr : Lrow W1 q 76 [.pointer none, .pointer none, .pointer none] := by rw [hW, hq]; exact Lrow.new w _ _
  have hb : Below w.heap.size w W1 := by rw [hW]; exact below_new _ _
  have HD : Hid (∀ u0 u1 u2, Below w.heap.size w (((W1.setCell ⟨q, 0, none⟩ u0).setCell ⟨q, 1, none⟩ u1).setCell ⟨q, 2, none⟩ u2)) := fun u0 u1 u2 => three_below hb hq
  have HW := Lib.hid (And.intro hW hq)
  have h1 := h.call hb
  have c0 := h1.c0
  have c1 := h1.c1
  have c2 := h1.c2
  have y0 := hr.frozen 0
  have y1 := hr.frozen 1
  have y2 := hr.frozen 2
  have e0 := hr.cell 0
  have e1 := hr.cell 1
  have e2 := hr.cell 2
  have mq : ¬ p.m = q := by rw [hq]; have := h.top.lt; omega
  generalize p.m = m at *
  generalize p.a = a at *
  generalize p.k = k at *
  generalize p.s = s at *
  clear hW hq hr hb h h1
  go_enter Tryz.func37, Tryz.ntmps37
  go_upto_region 1 with (fail)
  rw [← HW.out.1, ← HW.out.2]
  go_wp2_with fail
  exact bodyPost_ret (v := .agg #[.pointer (some ⟨a, 0, none⟩), .pointer (some ⟨k, 0, none⟩), .pointer (some ⟨s, 0, none⟩)]) (by simp [results, Tryz.results37, go_sem, *]) rfl ⟨rfl, HD.out _ _ _⟩
/-- The world with the three boxes of the function that clears. -/
def boxed (w : World) (m : Nat) (o x : Int) : World := ((w.alloc (.cells #[.pointer (some ⟨m, 0, none⟩)] 23)).alloc (.cells #[.int .i64 o] 3)).alloc (.cells #[.int .i64 x] 3)
theorem giver_any (m : Nat) (o x : Int) (w : World) : Calls Tryz.prog 66 #[.pointer (some ⟨m, 0, none⟩), .int .i64 o, .int .i64 x] w fun e w' =>
    e = .returned (.func (.func 88) #[] #[.pointer (some ⟨w.heap.size, 0, none⟩), .pointer (some ⟨w.heap.size + 1, 0, none⟩), .pointer (some ⟨w.heap.size + 1 + 1, 0, none⟩)]) ∧ w' = boxed w m o x := by
  have hmf : ∀ (fn : Fn) (first cap : Array Value) (w : World), (Instr.makeFunc fn first cap).run Tryz.prog w = .ok (.func fn first cap) w := fun _ _ _ _ => rfl
  go_enter Tryz.func66, Tryz.ntmps66
  go_wp2
  go_ret
  exact ⟨rfl, rfl⟩
theorem boxed_below (w : World) (m : Nat) (o x : Int) : Below w.heap.size w (boxed w m o x) := by
  unfold boxed
  exact (((Below.refl _ _).alloc (Nat.le_refl _) _).alloc (by simp) _).alloc (by simp; omega) _
theorem boxed_rows (w : World) (m : Nat) (o x : Int) : Lrow (boxed w m o x) w.heap.size 23 [.pointer (some ⟨m, 0, none⟩)] ∧ Lrow (boxed w m o x) (w.heap.size + 1) 3 [.int .i64 o] ∧ Lrow (boxed w m o x) (w.heap.size + 1 + 1) 3 [.int .i64 x] := by
  unfold boxed
  refine ⟨((Lrow.new w _ _).alloc _).alloc _, ?_, ?_⟩
  · have := (Lrow.new (w.alloc (.cells #[.pointer (some ⟨m, 0, none⟩)] 23)) 3 [.int .i64 o]).alloc (.cells #[.int .i64 x] 3)
    simpa using this
  · have := Lrow.new ((w.alloc (.cells #[.pointer (some ⟨m, 0, none⟩)] 23)).alloc (.cells #[.int .i64 o] 3)) 3 [.int .i64 x]
    simpa using this
theorem giveIt_no {e : Int} (he : e ≠ 0) (f : Int) (b0 b1 b2 : Nat) (w : World) : Calls Tryz.prog 88 #[.int .i64 f, .int .i64 e, .pointer (some ⟨b0, 0, none⟩), .pointer (some ⟨b1, 0, none⟩), .pointer (some ⟨b2, 0, none⟩)] w fun e' w' => e' = .returned (.tuple #[.int .i64 0, .int .i64 e]) ∧ w = w' := by
  have he' : (e == 0) = false := by simpa using he
  clear he
  go_enter Tryz.func88, Tryz.ntmps88
  go_wp2_with fail
  go_ret2
  exact ⟨rfl, rfl⟩
end
end Go.Proofs.YtklhcgekagimkaaGreat
/- Package memory: what is cleared and made so; what is counted. -/
namespace Go.Proofs.YtklhcgekagimkaaGreat
open Go.RowKit
section
variable {X : Nat → Prop} {w w' : World} {B n mk : Nat} {p : Pn} {M : Me}
theorem tuE_zero {I : List Int} {f m : Nat} {x : Int} (h1 : 1 ≤ m) (hr : f + m ≤ I.length) (hx : isU x = true) (ha : areF I f m 0 = true) : tuE I f m 0 x = 0 ∧ tuL I f m 0 x = putF I f m x := by
  have hx' := isU_iff.1 hx
  have he : tuE I f m 0 x = 0 := by
    unfold tuE
    rw [if_neg, if_neg (by omega), if_neg, if_neg]
    · rw [Int.toNat_natCast, Int.toNat_natCast, ha]; simp
    · unfold mayF; simp; omega
    · rintro (c | c | c)
      · omega
      · simp [isF] at c
      · unfold isF at c; simp at c; omega
  refine ⟨he, ?_⟩
  unfold tuL
  rw [if_pos he, Int.toNat_natCast, Int.toNat_natCast]
theorem errZ_zero {n f m : Nat} (h1 : 1 ≤ m) (hr : f + m ≤ n) : errZ (n * 8) f m = 0 := by
  unfold errZ errF
  rw [if_neg (by omega), if_neg (by omega)]
set_option maxHeartbeats 2000000 in
set_option maxRecDepth 100000 in
theorem giveIt_ok (h : PmX B w p X n mk M) (ok : OkF M.I) (hl : M.I.length = n) {f k : Nat} (k8 : k ≤ 8) (hr : f + 2 ^ k ≤ n) {x : Int} (hx : isU x = true) (ha : areF M.I f (2 ^ k) 0 = true) {b0 b1 b2 : Nat}
    (r0 : Lrow w b0 23 [.pointer (some ⟨p.m, 0, none⟩)]) (r1 : Lrow w b1 3 [.int .i64 k]) (r2 : Lrow w b2 3 [.int .i64 x]) :
    Calls Tryz.prog 88 #[.int .i64 f, .int .i64 0, .pointer (some ⟨b0, 0, none⟩), .pointer (some ⟨b1, 0, none⟩), .pointer (some ⟨b2, 0, none⟩)] w fun e w' =>
      e = .returned (.tuple #[.int .i64 f, .int .i64 0]) ∧ PDid B p X n mk (gvM M M.F M.S f k x) w w' := by
  have hi := ok.l1
  obtain ⟨K, hK⟩ : ∃ K : Nat, K = 2 ^ k := ⟨_, rfl⟩
  have K1 : 1 ≤ K := by rw [hK]; exact two_pos k
  have K2 : K ≤ 256 := by rw [hK]; exact Nat.pow_le_pow_right (by omega : 0 < 2) k8
  have hrK : f + K ≤ n := by rw [hK]; exact hr
  have hsv : Value.int .i64 (wrap64 (2 ^ k)) = Value.int .i64 (K : Int) := by rw [two_zpow, ← hK]; congr 1; unfold wrap64; omega
  have hsv2 : Value.int .i64 (IntKind.i64.wrap (2 ^ k)) = Value.int .i64 (K : Int) := by rw [two_zpow, ← hK]; congr 1; exact IntWalk.i64_in _ (by omega)
  have hg : gvM M M.F M.S f k x = ⟨M.F, M.S, putF M.I f K x, zeL M.W f K⟩ := by unfold gvM; rw [← hK]
  rw [← hK] at ha
  obtain ⟨t1, t2⟩ := tuE_zero K1 (by rw [hl]; exact hrK) hx ha
  have z1 := errZ_zero K1 hrK
  have c0 := h.c0
  have c2 := h.c2
  have d0 := r0.cell 0
  have d1 := r1.cell 0
  have d2 := r2.cell 0
  have HX := Lib.hid (And.intro h (And.intro ok (And.intro t1 t2)))
  obtain ⟨W1, hW1⟩ : ∃ W1, W1 = w.drew := ⟨_, rfl⟩
  have h1 : PmX B W1 p X n mk M := by rw [hW1]; exact h.drewN 1
  have HZ : Hid (Calls Tryz.prog 89 #[.pointer (some ⟨p.a, 0, none⟩), .int .i64 f, .int .i64 K] W1 fun e w' => e = .returned (.int .i64 0) ∧ RamAt w' p.a p.b 80 (n * 8) (zeL M.W f K) ∧ W1.grownBy w' (some p.b)) := by
    have := zero_any h1.ram f K (by omega)
    rw [z1] at this
    exact this
  have q0 : Lrow W1 b0 23 [.pointer (some ⟨p.m, 0, none⟩)] := by rw [hW1]; exact r0.drewN 1
  have q1 : Lrow W1 b1 3 [.int .i64 k] := by rw [hW1]; exact r1.drewN 1
  have q2 : Lrow W1 b2 3 [.int .i64 x] := by rw [hW1]; exact r2.drewN 1
  have HQ := Lib.hid (And.intro q0 (And.intro q1 q2))
  have H1 := Lib.hid h1
  have HB1 : Hid (Below w.heap.size w W1) := by rw [hW1]; exact below_drewN w 1
  have HW := Lib.hid hW1
  clear hW1 q0 q1 q2 h1
  rw [hg]
  have HS := Lib.hid (And.intro hsv hsv2)
  clear h ok hl hi hr hx ha hK hsv hsv2 hg t1 t2 z1 r0 r1 r2
  go_enter Tryz.func88, Tryz.ntmps88
  go_wp2_with fail
  go_still_tail 8, (by kernel_rfl)
  change wpList _ _ _ _ _ w.drew
  rw [← HW.out, HS.out.2]
  clear c0 c2 d0 d1 d2
  go_wp2_with fail
  refine HZ.out.mono ?_
  rintro e w2 ⟨rfl, hr2, hg2⟩
  have h2 := H1.out.ramT hr2 hg2
  have kp : ∀ {q : Nat} {t : TypeId} {vs : List Value}, Lrow W1 q t vs → t ≠ 34 → Lrow w2 q t vs := fun r ht => r.grown hg2 (fun e => row_ne r H1.out.ramRow ht (by injection e))
  have q0 := kp HQ.out.1 (by decide)
  have q1 := kp HQ.out.2.1 (by decide)
  have q2 := kp HQ.out.2.2 (by decide)
  have hf2 : Foot (MineP p X) W1 w2 := Foot.grown hg2 (Or.inr (Or.inr (Or.inl rfl)))
  obtain ⟨W3, hW3⟩ : ∃ W3, W3 = w2.drew := ⟨_, rfl⟩
  have h3 : PmX B W3 p X n mk ⟨M.F, M.S, M.I, zeL M.W f K⟩ := by rw [hW3]; exact h2.drewN 1
  have HT : Hid (Calls Tryz.prog 64 #[.pointer (some ⟨p.s, 0, none⟩), .int .i64 f, .int .i64 K, .int .i64 0, .int .i64 x] W3 fun e w' => e = .returned (.int .i64 0) ∧ Turned B W3 p.s p.g M.I (putF M.I f K x) w') := by
    have := turn_f h3.frs HX.out.2.1 f K 0 x
    rw [HX.out.2.2.1, HX.out.2.2.2] at this
    exact this
  have H3 := Lib.hid h3
  have HF3 : Hid (Foot (MineP p X) w W3) := by
    rw [hW3]
    exact ((Foot.of_below HB1.out).trans hf2 (fun _ e _ => e)).drewN 1
  have HW3 := Lib.hid hW3
  have c2 := h2.c2
  have c0 := h2.c0
  have d0 := q0.cell 0
  have d1 := q1.cell 0
  have d2 := q2.cell 0
  clear hW3 h3 h2 q0 q1 q2 kp hr2 hg2 hf2 HZ HQ H1 HB1 HW
  go_wp2_with fail
  go_still_tail 9, (by kernel_rfl)
  change wpList _ _ _ _ _ w2.drew
  rw [← HW3.out, HS.out.2]
  clear c0 c2 d0 d1 d2
  go_wp2_with fail
  refine HT.out.mono ?_
  rintro e w4 ⟨rfl, hl4, hf4, ht4⟩
  have HD : Hid (PDid B p X n mk ⟨M.F, M.S, putF M.I f K x, zeL M.W f K⟩ w w4) :=
    ⟨X, H3.out.frsT hf4 ht4, HF3.out.trans ht4 (fun q e _ => by rcases e with e | e; exact Or.inr (Or.inr (Or.inr (Or.inl e))); exact Or.inr (Or.inr (Or.inr (Or.inr (Or.inl e))))), fun _ e => Or.inl e⟩
  clear hl4 hf4 ht4
  go_wp2_with fail
  go_ret2
  exact ⟨rfl, HD.out⟩
end
end Go.Proofs.YtklhcgekagimkaaGreat
