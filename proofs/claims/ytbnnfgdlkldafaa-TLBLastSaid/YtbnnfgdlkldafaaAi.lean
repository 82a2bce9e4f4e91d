/- Lines; what a nil buffer answers. -/
import Derived.Test.YtbnnfgdlkldafaaAh
namespace Go.Proofs.Ytbnnfgdlkldafaa
open Go.RowKit Go.Shelf
section
variable {w : World} {B ta z : Nat} {v : Value} {L : List Cd}
theorem lines_any (h : Tb B w ta z v L) : Calls Try.prog 14 #[.pointer (some ⟨ta, 0, none⟩)] w fun e w' => ∃ A, e = .returned (.slice A L.length L.length) ∧ Ln w' w.heap.size A L ∧ Below w.heap.size w w' := by
  obtain ⟨A, c, e⟩ := h.own.form
  have hcl := clone_any (e ▸ h.own) (by have := h.len; omega)
  have k1 := h.c1
  rw [e] at k1
  clear h e
  go_enter Try.func14, Try.ntmps14
  go_wp2_with fail
  refine hcl.mono ?_
  rintro e w1 ⟨A1, c1, rfl, hcs, hb⟩
  have HL := Lib.hid hcs.ln
  have HB := Lib.hid hb
  rcases hcs.2 with ⟨e1, e2⟩ | ⟨g, cap, cur, e1, -, -, e2, e3, -⟩
  · injection e1 with e1 e3 e4
    subst e1 e4
    obtain rfl : L = [] := List.eq_nil_of_length_eq_zero e2
    clear hcs hb hcl k1 e2 e3
    go_wp2
    go_ret
    exact ⟨none, rfl, HL.out, HB.out⟩
  · injection e1 with e1 e4 e5
    subst e1 e5
    obtain ⟨n, hn⟩ : ∃ n, n = L.length := ⟨_, rfl⟩
    rw [← hn] at e2
    have hcap : c1 ≤ 9223372036854775807 := by unfold maxLen at e3; omega
    have HN := Lib.hid hn
    rw [← hn]
    clear hcs hb hcl k1 e4 e3 hn
    go_wp2
    go_ret
    exact ⟨_, by rw [← HN.out]; rfl, HL.out, HB.out⟩
end
/-! A nil buffer. -/
theorem put_nil (c : Cd) (w : World) : Calls Try.prog 19 #[.pointer none, cv c] w fun e w' => e = .returned (.int .i64 1) ∧ Below w.heap.size w w' := by
  go_enter Try.func19, Try.ntmps19
  go_wp2
  go_ret
  exact ⟨rfl, below_1 _⟩
theorem drop_nil (i : Int) (w : World) : Calls Try.prog 20 #[.pointer none, .int .i64 i] w fun e w' => e = .returned (.int .i64 1) ∧ w = w' := by
  go_enter Try.func20, Try.ntmps20
  go_wp2
  go_ret
  exact ⟨rfl, rfl⟩
theorem lines_nil (w : World) : Calls Try.prog 14 #[.pointer none] w fun e w' => e = .returned (.slice none 0 0) ∧ w = w' := by
  go_enter Try.func14, Try.ntmps14
  go_wp2
  go_ret
  exact ⟨rfl, rfl⟩
theorem holding_nil (sp q n : Int) (w : World) : Calls Try.prog 24 #[.pointer none, .int .i64 sp, .int .i64 q, .int .i64 n] w fun e w' => e = .returned (hoF w.heap.size) ∧ Lrow w' w.heap.size 25 [.pointer none] ∧ Below w.heap.size w w' := by
  obtain ⟨b, hb⟩ : ∃ b, b = w.heap.size := ⟨_, rfl⟩
  obtain ⟨W1, hW1⟩ : ∃ W1, W1 = w.alloc (.cells #[.pointer none] 25) := ⟨_, rfl⟩
  have r0 : Lrow W1 b 25 [.pointer none] := by rw [hW1, hb]; exact Lrow.new w _ _
  have g1 : Below w.heap.size w W1 := hW1 ▸ below_new w _
  have HR := Lib.hid r0
  have HG := Lib.hid g1
  have HWA := Lib.hid hW1
  have HB := Lib.hid hb
  clear hW1 r0 g1 hb
  go_enter Try.func24, Try.ntmps24
  go_wp2
  go_ret
  rw [← HWA.out, ← HB.out]
  refine ⟨rfl, ?_, ?_⟩
  · exact (((HR.out.alloc _).alloc _).alloc _)
  · have h1 := HG.out
    rw [← HB.out] at h1
    have h0 : b ≤ W1.heap.size := by rw [HB.out]; exact HG.out.size
    exact ((h1.alloc h0 _).alloc (by rw [World.size_alloc]; omega) _).alloc (by rw [World.size_alloc, World.size_alloc]; omega) _
attribute [local go_sem] Oper.semAt_some
theorem holding0_seq (nn b : Nat) (a1 a2 a3 : Value) : SeqO nn Try.prog 32 #[.pointer (some ⟨b, 0, none⟩), a1, a2, a3] encB (fun _ W => W.cell? ⟨b, 0, none⟩ = some (.pointer none)) [] := fun l0 J Jx W hJ hJx hC hY h0 => by
  refine callsIn_wide.2 ((callsIn_wide (n := 9)).1 ?_)
  refine callsIn_of_wp_marks Try.func32 rfl trivial ?_ rfl
  simp only [Try.ntmps32, List.size_toArray, List.length_cons, List.length_nil, Nat.reduceAdd, Nat.reduceSub, Array.replicate_succ, Array.replicate_zero, List.push_toArray, List.append_toArray, List.nil_append, List.cons_append]
  have b0 : Below W.heap.size W (W.alloc (.cells #[.func (.yield l0) #[] #[]] 67)) := below_new W _
  have k0 : (W.alloc (.cells #[.func (.yield l0) #[] #[]] 67)).cell? ⟨b, 0, none⟩ = some (.pointer none) := cell_own (hC _ _ h0) (own_grown b0) (fun r e => by cases e)
  have HJ : Hid (J [] (W.alloc (.cells #[.func (.yield l0) #[] #[]] 67))) := hJ _ _ _ none h0 (own_grown b0) (fun r e => by cases e)
  clear b0 h0
  gi_wp2
  exact ⟨_, results_none rfl _ _ _, ⟨_, rfl⟩, Or.inl HJ.out⟩
set_option maxRecDepth 100000 in
set_option maxHeartbeats 4000000 in
theorem flush_nil (sp q n : Int) (w : World) : Calls Try.prog 17 #[.pointer none, .int .i64 sp, .int .i64 q, .int .i64 n] w fun e w' => e = .returned (.int .i64 0) ∧ Below w.heap.size w w' := by
  obtain ⟨s, hs⟩ : ∃ s, s = w.heap.size := ⟨_, rfl⟩
  obtain ⟨W0, hW0⟩ : ∃ W0, W0 = w.alloc (.cells #[.pointer none] 25) := ⟨_, rfl⟩
  obtain ⟨W1, hW1⟩ : ∃ W1, W1 = W0.alloc (.cells #[.int .i64 0] 3) := ⟨_, rfl⟩
  have s0 : W0.heap.size = s + 1 := by rw [hW0, hs]; simp
  have s1 : W1.heap.size = s + 1 + 1 := by rw [hW1, World.size_alloc, s0]
  have g0 : Below w.heap.size w W0 := hW0 ▸ below_new w _
  have g1 : Below W0.heap.size W0 W1 := hW1 ▸ below_new W0 _
  have gW : Below w.heap.size w W1 := g0.trans (g1.mono g0.size)
  have r4 : Lrow W1 s 25 [.pointer none] := by
    have : Lrow W0 s 25 [.pointer none] := by rw [hW0, hs]; exact Lrow.new w _ _
    exact this.call g1
  have r9 : Lrow W1 (s + 1) 3 [.int .i64 0] := by rw [hW1, ← s0]; exact Lrow.new W0 _ _
  have k4 : W1.cell? ⟨s, 0, none⟩ = some (.pointer none) := r4.cell 0
  have hho := holding_nil sp q n W1
  have GW := Lib.hid gW
  have R9 := Lib.hid r9
  have HS1 := Lib.hid s1
  have HSS := Lib.hid hs
  rw [hW1, hW0] at k4 hho
  rw [hs] at k4
  have HW := Lib.hid (And.intro hW0 hW1)
  clear hW0 hW1 s0 s1 g0 g1 gW r4 r9 hs
  refine (callsIn_wide (n := 12)).1 ?_
  refine callsIn_of_wp_marks Try.func17 rfl trivial ?_ rfl
  simp only [Try.ntmps17, List.size_toArray, List.length_cons, List.length_nil, Nat.reduceAdd, Nat.reduceSub, Array.replicate_succ, Array.replicate_zero, List.push_toArray, List.append_toArray, List.nil_append, List.cons_append]
  gi_wp2_with (refine ⟨trivial, ?_⟩; gi_at_call 24; refine (callsIn_wide.2 hho).mono ?_; rintro e W2 ⟨rfl, hob, hb2⟩)
  rw [← HW.out.1, ← HW.out.2, HS1.out] at hob
  rw [← HW.out.1, ← HW.out.2] at hb2
  rw [← HSS.out]
  have h92 := R9.out.call hb2
  have hbw : Below w.heap.size w W2 := GW.out.trans (hb2.mono GW.out.size)
  have hsz := hbw.size
  clear hb2 hho k4
  refine wpIn_range9 (P := Try.prog) (by omega) (gf := 32) (lb := #[.pointer (some ⟨s + 1 + 1, 0, none⟩), .pointer (some ⟨s + 1 + 1 + 1, 0, none⟩), .pointer (some ⟨s + 1 + 1 + 2, 0, none⟩), .pointer (some ⟨s + 1 + 1 + 3, 0, none⟩)]) rfl (enters_of Try.func32 (by kernel_rfl) rfl)
    (holding0_seq _ (s + 1 + 1) _ _ _) (fun _ => rfl)
    (fun pre V => Below w.heap.size w V ∧ Lrow V (s + 1 + 1) 25 [.pointer none] ∧ Lrow V (s + 1) 3 [.int .i64 0]) (fun _ _ _ => False)
    (fun pre X Y row hF hg hr => ⟨hF.1.grown hg hF.1.size (fun r e => by have := (hr r e).1; omega), hF.2.1.own hg (fun r e => (hr r e).2), hF.2.2.own hg (fun r e => (hr r e).2)⟩) (fun _ _ _ _ _ h _ _ => h) (fun pre V hF => hF.2.1.cell 0) ⟨hbw, hob, h92⟩ (fun x a' V => True) (fun _ _ _ _ _ _ _ _ _ => trivial) ?assign ?body ?done ?stop
  case assign =>
    rintro l pre x V K hF hK
    gi_wp2
    exact hK _ _ (Hi.refl _ _) hF trivial
  case body =>
    rintro l pre x rest a' V hX hF hA
    simp at hX
  case done =>
    rintro D V hD ⟨hb, hr, h9⟩ hK
    have c9 : V.cell? ⟨s + 1, 0, none⟩ = some (.int .i64 0) := h9.cell 0
    have HB := Lib.hid hb
    clear hb hr h9 hbw hob h92
    gi_wp2
    refine ⟨by simp, .inl ⟨_, _, rfl, run_takeDeferred hK, ?_⟩⟩
    exact ⟨_, results_tmp rfl _ _ _, rfl, HB.out.grown (grownBy_putObj' V D (.deferred none)) HB.out.size (fun r e => by injection e with e; omega)⟩
  case stop =>
    rintro D cd pre V _ h _
    exact h.elim
theorem flushSpace_nil (sp : Int) (w : World) : Calls Try.prog 21 #[.pointer none, .int .i64 sp] w fun e w' => e = .returned (.int .i64 0) ∧ Below w.heap.size w w' := by
  go_enter Try.func21, Try.ntmps21
  go_wp2_with (go_at_call 17; refine (flush_nil _ _ _ _).mono ?_; rintro e w1 ⟨rfl, hd⟩)
  go_ret
  exact ⟨rfl, hd⟩
set_option maxRecDepth 100000 in
set_option maxHeartbeats 4000000 in
theorem look_nil (sp q : Int) (w : World) : Calls Try.prog 11 #[.pointer none, .int .i64 sp, .int .i64 q] w fun e w' => e = .returned (.tuple #[cv ⟨0, 0, 0, 0, false⟩, .bool false]) ∧ Below w.heap.size w w' := by
  obtain ⟨s, hs⟩ : ∃ s, s = w.heap.size := ⟨_, rfl⟩
  obtain ⟨W0, hW0⟩ : ∃ W0, W0 = w.alloc (.cells #[.int .i64 0, .int .i64 0, .int .i64 0, .int .i64 0, .bool false] 31) := ⟨_, rfl⟩
  obtain ⟨W1, hW1⟩ : ∃ W1, W1 = W0.alloc (.cells #[.bool false] 4) := ⟨_, rfl⟩
  have s0 : W0.heap.size = s + 1 := by rw [hW0, hs]; simp
  have s1 : W1.heap.size = s + 1 + 1 := by rw [hW1, World.size_alloc, s0]
  have g0 : Below w.heap.size w W0 := hW0 ▸ below_new w _
  have g1 : Below W0.heap.size W0 W1 := hW1 ▸ below_new W0 _
  have gW : Below w.heap.size w W1 := g0.trans (g1.mono g0.size)
  have r6 : Lrow W1 s 31 zcell := by
    have : Lrow W0 s 31 zcell := by rw [hW0, hs]; exact Lrow.new w _ zcell
    exact this.call g1
  have r7 : Lrow W1 (s + 1) 4 [.bool false] := by rw [hW1, ← s0]; exact Lrow.new W0 _ _
  have hho := holding_nil sp q 1 W1
  have GW := Lib.hid gW
  have R6 := Lib.hid r6
  have R7 := Lib.hid r7
  have HS1 := Lib.hid s1
  have HSS := Lib.hid hs
  rw [hW1, hW0] at hho
  have HW := Lib.hid (And.intro hW0 hW1)
  clear hW0 hW1 s0 s1 g0 g1 gW r6 r7 hs
  refine (callsIn_wide (n := 12)).1 ?_
  refine callsIn_of_wp_marks Try.func11 rfl trivial ?_ rfl
  simp only [Try.ntmps11, List.size_toArray, List.length_cons, List.length_nil, Nat.reduceAdd, Nat.reduceSub, Array.replicate_succ, Array.replicate_zero, List.push_toArray, List.append_toArray, List.nil_append, List.cons_append]
  gi_wp2_with (refine ⟨trivial, ?_⟩; gi_at_call 24; refine (callsIn_wide.2 hho).mono ?_; rintro e W2 ⟨rfl, hob, hb2⟩)
  rw [← HW.out.1, ← HW.out.2, HS1.out] at hob
  rw [← HW.out.1, ← HW.out.2] at hb2
  rw [← HSS.out]
  have h62 := R6.out.call hb2
  have h72 := R7.out.call hb2
  have hbw : Below w.heap.size w W2 := GW.out.trans (hb2.mono GW.out.size)
  have hsz := hbw.size
  clear hb2 hho
  refine wpIn_range9 (P := Try.prog) (by omega) (gf := 32) (lb := #[.pointer (some ⟨s + 1 + 1, 0, none⟩), .pointer (some ⟨s + 1 + 1 + 1, 0, none⟩), .pointer (some ⟨s + 1 + 1 + 2, 0, none⟩), .pointer (some ⟨s + 1 + 1 + 3, 0, none⟩)]) rfl (enters_of Try.func32 (by kernel_rfl) rfl)
    (holding0_seq _ (s + 1 + 1) _ _ _) (fun _ => rfl)
    (fun pre V => Below w.heap.size w V ∧ Lrow V (s + 1 + 1) 25 [.pointer none] ∧ Lrow V s 31 zcell ∧ Lrow V (s + 1) 4 [.bool false]) (fun _ _ _ => False)
    (fun pre X Y row hF hg hr => ⟨hF.1.grown hg hF.1.size (fun r e => by have := (hr r e).1; omega), hF.2.1.own hg (fun r e => (hr r e).2), hF.2.2.1.own hg (fun r e => (hr r e).2), hF.2.2.2.own hg (fun r e => (hr r e).2)⟩) (fun _ _ _ _ _ h _ _ => h) (fun pre V hF => hF.2.1.cell 0) ⟨hbw, hob, h62, h72⟩ (fun x a' V => True) (fun _ _ _ _ _ _ _ _ _ => trivial) ?assign ?body ?done ?stop
  case assign =>
    rintro l pre x V K hF hK
    gi_wp2
    have hb := below_new V (.cells (ccell x.2).toArray 31)
    exact hK _ _ (Hi.of_below hb) ⟨hF.1.trans (hb.mono hF.1.size), hF.2.1.call hb, hF.2.2.1.call hb, hF.2.2.2.call hb⟩ trivial
  case body =>
    rintro l pre x rest a' V hX hF hA
    simp at hX
  case done =>
    rintro D V hD ⟨hb, hr, h6, h7⟩ hK
    have q0 : V.cell? ⟨s, 0, none⟩ = some (.int .i64 0) := h6.cell 0
    have q1 : V.cell? ⟨s, 1, none⟩ = some (.int .i64 0) := h6.cell 1
    have q2 : V.cell? ⟨s, 2, none⟩ = some (.int .i64 0) := h6.cell 2
    have q3 : V.cell? ⟨s, 3, none⟩ = some (.int .i64 0) := h6.cell 3
    have q4 : V.cell? ⟨s, 4, none⟩ = some (.bool false) := h6.cell 4
    have q5 : V.cell? ⟨s + 1, 0, none⟩ = some (.bool false) := h7.cell 0
    have f0 := fun i => h6.frozen i
    have f1 := h7.frozen 0
    have hne : ¬ s = s + 1 := by omega
    have hne2 : ¬ s + 1 = s := by omega
    have hbs : s + 2 ≤ W2.heap.size := by have := h72.lt; have := hob.lt; omega
    have HB := Lib.hid hb
    have H6 := Lib.hid h6
    have H7 := Lib.hid h7
    clear hb hr h6 h7 hbw hob h62 h72
    gi_wp2
    obtain ⟨V6, hV6⟩ : ∃ V6, V6 = (((((V.setCell ⟨s, 0, none⟩ (.int .i64 0)).setCell ⟨s, 1, none⟩ (.int .i64 0)).setCell ⟨s, 2, none⟩ (.int .i64 0)).setCell ⟨s, 3, none⟩ (.int .i64 0)).setCell ⟨s, 4, none⟩ (.bool false)).setCell ⟨s + 1, 0, none⟩ (.bool false) := ⟨_, rfl⟩
    rw [← hV6]
    obtain ⟨hl, hh⟩ := lk_set (w := w) ⟨0, 0, 0, 0, false⟩ false false H6.out H7.out HB.out (by have := HSS.out; omega) hV6
    have hDs : s + 2 ≤ D := by omega
    have hK6 : V6.heap[D]? = some (.deferred (some [])) := (hh.keep D hDs (Array.getElem?_eq_some_iff.1 hK).1).trans hK
    refine ⟨by simp, .inl ⟨_, _, rfl, run_takeDeferred hK6, ?_⟩⟩
    have hl2 := hl.own (D := s + 2) (by have := HSS.out; omega) (grownBy_putObj' V6 D (.deferred none)) (fun r e => by injection e with e; subst e; exact ⟨hDs, _, hK6, rfl⟩)
    exact ⟨_, lk_res hl2 _ rfl rfl, rfl, hl2.bel⟩
  case stop =>
    rintro D cd pre V _ h _
    exact h.elim
end Go.Proofs.Ytbnnfgdlkldafaa
