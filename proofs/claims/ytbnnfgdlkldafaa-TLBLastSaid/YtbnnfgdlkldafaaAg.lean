/- Look. -/
import Derived.Test.YtbnnfgdlkldafaaAf
namespace Go.Proofs.Ytbnnfgdlkldafaa
open Go.RowKit Go.Shelf
attribute [local go_sem] Oper.semAt_some
theorem lkP_head (L : List Cd) (s p : Int) : lkP L s p = (hldX L s p 1).head?.map (·.2) := by
  have e : (bkUp L L.length).map (·.2) = L.reverse := by
    apply List.ext_getElem
    · simp [bkUp]
    · intro i h1 h2
      simp [bkUp] at h1
      simp only [bkUp, List.getElem_map, List.getElem_range, List.getElem_reverse, bkAt_eq h1]
  have h2 : (hldX L s p 1).map (·.2) = L.reverse.filter fun c => hdB c s p := by
    have : (fun c : Cd => hdB c s p) = fun c => metB c s p 1 := by funext c; rw [metB_one]
    rw [this, ← e, List.filter_map]; rfl
  unfold lkP
  rw [← List.head?_filter, ← h2, List.head?_map]
section
variable {w : World} {B ta z : Nat} {v : Value} {L : List Cd}
/-- What stands between two rounds of Look. -/
structure Lk (B : Nat) (w : World) (ta z : Nat) (v : Value) (L : List Cd) (sp q : Int) (s : Nat) (W : World) : Prop where
  st : Tb B W ta z v L
  bel : Below w.heap.size w W
  box : HoB (s + 2) ta sp q 1 W
  r6 : Lrow W s 31 zcell
  r7 : Lrow W (s + 1) 4 [.bool false]
structure LkX (w : World) (s : Nat) (c : Cd) (b : Bool) (W : World) : Prop where
  bel : Below w.heap.size w W
  r6 : Lrow W s 31 (ccell c)
  r7 : Lrow W (s + 1) 4 [.bool b]
theorem Below.ownG {B : Nat} {A C D : World} {row : Option Nat} (h : Below B A C) (hB : B ≤ C.heap.size) (hg : C.grownBy D row) (hr : ∀ r, row = some r → B ≤ r) : Below B A D := h.grown hg hB hr
theorem Lk.own {sp q : Int} {s D : Nat} {X Y : World} {row : Option Nat} (h : Lk B w ta z v L sp q s X) (hB : w.heap.size ≤ D) (hg : X.grownBy Y row) (hr : ∀ r, row = some r → D ≤ r ∧ ∃ o : Obj, X.heap[r]? = some o ∧ o.isCells = false) : Lk B w ta z v L sp q s Y := by
  have hr2 := fun r e => (hr r e).2
  exact ⟨h.st.ownG hg hr2, h.bel.grown hg h.bel.size (fun r e => by have := (hr r e).1; omega), h.box.own hg hr2, h.r6.own hg hr2, h.r7.own hg hr2⟩
theorem LkX.own {s D : Nat} {c : Cd} {b : Bool} {X Y : World} {row : Option Nat} (h : LkX w s c b X) (hB : w.heap.size ≤ D) (hg : X.grownBy Y row) (hr : ∀ r, row = some r → D ≤ r ∧ ∃ o : Obj, X.heap[r]? = some o ∧ o.isCells = false) : LkX w s c b Y := by
  have hr2 := fun r e => (hr r e).2
  exact ⟨h.bel.grown hg h.bel.size (fun r e => by have := (hr r e).1; omega), h.r6.own hg hr2, h.r7.own hg hr2⟩
theorem lk_set {V : World} {s : Nat} (c : Cd) (b b0 : Bool) (h6 : Lrow V s 31 zcell) (h7 : Lrow V (s + 1) 4 [.bool b0]) (hb : Below w.heap.size w V) (hs : w.heap.size ≤ s) {V6 : World}
    (e : V6 = (((((V.setCell ⟨s, 0, none⟩ (.int .i64 c.s)).setCell ⟨s, 1, none⟩ (.int .i64 c.p)).setCell ⟨s, 2, none⟩ (.int .i64 c.o)).setCell ⟨s, 3, none⟩ (.int .i64 c.f)).setCell ⟨s, 4, none⟩ (.bool c.w)).setCell ⟨s + 1, 0, none⟩ (.bool b)) : LkX w s c b V6 ∧ Hi (s + 2) V V6 := by
  subst e
  have h7' := ((((h7.far (p := ⟨s, 0, none⟩) (by show s + 1 ≠ s; omega) (.int .i64 c.s)).far (p := ⟨s, 1, none⟩) (by show s + 1 ≠ s; omega) (.int .i64 c.p)).far (p := ⟨s, 2, none⟩) (by show s + 1 ≠ s; omega) (.int .i64 c.o)).far (p := ⟨s, 3, none⟩) (by show s + 1 ≠ s; omega) (.int .i64 c.f)).far (p := ⟨s, 4, none⟩) (by show s + 1 ≠ s; omega) (.bool c.w)
  have h6' := (((((h6.set_ 0 (.int .i64 c.s)).set_ 1 (.int .i64 c.p)).set_ 2 (.int .i64 c.o)).set_ 3 (.int .i64 c.f)).set_ 4 (.bool c.w)).far (p := ⟨s + 1, 0, none⟩) (by show s ≠ s + 1; omega) (.bool b)
  refine ⟨⟨?_, h6', h7'.set_ 0 _⟩, ?_⟩
  · refine (((((hb.setCell ?_ _).setCell ?_ _).setCell ?_ _).setCell ?_ _).setCell ?_ _).setCell ?_ _ <;> (try exact hs)
    show w.heap.size ≤ s + 1
    omega
  · refine ⟨by simp [World.setCell], fun k hk _ => ?_⟩
    rw [Below.heap_setCell _ _ _ k (by show k ≠ s + 1; omega), Below.heap_setCell _ _ _ k (by show k ≠ s; omega), Below.heap_setCell _ _ _ k (by show k ≠ s; omega), Below.heap_setCell _ _ _ k (by show k ≠ s; omega), Below.heap_setCell _ _ _ k (by show k ≠ s; omega), Below.heap_setCell _ _ _ k (by show k ≠ s; omega)]
theorem lk_res {Z : World} {s : Nat} {c : Cd} {b : Bool} (h : LkX w s c b Z) (tmps : Array Value) (e6 : tmps[6]?.getD undef = .pointer (some ⟨s, 0, none⟩)) (e7 : tmps[7]?.getD undef = .pointer (some ⟨s + 1, 0, none⟩)) :
    (results Try.f11 tmps).run Try.prog Z = .ok (.tuple #[cv c, .bool b]) Z := by
  have c0 : Z.cell? ⟨s, 0, none⟩ = some (.int .i64 c.s) := h.r6.cell 0
  have c1 : Z.cell? ⟨s, 1, none⟩ = some (.int .i64 c.p) := h.r6.cell 1
  have c2 : Z.cell? ⟨s, 2, none⟩ = some (.int .i64 c.o) := h.r6.cell 2
  have c3 : Z.cell? ⟨s, 3, none⟩ = some (.int .i64 c.f) := h.r6.cell 3
  have c4 : Z.cell? ⟨s, 4, none⟩ = some (.bool c.w) := h.r6.cell 4
  have c5 : Z.cell? ⟨s + 1, 0, none⟩ = some (.bool b) := h.r7.cell 0
  simp [results, Try.f11, e6, e7, go_sem, c0, c1, c2, c3, c4, c5]
set_option maxRecDepth 100000 in
set_option maxHeartbeats 4000000 in
theorem look_any (h : Tb B w ta z v L) (sp : Int) {q : Int} (hq : Fits q) : Calls Try.prog 11 #[.pointer (some ⟨ta, 0, none⟩), .int .i64 sp, .int .i64 q] w fun e w' => e = .returned (.tuple #[cv (lkC (lkP L sp q)), .bool (lkP L sp q).isSome]) ∧ Below w.heap.size w w' := by
  obtain ⟨A, c, rfl⟩ := h.own.form
  obtain ⟨s, hs⟩ : ∃ s, s = w.heap.size := ⟨_, rfl⟩
  obtain ⟨W0, hW0⟩ : ∃ W0, W0 = w.alloc (.cells #[.int .i64 0, .int .i64 0, .int .i64 0, .int .i64 0, .bool false] 31) := ⟨_, rfl⟩
  obtain ⟨W1, hW1⟩ : ∃ W1, W1 = W0.alloc (.cells #[.bool false] 4) := ⟨_, rfl⟩
  have s0 : W0.heap.size = s + 1 := by rw [hW0, hs]; simp
  have s1 : W1.heap.size = s + 2 := by rw [hW1, World.size_alloc, s0]
  have g0 : Below w.heap.size w W0 := hW0 ▸ below_new w _
  have g1 : Below W0.heap.size W0 W1 := hW1 ▸ below_new W0 _
  have gW : Below w.heap.size w W1 := g0.trans (g1.mono g0.size)
  have r6 : Lrow W1 s 31 zcell := by
    have : Lrow W0 s 31 zcell := by rw [hW0, hs]; exact Lrow.new w _ zcell
    exact this.call g1
  have r7 : Lrow W1 (s + 1) 4 [.bool false] := by rw [hW1, ← s0]; exact Lrow.new W0 _ _
  have hho := holding_any ta sp q 1 W1
  have HFL : Hid (∀ W2, HoB W1.heap.size ta sp q 1 W2 → Below W1.heap.size W1 W2 → Lk B w ta z (.slice A L.length c) L sp q s W2) := fun W2 hb hb2 =>
    ⟨(h.call gW).call hb2, gW.trans (hb2.mono gW.size), s1 ▸ hb, r6.call hb2, r7.call hb2⟩
  have HT := Lib.hid h
  have hlen := h.len
  have hok := h.good.ok
  have HS1 := Lib.hid s1
  have HSS := Lib.hid hs
  rw [hW1, hW0] at hho
  have HW := Lib.hid (And.intro hW0 hW1)
  clear hW0 hW1 s0 s1 g0 g1 gW r6 r7 h hs
  refine (callsIn_wide (n := 12)).1 ?_
  refine callsIn_of_wp_marks Try.func11 rfl trivial ?_ rfl
  simp only [Try.ntmps11, List.size_toArray, List.length_cons, List.length_nil, Nat.reduceAdd, Nat.reduceSub, Array.replicate_succ, Array.replicate_zero, List.push_toArray, List.append_toArray, List.nil_append, List.cons_append]
  gi_wp2_with (refine ⟨trivial, ?_⟩; gi_at_call 24; refine (callsIn_wide.2 hho).mono ?_; rintro e W2 ⟨rfl, hob, hb2, hs2⟩)
  rw [← HW.out.1, ← HW.out.2] at hob hb2 hs2
  have hfl := HFL.out W2 hob hb2
  have hsz : W2.heap.size = s + 6 := by rw [hs2, HS1.out]
  rw [← HSS.out]
  have HSZ := Lib.hid hsz
  clear hob hb2 hs2 hho hsz
  refine wpIn_range9 (P := Try.prog) (by omega) (gf := 32) (lb := #[.pointer (some ⟨s + 2, 0, none⟩), .pointer (some ⟨s + 2 + 1, 0, none⟩), .pointer (some ⟨s + 2 + 2, 0, none⟩), .pointer (some ⟨s + 2 + 3, 0, none⟩)]) rfl (enters_of Try.func32 (by kernel_rfl) rfl)
    (holding1_seq _ (s + 2) ta (sp := sp) A c hok hq (n := 1) ⟨by omega, by omega⟩ (by omega)) (fun _ => rfl)
    (fun pre W => pre = [] ∧ Lk B w ta z (.slice A L.length c) L sp q s W) (fun cd pre W => cd = .ret ∧ ∃ x, (∃ rest, hldX L sp q 1 = x :: rest) ∧ LkX w s x.2 true W)
    (fun pre X Y row hF hg hr => ⟨hF.1, hF.2.own (by have := HSZ.out; have := HSS.out; omega) hg hr⟩)
    (fun cd pre X Y row hF hg hr => ⟨hF.1, by obtain ⟨x, h1, h2⟩ := hF.2; exact ⟨x, h1, h2.own (by have := HSZ.out; have := HSS.out; omega) hg hr⟩⟩)
    ?hC ⟨rfl, hfl⟩ (fun x a' V => ∃ bc, CdAt V ⟨bc, 0, none⟩ x.2 ∧ s + 2 ≤ bc ∧ a' = { tmps := #[.pointer (some ⟨ta, 0, none⟩), .int .i64 sp, .int .i64 q, undef, undef, undef, .pointer (some ⟨s, 0, none⟩), .pointer (some ⟨s + 1, 0, none⟩), undef, .pointer (some ⟨bc, 0, none⟩), .pointer (some ⟨ta, 0, none⟩), .int .i64 sp, .int .i64 q, hoF (s + 1 + 1), .int .i64 x.1, cv x.2, undef, undef], defers := [] }) ?hAx ?assign ?body ?done ?stop
  case hC =>
    rintro pre V ⟨rfl, hF⟩
    refine ⟨hF.box.b0.cell 0, hF.box.b1.cell 0, hF.box.b2.cell 0, hF.box.b3.cell 0, fun e => hF.st.c1, fun j hj hb => ?_⟩
    obtain ⟨g, rfl, -, -, hat⟩ := hF.st.own.at_ j hj
    exact ⟨g, rfl, hat⟩
  case hAx =>
    rintro x a' - X Y row ⟨bc, hc, hb, rfl⟩ hg hr
    exact ⟨bc, hc.own hg (fun r e => (hr r e).2), hb, rfl⟩
  case assign =>
    rintro l pre x V K ⟨rfl, hF⟩ hK
    gi_wp2
    have hb := below_new V (.cells (ccell x.2).toArray 31)
    have hr : Lrow (V.alloc (.cells (ccell x.2).toArray 31)) V.heap.size 31 (ccell x.2) := Lrow.new V _ _
    refine hK _ _ (Hi.of_below hb) ⟨by simp, hF.own (D := w.heap.size) (Nat.le_refl _) (own_grown hb) (fun r e => by cases e)⟩ ⟨V.heap.size, ⟨hr.cell 0, hr.cell 1, hr.cell 2, hr.cell 3, hr.cell 4⟩, ?_, rfl⟩
    have := hF.r7.lt
    omega
  case body =>
    rintro l pre x rest a' V hX ⟨rfl, hF⟩ ⟨bc, hat, hbc, rfl⟩
    obtain ⟨d0, d1, d2, d3, d4⟩ := hat
    have d0 : V.cell? ⟨bc, 0, none⟩ = some (.int .i64 x.2.s) := d0
    have d1 : V.cell? ⟨bc, 1, none⟩ = some (.int .i64 x.2.p) := by simpa using d1
    have d2 : V.cell? ⟨bc, 2, none⟩ = some (.int .i64 x.2.o) := by simpa using d2
    have d3 : V.cell? ⟨bc, 3, none⟩ = some (.int .i64 x.2.f) := by simpa using d3
    have d4 : V.cell? ⟨bc, 4, none⟩ = some (.bool x.2.w) := by simpa using d4
    have q0 : V.cell? ⟨s, 0, none⟩ = some (.int .i64 0) := hF.r6.cell 0
    have q1 : V.cell? ⟨s, 1, none⟩ = some (.int .i64 0) := hF.r6.cell 1
    have q2 : V.cell? ⟨s, 2, none⟩ = some (.int .i64 0) := hF.r6.cell 2
    have q3 : V.cell? ⟨s, 3, none⟩ = some (.int .i64 0) := hF.r6.cell 3
    have q4 : V.cell? ⟨s, 4, none⟩ = some (.bool false) := hF.r6.cell 4
    have q5 : V.cell? ⟨s + 1, 0, none⟩ = some (.bool false) := hF.r7.cell 0
    have f0 := fun i => hF.r6.frozen i
    have f1 := hF.r7.frozen 0
    have hne : ¬ s = s + 1 := by omega
    have hne2 : ¬ s + 1 = s := by omega
    obtain ⟨⟨j, s1, p1, o1, f2, b1⟩, rfl⟩ : ∃ y, y = x := ⟨_, rfl⟩
    dsimp only at d0 d1 d2 d3 d4
    have HF := Lib.hid hF
    have HX := Lib.hid hX
    clear hF hX hfl
    gi_wp2
    obtain ⟨V6, hV6⟩ : ∃ V6, V6 = (((((V.setCell ⟨s, 0, none⟩ (.int .i64 s1)).setCell ⟨s, 1, none⟩ (.int .i64 p1)).setCell ⟨s, 2, none⟩ (.int .i64 o1)).setCell ⟨s, 3, none⟩ (.int .i64 f2)).setCell ⟨s, 4, none⟩ (.bool b1)).setCell ⟨s + 1, 0, none⟩ (.bool true) := ⟨_, rfl⟩
    rw [← hV6]
    obtain ⟨hl, hh⟩ := lk_set (w := w) ⟨s1, p1, o1, f2, b1⟩ true false HF.out.r6 HF.out.r7 HF.out.bel (by have := HSS.out; omega) hV6
    exact ⟨hh.mono (by have := HSZ.out; omega), rfl, _, _, ⟨_, HX.out⟩, hl⟩
  case done =>
    rintro D V hD ⟨hX, hF⟩ hK
    have q0 : V.cell? ⟨s, 0, none⟩ = some (.int .i64 0) := hF.r6.cell 0
    have q1 : V.cell? ⟨s, 1, none⟩ = some (.int .i64 0) := hF.r6.cell 1
    have q2 : V.cell? ⟨s, 2, none⟩ = some (.int .i64 0) := hF.r6.cell 2
    have q3 : V.cell? ⟨s, 3, none⟩ = some (.int .i64 0) := hF.r6.cell 3
    have q4 : V.cell? ⟨s, 4, none⟩ = some (.bool false) := hF.r6.cell 4
    have q5 : V.cell? ⟨s + 1, 0, none⟩ = some (.bool false) := hF.r7.cell 0
    have f0 := fun i => hF.r6.frozen i
    have f1 := hF.r7.frozen 0
    have hne : ¬ s = s + 1 := by omega
    have hne2 : ¬ s + 1 = s := by omega
    have HF := Lib.hid hF
    have HX := Lib.hid hX
    clear hF hX hfl
    gi_wp2
    obtain ⟨V6, hV6⟩ : ∃ V6, V6 = (((((V.setCell ⟨s, 0, none⟩ (.int .i64 0)).setCell ⟨s, 1, none⟩ (.int .i64 0)).setCell ⟨s, 2, none⟩ (.int .i64 0)).setCell ⟨s, 3, none⟩ (.int .i64 0)).setCell ⟨s, 4, none⟩ (.bool false)).setCell ⟨s + 1, 0, none⟩ (.bool false) := ⟨_, rfl⟩
    rw [← hV6]
    obtain ⟨hl, hh⟩ := lk_set (w := w) ⟨0, 0, 0, 0, false⟩ false false HF.out.r6 HF.out.r7 HF.out.bel (by have := HSS.out; omega) hV6
    have hDs : s + 2 ≤ D := by have := HSZ.out; omega
    have hK6 : V6.heap[D]? = some (.deferred (some [])) := (hh.keep D hDs (Array.getElem?_eq_some_iff.1 hK).1).trans hK
    refine ⟨by simp, .inl ⟨_, _, rfl, run_takeDeferred hK6, ?_⟩⟩
    have hl2 := hl.own (D := s + 2) (by have := HSS.out; omega) (grownBy_putObj' V6 D (.deferred none)) (fun r e => by injection e with e; subst e; exact ⟨hDs, _, hK6, rfl⟩)
    refine ⟨_, lk_res hl2 _ rfl rfl, ?_, hl2.bel⟩
    rw [lkP_head, HX.out]
    rfl
  case stop =>
    rintro D cd pre V hD ⟨rfl, x, ⟨rest, hX⟩, hF⟩ hK
    gi_wp2
    refine ⟨by simp, .inl ⟨_, _, rfl, run_takeDeferred hK, ?_⟩⟩
    have hl2 := hF.own (D := W2.heap.size) (by have := HSZ.out; have := HSS.out; omega) (grownBy_putObj' V D (.deferred none)) (fun r e => by injection e with e; subst e; exact ⟨hD, _, hK, rfl⟩)
    refine ⟨_, lk_res hl2 _ rfl rfl, ?_, hl2.bel⟩
    rw [lkP_head, hX]
    rfl
end
end Go.Proofs.Ytbnnfgdlkldafaa
