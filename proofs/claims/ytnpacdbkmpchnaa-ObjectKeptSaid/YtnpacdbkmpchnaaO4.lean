/- The reference of objects: Set, Change. -/
import Derived.Test.YtnpacdbkmpchnaaO3
namespace Go.Proofs.Ytnpacdbkmpchnaa
open Go.RowKit
theorem own_made {P : Program} {α : Type} (E : Enc P α) (w : World) : E.Own w.heap.size (w.alloc (.cells #[] E.el)) (.slice (some ⟨w.heap.size, 0, none⟩) 0 0) [] :=
  World.ownsRow_made w #[] 0 (Nat.le_refl _) (Nat.zero_le _) (by rw [Nat.zero_mul]; rfl)
theorem own_src {P : Program} {α : Type} {E : Enc P α} {B : Nat} {w : World} {A : Option Addr} {n c : Nat} {L : List α} (h : E.Own B w (.slice A n c) L) {g : Nat} (hA : A = some ⟨g, 0, none⟩) : ∀ j u, (E.cells L)[j]? = some u → w.cell? ((⟨g, 0, none⟩ : Addr).add j) = some u := fun j u hu => by
  subst hA
  have hn : n = L.length := by obtain ⟨_, _, e⟩ := h.form; injection e
  subst hn
  obtain ⟨rest, r1, _⟩ := own_row h rfl
  rw [addr_add, r1.cell, List.getElem?_append_left (List.getElem?_eq_some_iff.1 hu).1]; exact hu
section
variable {w w' W3 : World} {B xa : Nat} {vh vl vl' : Value} {H : List Int} {L L' : List Og}
/-- The list is laid anew, in new memory. -/
theorem Rx.setL2 (h : Rx B w xa vh vl H L) (hb : Below w.heap.size w W3) (ho : EOg.Own w.heap.size W3 vl' L') (hl : L'.length ≤ 1000) :
    W3.cell? ⟨xa, 1, none⟩ = some vl ∧ W3.frozen? ⟨xa, 1, none⟩ = false ∧ Rx B (W3.setCell ⟨xa, 1, none⟩ vl') xa vh vl' H L' ∧ DidR B w xa vh vl H L' (W3.setCell ⟨xa, 1, none⟩ vl') := by
  have h3 := h.call hb
  have hR : Rx B (W3.setCell ⟨xa, 1, none⟩ vl') xa vh vl' H L' := by
    refine ⟨h3.top.set_ 1 vl', ?_, ?_, h.lo, by have := hb.size; have := h.lw; simp [World.setCell]; omega, h.hl, hl⟩
    · refine h3.hel.heap fun g e => ?_
      obtain ⟨vs, r, _⟩ := h3.hel.block e
      exact Below.heap_setCell W3 _ _ g (r.apart h3.top (by decide))
    · refine (ho.base h.lw).heap fun g e => ?_
      obtain ⟨vs, r, _⟩ := ho.block e
      exact Below.heap_setCell W3 _ _ g (r.apart h3.top (by decide))
  refine ⟨h3.top.cell 1, h3.top.frozen 1, hR, vh, vl', hR, ?_, fun k e => ?_⟩
  · exact (Foot.of_below (X := MineX xa vh vl) hb).trans (Foot.grown (X := MineX xa vh vl) (grown_set W3 xa 1 _) (Or.inl rfl)) (fun _ e _ => e)
  · rcases e with e | e | e
    · exact Or.inl (Or.inl e)
    · exact Or.inl (Or.inr (Or.inl e))
    · obtain ⟨vs, _, r⟩ := ho.block e
      exact Or.inr r
/-- One frame is another. -/
theorem Rx.put2 (h : Rx B w xa vh vl H L) {g n c : Nat} (hv : vl = .slice (some ⟨g, 0, none⟩) n c) {j : Nat} (hj : j < L.length) (x : Int) :
    (∃ u, w.cell? ⟨g, j * 3 + 2, none⟩ = some u) ∧ w.frozen? ⟨g, j * 3 + 2, none⟩ = false ∧ Rx B (w.setCell ⟨g, j * 3 + 2, none⟩ (.int .i64 x)) xa vh vl H (L.set j { L[j] with f := x }) := by
  subst hv
  obtain ⟨vs, rg, hgB⟩ := h.ons.block (g := g) rfl
  obtain ⟨g', eg, -, -, -, hat⟩ := h.ons.some_ (by omega)
  injection eg with eg
  injection eg with eg
  subst eg
  obtain ⟨hf, hp⟩ := h.ons.put hj (q := 2) (by decide) (u := .int .i64 x) (x := { L[j] with f := x }) rfl rfl
  refine ⟨⟨_, hat j hj 2 (by decide)⟩, hf _, h.top.far (h.top.apart rg (by decide)) _, ?_, hp, h.lo, by have := h.lw; simpa [World.setCell] using this, h.hl, by rw [List.length_set]; exact h.ll⟩
  refine h.hel.heap fun k e => ?_
  obtain ⟨us, r, _⟩ := h.hel.block e
  exact Below.heap_setCell w _ _ k (r.apart rg (by decide))
set_option maxRecDepth 100000 in
set_option maxHeartbeats 1000000 in
theorem set_no (h : Rx B w xa vh vl H L) (i p f : Int) (r : Int) (hr : seE H L i p f = r) (h0 : r ≠ 0) : Calls Try.prog 35 #[.pointer (some ⟨xa, 0, none⟩), .int .i64 i, .int .i64 p, .int .i64 f] w (DidN B w xa vh vl H L r) := by
  have his := is_x h i
  have hfr := frame_x h i p
  have hof := of_x h f
  have HD := Lib.hid (h.did (Below.refl w.heap.size w))
  clear h
  unfold seE at hr
  by_cases hi : isB H i = false
  · rw [if_pos hi] at hr
    subst hr
    rw [hi] at his
    clear hi
    go_enter Try.func35, Try.ntmps35
    go_wp2_with (first | (go_at_call 38; (with_reducible refine his.mono ?_); rintro e w1 ⟨rfl, rfl⟩) | (go_at_call 39; (with_reducible refine hfr.mono ?_); rintro e w1 ⟨rfl, rfl⟩) | (go_at_call 31; (with_reducible refine hof.mono ?_); rintro e w1 ⟨rfl, rfl⟩))
    go_ret
    exact ⟨rfl, HD.out⟩
  · rw [if_neg hi] at hr
    rw [show isB H i = true by simpa using hi] at his
    by_cases hg : rgB p f = true
    · rw [if_pos hg] at hr
      subst hr
      unfold rgB at hg
      by_cases g1 : p < 0
      · clear hg hi
        go_enter Try.func35, Try.ntmps35
        go_wp2_with (first | (go_at_call 38; (with_reducible refine his.mono ?_); rintro e w1 ⟨rfl, rfl⟩) | (go_at_call 39; (with_reducible refine hfr.mono ?_); rintro e w1 ⟨rfl, rfl⟩) | (go_at_call 31; (with_reducible refine hof.mono ?_); rintro e w1 ⟨rfl, rfl⟩))
        go_ret
        exact ⟨rfl, HD.out⟩
      · have q1 : decide (p < 0) = false := decide_eq_false g1
        by_cases g2 : 4095 < p
        · clear hg hi
          go_enter Try.func35, Try.ntmps35
          go_wp2_with (first | (go_at_call 38; (with_reducible refine his.mono ?_); rintro e w1 ⟨rfl, rfl⟩) | (go_at_call 39; (with_reducible refine hfr.mono ?_); rintro e w1 ⟨rfl, rfl⟩) | (go_at_call 31; (with_reducible refine hof.mono ?_); rintro e w1 ⟨rfl, rfl⟩))
          go_ret
          exact ⟨rfl, HD.out⟩
        · have q2 : decide (4095 < p) = false := decide_eq_false g2
          by_cases g3 : f < 0
          · clear hg hi
            go_enter Try.func35, Try.ntmps35
            go_wp2_with (first | (go_at_call 38; (with_reducible refine his.mono ?_); rintro e w1 ⟨rfl, rfl⟩) | (go_at_call 39; (with_reducible refine hfr.mono ?_); rintro e w1 ⟨rfl, rfl⟩) | (go_at_call 31; (with_reducible refine hof.mono ?_); rintro e w1 ⟨rfl, rfl⟩))
            go_ret
            exact ⟨rfl, HD.out⟩
          · have q3 : decide (f < 0) = false := decide_eq_false g3
            have g4 : 1023 < f := by
              rw [q1, q2, q3] at hg
              simpa using hg
            clear hg hi
            go_enter Try.func35, Try.ntmps35
            go_wp2_with (first | (go_at_call 38; (with_reducible refine his.mono ?_); rintro e w1 ⟨rfl, rfl⟩) | (go_at_call 39; (with_reducible refine hfr.mono ?_); rintro e w1 ⟨rfl, rfl⟩) | (go_at_call 31; (with_reducible refine hof.mono ?_); rintro e w1 ⟨rfl, rfl⟩))
            go_ret
            exact ⟨rfl, HD.out⟩
    · rw [if_neg hg] at hr
      unfold rgB at hg
      simp only [Bool.or_eq_true, decide_eq_true_eq, not_or] at hg
      obtain ⟨⟨⟨g1, g2⟩, g3⟩, g4⟩ := hg
      have q1 : decide (p < 0) = false := decide_eq_false g1
      have q2 : decide (4095 < p) = false := decide_eq_false g2
      have q3 : decide (f < 0) = false := decide_eq_false g3
      have q4 : decide (1023 < f) = false := decide_eq_false g4
      by_cases hf : frE L i p = 0 ∨ 0 ≤ ofI L f
      · rw [if_pos hf] at hr
        subst hr
        by_cases h1 : frE L i p = 0
        · rw [h1] at hfr
          generalize frV L i p = x at hfr
          clear hi hf h1
          go_enter Try.func35, Try.ntmps35
          go_wp2_with (first | (go_at_call 38; (with_reducible refine his.mono ?_); rintro e w1 ⟨rfl, rfl⟩) | (go_at_call 39; (with_reducible refine hfr.mono ?_); rintro e w1 ⟨rfl, rfl⟩) | (go_at_call 31; (with_reducible refine hof.mono ?_); rintro e w1 ⟨rfl, rfl⟩))
          go_ret
          exact ⟨rfl, HD.out⟩
        · have h2 := hf.resolve_left h1
          obtain ⟨er, her⟩ : ∃ er, er = frE L i p := ⟨_, rfl⟩
          obtain ⟨ov, hov⟩ : ∃ ov, ov = ofI L f := ⟨_, rfl⟩
          rw [← her] at hfr h1
          rw [← hov] at hof h2
          have h1' : (er == 0) = false := by simpa using h1
          generalize frV L i p = x at hfr
          clear hi hf her hov h1
          go_enter Try.func35, Try.ntmps35
          go_wp2_with (first | (go_at_call 38; (with_reducible refine his.mono ?_); rintro e w1 ⟨rfl, rfl⟩) | (go_at_call 39; (with_reducible refine hfr.mono ?_); rintro e w1 ⟨rfl, rfl⟩) | (go_at_call 31; (with_reducible refine hof.mono ?_); rintro e w1 ⟨rfl, rfl⟩))
          go_ret
          exact ⟨rfl, HD.out⟩
      · rw [if_neg hf] at hr
        exact absurd hr.symm h0
set_option maxRecDepth 100000 in
set_option maxHeartbeats 1000000 in
theorem set_yes (h : Rx B w xa vh vl H L) (i p f : Int) (hr : seE H L i p f = 0) (hl : L.length < 1000) : Calls Try.prog 35 #[.pointer (some ⟨xa, 0, none⟩), .int .i64 i, .int .i64 p, .int .i64 f] w (DidN B w xa vh vl H (L ++ [⟨i, p, f⟩]) 0) := by
  have his := is_x h i
  have hfr := frame_x h i p
  have hof := of_x h f
  unfold seE at hr
  by_cases hi : isB H i = false
  · rw [if_pos hi] at hr; cases hr
  · rw [if_neg hi] at hr
    rw [show isB H i = true by simpa using hi] at his
    by_cases hg : rgB p f = true
    · rw [if_pos hg] at hr; cases hr
    · rw [if_neg hg] at hr
      unfold rgB at hg
      simp only [Bool.or_eq_true, decide_eq_true_eq, not_or] at hg
      obtain ⟨⟨⟨g1, g2⟩, g3⟩, g4⟩ := hg
      have q1 : decide (p < 0) = false := decide_eq_false g1
      have q2 : decide (4095 < p) = false := decide_eq_false g2
      have q3 : decide (f < 0) = false := decide_eq_false g3
      have q4 : decide (1023 < f) = false := decide_eq_false g4
      by_cases hf : frE L i p = 0 ∨ 0 ≤ ofI L f
      · rw [if_pos hf] at hr; cases hr
      · obtain ⟨er, her⟩ : ∃ er, er = frE L i p := ⟨_, rfl⟩
        obtain ⟨ov, hov⟩ : ∃ ov, ov = ofI L f := ⟨_, rfl⟩
        have h1 : ¬ er = 0 := fun e => hf (Or.inl (her.symm.trans e))
        have h2 : ¬ 0 ≤ ov := fun e => hf (Or.inr (hov ▸ e))
        rw [← her] at hfr
        rw [← hov] at hof
        have h1' : (er == 0) = false := by simpa using h1
        generalize frV L i p = x at hfr
        obtain ⟨A, c, hv⟩ := h.ons.form
        have c1 := h.c1
        obtain ⟨A5, c5, W5, r5, o5, g5, t5⟩ := h.ons.app1 h.lw ⟨i, p, f⟩ (by omega) #[.int .i64 i, .int .i64 p, .int .i64 f] rfl
        have r5' := r5 _ rfl
        obtain ⟨s0, f0, -, hD⟩ := h.setL g5 o5 t5 (by rw [List.length_append]; simp; omega)
        rw [hv] at c1 r5' s0
        obtain ⟨n, hn⟩ : ∃ n, n = L.length := ⟨_, rfl⟩
        rw [← hn] at c1 r5' s0 hD
        change (Builtin.append_ #[30, 30] 30 _).run Try.prog (w.alloc (.cells #[.int .i64 i, .int .i64 p, .int .i64 f] 70)) = _ at r5'
        have HD := Lib.hid hD
        have hlt := h.top.lt
        clear h hv r5 o5 g5 t5 hD hn hi hf hr her hov h1
        go_enter Try.func35, Try.ntmps35
        go_wp2_with (first | (go_at_call 38; (with_reducible refine his.mono ?_); rintro e w1 ⟨rfl, rfl⟩) | (go_at_call 39; (with_reducible refine hfr.mono ?_); rintro e w1 ⟨rfl, rfl⟩) | (go_at_call 31; (with_reducible refine hof.mono ?_); rintro e w1 ⟨rfl, rfl⟩) | (at_builtin; refine wpList_append_run rfl _ _ 30 rfl _ _ rfl rfl r5' ?_))
        go_ret
        exact ⟨rfl, HD.out⟩
theorem set_x (h : Rx B w xa vh vl H L) (i p f : Int) (hl : L.length < 1000) : Calls Try.prog 35 #[.pointer (some ⟨xa, 0, none⟩), .int .i64 i, .int .i64 p, .int .i64 f] w (DidN B w xa vh vl H (seL H L i p f) (seE H L i p f)) := by
  by_cases hr : seE H L i p f = 0
  · rw [hr, show seL H L i p f = L ++ [⟨i, p, f⟩] from if_pos hr]; exact set_yes h i p f hr hl
  · rw [show seL H L i p f = L from if_neg hr]; exact set_no h i p f _ rfl hr
set_option maxRecDepth 100000 in
set_option maxHeartbeats 1000000 in
theorem change_x (h : Rx B w xa vh vl H L) (a t : Int) : Calls Try.prog 36 #[.pointer (some ⟨xa, 0, none⟩), .int .i64 a, .int .i64 t] w (DidN B w xa vh vl H (chL L a t) (chE L a t)) := by
  have hoa := of_x h a
  have hot := of_x h t
  have HD := Lib.hid (h.did (Below.refl w.heap.size w))
  by_cases h1 : ofI L a < 0
  · have hE : chE L a t = 6 := if_pos h1
    rw [show chL L a t = L by unfold chL; rw [hE, if_neg (by decide)], hE]
    generalize ofI L a = oa at hoa h1
    clear h hE
    go_enter Try.func36, Try.ntmps36
    go_wp2_with (go_at_call 31; first | ((with_reducible refine hoa.mono ?_); rintro e w1 ⟨rfl, rfl⟩) | ((with_reducible refine hot.mono ?_); rintro e w1 ⟨rfl, rfl⟩))
    go_ret
    exact ⟨rfl, HD.out⟩
  · have hfa : fi (byF a) L < L.length := ofI_pos.1 (by omega)
    by_cases h2 : t < 0 ∨ 1023 < t
    · have hE : chE L a t = 3 := by unfold chE; rw [if_neg h1, if_pos h2]
      rw [show chL L a t = L by unfold chL; rw [hE, if_neg (by decide)], hE]
      generalize ofI L a = oa at hoa h1
      clear h hE hfa
      by_cases g1 : t < 0
      · clear h2
        go_enter Try.func36, Try.ntmps36
        go_wp2_with (go_at_call 31; first | ((with_reducible refine hoa.mono ?_); rintro e w1 ⟨rfl, rfl⟩) | ((with_reducible refine hot.mono ?_); rintro e w1 ⟨rfl, rfl⟩))
        go_ret
        exact ⟨rfl, HD.out⟩
      · have g2 : 1023 < t := h2.resolve_left g1
        have q1 : decide (t < 0) = false := decide_eq_false g1
        clear h2
        go_enter Try.func36, Try.ntmps36
        go_wp2_with (go_at_call 31; first | ((with_reducible refine hoa.mono ?_); rintro e w1 ⟨rfl, rfl⟩) | ((with_reducible refine hot.mono ?_); rintro e w1 ⟨rfl, rfl⟩))
        go_ret
        exact ⟨rfl, HD.out⟩
    · have g1 : ¬ t < 0 := fun e => h2 (Or.inl e)
      have g2 : ¬ 1023 < t := fun e => h2 (Or.inr e)
      have q1 : decide (t < 0) = false := decide_eq_false g1
      have q2 : decide (1023 < t) = false := decide_eq_false g2
      by_cases h3 : 0 ≤ ofI L t
      · have hE : chE L a t = 7 := by unfold chE; rw [if_neg h1, if_neg h2, if_pos h3]
        rw [show chL L a t = L by unfold chL; rw [hE, if_neg (by decide)], hE]
        generalize ofI L a = oa at hoa h1
        generalize ofI L t = ot at hot h3
        clear h hE hfa h2
        go_enter Try.func36, Try.ntmps36
        go_wp2_with (go_at_call 31; first | ((with_reducible refine hoa.mono ?_); rintro e w1 ⟨rfl, rfl⟩) | ((with_reducible refine hot.mono ?_); rintro e w1 ⟨rfl, rfl⟩))
        go_ret
        exact ⟨rfl, HD.out⟩
      · have hE : chE L a t = 0 := by unfold chE; rw [if_neg h1, if_neg h2, if_neg h3]
        obtain ⟨k, hk⟩ : ∃ k, k = fi (byF a) L := ⟨_, rfl⟩
        have hkl : k < L.length := by rw [hk]; exact hfa
        have hC : chL L a t = L.set k { L[k] with f := t } := by unfold chL; rw [if_pos hE, dif_pos hfa]; simp only [← hk]
        rw [hC, hE]
        rw [ofI_yes hfa, ← hk] at hoa
        generalize ofI L t = ot at hot h3
        obtain ⟨A, c, hv⟩ := h.ons.form
        have c1 := h.c1
        obtain ⟨W1, hW1⟩ : ∃ W1, W1 = w.alloc (.cells #[] 70) := ⟨_, rfl⟩
        have hb1 : Below w.heap.size w W1 := by rw [hW1]; exact below_new _ _
        have hm : EOg.Own w.heap.size W1 (.slice (some ⟨w.heap.size, 0, none⟩) 0 0) [] := by rw [hW1]; exact own_made EOg w
        obtain ⟨-, g, hA, -, -⟩ := h.on hv hkl
        subst hA
        have hon := h.ons
        rw [hv] at hon
        obtain ⟨A2, c2, W2, r2, o2, g2', -⟩ := hm.app hb1.size ⟨g, 0, none⟩ c L (own_src (hon.call hb1) rfl) (by rw [List.length_nil]; have := h.ll; omega)
        have r2' := r2 _ rfl
        rw [List.nil_append] at o2
        simp only [List.length_nil, Nat.zero_add] at r2' o2
        change (Builtin.append_ #[30, 30] 30 _).run Try.prog W1 = _ at r2'
        have hb2 : Below w.heap.size w W2 := hb1.grown g2' hb1.size (fun k e => by injection e with e; change w.heap.size = k at e; omega)
        obtain ⟨s1, f1, hR4, hD4⟩ := h.setL2 hb2 o2 h.ll
        obtain ⟨-, g3, hA3, -, -⟩ := hR4.on rfl hkl
        subst hA3
        have e1 := hR4.c1
        obtain ⟨⟨u5, m5⟩, f5, hR5⟩ := hR4.put2 rfl hkl t
        have HDD : Hid (DidR B w xa vh vl H (L.set k { L[k] with f := t }) ((W2.setCell ⟨xa, 1, none⟩ (.slice (some ⟨g3, 0, none⟩) L.length c2)).setCell ⟨g3, k * 3 + 2, none⟩ (.int .i64 t))) := by
          obtain ⟨vs, _, hg3⟩ := o2.block (g := g3) rfl
          refine ⟨_, _, hR5, ?_, fun q e => ?_⟩
          · have F1 := (Foot.of_below (X := MineX xa vh vl) hb2).trans (Foot.grown (X := MineX xa vh vl) (grown_set W2 xa 1 (.slice (some ⟨g3, 0, none⟩) L.length c2)) (Or.inl rfl)) (fun _ e _ => e)
            exact F1.trans (Foot.grown (X := fun b => b = g3) (grown_set _ g3 _ _) rfl) (fun b e hb => by omega)
          · rcases e with e | e | e
            · exact Or.inl (Or.inl e)
            · exact Or.inl (Or.inr (Or.inl e))
            · injection e with e
              change g3 = q at e
              exact Or.inr (by omega)
        rw [hv] at c1 s1
        rw [hW1] at r2'
        have k0 : (0 : Int) ≤ k := by omega
        have k1 : (k : Int) < (L.length : Int) := by omega
        have n9 := h.ll
        obtain ⟨n, hn⟩ : ∃ n, n = L.length := ⟨_, rfl⟩
        rw [← hn] at c1 s1 r2' e1 m5 f5 HDD k1 n9
        have hxl := h.top.lt
        have hHS := HDD
        clear h hE hfa h2 hk hC hv hb1 hm hon r2 o2 g2' hb2 hR4 hD4 hR5 HD hW1 hn HDD
        go_enter Try.func36, Try.ntmps36
        go_wp2_with (first | (go_at_call 31; first | ((with_reducible refine hoa.mono ?_); rintro e w1 ⟨rfl, rfl⟩) | ((with_reducible refine hot.mono ?_); rintro e w1 ⟨rfl, rfl⟩)) | (at_builtin; refine wpList_append_run rfl _ _ 30 rfl _ _ rfl rfl r2' ?_))
        go_ret
        exact ⟨rfl, hHS.out⟩
end
end Go.Proofs.Ytnpacdbkmpchnaa
