/- The program's reservations: New, Make. -/
import Derived.Test.YtfalmjibpkkjaaaB4
namespace Go.Proofs.Ytfalmjibpkkjaaa
open Go.RowKit
theorem find_congr {α : Type} {p q : α → Bool} : ∀ {L : List α}, (∀ a ∈ L, p a = q a) → L.find? p = L.find? q
  | [], _ => rfl
  | a :: r, h => by
    have ha := h a (List.mem_cons_self ..)
    have ih := find_congr (L := r) fun b hb => h b (List.mem_cons_of_mem _ hb)
    rw [List.find?_cons, List.find?_cons, ha, ih]
theorem find_ins {x : Rv} {L : List Rv} {q : Rv → Bool} (hx : q x = true → L.find? q = none) : (insR x L).find? q = if q x = true then some x else L.find? q := by
  have e := List.takeWhile_append_dropWhile (p := befR x.s x.p) (l := L)
  unfold insR
  rw [List.find?_append]
  by_cases c : q x = true
  · rw [if_pos c]
    have hn := hx c
    rw [List.find?_eq_none] at hn
    have : (L.takeWhile (befR x.s x.p)).find? q = none := by
      rw [List.find?_eq_none]
      intro y hy
      exact hn y (by rw [← e]; exact List.mem_append_left _ hy)
    rw [this, List.find?_cons_of_pos c]; rfl
  · rw [if_neg c, List.find?_cons_of_neg c, ← List.find?_append, e]
section
variable {w w' : World} {B : Nat} {T : ObT} {S S' : Rs} {n : Nat} {s p f : Int}
def newT (T : ObT) (s p : Int) (q : Nat) : ObT := ⟨T.s, T.bk, T.bo, fun a b => if a = s ∧ b = p then q else T.a a b⟩
/-- One is made: what is written, and what it comes to. -/
theorem ObAt.made (h : ObAt B w T S) (hb : Bnd n S) (hn : n ≤ 900) (c : mkE S s p f = 0) (hs : Fits s) {w1 : World} {q : Nat} (e1 : w1 = w.alloc (.cells #[.int .i64 s, .int .i64 p, .int .i64 f, .int .u8 0, .int .u64 0] 69)) (hq : q = w.heap.size) :
    ∃ w2 w3, (Instr.mapUpdate 71 (.map (some T.bk)) (.agg #[.int .i64 s, .int .i64 p]) (.pointer (some ⟨q, 0, none⟩))).run Try.prog w1 = .ok () w2 ∧ (Instr.mapUpdate 72 (.map (some T.bo)) (.int .i64 f) (.pointer (some ⟨q, 0, none⟩))).run Try.prog w2 = .ok () w3 ∧
      w1.cell? ⟨T.s, 0, none⟩ = some (.map (some T.bk)) ∧ w2.cell? ⟨T.s, 1, none⟩ = some (.map (some T.bo)) ∧ Lrow w3 T.s 74 [.map (some T.bk), .map (some T.bo), .int .u64 S.T] ∧ Lrow w3 q 69 [.int .i64 s, .int .i64 p, .int .i64 f, .int .u8 0, .int .u64 0] ∧
      ∀ w4, w4 = (w3.setCell ⟨T.s, 2, none⟩ (.int .u64 (S.T + 1))).setCell ⟨q, 4, none⟩ (.int .u64 (S.T + 1)) → DidM B w T S (mkS S s p f) w4 := by
  obtain ⟨⟨a1, a2, a3, a4, a5, a6, a7⟩, z1, z2⟩ := mkE_ok c
  have hb1 : Below w.heap.size w w1 := by rw [e1]; exact below_new _ _
  have h1 := h.call hb1
  have t0 := hb.t0
  have t1 := hb.t1
  have rq : Lrow w1 q 69 [.int .i64 s, .int .i64 p, .int .i64 f, .int .u8 0, .int .u64 0] := by rw [e1, hq]; exact Lrow.new w _ _
  have s1 : w1.heap.size = w.heap.size + 1 := by rw [e1]; simp
  obtain ⟨w2, r2, g2, s2, m2⟩ := h1.kept.put (by omega) (f := (s, p)) (.pointer (some ⟨q, 0, none⟩)) ⟨hs, by unfold FitM; omega⟩
  have k2 : ∀ k, k < w1.heap.size → k ≠ T.bk → w2.heap[k]? = w1.heap[k]? := fun k hk hne => g2.block k hk (by intro e; injection e with e; exact hne e)
  obtain ⟨w3, r3, g3, s3, m3⟩ := (h1.own.heap (k2 _ h1.own.lt h.apb.symm)).put (by omega) (f := f) (.pointer (some ⟨q, 0, none⟩)) (by unfold FitM; omega)
  have k3 : ∀ k, k < w2.heap.size → k ≠ T.bo → w3.heap[k]? = w2.heap[k]? := fun k hk hne => g3.block k hk (by intro e; injection e with e; exact hne e)
  rw [s2] at k3
  have nr : ∀ {g t vs}, Lrow w1 g t vs → Lrow w3 g t vs := fun {g t vs} r => ((k3 _ r.lt (h1.own.apart r)).trans (k2 _ r.lt (h1.kept.apart r))).trans r
  have top2 : Lrow w2 T.s 74 [.map (some T.bk), .map (some T.bo), .int .u64 S.T] := (k2 _ h1.top.lt (h1.kept.apart h1.top)).trans h1.top
  refine ⟨w2, w3, r2, r3, h1.top.cell 0, top2.cell 1, nr h1.top, nr rq, fun w4 e4 => ?_⟩
  have hqs : q ≠ T.s := by have := h.top.lt; omega
  have top4 : Lrow w4 T.s 74 [.map (some T.bk), .map (some T.bo), .int .u64 (S.T + 1)] := by
    rw [e4]; exact ((nr h1.top).set_ 2 _).far (p := ⟨q, 4, none⟩) hqs.symm _
  have rq4 : Lrow w4 q 69 [.int .i64 s, .int .i64 p, .int .i64 f, .int .u8 0, .int .u64 (S.T + 1)] := by
    rw [e4]; exact ((nr rq).far (p := ⟨T.s, 2, none⟩) hqs _).set_ 4 _
  have k4 : ∀ k, k ≠ T.s → k ≠ q → w4.heap[k]? = w3.heap[k]? := fun k x1 x2 => by
    rw [e4, Below.heap_setCell _ _ _ k (by exact x2), Below.heap_setCell _ _ _ k (by exact x1)]
  have s4 : w4.heap.size = w3.heap.size := by rw [e4]; simp [World.setCell]
  rw [mkS_yes c]
  have hk : ∀ y ∈ S.L, ¬ (y.s = s ∧ y.p = p) := fun y hy e => atP_none z1 hy (by rw [pd_even a4]; exact e)
  have hfy : ∀ y ∈ S.L, y.f ≠ f := fun y hy e => atF_none z2 hy (by rw [pd_even a7]; exact e)
  have ha : ∀ y ∈ S.L, (newT T s p q).a y.s y.p = T.a y.s y.p := fun y hy => if_neg (hk y hy)
  have hax : (newT T s p q).a s p = q := if_pos ⟨rfl, rfl⟩
  refine ⟨newT T s p q, rfl, ⟨top4, ?_, ?_, fun y hy => ?_, fun y hy z hz he => ?_, h.apb, h.lo, fun y hy => ?_⟩, ?_, ?_⟩
  · refine ((m2.heap ((k4 _ (fun e => h1.kept.apart h1.top e.symm) (fun e => by have := h.kept.lt; omega)).trans (k3 _ h1.kept.lt h.apb))).mono (show S.T.toNat + 1 ≤ (S.T + 1).toNat by omega)).eq fun k _ => ?_
    show sayK (insR ⟨s, p, f, 0, S.T + 1⟩ S.L) _ k = _
    unfold sayK
    rw [find_ins (fun e => by
      rw [List.find?_eq_none]
      intro y hy hyk
      simp only [decide_eq_true_eq] at e hyk
      exact hk y hy ⟨hyk.1.trans e.1.symm, hyk.2.trans e.2.symm⟩)]
    by_cases d : k = (s, p)
    · subst d
      rw [updK_same, if_pos (decide_eq_true ⟨rfl, rfl⟩)]
      simp only [Option.map_some]
      rw [hax]
    · rw [updK_other _ _ d, if_neg (by intro e; simp only [decide_eq_true_eq] at e; exact d (Prod.ext e.1.symm e.2.symm))]
      cases hfd : S.L.find? (fun x => decide (x.s = k.1 ∧ x.p = k.2)) with
      | none => rfl
      | some y => simp only [Option.map_some]; rw [ha y (List.mem_of_find?_eq_some hfd)]
  · refine ((m3.heap (k4 _ (fun e => h1.own.apart h1.top e.symm) (fun e => by have := h.own.lt; omega))).mono (show S.T.toNat + 1 ≤ (S.T + 1).toNat by omega)).eq fun k _ => ?_
    show sayF (insR ⟨s, p, f, 0, S.T + 1⟩ S.L) _ k = _
    unfold sayF
    rw [find_ins (fun e => by
      rw [List.find?_eq_none]
      intro y hy hyk
      simp only [decide_eq_true_eq] at e hyk
      exact hfy y hy (hyk.trans e.symm))]
    by_cases d : k = f
    · subst d
      rw [updM_same, if_pos (decide_eq_true rfl)]
      simp only [Option.map_some]
      rw [hax]
    · rw [updM_other _ _ d, if_neg (by intro e; simp only [decide_eq_true_eq] at e; exact d e.symm)]
      cases hfd : S.L.find? (fun x => decide (x.f = k)) with
      | none => rfl
      | some y => simp only [Option.map_some]; rw [ha y (List.mem_of_find?_eq_some hfd)]
  · rcases (mem_insR _).1 hy with rfl | hy
    · rw [hax]; exact rq4
    · rw [ha y hy]
      have r := h1.row y hy
      exact (k4 _ (r.apart h1.top (by decide)) (fun e => by have := (h.row y hy).lt; omega)).trans (nr r)
  · rcases (mem_insR _).1 hy with rfl | hy
    · rcases (mem_insR _).1 hz with rfl | hz
      · exact ⟨rfl, rfl⟩
      · exfalso
        rw [hax, ha z hz] at he
        have := (h.row z hz).lt; omega
    · rcases (mem_insR _).1 hz with rfl | hz
      · exfalso
        rw [hax, ha y hy] at he
        have := (h.row y hy).lt; omega
      · rw [ha y hy, ha z hz] at he
        exact h.inj y hy z hz he
  · rcases (mem_insR _).1 hy with rfl | hy
    · rw [hax]; have := h.lw; omega
    · rw [ha y hy]; exact h.loq y hy
  · have f2 : Foot (MineO T S.L) w w2 := (Foot.of_below (X := MineO T S.L) hb1).trans (Foot.grown (X := MineO T S.L) g2 (Or.inr (Or.inl rfl))) fun _ e _ => e
    have f3 : Foot (MineO T S.L) w w3 := f2.trans (Foot.grown (X := MineO T S.L) g3 (Or.inr (Or.inr (Or.inl rfl)))) fun _ e _ => e
    refine ⟨?_, ?_, ?_, by rw [s4]; exact f3.size, fun k hkl hx => (k4 k (fun e => hx (Or.inl e)) (by omega)).trans (f3.keep k hkl hx)⟩
    · rw [e4]; exact f3.os
    · rw [e4]; exact f3.tape
    · rw [e4]; exact f3.output
  · rintro k (rfl | rfl | rfl | ⟨y, hy, rfl⟩)
    · exact Or.inl (Or.inl rfl)
    · exact Or.inl (Or.inr (Or.inl rfl))
    · exact Or.inl (Or.inr (Or.inr (Or.inl rfl)))
    · rcases (mem_insR _).1 hy with rfl | hy
      · rw [hax]; exact Or.inr (by omega)
      · rw [ha y hy]; exact Or.inl (Or.inr (Or.inr (Or.inr ⟨y, hy, rfl⟩)))
set_option maxRecDepth 100000 in
set_option maxHeartbeats 2000000 in
theorem new_r (w : World) : Calls Try.prog 12 #[] w fun e w' => ∃ s X, e = .returned (.pointer (some ⟨s, 0, none⟩)) ∧ theOb w.heap.size w' s X ⟨[], 0⟩ ∧ Below w.heap.size w w' := by
  have hmm := @run_makeMap Try.prog
  go_enter Try.func12, Try.ntmps12
  go_wp2_with fail
  go_ret
  obtain ⟨W1, hW1⟩ : ∃ W1, W1 = w.alloc (.map #[] 0) := ⟨_, rfl⟩
  have b1 : Below w.heap.size w W1 := by rw [hW1]; exact below_new _ _
  have m1 : TK.At W1 w.heap.size 0 (fun _ => none) := by rw [hW1]; exact MapTK.new w
  have s1 : W1.heap.size = w.heap.size + 1 := by rw [hW1]; simp
  rw [← hW1]
  obtain ⟨W2, hW2⟩ : ∃ W2, W2 = W1.alloc (.map #[] 0) := ⟨_, rfl⟩
  have b2 : Below W1.heap.size W1 W2 := by rw [hW2]; exact below_new _ _
  have m2 : TO.At W2 W1.heap.size 0 (fun _ => none) := by rw [hW2]; exact MapTy.new W1
  have s2 : W2.heap.size = W1.heap.size + 1 := by rw [hW2]; simp
  rw [← hW2]
  have b3 := below_new W2 (.cells #[.map (some w.heap.size), .map (some (w.heap.size + 1)), .int .u64 0] 74)
  have r3 := Lrow.new W2 74 [.map (some w.heap.size), .map (some (w.heap.size + 1)), .int .u64 0]
  rw [s1] at m2
  refine ⟨w.heap.size + 1 + 1, _, rfl, ⟨⟨w.heap.size + 1 + 1, w.heap.size, w.heap.size + 1, fun _ _ => 0⟩, rfl, rfl, ?_⟩, b1.trans ((b2.mono (by omega)).trans (b3.mono (by omega)))⟩
  rw [s2, s1] at r3
  exact ⟨r3, (m1.call b2).call b3, m2.call b3, fun x hx => absurd hx (by simp), fun x hx => absurd hx (by simp), (by show w.heap.size ≠ w.heap.size + 1; omega), ⟨by show w.heap.size ≤ w.heap.size + 1 + 1; omega, Nat.le_refl _, by show w.heap.size ≤ w.heap.size + 1; omega⟩, fun x hx => absurd hx (by simp)⟩
set_option maxRecDepth 100000 in
set_option maxHeartbeats 2000000 in
theorem make_r (h : ObAt B w T S) (hb : Bnd n S) (hn : n ≤ 900) (hs : Fits s) (hp : Fits p) (hf : Fits f) : Calls Try.prog 13 #[.pointer (some ⟨T.s, 0, none⟩), .int .i64 s, .int .i64 p, .int .i64 f] w fun e w' => e = .returned (.int .i64 (mkE S s p f)) ∧ DidM B w T S (mkS S s p f) w' := by
  have cP := fun w => isPage_r p w
  have cF := fun w => isFirst_r f w
  have cE := fun w => even_r hp w
  have cG := fun w => even_r hf w
  have HD0 := Lib.hid (h.did (Below.refl w.heap.size w))
  by_cases c : rgR s p f = true
  · have e3 : mkE S s p f = 3 := if_pos c
    rw [mkS_no (by rw [e3]; decide), e3]
    unfold rgR at c
    simp only [decide_eq_true_eq] at c
    clear h hb hn hs hp hf cE cG e3
    by_cases c1 : s < 0
    · clear c cP cF
      go_enter Try.func13, Try.ntmps13
      go_wp2
      go_ret
      exact ⟨rfl, HD0.out⟩
    · by_cases c2 : 0 ≤ p ∧ p ≤ 4095
      · simp only [decide_eq_true c2] at cP
        have c3 : ¬ (0 ≤ f ∧ f ≤ 1016) := by omega
        simp only [decide_eq_false c3] at cF
        clear c c2 c3
        go_enter Try.func13, Try.ntmps13
        go_wp2_with (first | (go_at_call 28; (with_reducible refine (cP _).mono ?_); rintro e w1 ⟨rfl, rfl⟩) | (go_at_call 29; (with_reducible refine (cF _).mono ?_); rintro e w1 ⟨rfl, rfl⟩))
        go_ret
        exact ⟨rfl, HD0.out⟩
      · simp only [decide_eq_false c2] at cP
        clear c c2 cF
        go_enter Try.func13, Try.ntmps13
        go_wp2_with (go_at_call 28; (with_reducible refine (cP _).mono ?_); rintro e w1 ⟨rfl, rfl⟩)
        go_ret
        exact ⟨rfl, HD0.out⟩
  · have c' := c
    unfold rgR at c'
    simp only [decide_eq_true_eq] at c'
    have c1 : ¬ s < 0 := by omega
    have c2 : 0 ≤ p ∧ p ≤ 4095 := by omega
    have c3 : 0 ≤ f ∧ f ≤ 1016 := by omega
    simp only [decide_eq_true c2] at cP
    simp only [decide_eq_true c3] at cF
    by_cases d : alR p f = true
    · have e3 : mkE S s p f = 4 := by unfold mkE; rw [if_neg c, if_pos d]
      rw [mkS_no (by rw [e3]; decide), e3]
      unfold alR at d
      simp only [decide_eq_true_eq] at d
      clear h hb hn hs hp hf e3 c c' c2 c3
      by_cases d1 : p % 8 = 0
      · have d2 : ¬ f % 8 = 0 := by omega
        simp only [decide_eq_true d1] at cE
        simp only [decide_eq_false d2] at cG
        clear d d1 d2
        go_enter Try.func13, Try.ntmps13
        go_wp2_with (first | (go_at_call 28; (with_reducible refine (cP _).mono ?_); rintro e w1 ⟨rfl, rfl⟩) | (go_at_call 29; (with_reducible refine (cF _).mono ?_); rintro e w1 ⟨rfl, rfl⟩) | (go_at_call 30; (with_reducible refine (cE _).mono ?_); rintro e w1 ⟨rfl, rfl⟩) | (go_at_call 30; (with_reducible refine (cG _).mono ?_); rintro e w1 ⟨rfl, rfl⟩))
        go_ret
        exact ⟨rfl, HD0.out⟩
      · simp only [decide_eq_false d1] at cE
        clear d d1 cG
        go_enter Try.func13, Try.ntmps13
        go_wp2_with (first | (go_at_call 28; (with_reducible refine (cP _).mono ?_); rintro e w1 ⟨rfl, rfl⟩) | (go_at_call 29; (with_reducible refine (cF _).mono ?_); rintro e w1 ⟨rfl, rfl⟩) | (go_at_call 30; (with_reducible refine (cE _).mono ?_); rintro e w1 ⟨rfl, rfl⟩))
        go_ret
        exact ⟨rfl, HD0.out⟩
    · have d' := d
      unfold alR at d'
      simp only [decide_eq_true_eq] at d'
      have d1 : p % 8 = 0 := by omega
      have d2 : f % 8 = 0 := by omega
      simp only [decide_eq_true d1] at cE
      simp only [decide_eq_true d2] at cG
      have pe := pd_even d1
      have fe := pd_even d2
      have c0 := h.c0
      have c5 := h.c1
      by_cases x : (atP S.L s p).isSome = true ∨ (atF S.L f).isSome = true
      · have e7 : mkE S s p f = 7 := by unfold mkE; rw [if_neg c, if_neg d, if_pos x]
        rw [mkS_no (by rw [e7]; decide), e7]
        cases eP : atP S.L s p with
        | some y =>
          have hl := h.look1 hs hp eP
          rw [pe] at hl
          generalize T.a y.s y.p = q at *
          generalize T.s = ts at *
          generalize T.bk = bk at *
          generalize T.bo = bo at *
          clear h hb hn hs hp hf e7 c c' c2 c3 d d' d1 d2 pe fe x eP
          go_enter Try.func13, Try.ntmps13
          go_wp2_with (first | (go_at_call 28; (with_reducible refine (cP _).mono ?_); rintro e w1 ⟨rfl, rfl⟩) | (go_at_call 29; (with_reducible refine (cF _).mono ?_); rintro e w1 ⟨rfl, rfl⟩) | (go_at_call 30; (with_reducible refine (cE _).mono ?_); rintro e w1 ⟨rfl, rfl⟩) | (go_at_call 30; (with_reducible refine (cG _).mono ?_); rintro e w1 ⟨rfl, rfl⟩))
          go_ret
          exact ⟨rfl, HD0.out⟩
        | none =>
          have hl := h.lookN hs hp eP false
          rw [pe] at hl
          change _ = Result.ok (Value.pointer none) w at hl
          cases eF : atF S.L f with
          | none => rw [eP, eF] at x; rcases x with x | x <;> cases x
          | some y =>
            have hl2 := h.lookF hf eF false
            rw [fe] at hl2
            change _ = Result.ok (Value.pointer (some ⟨T.a y.s y.p, 0, none⟩)) w at hl2
            generalize T.a y.s y.p = q at *
            generalize T.s = ts at *
            generalize T.bk = bk at *
            generalize T.bo = bo at *
            clear h hb hn hs hp hf e7 c c' c2 c3 d d' d1 d2 pe fe x eP eF
            go_enter Try.func13, Try.ntmps13
            go_wp2_with (first | (go_at_call 28; (with_reducible refine (cP _).mono ?_); rintro e w1 ⟨rfl, rfl⟩) | (go_at_call 29; (with_reducible refine (cF _).mono ?_); rintro e w1 ⟨rfl, rfl⟩) | (go_at_call 30; (with_reducible refine (cE _).mono ?_); rintro e w1 ⟨rfl, rfl⟩) | (go_at_call 30; (with_reducible refine (cG _).mono ?_); rintro e w1 ⟨rfl, rfl⟩))
            go_ret
            exact ⟨rfl, HD0.out⟩
      · have e0 : mkE S s p f = 0 := by unfold mkE; rw [if_neg c, if_neg d, if_neg x]
        have t0 := hb.t0
        have t1 := hb.t1
        have eP : atP S.L s p = none := by
          cases eP : atP S.L s p with
          | none => rfl
          | some y => exact absurd (Or.inl (by rw [eP]; rfl)) x
        have eF : atF S.L f = none := by
          cases eF : atF S.L f with
          | none => rfl
          | some y => exact absurd (Or.inr (by rw [eF]; rfl)) x
        have hl := h.lookN hs hp eP false
        rw [pe] at hl
        change _ = Result.ok (Value.pointer none) w at hl
        have hl2 := h.lookG hf eF false
        rw [fe] at hl2
        change _ = Result.ok (Value.pointer none) w at hl2
        obtain ⟨w1, e1⟩ : ∃ w1, w1 = w.alloc (.cells #[.int .i64 s, .int .i64 p, .int .i64 f, .int .u8 0, .int .u64 0] 69) := ⟨_, rfl⟩
        obtain ⟨q, hq⟩ : ∃ q, q = w.heap.size := ⟨_, rfl⟩
        obtain ⟨w2, w3, r2, r3, x1, x2, x3, x4, hD⟩ := h.made hb hn e0 hs e1 hq
        have htc := touch_r x3 x4 t0 (by omega)
        have HD := Lib.hid (hD _ rfl)
        have HW := Lib.hid (And.intro e1 hq)
        rw [e0]
        generalize T.s = ts at *
        generalize T.bk = bk at *
        generalize T.bo = bo at *
        clear h hb hn hs hp hf e0 c c' c2 c3 d d' d1 d2 pe fe x eP eF hD x3 x4 e1 hq t0 t1 HD0
        go_enter Try.func13, Try.ntmps13
        go_upto_region 10 with (first | (go_at_call 28; (with_reducible refine (cP _).mono ?_); rintro e w1 ⟨rfl, rfl⟩) | (go_at_call 29; (with_reducible refine (cF _).mono ?_); rintro e w1 ⟨rfl, rfl⟩) | (go_at_call 30; (with_reducible refine (cE _).mono ?_); rintro e w1 ⟨rfl, rfl⟩) | (go_at_call 30; (with_reducible refine (cG _).mono ?_); rintro e w1 ⟨rfl, rfl⟩))
        rw [← HW.out.1, ← HW.out.2]
        go_wp2_with (go_at_call 31; (with_reducible refine htc.mono ?_); rintro e w4 ⟨rfl, rfl⟩)
        go_ret
        exact ⟨rfl, HD.out⟩
end
end Go.Proofs.Ytfalmjibpkkjaaa
