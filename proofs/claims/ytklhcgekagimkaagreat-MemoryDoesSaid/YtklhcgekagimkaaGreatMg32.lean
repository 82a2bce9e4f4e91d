/- The reference of frames: Turn: THE REFERENCE WHOLE. -/
import Derived.Test.YtklhcgekagimkaaGreatMg31
namespace Go.Proofs.YtklhcgekagimkaaGreat
open Go.RowKit
theorem own_made {P : Program} {α : Type} (E : Enc P α) (w : World) : E.Own w.heap.size (w.alloc (.cells #[] E.el)) (.slice (some ⟨w.heap.size, 0, none⟩) 0 0) [] :=
  World.ownsRow_made w #[] 0 (Nat.le_refl _) (Nat.zero_le _) (by rw [Nat.zero_mul]; rfl)
theorem own_src {P : Program} {α : Type} {E : Enc P α} {B : Nat} {w : World} {A : Option Addr} {n c : Nat} {L : List α} (h : E.Own B w (.slice A n c) L) {g : Nat} (hA : A = some ⟨g, 0, none⟩) : ∀ j u, (E.cells L)[j]? = some u → w.cell? ((⟨g, 0, none⟩ : Addr).add j) = some u := fun j u hu => by
  subst hA
  have hn : n = L.length := by obtain ⟨_, _, e⟩ := h.form; injection e
  subst hn
  obtain ⟨rest, r1, _⟩ := own_rowK h rfl
  rw [addr_add, r1.cell, List.getElem?_append_left (List.getElem?_eq_some_iff.1 hu).1]; exact hu
section
variable {w w' : World} {B x : Nat} {v : Value} {I : List Int} {f n a b : Int}
/-- What a turn of the reference leaves. -/
def RTurned (B : Nat) (w : World) (x : Nat) (v : Value) (I' : List Int) (w' : World) : Prop :=
  ∃ v', Rx B w' x v' I' ∧ Foot (fun k => k = x) w w' ∧ (v' = v ∨ ∃ k, v'.ownBlock = some k ∧ w.heap.size ≤ k)
theorem RTurned.same (h : Rx B w x v I) (hb : Below w.heap.size w w') : RTurned B w x v I w' := ⟨v, h.call hb, Foot.of_below hb, Or.inl rfl⟩
set_option maxRecDepth 100000 in
set_option maxHeartbeats 4000000 in
/-- The errors that are seen ahead of the copy. -/
theorem rturn_no (h : Rx B w x v I) (l1 : I.length ≤ 1024) (hz : tuE I f n a b ≠ 0) (hz2 : tuE I f n a b ≠ 12) :
    Calls Tryz.prog 82 #[.pointer (some ⟨x, 0, none⟩), .int .i64 f, .int .i64 n, .int .i64 a, .int .i64 b] w fun e w' => e = .returned (.int .i64 (tuE I f n a b)) ∧ Below w.heap.size w w' := by
  obtain ⟨A, c, hv⟩ := h.2.1.form
  subst hv
  obtain ⟨l, hl⟩ : ∃ l, l = I.length := ⟨_, rfl⟩
  have HX := Lib.hid (And.intro h hl)
  have c0 : w.cell? ⟨x, 0, none⟩ = some (.slice A l c) := by rw [hl]; exact h.1.cell 0
  obtain ⟨E, hE⟩ : ∃ E, E = tuE I f n a b := ⟨_, rfl⟩
  rw [← hE] at hz hz2 ⊢
  unfold tuE at hE
  rw [← hl] at hE l1
  by_cases c1 : n < 1 ∨ isF a = false ∨ isF b = false
  · rw [if_pos c1] at hE
    subst hE
    have c1' : n < 1 ∨ (¬ n < 1 ∧ a < 0) ∨ (¬ n < 1 ∧ ¬ a < 0 ∧ 5 < a) ∨ (¬ n < 1 ∧ ¬ a < 0 ∧ ¬ 5 < a ∧ b < 0) ∨ (¬ n < 1 ∧ ¬ a < 0 ∧ ¬ 5 < a ∧ ¬ b < 0 ∧ 5 < b) := by
      rcases c1 with c | c | c
      · exact Or.inl c
      · have := of_decide_eq_false c; omega
      · have := of_decide_eq_false c; omega
    clear h hl c1 hz hz2 l1
    rcases c1' with c1 | ⟨c1, c2⟩ | ⟨c1, c2, c3⟩ | ⟨c1, c2, c3, c4⟩ | ⟨c1, c2, c3, c4, c5⟩
    all_goals
      go_enter Tryz.func82, Tryz.ntmps82
      go_wp2_with fail
      go_ret
      exact ⟨rfl, Below.refl _ _⟩
  · rw [if_neg c1] at hE
    have ha : isF a = true := by cases e : isF a; exact absurd (Or.inr (Or.inl e)) c1; rfl
    have hb : isF b = true := by cases e : isF b; exact absurd (Or.inr (Or.inr e)) c1; rfl
    have n1 : ¬ n < 1 := fun e => c1 (Or.inl e)
    obtain ⟨a0, a5⟩ := isF_iff.1 ha
    obtain ⟨b0, b5⟩ := isF_iff.1 hb
    have q1 : ¬ a < 0 := by omega
    have q2 : ¬ 5 < a := by omega
    have q3 : ¬ b < 0 := by omega
    have q4 : ¬ 5 < b := by omega
    clear c1 a0 a5 b0 b5
    have hm := may_x ha hb w
    clear ha hb
    by_cases c2 : f < 0
    · rw [if_pos (Or.inl c2)] at hE
      subst hE
      clear h hl hz hz2 l1 hm
      go_enter Tryz.func82, Tryz.ntmps82
      go_wp2_with fail
      go_ret
      exact ⟨rfl, Below.refl _ _⟩
    · by_cases c3 : (l : Int) ≤ f
      · rw [if_pos (Or.inr (Or.inl c3))] at hE
        subst hE
        clear h hl hz hz2 l1 hm
        go_enter Tryz.func82, Tryz.ntmps82
        go_wp2_with fail
        go_ret
        exact ⟨rfl, Below.refl _ _⟩
      · have hw : IntKind.i64.wrap ((l : Int) - f) = (l : Int) - f := IntWalk.i64_in _ (by omega)
        by_cases c4 : (l : Int) - f < n
        · rw [if_pos (Or.inr (Or.inr c4))] at hE
          subst hE
          clear h hl hz hz2 l1 hm
          go_enter Tryz.func82, Tryz.ntmps82
          go_wp2_with fail
          go_ret
          exact ⟨rfl, Below.refl _ _⟩
        · rw [if_neg (by omega)] at hE
          cases cm : mayF a b
          · rw [if_pos cm] at hE
            subst hE
            rw [cm] at hm
            clear h hl hz hz2 l1 cm
            go_enter Tryz.func82, Tryz.ntmps82
            go_wp2_with fail
            refine hm.mono ?_
            rintro e w1 ⟨rfl, hb⟩
            have HB := Lib.hid hb
            clear hb hm
            go_wp2_with fail
            go_ret
            exact ⟨rfl, HB.out⟩
          · rw [if_neg (by rw [cm]; decide)] at hE
            split at hE
            · exact absurd hE hz2
            · exact absurd hE hz
set_option maxRecDepth 100000 in
set_option maxHeartbeats 4000000 in
/-- Behind what is seen ahead: the copy. -/
theorem rturn_go (h : Rx B w x v I) (l0 : 8 ≤ I.length) (l1 : I.length ≤ 1024) {f n : Nat} (n1 : 1 ≤ n) (hl : f + n ≤ I.length) (ha : isF a = true) (hb : isF b = true) (hm : mayF a b = true) :
    Calls Tryz.prog 82 #[.pointer (some ⟨x, 0, none⟩), .int .i64 f, .int .i64 n, .int .i64 a, .int .i64 b] w fun e w' => e = .returned (.int .i64 (if areF I f n a = false then 12 else 0)) ∧ RTurned B w x v (if areF I f n a = false then I else putF I f n b) w' := by
  obtain ⟨A, c, hv⟩ := h.2.1.form
  subst hv
  obtain ⟨g, rest0, rfl, -, -⟩ := EI_row h.2.1 (by omega)
  obtain ⟨l, hll⟩ : ∃ l, l = I.length := ⟨_, rfl⟩
  have HX := Lib.hid (And.intro h (And.intro hll l0))
  have c0 : w.cell? ⟨x, 0, none⟩ = some (.slice (some ⟨g, 0, none⟩) l c) := by rw [hll]; exact h.1.cell 0
  have hm' := may_x ha hb w
  rw [hm] at hm'
  obtain ⟨a0, a5⟩ := isF_iff.1 ha
  obtain ⟨b0, b5⟩ := isF_iff.1 hb
  rw [← hll] at hl l1
  have q1 : ¬ a < 0 := by omega
  have q2 : ¬ 5 < a := by omega
  have q3 : ¬ b < 0 := by omega
  have q4 : ¬ 5 < b := by omega
  have q5 : ¬ (n : Int) < 1 := by omega
  have q6 : ¬ (l : Int) ≤ f := by omega
  have q7 : ¬ (l : Int) - f < n := by omega
  have q8 : (0 : Int) ≤ f := by omega
  have hw : IntKind.i64.wrap ((l : Int) - f) = (l : Int) - f := IntWalk.i64_in _ (by omega)
  obtain ⟨r, hr⟩ : ∃ r, r = areF I f n a := ⟨_, rfl⟩
  have HT : Hid ((∀ i : Nat, i < n → I[f + i]? = some a) → r = true) := fun h => by rw [hr]; exact decide_eq_true h
  have HN : Hid (∀ j : Nat, j < n → I[f + j]? ≠ some a → r = false) := fun j h1 h2 => by rw [hr]; exact decide_eq_false fun h => h2 (h j h1)
  have HL := Lib.hid (And.intro hl n1)
  rw [← hr]
  obtain ⟨E, hE⟩ : ∃ E : Int, E = if r = false then 12 else 0 := ⟨_, rfl⟩
  obtain ⟨I', hI⟩ : ∃ I', I' = if r = false then I else putF I f n b := ⟨_, rfl⟩
  rw [← hE, ← hI]
  have HE := Lib.hid (And.intro hE hI)
  clear h hll l0 a0 a5 b0 b5 ha hb hm hr hE hI
  go_enter Tryz.func82, Tryz.ntmps82
  go_wp2_with fail
  refine hm'.mono ?_
  rintro e w1 ⟨rfl, hb1⟩
  obtain ⟨W1, hW1⟩ : ∃ W1, W1 = w1.alloc (.cells #[] 3) := ⟨_, rfl⟩
  have hbn : Below w1.heap.size w1 W1 := by rw [hW1]; exact below_new _ _
  have hmd : EI.Own w1.heap.size W1 (.slice (some ⟨w1.heap.size, 0, none⟩) 0 0) [] := by rw [hW1]; exact own_made EI w1
  have hx1 := HX.out.1.call hb1
  obtain ⟨A2, c2, W2, r2, o2, g2, -⟩ := hmd.app hbn.size ⟨g, 0, none⟩ c I (own_src (hx1.call hbn).2.1 rfl) (by rw [List.length_nil]; have := HX.out.2.1; omega)
  have r2' := r2 _ rfl
  rw [List.nil_append] at o2
  simp only [List.length_nil, Nat.zero_add] at r2' o2
  change (Builtin.append_ #[30, 30] 30 _).run Tryz.prog W1 = _ at r2'
  have hb2 : Below w1.heap.size w1 W2 := hbn.grown g2 hbn.size (fun k e => by injection e with e; change w1.heap.size = k at e; omega)
  obtain ⟨g3, rest, rfl, hrow, hg3, hc2⟩ := EI_row o2 (by have := HX.out.2.2; omega)
  rw [← HX.out.2.1] at r2'
  have e0 : w1.cell? ⟨x, 0, none⟩ = some (.slice (some ⟨g, 0, none⟩) l c) := by rw [HX.out.2.1]; exact hx1.1.cell 0
  have e1 : W1.cell? ⟨x, 0, none⟩ = some (.slice (some ⟨g, 0, none⟩) l c) := by rw [HX.out.2.1]; exact (hx1.call hbn).1.cell 0
  rw [hW1] at e1
  have HC := Lib.hid (And.intro hc2 (And.intro (hb1.trans (hb2.mono hb1.size)) (And.intro hrow (Nat.le_trans hb1.size hg3))))
  rw [hW1] at r2'
  clear hmd hbn o2 g2 r2 hm' hb2 hrow hg3 hx1 hb1 hW1 c0
  have hwn : IntKind.i64.wrap ((f : Int) + (n : Int)) = (f : Int) + (n : Int) := IntWalk.i64_in _ (by omega)
  clear hc2
  go_wp2_with (at_builtin; refine wpList_append_run rfl _ _ 30 rfl (.slice (some ⟨w1.heap.size, 0, none⟩) 0 0) (.slice (some ⟨g, 0, none⟩) l c) rfl rfl r2' ?_)
  clear r2' e0 e1
  go_loopw [12] (fun k wr => ∃ q : Nat, f ≤ q ∧ q ≤ f + n ∧ k = .int .i64 q ∧ Lrow wr g3 3 ((putF I f (q - f) b).map (Value.int .i64) ++ rest) ∧ Below w.heap.size w wr ∧ (∀ i : Nat, i < q - f → I[f + i]? = some a)) (fun k _ => f + n - (RowKit.intOf k).toNat)
  case atStart => exact ⟨f, Nat.le_refl _, by omega, rfl, by rw [Nat.sub_self, put_zero]; exact HC.out.2.2.1, HC.out.2.1, fun i h => absurd h (by omega)⟩
  case round =>
    obtain ⟨q, hq0, hq1, rfl, hr, hb, hall⟩ := hrel
    have HA := Lib.hid hall
    by_cases hlt : q < f + n
    · have hql : q < I.length := by have := HX.out.2.1; omega
      have hpl : (putF I f (q - f) b).length = I.length := put_len (by omega) b
      have hget : (putF I f (q - f) b)[q]? = I[q]? := by rw [put_get (by omega), if_neg (by omega)]
      have d0 : wr.cell? ⟨g3, q, none⟩ = some (.int .i64 I[q]) := by
        rw [hr.cell, List.getElem?_append_left (by rw [List.length_map, hpl]; exact hql), List.getElem?_map, hget, List.getElem?_eq_getElem hql]; rfl
      have y0 := hr.frozen q
      have HG : Hid (I[q]? = some I[q]) := List.getElem?_eq_getElem hql
      generalize I[q] = y at d0 HG
      have hr2 := hr.set_ q (.int .i64 b)
      have e3 := put_next (I := I) (f := f) (m := q - f) (by omega) b
      rw [show f + (q - f) = q by omega, show q - f + 1 = q + 1 - f by omega] at e3
      rw [List.set_append_left _ _ (by rw [List.length_map, hpl]; exact hql), ← List.map_set, e3] at hr2
      have HK := Lib.hid (And.intro hr2 (hb.grown (grown_set wr g3 q (.int .i64 b)) hb.size (fun k e => by injection e with e; have := HC.out.2.2.2; omega)))
      have HQ := Lib.hid (And.intro hq0 hlt)
      have HBB := Lib.hid hb
      have j1 : (q : Int) < (f : Int) + (n : Int) := by omega
      have j2 : (q : Int) < l := by have := HX.out.2.1; omega
      have j0 : (0 : Int) ≤ q := by omega
      have hw3 : IntKind.i64.wrap ((q : Int) + 1) = (q : Int) + 1 := IntWalk.i64_in _ (by omega)
      clear hr hb hall hql hpl hget hr2 e3 hq0 hq1 hlt
      by_cases cy : y = a
      · have hcy : (y == a) = true := by simpa using cy
        have HCY := Lib.hid cy
        clear cy
        go_wp2_with fail
        go_roundw
        case rel =>
          refine ⟨q + 1, by have := HQ.out; omega, by have := HQ.out; omega, by go_num, HK.out.1, HK.out.2, fun i h1 => ?_⟩
          have := HQ.out
          rcases Nat.lt_or_ge i (q - f) with h3 | h3
          · exact HA.out i h3
          · rw [show f + i = q by omega, HG.out, HCY.out]
        case measure => simp [RowKit.intOf]; have := HQ.out; omega
      · have hcy : (y == a) = false := by simpa using cy
        have HR : Hid (r = false) := HN.out (q - f) (by have := HQ.out; omega) (by rw [show f + (q - f) = q by have := HQ.out; omega, HG.out]; intro e; injection e with e; exact cy e)
        clear cy
        go_wp2_with fail
        go_ret
        obtain ⟨hE, hI⟩ := HE.out
        rw [if_pos HR.out] at hE hI
        exact ⟨ret_int hE.symm, by rw [hI]; exact RTurned.same HX.out.1 HBB.out⟩
    · have hqe : q = f + n := by omega
      have HR : Hid (r = true) := HT.out fun i hi => hall i (by omega)
      rw [show q - f = n by omega] at hr
      have hx := HX.out.1.1.below hb HX.out.1.1.lt
      have e0 := hx.cell 0
      have y0 := hx.frozen 0
      have hgx : g3 ≠ x := hr.apart hx (by decide)
      have hl' : f + n ≤ I.length := by have := HX.out.2.1; omega
      have hpl := put_len hl' b
      have HD : Hid (RTurned B w x (.slice (some ⟨g, 0, none⟩) I.length c) (putF I f n b) (wr.setCell ⟨x, 0, none⟩ (.slice (some ⟨g3, 0, none⟩) l c2))) := by
        refine ⟨_, ⟨hx.set_ 0 _, ?_, HX.out.1.2.2⟩, ⟨hb.os, hb.tape, hb.output, by have := hb.size; simpa [World.setCell] using this, fun k hk hn => ?_⟩, Or.inr ⟨g3, rfl, HC.out.2.2.2⟩⟩
        · have h0 := HX.out.1.1.lt
          have h1 := HX.out.1.2.2
          have := EI_of (B := B) (c := c2) (L := putF I f n b) (hr.far (p := ⟨x, 0, none⟩) hgx (.slice (some ⟨g3, 0, none⟩) l c2)) (by have := HC.out.2.2.2; omega) (by rw [hpl]; exact HC.out.1.1) HC.out.1.2.1 (by rw [hpl]; exact HC.out.1.2.2)
          rw [hpl, ← HX.out.2.1] at this
          exact this
        · exact (Below.heap_setCell _ _ _ k (fun e => hn e)).trans (hb.block k hk)
      have j1 : ¬ (q : Int) < (f : Int) + (n : Int) := by omega
      clear hr hb hall hq0 hq1 hlt hqe hx hgx hl' hpl
      go_wp2_with fail
      go_ret
      obtain ⟨hE, hI⟩ := HE.out
      rw [if_neg (by rw [HR.out]; decide)] at hE hI
      exact ⟨ret_int hE.symm, by rw [hI]; exact HD.out⟩
theorem rturn (h : Rx B w x v I) (ok : OkF I) (f n a b : Int) :
    Calls Tryz.prog 82 #[.pointer (some ⟨x, 0, none⟩), .int .i64 f, .int .i64 n, .int .i64 a, .int .i64 b] w fun e w' => e = .returned (.int .i64 (tuE I f n a b)) ∧ RTurned B w x v (tuL I f n a b) w' := by
  by_cases c : tuE I f n a b = 0 ∨ tuE I f n a b = 12
  · have c' := c
    unfold tuE at c'
    have k1 : ¬ (n < 1 ∨ isF a = false ∨ isF b = false) := fun e => by rw [if_pos e] at c'; omega
    have k2 : ¬ (f < 0 ∨ (I.length : Int) ≤ f ∨ (I.length : Int) - f < n) := fun e => by rw [if_neg k1, if_pos e] at c'; omega
    have k3 : ¬ mayF a b = false := fun e => by rw [if_neg k1, if_neg k2, if_pos e] at c'; omega
    clear c'
    obtain ⟨f', rfl⟩ : ∃ k : Nat, f = k := ⟨f.toNat, by omega⟩
    obtain ⟨n', rfl⟩ : ∃ k : Nat, n = k := ⟨n.toNat, by omega⟩
    have ha : isF a = true := by cases e : isF a; exact absurd (Or.inr (Or.inl e)) k1; rfl
    have hb : isF b = true := by cases e : isF b; exact absurd (Or.inr (Or.inr e)) k1; rfl
    have hm : mayF a b = true := by cases e : mayF a b; exact absurd e k3; rfl
    have eE : tuE I f' n' a b = if areF I f' n' a = false then 12 else 0 := by
      unfold tuE
      rw [if_neg k1, if_neg k2, if_neg k3, Int.toNat_natCast, Int.toNat_natCast]
    have eL : tuL I f' n' a b = if areF I f' n' a = false then I else putF I f' n' b := by
      unfold tuL
      rw [eE, Int.toNat_natCast, Int.toNat_natCast]
      split <;> rename_i h1 <;> split <;> rename_i h2 <;> simp_all
    rw [eE, eL]
    exact rturn_go h ok.l0 ok.l1 (by omega) (by omega) ha hb hm
  · refine (rturn_no h ok.l1 (fun e => c (Or.inl e)) (fun e => c (Or.inr e))).mono ?_
    rintro e w' ⟨rfl, hb⟩
    refine ⟨rfl, ?_⟩
    unfold tuL
    rw [if_neg (fun e => c (Or.inl e))]
    exact RTurned.same h hb
end
end Go.Proofs.YtklhcgekagimkaaGreat
