/- The program's object: the closure of Room. -/
import Derived.Test.YtekfkglielmfaaaTgN
namespace Go.Proofs.Ytekfkglielmfaaa
open Go.RowKit
/-- What the search for room tells. -/
def lkP (low n : Int) (K : Nat) : Nd → Int → Int → Int × Int
  | .nil, a, b => if b ≤ low ∨ b - a < n then (0, 13) else if b - (upS (max a low).toNat K : Nat) < n then (0, 13) else (((upS (max a low).toNat K : Nat) : Int), (0 : Int))
  | .node l s r, a, b => if b ≤ low ∨ (Nd.node l s r).rm a b < n then (0, 13) else if (lkP low n K l a s.1).2 = 0 then ((lkP low n K l a s.1).1, 0) else lkP low n K r s.2 b
theorem lkP_is {low : Int} {N K : Nat} (hN : 1 ≤ N) (hK : 1 ≤ K) : ∀ {T : Nd} {a b : Nat}, OkS T.L → (∀ x ∈ T.L, a ≤ x.1) → (∀ x ∈ T.L, x.2 ≤ b) → 1 ≤ a → a ≤ b →
    LkIs T.L a b low N K (lkP low N K T a b).1 (lkP low N K T a b).2
  | .nil, a, b, ok, ha, hb, h1, hab => by
    rw [lkP]
    by_cases c1 : (b : Int) ≤ low
    · rw [if_pos (Or.inl c1)]
      exact lk_late hN c1
    · by_cases c2 : (b : Int) - a < N
      · rw [if_pos (Or.inr c2)]
        exact lk_small (T := .nil) ok ha hb hab c2
      · rw [if_neg (by omega)]
        obtain ⟨f, hf⟩ : ∃ f : Nat, (f : Int) = max (a : Int) low := ⟨(max (a : Int) low).toNat, by omega⟩
        have hf2 : (max (a : Int) low).toNat = f := by omega
        rw [hf2]
        obtain ⟨u1, u2, u3, u4⟩ := upS_spec (f := f) (K := K) (by omega) hK
        have hp := lk_place (a := a) (b := b) (n := N) hf u1 u3 u4
        by_cases c3 : (b : Int) - (upS f K : Nat) < N
        · rw [if_pos c3]; exact hp.2 c3
        · rw [if_neg c3]; exact hp.1 c3
  | .node l s r, a, b, ok, ha, hb, h1, hab => by
    obtain ⟨okl, okr, hs, h2, h3⟩ := ok.nd
    have sa : a ≤ s.1 := ha s (by rw [Nd.L_node]; simp)
    have sb : s.2 ≤ b := hb s (by rw [Nd.L_node]; simp)
    rw [lkP]
    by_cases c1 : (b : Int) ≤ low
    · rw [if_pos (Or.inl c1)]
      exact lk_late hN c1
    · by_cases c2 : (Nd.node l s r).rm a b < N
      · rw [if_pos (Or.inr c2)]
        exact lk_small ok ha hb hab c2
      · rw [if_neg fun c => c.elim c1 c2]
        have i1 := lkP_is (low := low) hN hK (T := l) (a := a) (b := s.1) okl (fun x hx => ha x (by rw [Nd.L_node]; simp [hx])) h2 h1 sa
        have i2 := lkP_is (low := low) hN hK (T := r) (a := s.2) (b := b) okr h3 (fun x hx => hb x (by rw [Nd.L_node]; simp [hx])) (by omega) sb
        by_cases c3 : (lkP low N K l a s.1).2 = 0
        · rw [if_pos c3]
          rw [c3] at i1
          exact lk_left i1 hN ⟨by omega, sb⟩ h3
        · rw [if_neg c3]
          rcases i1.err with e | ⟨e, e'⟩
          · exact absurd e c3
          · rw [e, e'] at i1
            exact lk_right i1 i2 ⟨sa, by omega⟩ h2
theorem lkP_err (low n : Int) (K : Nat) : ∀ (T : Nd) (a b : Int), (lkP low n K T a b).2 = 0 ∨ lkP low n K T a b = (0, 13)
  | .nil, a, b => by
    rw [lkP]
    split
    · exact Or.inr rfl
    · split
      · exact Or.inr rfl
      · exact Or.inl rfl
  | .node l s r, a, b => by
    rw [lkP]
    split
    · exact Or.inr rfl
    · split
      · exact Or.inl rfl
      · exact lkP_err low n K r s.2 b
/-- What the closure holds. -/
structure LkC (w : World) (pl pn po pf : Nat) (low n : Int) (o : Nat) : Prop where
  c0 : w.cell? ⟨pl, 0, none⟩ = some (.int .i64 low)
  c1 : w.cell? ⟨pn, 0, none⟩ = some (.int .i64 n)
  c2 : w.cell? ⟨po, 0, none⟩ = some (.int .i64 o)
  c3 : w.cell? ⟨pf, 0, none⟩ = some (.func (.func 33) #[] #[.pointer (some ⟨pl, 0, none⟩), .pointer (some ⟨pn, 0, none⟩), .pointer (some ⟨po, 0, none⟩), .pointer (some ⟨pf, 0, none⟩)])
/-- The search through a tree. -/
def LkTo (pl pn po pf : Nat) (low n : Int) (o : Nat) (T : Nd) : Prop := ∀ (w : World) (v : Value) (a b : Nat), LkC w pl pn po pf low n o → NdAt w T v → OkS T.L → (∀ x ∈ T.L, a ≤ x.1) → (∀ x ∈ T.L, x.2 ≤ b) → 1 ≤ a → a ≤ b → b ≤ 4096 →
  Calls Try.prog 33 #[v, .int .i64 a, .int .i64 b, .pointer (some ⟨pl, 0, none⟩), .pointer (some ⟨pn, 0, none⟩), .pointer (some ⟨po, 0, none⟩), .pointer (some ⟨pf, 0, none⟩)] w fun e w' =>
    e = .returned (.tuple #[.int .i64 (lkP low n (2 ^ o) T a b).1, .int .i64 (lkP low n (2 ^ o) T a b).2]) ∧ ∃ m, w' = w.drewN m
section
variable {w w' W W' : World} {pl pn po pf o : Nat} {low n : Int} {l r : Nd} {s : Nat × Nat}
theorem LkC.heap (h : LkC w pl pn po pf low n o) (e : w'.heap = w.heap) : LkC w' pl pn po pf low n o := by
  have k : ∀ a, w'.cell? a = w.cell? a := fun a => by simp [World.cell?, e]
  exact ⟨(k _).trans h.c0, (k _).trans h.c1, (k _).trans h.c2, (k _).trans h.c3⟩
theorem cell_heap {a : Addr} {u : Option Value} (e : w'.heap = w.heap) (h : w.cell? a = u) : w'.cell? a = u := by rw [← h]; simp [World.cell?, e]
theorem LkTo.w_ {T : Nd} {v : Value} (j : LkTo pl pn po pf low n o T) (hc : LkC w pl pn po pf low n o) (hn : NdAt w T v) (ok : OkS T.L) {a b : Nat} (ha : ∀ x ∈ T.L, a ≤ x.1) (hz : ∀ x ∈ T.L, x.2 ≤ b) (h1 : 1 ≤ a) (hab : a ≤ b) (hb : b ≤ 4096) : ∀ W, W.heap = w.heap →
    Calls Try.prog 33 #[v, .int .i64 a, .int .i64 b, .pointer (some ⟨pl, 0, none⟩), .pointer (some ⟨pn, 0, none⟩), .pointer (some ⟨po, 0, none⟩), .pointer (some ⟨pf, 0, none⟩)] W fun e w' =>
      e = .returned (.tuple #[.int .i64 (lkP low n (2 ^ o) T a b).1, .int .i64 (lkP low n (2 ^ o) T a b).2]) ∧ ∃ m, w' = W.drewN m := fun W e =>
  j W v a b (hc.heap e) (hn.keep fun _ _ _ => by rw [e]) ok ha hz h1 hab hb
set_option maxHeartbeats 2000000 in
/-- Too late, or too little. -/
theorem look_out {T : Nd} (hT : ∀ a b : Int, (b ≤ low ∨ T.rm a b < n) → lkP low n (2 ^ o) T a b = (0, 13)) {v : Value} {a b : Nat} (hc : LkC w pl pn po pf low n o) (hn : NdAt w T v) (ok : OkS T.L) (ha : a ≤ 4096) (hb : b ≤ 4096) (hx : (b : Int) ≤ low ∨ T.rm a b < n) :
    Calls Try.prog 33 #[v, .int .i64 a, .int .i64 b, .pointer (some ⟨pl, 0, none⟩), .pointer (some ⟨pn, 0, none⟩), .pointer (some ⟨po, 0, none⟩), .pointer (some ⟨pf, 0, none⟩)] w fun e w' =>
      e = .returned (.tuple #[.int .i64 (lkP low n (2 ^ o) T a b).1, .int .i64 (lkP low n (2 ^ o) T a b).2]) ∧ ∃ m, w' = w.drewN m := by
  rw [hT a b hx]
  obtain ⟨ov, rfl⟩ := hn.form
  have c0 := hc.c0
  have c1 := hc.c1
  have hR := room_w hn ok (a := a) (b := b) (by omega) (by omega) (by omega) (by omega)
  obtain ⟨Z, hZ⟩ : ∃ Z, Z = T.rm a b := ⟨_, rfl⟩
  rw [← hZ] at hR hx
  clear hZ hT hn ok ha hb hc
  by_cases k1 : (b : Int) ≤ low
  · have k1' : decide ((b : Int) ≤ low) = true := decide_eq_true k1
    clear hx hR
    go_enter Try.func33, Try.ntmps33
    go_wp2_with fail
    go_quiet (fail)
    go_wp2_with fail
    go_ret2
    exact ⟨rfl, _, rfl⟩
  · have k1' : decide ((b : Int) ≤ low) = false := decide_eq_false k1
    have k2 : Z < n := hx.elim (fun c => absurd c k1) id
    clear hx
    go_enter Try.func33, Try.ntmps33
    go_wp2_with fail
    go_quiet ((go_at_call 32; with_reducible exact Calls.quiet_of (hR _ rfl)))
    go_wp2_with fail
    go_ret2
    exact ⟨rfl, _, rfl⟩
set_option maxHeartbeats 2000000 in
theorem look_nil (ho : o ≤ 8) : LkTo pl pn po pf low n o .nil := by
  intro w v a b hc hn ok hA hZ h1 hab hb
  by_cases hx : (b : Int) ≤ low ∨ (Nd.nil).rm a b < n
  · exact look_out (T := .nil) (fun a b h => by rw [lkP]; exact if_pos h) hc hn ok (by omega) hb hx
  · have hv : v = .pointer none := hn
    subst hv
    have hR := room_w hn ok (a := a) (b := b) (by omega) (by omega) (by omega) (by omega)
    obtain ⟨k1, k2⟩ := not_or.1 hx
    have hm : (Nd.nil).rm a b = (b : Int) - a := rfl
    rw [hm] at k2 hR
    have c0 := hc.c0
    have c1 := hc.c1
    have c2 := hc.c2
    have k1' : decide ((b : Int) ≤ low) = false := decide_eq_false k1
    have hl : lkP low n (2 ^ o) .nil a b = if (b : Int) - (upS (max (a : Int) low).toNat (2 ^ o) : Nat) < n then (0, 13) else (((upS (max (a : Int) low).toNat (2 ^ o) : Nat) : Int), (0 : Int)) := by rw [lkP]; exact if_neg hx
    by_cases km : (a : Int) < low
    · obtain ⟨f, rfl⟩ : ∃ f : Nat, low = f := ⟨low.toNat, by omega⟩
      have k1n : decide (b ≤ f) = false := decide_eq_false (by omega)
      have k1m : ¬ b ≤ f := by omega
      have hf : (max (a : Int) f).toNat = f := by omega
      rw [hf] at hl
      have hp := fun w => place_p (f := f) (b := b) (o := o) (n := n) (by omega) (by omega) hb ho w
      have HP : Hid (∀ p er, PlIs b (upS f (2 ^ o)) n p er → p = (lkP (f : Nat) n (2 ^ o) .nil a b).1 ∧ er = (lkP (f : Nat) n (2 ^ o) .nil a b).2) := fun p er h => by
        rw [hl]
        by_cases c : (b : Int) - (upS f (2 ^ o) : Nat) < n
        · rw [if_pos c]; exact h.2 c
        · rw [if_neg c]; exact h.1 c
      obtain ⟨R, hR2⟩ : ∃ R, R = lkP (f : Nat) n (2 ^ o) .nil a b := ⟨_, rfl⟩
      rw [← hR2] at HP ⊢
      obtain ⟨R1, R2⟩ := R
      dsimp only at HP ⊢
      clear hc hn ok hx hm hl hf h1 hab hb ho hR2
      go_enter Try.func33, Try.ntmps33
      go_wp2_with fail
      go_quiet ((go_at_call 32; with_reducible exact Calls.quiet_of (hR _ rfl)))
      go_wp2_with (first | (go_at_call 34; (with_reducible refine (hp _).mono ?_); rintro e w1 ⟨p, er, rfl, hpl, rfl⟩) | fail)
      go_ret2
      have he := HP.out _ _ hpl
      exact ⟨by rw [he.1, he.2]; rfl, _, rfl⟩
    · have hf : (max (a : Int) low).toNat = a := by omega
      rw [hf] at hl
      have hp := fun w => place_p (f := a) (b := b) (o := o) (n := n) (by omega) (by omega) hb ho w
      have HP : Hid (∀ p er, PlIs b (upS a (2 ^ o)) n p er → p = (lkP low n (2 ^ o) .nil a b).1 ∧ er = (lkP low n (2 ^ o) .nil a b).2) := fun p er h => by
        rw [hl]
        by_cases c : (b : Int) - (upS a (2 ^ o) : Nat) < n
        · rw [if_pos c]; exact h.2 c
        · rw [if_neg c]; exact h.1 c
      obtain ⟨R, hR2⟩ : ∃ R, R = lkP low n (2 ^ o) .nil a b := ⟨_, rfl⟩
      rw [← hR2] at HP ⊢
      obtain ⟨R1, R2⟩ := R
      dsimp only at HP ⊢
      clear hc hn ok hx hm hl hf h1 hab hb ho hR2
      go_enter Try.func33, Try.ntmps33
      go_wp2_with fail
      go_quiet ((go_at_call 32; with_reducible exact Calls.quiet_of (hR _ rfl)))
      go_wp2_with (first | (go_at_call 34; (with_reducible refine (hp _).mono ?_); rintro e w1 ⟨p, er, rfl, hpl, rfl⟩) | fail)
      go_ret2
      have he := HP.out _ _ hpl
      exact ⟨by rw [he.1, he.2]; rfl, _, rfl⟩
set_option maxHeartbeats 4000000 in
set_option maxRecDepth 100000 in
theorem look_node (il : LkTo pl pn po pf low n o l) (ir : LkTo pl pn po pf low n o r) : LkTo pl pn po pf low n o (.node l s r) := by
  intro w v a b hc hn ok hA hZ h1 hab hb
  by_cases hx : (b : Int) ≤ low ∨ (Nd.node l s r).rm a b < n
  · exact look_out (fun a b h => by rw [lkP, if_pos h]) hc hn ok (by omega) hb hx
  · obtain ⟨okl, okr, hs0, h2, h3⟩ := ok.nd
    have sa : a ≤ s.1 := hA s (by rw [Nd.L_node]; simp)
    have sb : s.2 ≤ b := hZ s (by rw [Nd.L_node]; simp)
    obtain ⟨g, rfl⟩ := hn.open_
    obtain ⟨ol, or, nl, nr, d0, d1, d2, d3, -⟩ := hn.cells
    have hR := room_w hn ok (a := a) (b := b) (by omega) (by omega) (by omega) (by omega)
    have hL := il.w_ (a := a) (b := s.1) hc nl okl (fun x hx => hA x (by rw [Nd.L_node]; simp [hx])) h2 h1 sa (by omega)
    have hR2 := ir.w_ (a := s.2) (b := b) hc nr okr h3 (fun x hx => hZ x (by rw [Nd.L_node]; simp [hx])) (by omega) sb hb
    have hl : lkP low n (2 ^ o) (.node l s r) a b = if (lkP low n (2 ^ o) l a s.1).2 = 0 then ((lkP low n (2 ^ o) l a s.1).1, 0) else lkP low n (2 ^ o) r s.2 b := by rw [lkP, if_neg hx]
    have he := lkP_err low n (2 ^ o) l a s.1
    rw [hl]
    obtain ⟨k1, k2⟩ := not_or.1 hx
    obtain ⟨Z, hZZ⟩ : ∃ Z, Z = (Nd.node l s r).rm a b := ⟨_, rfl⟩
    rw [← hZZ] at hR k2
    have c0 := hc.c0
    have c1 := hc.c1
    have c3 := hc.c3
    have k1' : decide ((b : Int) ≤ low) = false := decide_eq_false k1
    obtain ⟨s1, s2⟩ := s
    dsimp only at *
    generalize lkP low n (2 ^ o) l a s1 = Q1 at hL he ⊢
    generalize lkP low n (2 ^ o) r s2 b = Q2 at hR2 ⊢
    obtain ⟨p1, e1⟩ := Q1
    obtain ⟨p2, e2⟩ := Q2
    dsimp only at *
    clear il ir hn hc ok hx hA hZ h1 hab hb hl okl okr hs0 h2 h3 sa sb nl nr hZZ
    by_cases ce : e1 = 0
    · subst ce
      rw [if_pos rfl]
      clear he hR2
      go_enter Try.func33, Try.ntmps33
      go_wp2_with fail
      go_quiet ((go_at_call 32; with_reducible exact Calls.quiet_of (hR _ rfl)))
      go_wp2_with fail
      obtain ⟨w2, hw2⟩ : ∃ w2, w2 = w.drewN nq := ⟨_, rfl⟩
      have hh : w2.heap = w.heap := by rw [hw2]; rfl
      rw [← hw2]
      have HW := Lib.hid hw2
      have HH := Lib.hid hh
      replace c3 := cell_heap hh c3
      replace d2 := cell_heap hh d2
      replace d0 := cell_heap hh d0
      clear hw2 hh c0 c1 d1 d3 hR
      go_quiet ((go_at_call 33; (with_reducible refine Calls.quiet_of (hL _ ?_)); exact HH.out))
      go_wp2_with fail
      go_ret2
      exact ⟨rfl, _, by rw [HW.out, World.drewN_drewN]⟩
    · have he' : (p1, e1) = ((0 : Int), (13 : Int)) := he.elim (fun c => absurd c ce) id
      obtain ⟨rfl, rfl⟩ : p1 = 0 ∧ e1 = 13 := by simpa using he'
      rw [if_neg ce]
      clear he ce he'
      go_enter Try.func33, Try.ntmps33
      go_wp2_with fail
      go_quiet ((go_at_call 32; with_reducible exact Calls.quiet_of (hR _ rfl)))
      go_wp2_with fail
      obtain ⟨w2, hw2⟩ : ∃ w2, w2 = w.drewN nq := ⟨_, rfl⟩
      have hh : w2.heap = w.heap := by rw [hw2]; rfl
      rw [← hw2]
      have HW := Lib.hid hw2
      have HH := Lib.hid hh
      replace c3 := cell_heap hh c3
      replace d2 := cell_heap hh d2
      replace d0 := cell_heap hh d0
      replace d1 := cell_heap hh d1
      replace d3 := cell_heap hh d3
      clear hw2 hh c0 c1 hR
      go_quiet ((go_at_call 33; (with_reducible refine Calls.quiet_of (hL _ ?_)); exact HH.out))
      go_wp2_with fail
      obtain ⟨w3, hw3⟩ : ∃ w3, w3 = w2.drewN nq := ⟨_, rfl⟩
      have hh3 : w3.heap = w2.heap := by rw [hw3]; rfl
      rw [← hw3]
      have HW3 := Lib.hid hw3
      have HH3 : Hid (w3.heap = w.heap) := by show _ = _; rw [hh3, HH.out]
      replace c3 := cell_heap hh3 c3
      replace d1 := cell_heap hh3 d1
      replace d3 := cell_heap hh3 d3
      clear hw3 hh3 d2 d0 hL
      go_quiet ((go_at_call 33; (with_reducible refine Calls.quiet_of (hR2 _ ?_)); exact HH3.out))
      go_wp2_with fail
      go_ret2
      exact ⟨rfl, _, by rw [HW3.out, HW.out, World.drewN_drewN, World.drewN_drewN]⟩
theorem look_to (ho : o ≤ 8) : ∀ T, LkTo pl pn po pf low n o T
  | .nil => look_nil ho
  | .node l _ r => look_node (look_to ho l) (look_to ho r)
end
end Go.Proofs.Ytekfkglielmfaaa
