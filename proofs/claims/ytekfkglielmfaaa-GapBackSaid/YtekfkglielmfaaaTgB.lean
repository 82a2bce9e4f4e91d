/- Where there is room, by pages; the least place; without the program. -/
import Derived.Test.YtekfkglielmfaaaTgA
namespace Go.Proofs.Ytekfkglielmfaaa
/-- n pages from p on, side by side, in none of the stretches, from a on, ahead of b. -/
def FreeI (L : List (Nat × Nat)) (a b p n : Nat) : Prop := a ≤ p ∧ p + n ≤ b ∧ ∀ x ∈ L, x.2 ≤ p ∨ p + n ≤ x.1
theorem free_iff {L : List (Nat × Nat)} (h : OkS L) {p n : Nat} (hn : 1 ≤ n) : RmS L p n ↔ FreeI L 1 4096 p n := by
  constructor
  · intro hr
    have h0 := fun i hi => (Bool.eq_false_iff.1 (hr i hi))
    have h1 := h0 0 (by omega)
    have h2 := h0 (n - 1) (by omega)
    rw [Ne, tkS_iff] at h1 h2
    refine ⟨by omega, by omega, fun x hx => ?_⟩
    have hx1 := h.in_ x hx
    apply Classical.byContradiction
    intro hc
    by_cases c : x.1 ≤ p
    · exact h1 (Or.inr ⟨x, hx, by omega, by omega⟩)
    · have h3 := h0 (x.1 - p) (by omega)
      rw [Ne, tkS_iff] at h3
      exact h3 (Or.inr ⟨x, hx, by omega, by omega⟩)
  · rintro ⟨h1, h2, h3⟩ i hi
    rw [Bool.eq_false_iff, Ne, tkS_iff]
    rintro (c | ⟨x, hx, c1, c2⟩)
    · omega
    · have := h3 x hx
      omega
section
variable {l r : Nd} {s : Nat × Nat} {a b p n : Nat}
theorem free_left (h : FreeI l.L a s.1 p n) (hs : s.1 < s.2 ∧ s.2 ≤ b) (hr : ∀ x ∈ r.L, s.2 ≤ x.1) : FreeI (Nd.node l s r).L a b p n := by
  obtain ⟨h1, h2, h3⟩ := h
  refine ⟨h1, by omega, fun x hx => ?_⟩
  rw [Nd.L_node] at hx
  rcases List.mem_append.1 hx with hx | hx
  · exact h3 x hx
  · rcases List.mem_cons.1 hx with rfl | hx
    · omega
    · have := hr x hx
      omega
theorem free_right (h : FreeI r.L s.2 b p n) (hs : a ≤ s.1 ∧ s.1 < s.2) (hl : ∀ x ∈ l.L, x.2 ≤ s.1) : FreeI (Nd.node l s r).L a b p n := by
  obtain ⟨h1, h2, h3⟩ := h
  refine ⟨by omega, h2, fun x hx => ?_⟩
  rw [Nd.L_node] at hx
  rcases List.mem_append.1 hx with hx | hx
  · have := hl x hx
    omega
  · rcases List.mem_cons.1 hx with rfl | hx
    · omega
    · exact h3 x hx
theorem free_or (h : FreeI (Nd.node l s r).L a b p n) : FreeI l.L a s.1 p n ∨ FreeI r.L s.2 b p n := by
  obtain ⟨h1, h2, h3⟩ := h
  rw [Nd.L_node] at h3
  rcases h3 s (by simp) with c | c
  · exact Or.inr ⟨c, h2, fun x hx => h3 x (by simp [hx])⟩
  · exact Or.inl ⟨h1, c, fun x hx => h3 x (by simp [hx])⟩
end
theorem rr_spec : ∀ {T : Nd} {a b : Nat}, OkS T.L → (∀ x ∈ T.L, a ≤ x.1) → (∀ x ∈ T.L, x.2 ≤ b) → a ≤ b →
    (∀ p n, FreeI T.L a b p n → (n : Int) ≤ T.rr a b) ∧ (∃ g : Nat, T.rr a b = g ∧ (1 ≤ g → ∃ p, FreeI T.L a b p g))
  | .nil, a, b, _, _, _, hab => by
    refine ⟨fun p n h => ?_, b - a, ?_, fun _ => ⟨a, Nat.le_refl _, by omega, fun x hx => (by cases hx)⟩⟩
    · obtain ⟨h1, h2, -⟩ := h
      show (n : Int) ≤ (b : Int) - a
      omega
    · show (b : Int) - a = _
      omega
  | .node l s r, a, b, h, ha, hb, hab => by
    obtain ⟨hl, hr, hs, h1, h2⟩ := h.nd
    have sa : a ≤ s.1 := ha s (by rw [Nd.L_node]; simp)
    have sb : s.2 ≤ b := hb s (by rw [Nd.L_node]; simp)
    obtain ⟨i1, g1, e1, k1⟩ := rr_spec (a := a) (b := s.1) hl (fun x hx => ha x (by rw [Nd.L_node]; simp [hx])) h1 sa
    obtain ⟨i2, g2, e2, k2⟩ := rr_spec (a := s.2) (b := b) hr h2 (fun x hx => hb x (by rw [Nd.L_node]; simp [hx])) sb
    have hm : (Nd.node l s r).rr a b = max (l.rr a s.1) (r.rr s.2 b) := rfl
    rw [hm, e1, e2]
    rw [e1] at i1
    rw [e2] at i2
    refine ⟨fun p n hp => ?_, max g1 g2, by omega, fun hg => ?_⟩
    · rcases free_or hp with c | c
      · have := i1 p n c
        omega
      · have := i2 p n c
        omega
    · by_cases c : g2 ≤ g1
      · rw [Nat.max_eq_left c] at hg ⊢
        obtain ⟨p, hp⟩ := k1 hg
        exact ⟨p, free_left hp ⟨by omega, sb⟩ h2⟩
      · rw [Nat.max_eq_right (by omega)] at hg ⊢
        obtain ⟨p, hp⟩ := k2 hg
        exact ⟨p, free_right hp ⟨sa, by omega⟩ h1⟩
/-- The greatest gap of all. -/
theorem gr_tree {T : Nd} (h : OkS T.L) : ∃ g : Nat, T.rm 1 4096 = g ∧ GrIs T.L g := by
  have h1 : ∀ x ∈ T.L, (1 : Nat) ≤ x.1 := fun x hx => (h.in_ x hx).1
  have h2 : ∀ x ∈ T.L, x.2 ≤ (4096 : Nat) := fun x hx => (h.in_ x hx).2.2
  obtain ⟨i, g, e, k⟩ := rr_spec (a := 1) (b := 4096) h h1 h2 (by omega)
  refine ⟨g, ?_, ?_, fun p n hp => ?_⟩
  · rw [← e]
    exact Nd.rm_is h (fun x hx => by have := h1 x hx; omega) (fun x hx => by have := h2 x hx; omega)
  · by_cases c : 1 ≤ g
    · obtain ⟨p, hp⟩ := k c
      exact ⟨p, (free_iff h c).2 hp⟩
    · exact ⟨0, fun i hi => by omega⟩
  · by_cases c : 1 ≤ n
    · have := i p n ((free_iff h c).1 hp)
      rw [e] at this
      omega
    · omega
theorem GrIs.one {L : List (Nat × Nat)} {g k : Nat} (h : GrIs L g) (h' : GrIs L k) : g = k := by
  obtain ⟨p, hp⟩ := h.1
  obtain ⟨q, hq⟩ := h'.1
  have := h.2 q k hq
  have := h'.2 p g hp
  omega
/-- The least place of a stretch of room. -/
def LkIs (L : List (Nat × Nat)) (a b : Nat) (low : Int) (n k : Nat) (p e : Int) : Prop :=
  (∃ q : Nat, p = q ∧ e = 0 ∧ FreeI L a b q n ∧ low ≤ q ∧ q % k = 0 ∧ ∀ j : Nat, FreeI L a b j n → low ≤ j → j % k = 0 → q ≤ j) ∨
  (p = 0 ∧ e = 13 ∧ ∀ j : Nat, FreeI L a b j n → low ≤ j → j % k = 0 → False)
theorem LkIs.err {L : List (Nat × Nat)} {a b n k : Nat} {low p e : Int} (h : LkIs L a b low n k p e) : e = 0 ∨ (p = 0 ∧ e = 13) := by
  rcases h with ⟨q, -, h, -⟩ | ⟨h, h', -⟩
  · exact Or.inl h
  · exact Or.inr ⟨h, h'⟩
theorem lk_late {L : List (Nat × Nat)} {a b n k : Nat} {low : Int} (hn : 1 ≤ n) (h : (b : Int) ≤ low) : LkIs L a b low n k 0 13 :=
  Or.inr ⟨rfl, rfl, fun j hj hl _ => by obtain ⟨h1, h2, -⟩ := hj; omega⟩
theorem lk_small {T : Nd} {a b n k : Nat} {low : Int} (h : OkS T.L) (ha : ∀ x ∈ T.L, a ≤ x.1) (hb : ∀ x ∈ T.L, x.2 ≤ b) (hab : a ≤ b) (hr : T.rm a b < (n : Int)) : LkIs T.L a b low n k 0 13 := by
  obtain ⟨i, -⟩ := rr_spec h ha hb hab
  rw [← Nd.rm_is h (fun x hx => by have := ha x hx; omega) (fun x hx => by have := hb x hx; omega)] at i
  exact Or.inr ⟨rfl, rfl, fun j hj _ _ => by have := i j n hj; omega⟩
section
variable {l r : Nd} {s : Nat × Nat} {a b n k : Nat} {low p e : Int}
theorem lk_left (h : LkIs l.L a s.1 low n k p 0) (hn : 1 ≤ n) (hs : s.1 < s.2 ∧ s.2 ≤ b) (hr : ∀ x ∈ r.L, s.2 ≤ x.1) : LkIs (Nd.node l s r).L a b low n k p 0 := by
  rcases h with ⟨q, rfl, -, hf, hl, hk, hm⟩ | ⟨-, h, -⟩
  · refine Or.inl ⟨q, rfl, rfl, free_left hf hs hr, hl, hk, fun j hj h1 h2 => ?_⟩
    rcases free_or hj with c | c
    · exact hm j c h1 h2
    · have := c.1
      have := hf.2.1
      omega
  · cases h
theorem lk_right (h0 : LkIs l.L a s.1 low n k 0 13) (h : LkIs r.L s.2 b low n k p e) (hs : a ≤ s.1 ∧ s.1 < s.2) (hl : ∀ x ∈ l.L, x.2 ≤ s.1) : LkIs (Nd.node l s r).L a b low n k p e := by
  have h1 : ∀ j : Nat, FreeI l.L a s.1 j n → low ≤ j → j % k = 0 → False := by
    rcases h0 with ⟨q, -, h, -⟩ | ⟨-, -, h⟩
    · cases h
    · exact h
  rcases h with ⟨q, rfl, rfl, hf, hl', hk, hm⟩ | ⟨rfl, rfl, hm⟩
  · refine Or.inl ⟨q, rfl, rfl, free_right hf hs hl, hl', hk, fun j hj h2 h3 => ?_⟩
    rcases free_or hj with c | c
    · exact absurd (h1 j c h2 h3) id
    · exact hm j c h2 h3
  · refine Or.inr ⟨rfl, rfl, fun j hj h2 h3 => ?_⟩
    rcases free_or hj with c | c
    · exact h1 j c h2 h3
    · exact hm j c h2 h3
end
/-- The first even page from f on. -/
theorem lk_place {a b n k f q : Nat} {low : Int} (hf : (f : Int) = max (a : Int) low) (hq : f ≤ q) (hk : q % k = 0) (hm : ∀ j, f ≤ j → j % k = 0 → q ≤ j) :
    (¬ (b : Int) - q < n → LkIs [] a b low n k q 0) ∧ ((b : Int) - q < n → LkIs [] a b low n k 0 13) := by
  refine ⟨fun h => Or.inl ⟨q, rfl, rfl, ⟨by omega, by omega, fun x hx => (by cases hx)⟩, by omega, hk, fun j hj h1 h2 => hm j (by have := hj.1; omega) h2⟩, fun h => Or.inr ⟨rfl, rfl, fun j hj h1 h2 => ?_⟩⟩
  have := hm j (by have := hj.1; omega) h2
  have := hj.2.1
  omega
theorem LkIs.room {L : List (Nat × Nat)} {n k : Nat} {low p e : Int} {o : Int} (ok : OkS L) (hn : 1 ≤ n) (ho : 0 ≤ o ∧ o ≤ 8) (hk : k = 2 ^ o.toNat) (h : LkIs L 1 4096 low n k p e) : RoomIs L low n o p e := by
  refine Or.inr ⟨by omega, ?_⟩
  rw [Int.toNat_natCast, ← hk]
  rcases h with ⟨q, rfl, rfl, hf, hl, h0, hm⟩ | ⟨rfl, rfl, hm⟩
  · refine Or.inl ⟨q, rfl, rfl, hf.1, hl, h0, (free_iff ok hn).2 hf, fun j h1 h2 h3 h4 hr => ?_⟩
    have := hm j ((free_iff ok hn).1 hr) h2 h4
    omega
  · exact Or.inr ⟨rfl, rfl, fun j h1 h2 h4 hr => hm j ((free_iff ok hn).1 hr) h2 h4⟩
theorem RoomIs.one {L : List (Nat × Nat)} {low n o p e p' e' : Int} (h : RoomIs L low n o p e) (h' : RoomIs L low n o p' e') : p = p' ∧ e = e' := by
  rcases h with ⟨c, rfl, rfl⟩ | ⟨c, h⟩
  · rcases h' with ⟨-, rfl, rfl⟩ | ⟨c', -⟩
    · exact ⟨rfl, rfl⟩
    · exact absurd c c'
  · rcases h' with ⟨c', -⟩ | ⟨-, h'⟩
    · exact absurd c' c
    rcases h with ⟨q, rfl, rfl, h1, h2, h3, h4, h5⟩ | ⟨rfl, rfl, h5⟩
    · rcases h' with ⟨q', rfl, rfl, k1, k2, k3, k4, k5⟩ | ⟨rfl, rfl, k5⟩
      · have : q = q' := by
          apply Classical.byContradiction
          intro hne
          rcases Nat.lt_or_gt_of_ne hne with c | c
          · exact k5 q h1 h2 c h3 h4
          · exact h5 q' k1 k2 c k3 k4
        subst this
        exact ⟨rfl, rfl⟩
      · exact absurd h4 (k5 q h1 h2 h3)
    · rcases h' with ⟨q', rfl, rfl, k1, k2, k3, k4, k5⟩ | ⟨rfl, rfl, k5⟩
      · exact absurd k4 (h5 q' k1 k2 k3)
      · exact ⟨rfl, rfl⟩
end Go.Proofs.Ytekfkglielmfaaa
