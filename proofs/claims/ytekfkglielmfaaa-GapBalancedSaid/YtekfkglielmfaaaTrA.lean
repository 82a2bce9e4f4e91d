/- Stretches, without the program: what each call answers, and what it makes of them. -/
import Derived.Test.YtekfkglielmfaaaK0
namespace Go.Proofs.Ytekfkglielmfaaa
/-- Rising stretches, of which no two have a page in common. -/
structure OkS (L : List (Nat × Nat)) : Prop where
  up : L.Pairwise fun x y => x.2 ≤ y.1
  in_ : ∀ x ∈ L, 1 ≤ x.1 ∧ x.1 < x.2 ∧ x.2 ≤ 4096
def wrS (f t : Int) : Int := if f < 1 ∨ 4096 < t ∨ t ≤ f then 3 else 0
/-- Has a stretch a page of some? -/
def ovS (L : List (Nat × Nat)) (f t : Int) : Bool := L.any fun x => decide ((x.1 : Int) < t ∧ f < (x.2 : Int))
def insS (f t : Nat) : List (Nat × Nat) → List (Nat × Nat)
  | [] => [(f, t)]
  | x :: r => if f < x.1 then (f, t) :: x :: r else x :: insS f t r
def ptE (L : List (Nat × Nat)) (f t : Int) : Int := if wrS f t ≠ 0 then 3 else if ovS L f t = true then 7 else 0
def ptS (L : List (Nat × Nat)) (f t : Int) : List (Nat × Nat) := if ptE L f t = 0 then insS f.toNat t.toNat L else L
def hsS (L : List (Nat × Nat)) (f t : Int) : Bool := L.any fun x => decide ((x.1 : Int) = f ∧ (x.2 : Int) = t)
def dlE (L : List (Nat × Nat)) (f t : Int) : Int := if wrS f t ≠ 0 then 3 else if hsS L f t = true then 0 else 6
def dlS (L : List (Nat × Nat)) (f t : Int) : List (Nat × Nat) := if wrS f t ≠ 0 then L else L.filter fun x => !decide ((x.1 : Int) = f ∧ (x.2 : Int) = t)
/-- What is left of one. -/
def ct1 (f t : Nat) (x : Nat × Nat) : List (Nat × Nat) := if t ≤ x.1 ∨ x.2 ≤ f then [x] else (if x.1 < f then [(x.1, f)] else []) ++ (if t < x.2 then [(t, x.2)] else [])
def ctS (L : List (Nat × Nat)) (f t : Int) : List (Nat × Nat) := if wrS f t ≠ 0 then L else L.flatMap (ct1 f.toNat t.toNat)
/-- Is a page in a stretch, or no page that may be? -/
def tkS (L : List (Nat × Nat)) (p : Nat) : Bool := decide (p = 0 ∨ 4096 ≤ p) || L.any fun x => decide (x.1 ≤ p ∧ p < x.2)
/-- n pages of room side by side. -/
def RmS (L : List (Nat × Nat)) (p n : Nat) : Prop := ∀ i, i < n → tkS L (p + i) = false
/-- Where there is room. -/
def RoomIs (L : List (Nat × Nat)) (low n o : Int) (p e : Int) : Prop :=
  (n < 1 ∨ o < 0 ∨ 8 < o) ∧ p = 0 ∧ e = 2 ∨
  ¬ (n < 1 ∨ o < 0 ∨ 8 < o) ∧
    ((∃ q : Nat, p = q ∧ e = 0 ∧ 1 ≤ q ∧ low ≤ q ∧ q % 2 ^ o.toNat = 0 ∧ RmS L q n.toNat ∧ ∀ j : Nat, 1 ≤ j → low ≤ j → j < q → j % 2 ^ o.toNat = 0 → ¬ RmS L j n.toNat) ∨
     (p = 0 ∧ e = 13 ∧ ∀ j : Nat, 1 ≤ j → low ≤ j → j % 2 ^ o.toNat = 0 → ¬ RmS L j n.toNat))
/-- The greatest gap. -/
def GrIs (L : List (Nat × Nat)) (g : Nat) : Prop := (∃ p, RmS L p g) ∧ ∀ p n, RmS L p n → n ≤ g
/-- Where a page is. -/
def FdIs (L : List (Nat × Nat)) (p : Int) (a b : Int) (v : Bool) : Prop :=
  (v = false ∧ a = 0 ∧ b = 0 ∧ ∀ x ∈ L, ¬ ((x.1 : Int) ≤ p ∧ p < x.2)) ∨ (v = true ∧ ∃ x ∈ L, a = x.1 ∧ b = x.2 ∧ (x.1 : Int) ≤ p ∧ p < x.2)
section
variable {L : List (Nat × Nat)} {f t : Int}
theorem wrS_ok (h : wrS f t = 0) : ∃ a b : Nat, f = a ∧ t = b ∧ 1 ≤ a ∧ a < b ∧ b ≤ 4096 := by
  unfold wrS at h
  split at h
  · omega
  · exact ⟨f.toNat, t.toNat, by omega, by omega, by omega, by omega, by omega⟩
theorem wrS_no (h : wrS f t ≠ 0) : wrS f t = 3 := by unfold wrS at h ⊢; split at h <;> simp_all
theorem tkS_iff {p : Nat} : tkS L p = true ↔ (p = 0 ∨ 4096 ≤ p) ∨ ∃ x ∈ L, x.1 ≤ p ∧ p < x.2 := by
  unfold tkS
  rw [Bool.or_eq_true, decide_eq_true_iff, List.any_eq_true]
  simp
theorem OkS.nil : OkS [] := ⟨List.Pairwise.nil, fun x h => (by cases h)⟩
theorem insS_mem (a b : Nat) : ∀ (L : List (Nat × Nat)) (x : Nat × Nat), x ∈ insS a b L ↔ x = (a, b) ∨ x ∈ L
  | [], x => by simp [insS]
  | y :: r, x => by
    unfold insS
    split
    · simp
    · simp only [List.mem_cons, insS_mem a b r x]
      constructor
      · rintro (h | h | h)
        · exact Or.inr (Or.inl h)
        · exact Or.inl h
        · exact Or.inr (Or.inr h)
      · rintro (h | h | h)
        · exact Or.inr (Or.inl h)
        · exact Or.inl h
        · exact Or.inr (Or.inr h)
theorem insS_len (a b : Nat) : ∀ (L : List (Nat × Nat)), (insS a b L).length = L.length + 1
  | [] => rfl
  | y :: r => by
    unfold insS
    split
    · rfl
    · simp [insS_len a b r]
theorem insS_ok {a b : Nat} (hab : 1 ≤ a ∧ a < b ∧ b ≤ 4096) : ∀ {L : List (Nat × Nat)}, OkS L → (∀ x ∈ L, ¬ (x.1 < b ∧ a < x.2)) → OkS (insS a b L)
  | [], _, _ => ⟨by simp [insS], fun x hx => by simp [insS] at hx; subst hx; exact hab⟩
  | y :: r, h, ho => by
    have hr : OkS r := ⟨(List.pairwise_cons.1 h.up).2, fun x hx => h.in_ x (List.mem_cons_of_mem _ hx)⟩
    have hy := h.in_ y List.mem_cons_self
    have hoy := ho y List.mem_cons_self
    have ih := insS_ok hab hr fun x hx => ho x (List.mem_cons_of_mem _ hx)
    refine ⟨?_, fun x hx => ?_⟩
    · unfold insS
      split
      · rename_i hlt
        refine List.pairwise_cons.2 ⟨fun x hx => ?_, h.up⟩
        show b ≤ x.1
        rcases List.mem_cons.1 hx with rfl | hx
        · omega
        · have := (List.pairwise_cons.1 h.up).1 x hx
          omega
      · rename_i hlt
        refine List.pairwise_cons.2 ⟨fun x hx => ?_, ih.up⟩
        rcases (insS_mem a b r x).1 hx with rfl | hx
        · show y.2 ≤ a
          omega
        · exact (List.pairwise_cons.1 h.up).1 x hx
    · rcases (insS_mem a b (y :: r) x).1 hx with rfl | hx
      · exact hab
      · exact h.in_ x hx
theorem ovS_no (h : ovS L f t = false) : ∀ x ∈ L, ¬ ((x.1 : Int) < t ∧ f < (x.2 : Int)) := by
  intro x hx c
  have : ovS L f t = true := List.any_eq_true.2 ⟨x, hx, decide_eq_true c⟩
  rw [h] at this; cases this
theorem OkS.put (h : OkS L) (f t : Int) : OkS (ptS L f t) ∧ (ptS L f t).length ≤ L.length + 1 := by
  unfold ptS
  split
  · rename_i he
    unfold ptE at he
    split at he
    · omega
    · rename_i hw
      split at he
      · omega
      · rename_i ho
        obtain ⟨a, b, rfl, rfl, h1, h2, h3⟩ := wrS_ok (by simpa using hw)
        have ho : ovS L a b = false := by simpa using ho
        refine ⟨insS_ok ⟨by omega, by omega, by omega⟩ h fun x hx c => ovS_no ho x hx ⟨by omega, by omega⟩, by rw [insS_len]; omega⟩
  · exact ⟨h, by omega⟩
theorem OkS.filter (h : OkS L) (q : Nat × Nat → Bool) : OkS (L.filter q) ∧ (L.filter q).length ≤ L.length :=
  ⟨⟨h.up.filter q, fun x hx => h.in_ x (List.mem_filter.1 hx).1⟩, List.length_filter_le q L⟩
theorem OkS.del (h : OkS L) (f t : Int) : OkS (dlS L f t) ∧ (dlS L f t).length ≤ L.length := by
  unfold dlS
  split
  · exact ⟨h, Nat.le_refl _⟩
  · exact h.filter _
theorem ct1_in {a b : Nat} {x y : Nat × Nat} (hx : x.1 < x.2) (hy : y ∈ ct1 a b x) : x.1 ≤ y.1 ∧ y.2 ≤ x.2 ∧ y.1 < y.2 ∧ (y.2 ≤ a ∨ b ≤ y.1) := by
  unfold ct1 at hy
  split at hy
  · simp at hy; subst hy; omega
  · rename_i hc
    rcases List.mem_append.1 hy with hy | hy
    · split at hy
      · simp at hy; subst hy
        refine ⟨?_, ?_, ?_, ?_⟩ <;> simp <;> omega
      · cases hy
    · split at hy
      · simp at hy; subst hy
        refine ⟨?_, ?_, ?_, ?_⟩ <;> simp <;> omega
      · cases hy
theorem ct1_up {a b : Nat} (hab : a < b) {x : Nat × Nat} : (ct1 a b x).Pairwise fun y z => y.2 ≤ z.1 := by
  unfold ct1
  split
  · simp
  · refine List.pairwise_append.2 ⟨by split <;> simp, by split <;> simp, fun y hy z hz => ?_⟩
    split at hy <;> split at hz <;> simp at hy hz
    subst hy; subst hz; simp; omega
theorem cut_ok {a b : Nat} (hab : a < b) : ∀ {L : List (Nat × Nat)}, OkS L → OkS (L.flatMap (ct1 a b))
  | [], _ => OkS.nil
  | y :: r, h => by
    have hr : OkS r := ⟨(List.pairwise_cons.1 h.up).2, fun x hx => h.in_ x (List.mem_cons_of_mem _ hx)⟩
    have hy := h.in_ y List.mem_cons_self
    have ih := cut_ok hab hr
    rw [List.flatMap_cons]
    refine ⟨List.pairwise_append.2 ⟨ct1_up hab, ih.up, fun u hu z hz => ?_⟩, fun x hx => ?_⟩
    · obtain ⟨x, hx, hzx⟩ := List.mem_flatMap.1 hz
      have h1 := ct1_in hy.2.1 hu
      have h2 := ct1_in (hr.in_ x hx).2.1 hzx
      have h3 := (List.pairwise_cons.1 h.up).1 x hx
      omega
    · rcases List.mem_append.1 hx with hx | hx
      · have h1 := ct1_in hy.2.1 hx
        omega
      · exact ih.in_ x hx
/-- At most one stretch is parted in two. -/
theorem cut_len {a b : Nat} (hab : a < b) : ∀ {L : List (Nat × Nat)}, OkS L → (L.flatMap (ct1 a b)).length ≤ L.length + 1 ∧ ((∀ x ∈ L, a < x.1) → (L.flatMap (ct1 a b)).length ≤ L.length)
  | [], _ => by simp
  | y :: r, h => by
    have hr : OkS r := ⟨(List.pairwise_cons.1 h.up).2, fun x hx => h.in_ x (List.mem_cons_of_mem _ hx)⟩
    have hy := h.in_ y List.mem_cons_self
    obtain ⟨i1, i2⟩ := cut_len hab hr
    rw [List.flatMap_cons, List.length_append, List.length_cons]
    have hone : (ct1 a b y).length ≤ 2 := by unfold ct1; split <;> (try split) <;> (try split) <;> simp
    refine ⟨?_, fun hh => ?_⟩
    · by_cases c : (ct1 a b y).length ≤ 1
      · omega
      · have hp : y.1 < a ∧ b < y.2 := by
          unfold ct1 at c
          split at c
          · simp at c
          · by_cases c1 : y.1 < a
            · by_cases c2 : b < y.2
              · exact ⟨c1, c2⟩
              · rw [if_pos c1, if_neg c2] at c; simp at c
            · rw [if_neg c1] at c
              split at c <;> simp at c
        have := i2 fun x hx => by have := (List.pairwise_cons.1 h.up).1 x hx; omega
        omega
    · have hy1 := hh y List.mem_cons_self
      have := i2 fun x hx => hh x (List.mem_cons_of_mem _ hx)
      have hc : (ct1 a b y).length ≤ 1 := by
        unfold ct1
        split
        · simp
        · rw [if_neg (by omega)]; split <;> simp
      omega
theorem OkS.cut (h : OkS L) (f t : Int) : OkS (ctS L f t) ∧ (ctS L f t).length ≤ L.length + 1 := by
  unfold ctS
  split
  · exact ⟨h, by omega⟩
  · rename_i hw
    obtain ⟨a, b, rfl, rfl, h1, h2, h3⟩ := wrS_ok (by simpa using hw)
    rw [Int.toNat_natCast, Int.toNat_natCast]
    exact ⟨cut_ok (by omega) h, (cut_len (by omega) h).1⟩
end
end Go.Proofs.Ytekfkglielmfaaa
