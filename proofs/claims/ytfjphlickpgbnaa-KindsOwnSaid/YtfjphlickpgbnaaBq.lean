/- The list of the greatest free blocks, by rising frames, as a scan finds it; and which of them a taking takes. -/
import Derived.Test.YtfjphlickpgbnaaBp
namespace Go.Proofs.Ytfjphlickpgbnaa

def allB (F : List Bool) (a m : Nat) (v : Bool) : Bool := (List.range m).all fun i => F[a + i]? == some v
theorem allB_iff {F : List Bool} {a m : Nat} {v : Bool} : allB F a m v = true ↔ Alq F a m v := by
  unfold allB Alq
  rw [List.all_eq_true]
  constructor
  · intro h i h1 h2
    have := h (i - a) (List.mem_range.2 (by omega))
    rw [show a + (i - a) = i by omega] at this
    exact eq_of_beq this
  · intro h i hi
    rw [List.mem_range] at hi
    rw [h (a + i) (by omega) (by omega)]
    exact beq_self_eq_true _
def freB (F : List Bool) (a k : Nat) : Bool := decide (a % 2 ^ k = 0) && allB F a (2 ^ k) true
theorem freB_iff {F : List Bool} {a k : Nat} : freB F a k = true ↔ Fre F a k := by
  unfold freB Fre
  rw [Bool.and_eq_true, decide_eq_true_eq, allB_iff]
/-- The greatest order below n of a free block that begins at a. -/
def kb (F : List Bool) (a : Nat) : Nat → Option Nat
  | 0 => none
  | n + 1 => if freB F a n = true then some n else kb F a n
theorem kb_some {F : List Bool} {a : Nat} : ∀ {n k : Nat}, kb F a n = some k → k < n ∧ Fre F a k ∧ ∀ j, k < j → j < n → ¬ Fre F a j := by
  intro n
  induction n with
  | zero => intro k h; cases h
  | succ n ih =>
    intro k h
    unfold kb at h
    split at h
    · rename_i hf
      injection h with h
      subst h
      exact ⟨by omega, freB_iff.1 hf, fun j h1 h2 => by omega⟩
    · rename_i hf
      obtain ⟨h1, h2, h3⟩ := ih h
      refine ⟨by omega, h2, fun j g1 g2 => ?_⟩
      by_cases hj : j = n
      · subst hj; exact fun hc => hf (freB_iff.2 hc)
      · exact h3 j g1 (by omega)
theorem kb_none {F : List Bool} {a : Nat} : ∀ {n : Nat}, kb F a n = none → ∀ j, j < n → ¬ Fre F a j := by
  intro n
  induction n with
  | zero => intro _ j hj; omega
  | succ n ih =>
    intro h j hj
    unfold kb at h
    split at h
    · cases h
    · rename_i hf
      by_cases e : j = n
      · subst e; exact fun hc => hf (freB_iff.2 hc)
      · exact ih h j (by omega)
/-- The scan from a place on. -/
def blF (F : List Bool) : Nat → Nat → List (Nat × Nat)
  | 0, _ => []
  | f + 1, a => if a < F.length then (match kb F a 9 with
      | none => blF F f (a + 1)
      | some k => (a, k) :: blF F f (a + 2 ^ k)) else []
/-- The greatest free blocks, by rising frames. -/
def bk (F : List Bool) : List (Nat × Nat) := blF F F.length 0
theorem blF_more (F : List Bool) : ∀ (f g a : Nat), F.length ≤ a + f → F.length ≤ a + g → blF F f a = blF F g a := by
  intro f
  induction f with
  | zero =>
    intro g a h1 h2
    cases g with
    | zero => rfl
    | succ g => simp only [blF]; rw [if_neg (by omega)]
  | succ f ih =>
    intro g a h1 h2
    cases g with
    | zero => simp only [blF]; rw [if_neg (by omega)]
    | succ g =>
      simp only [blF]
      by_cases ha : a < F.length
      · rw [if_pos ha, if_pos ha]
        cases kb F a 9 with
        | none => exact ih g (a + 1) (by omega) (by omega)
        | some k =>
          have := two_pos k
          simp only [ih g (a + 2 ^ k) (by omega) (by omega)]
      · rw [if_neg ha, if_neg ha]
theorem mx_lt {F : List Bool} {a k : Nat} (h : Mx F a k) : a + 2 ^ k ≤ F.length := by
  have hp := two_pos k
  have := h.2.1.2 (a + 2 ^ k - 1) (by omega) (by omega)
  have hl := (List.getElem?_eq_some_iff.1 this).1
  omega
/-- No greatest block goes over a place. -/
def NoStr (F : List Bool) (a : Nat) : Prop := ∀ b j, Mx F b j → b + 2 ^ j ≤ a ∨ a ≤ b
theorem mx_of_scan {F : List Bool} {a k : Nat} (hs : NoStr F a) (h : kb F a 9 = some k) : Mx F a k := by
  obtain ⟨h1, h2, h3⟩ := kb_some h
  refine ⟨by omega, h2, fun h8 hp => ?_⟩
  have hin := par_in h2.1
  by_cases e : par a k = a
  · rw [e] at hp; exact h3 (k + 1) (by omega) (by omega) hp
  · obtain ⟨b, j, hm, _, g1, g2⟩ := mx_anc (8 - (k + 1)) (par a k) (k + 1) (by omega) hp
    have := two_pos k
    rcases hs b j hm with h | h <;> omega
theorem noStr_next {F : List Bool} {a k : Nat} (hm : Mx F a k) : NoStr F (a + 2 ^ k) := fun b j hb => by
  by_cases ho : Ovl b j a k
  · obtain ⟨rfl, rfl⟩ := mx_apart hb hm ho
    exact Or.inl (Nat.le_refl _)
  · have := two_pos k
    have := two_pos j
    by_cases h1 : b < a + 2 ^ k
    · left
      have : ¬ a < b + 2 ^ j := fun h2 => ho ⟨h1, h2⟩
      omega
    · right; omega
theorem noStr_skip {F : List Bool} {a : Nat} (hs : NoStr F a) (h : kb F a 9 = none) : NoStr F (a + 1) := fun b j hb => by
  have h0 := kb_none h 0 (by omega)
  have hb0 : b = a → False := fun e => by
    subst e
    exact h0 ⟨Nat.mod_one _, fun i h1 h2 => hb.2.1.2 i h1 (by have := two_pos j; simp at h2; omega)⟩
  rcases hs b j hb with h1 | h1
  · left; omega
  · right
    have : b ≠ a := fun e => hb0 e
    omega
theorem blF_mem (F : List Bool) : ∀ (f a : Nat), F.length ≤ a + f → NoStr F a → ∀ b j, (b, j) ∈ blF F f a ↔ Mx F b j ∧ a ≤ b := by
  intro f
  induction f with
  | zero =>
    intro a hf _ b j
    constructor
    · intro h; cases h
    · rintro ⟨h, h1⟩
      have := mx_lt h
      have := two_pos j
      omega
  | succ f ih =>
    intro a hf hs b j
    simp only [blF]
    by_cases ha : a < F.length
    · rw [if_pos ha]
      cases hk : kb F a 9 with
      | none =>
        simp only
        rw [ih (a + 1) (by omega) (noStr_skip hs hk)]
        constructor
        · rintro ⟨h, h1⟩; exact ⟨h, by omega⟩
        · rintro ⟨h, h1⟩
          refine ⟨h, ?_⟩
          have h0 := kb_none hk 0 (by omega)
          have : b ≠ a := fun e => by
            subst e
            exact h0 ⟨Nat.mod_one _, fun i g1 g2 => h.2.1.2 i g1 (by have := two_pos j; simp at g2; omega)⟩
          omega
      | some k =>
        have hm := mx_of_scan hs hk
        have hp := two_pos k
        simp only [List.mem_cons, Prod.mk.injEq]
        rw [ih (a + 2 ^ k) (by omega) (noStr_next hm)]
        constructor
        · rintro (⟨rfl, rfl⟩ | ⟨h, h1⟩)
          · exact ⟨hm, Nat.le_refl _⟩
          · exact ⟨h, by omega⟩
        · rintro ⟨h, h1⟩
          by_cases ho : Ovl b j a k
          · exact Or.inl (mx_apart h hm ho)
          · right
            refine ⟨h, ?_⟩
            have := two_pos j
            by_cases h2 : b < a + 2 ^ k
            · exact absurd ⟨h2, by omega⟩ ho
            · omega
    · rw [if_neg ha]
      constructor
      · intro h; cases h
      · rintro ⟨h, h1⟩
        have := mx_lt h
        have := two_pos j
        omega
theorem bk_mem {F : List Bool} {b j : Nat} : (b, j) ∈ bk F ↔ Mx F b j := by
  unfold bk
  rw [blF_mem F F.length 0 (by omega) (fun b j _ => Or.inr (Nat.zero_le _))]
  exact ⟨fun h => h.1, fun h => ⟨h, Nat.zero_le _⟩⟩
/-- One behind the other. -/
def Rise (l : List (Nat × Nat)) : Prop := l.Pairwise fun x y => x.1 + 2 ^ x.2 ≤ y.1
theorem blF_rise (F : List Bool) : ∀ (f a : Nat), Rise (blF F f a) ∧ ∀ x ∈ blF F f a, a ≤ x.1 := by
  intro f
  induction f with
  | zero => intro a; exact ⟨List.Pairwise.nil, fun x h => by cases h⟩
  | succ f ih =>
    intro a
    simp only [blF]
    by_cases ha : a < F.length
    · rw [if_pos ha]
      cases kb F a 9 with
      | none => exact ⟨(ih (a + 1)).1, fun x h => by have := (ih (a + 1)).2 x h; omega⟩
      | some k =>
        have hp := two_pos k
        refine ⟨List.Pairwise.cons (fun x h => (ih (a + 2 ^ k)).2 x h) (ih (a + 2 ^ k)).1, fun x h => ?_⟩
        rcases List.mem_cons.1 h with rfl | h
        · exact Nat.le_refl _
        · have := (ih (a + 2 ^ k)).2 x h; omega
    · rw [if_neg ha]; exact ⟨List.Pairwise.nil, fun x h => by cases h⟩
theorem bk_rise (F : List Bool) : Rise (bk F) := (blF_rise F _ 0).1
/-- Two rising lists of the same elements are the same. -/
theorem rise_ext : ∀ (l m : List (Nat × Nat)), l.Pairwise (fun x y => x.1 < y.1) → m.Pairwise (fun x y => x.1 < y.1) → (∀ x, x ∈ l ↔ x ∈ m) → l = m := by
  intro l
  induction l with
  | nil =>
    intro m _ _ h
    cases m with
    | nil => rfl
    | cons y m => exact absurd ((h y).2 List.mem_cons_self) (by simp)
  | cons x l ih =>
    intro m hl hm h
    cases m with
    | nil => exact absurd ((h x).1 List.mem_cons_self) (by simp)
    | cons y m =>
      obtain ⟨hx, hl'⟩ := List.pairwise_cons.1 hl
      obtain ⟨hy, hm'⟩ := List.pairwise_cons.1 hm
      have e : x = y := by
        rcases List.mem_cons.1 ((h x).1 List.mem_cons_self) with h1 | h1
        · exact h1
        · rcases List.mem_cons.1 ((h y).2 List.mem_cons_self) with h2 | h2
          · exact h2.symm
          · have := hy x h1; have := hx y h2; omega
      subst e
      rw [ih m hl' hm' fun z => ?_]
      constructor
      · intro hz
        rcases List.mem_cons.1 ((h z).1 (List.mem_cons_of_mem _ hz)) with h1 | h1
        · subst h1; have := hx z hz; omega
        · exact h1
      · intro hz
        rcases List.mem_cons.1 ((h z).2 (List.mem_cons_of_mem _ hz)) with h1 | h1
        · subst h1; have := hy z hz; omega
        · exact h1
theorem Rise.less {l : List (Nat × Nat)} (h : Rise l) : l.Pairwise fun x y => x.1 < y.1 := h.imp fun {x y} h => by have := two_pos x.2; omega
theorem blF_len (F : List Bool) : ∀ (f a : Nat), (blF F f a).length ≤ f := by
  intro f
  induction f with
  | zero => intro a; exact Nat.le_refl _
  | succ f ih =>
    intro a
    simp only [blF]
    split
    · cases kb F a 9 with
      | none => have := ih (a + 1); simp only; omega
      | some k => have := ih (a + 2 ^ k); simp only [List.length_cons]; omega
    · exact Nat.zero_le _
theorem bk_len (F : List Bool) : (bk F).length ≤ F.length := blF_len F _ _

/-- The first of the least order that is not below o. -/
def bst (o : Nat) : List (Nat × Nat) → Option (Nat × Nat)
  | l => l.foldl (fun c x => if o ≤ x.2 ∧ (∀ y ∈ c, x.2 < y.2) then some x else c) none
theorem bst_snoc (o : Nat) (l : List (Nat × Nat)) (x : Nat × Nat) : bst o (l ++ [x]) = if o ≤ x.2 ∧ (∀ y ∈ bst o l, x.2 < y.2) then some x else bst o l := by
  unfold bst; rw [List.foldl_append]; rfl
theorem rev_ind {α : Type} {P : List α → Prop} (h0 : P []) (h1 : ∀ l x, P l → P (l ++ [x])) (l : List α) : P l := by
  have : ∀ l : List α, P l.reverse := by
    intro l
    induction l with
    | nil => exact h0
    | cons x r ih => rw [List.reverse_cons]; exact h1 _ _ ih
  simpa using this l.reverse
/-- What the best is: of the list, great enough, none less, none as great ahead of it. -/
theorem bst_spec (o : Nat) : ∀ (l : List (Nat × Nat)), l.Pairwise (fun x y => x.1 < y.1) →
    (bst o l = none → ∀ x ∈ l, x.2 < o) ∧ ∀ y, bst o l = some y → y ∈ l ∧ o ≤ y.2 ∧ ∀ x ∈ l, o ≤ x.2 → y.2 < x.2 ∨ (y.2 = x.2 ∧ y.1 ≤ x.1) := by
  intro l
  induction l using rev_ind with
  | h0 => intro _; exact ⟨fun _ x h => by (cases h), fun y h => by (cases h)⟩
  | h1 l x ih =>
    intro hp
    obtain ⟨hl, _, hx⟩ := List.pairwise_append.1 hp
    obtain ⟨i1, i2⟩ := ih hl
    rw [bst_snoc]
    by_cases hc : o ≤ x.2 ∧ (∀ y ∈ bst o l, x.2 < y.2)
    · rw [if_pos hc]
      refine ⟨fun h => by (cases h), fun y hy => ?_⟩
      injection hy with hy
      subst hy
      refine ⟨by simp, hc.1, fun z hz ho => ?_⟩
      rcases List.mem_append.1 hz with h1 | h1
      · left
        cases hb : bst o l with
        | none => have := i1 hb z h1; omega
        | some w =>
          have h2 := hc.2 w hb
          rcases (i2 w hb).2.2 z h1 ho with h3 | h3 <;> omega
      · rw [List.mem_singleton.1 h1]; exact Or.inr ⟨rfl, Nat.le_refl _⟩
    · rw [if_neg hc]
      refine ⟨fun h z hz => ?_, fun y hy => ?_⟩
      · rcases List.mem_append.1 hz with h1 | h1
        · exact i1 h z h1
        · rw [List.mem_singleton.1 h1]
          rcases Nat.lt_or_ge x.2 o with h2 | h2
          · exact h2
          · exact absurd ⟨h2, fun y hy => by rw [h] at hy; cases hy⟩ hc
      · obtain ⟨g1, g2, g3⟩ := i2 y hy
        refine ⟨List.mem_append_left _ g1, g2, fun z hz ho => ?_⟩
        rcases List.mem_append.1 hz with h1 | h1
        · exact g3 z h1 ho
        · rw [List.mem_singleton.1 h1] at ho ⊢
          have hyx := hx y g1 x (List.mem_singleton.2 rfl)
          rcases Nat.lt_or_ge x.2 y.2 with h2 | h2
          · exact absurd ⟨ho, fun w hw => by rw [hy] at hw; injection hw with hw; subst hw; exact h2⟩ hc
          · rcases Nat.lt_or_ge y.2 x.2 with h3 | h3
            · exact Or.inl h3
            · exact Or.inr ⟨by omega, by omega⟩
end Go.Proofs.Ytfjphlickpgbnaa
