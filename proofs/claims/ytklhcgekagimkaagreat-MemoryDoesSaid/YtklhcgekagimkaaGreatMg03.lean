/- The list of the greatest free blocks, by rising frames, as a scan finds it; and which of them a taking takes. -/
import Derived.Test.YtklhcgekagimkaaGreatMg02
namespace Go.Proofs.YtklhcgekagimkaaGreat

def allB (F : List Bool) (a m : Nat) (v : Bool) : Bool := (List.range m).all fun i => F[a + i]? == some v
theorem allB_iff {F : List Bool} {a m : Nat} {v : Bool} : allB F a m v = true ↔ Alq F a m v := by
  unfold allB Alq
  rw [List.all_eq_true]
  constructor
  · intro h i h1 h2
    have := h (i - a) (List.mem_range.2 (by omega))
    rw [show a + (i - a) = i by omega] at this
    exact eq_of_beq this
  · intro h i hi
    rw [List.mem_range] at hi
    rw [h (a + i) (by omega) (by omega)]
    exact beq_self_eq_true _
def freB (F : List Bool) (a k : Nat) : Bool := decide (a % 2 ^ k = 0) && allB F a (2 ^ k) true
theorem freB_iff {F : List Bool} {a k : Nat} : freB F a k = true ↔ Fre F a k := by
  unfold freB Fre
  rw [Bool.and_eq_true, decide_eq_true_eq, allB_iff]
/-- The greatest order below n of a free block that begins at a. -/
def kb (F : List Bool) (a : Nat) : Nat → Option Nat
  | 0 => none
  | n + 1 => if freB F a n = true then some n else kb F a n
theorem kb_some {F : List Bool} {a : Nat} : ∀ {n k : Nat}, kb F a n = some k → k < n ∧ Fre F a k ∧ ∀ j, k < j → j < n → ¬ Fre F a j := by
  intro n
  induction n with
  | zero => intro k h; cases h
  | succ n ih =>
    intro k h
    unfold kb at h
    split at h
    · rename_i hf
      injection h with h
      subst h
      exact ⟨by omega, freB_iff.1 hf, fun j h1 h2 => by omega⟩
    · rename_i hf
      obtain ⟨h1, h2, h3⟩ := ih h
      refine ⟨by omega, h2, fun j g1 g2 => ?_⟩
      by_cases hj : j = n
      · subst hj; exact fun hc => hf (freB_iff.2 hc)
      · exact h3 j g1 (by omega)
theorem kb_none {F : List Bool} {a : Nat} : ∀ {n : Nat}, kb F a n = none → ∀ j, j < n → ¬ Fre F a j := by
  intro n
  induction n with
  | zero => intro _ j hj; omega
  | succ n ih =>
    intro h j hj
    unfold kb at h
    split at h
    · cases h
    · rename_i hf
      by_cases e : j = n
      · subst e; exact fun hc => hf (freB_iff.2 hc)
      · exact ih h j (by omega)
/-- The scan from a place on. -/
def blF (F : List Bool) : Nat → Nat → List (Nat × Nat)
  | 0, _ => []
  | f + 1, a => if a < F.length then (match kb F a 9 with
      | none => blF F f (a + 1)
      | some k => (a, k) :: blF F f (a + 2 ^ k)) else []
/-- The greatest free blocks, by rising frames. -/
def bk (F : List Bool) : List (Nat × Nat) := blF F F.length 0
theorem blF_more (F : List Bool) : ∀ (f g a : Nat), F.length ≤ a + f → F.length ≤ a + g → blF F f a = blF F g a := by
  intro f
  induction f with
  | zero =>
    intro g a h1 h2
    cases g with
    | zero => rfl
    | succ g => simp only [blF]; rw [if_neg (by omega)]
  | succ f ih =>
    intro g a h1 h2
    cases g with
    | zero => simp only [blF]; rw [if_neg (by omega)]
    | succ g =>
      simp only [blF]
      by_cases ha : a < F.length
      · rw [if_pos ha, if_pos ha]
        cases kb F a 9 with
        | none => exact ih g (a + 1) (by omega) (by omega)
        | some k =>
          have := two_pos k
          simp only [ih g (a + 2 ^ k) (by omega) (by omega)]
      · rw [if_neg ha, if_neg ha]
theorem mx_lt {F : List Bool} {a k : Nat} (h : Mx F a k) : a + 2 ^ k ≤ F.length := by
  have hp := two_pos k
  have := h.2.1.2 (a + 2 ^ k - 1) (by omega) (by omega)
  have hl := (List.getElem?_eq_some_iff.1 this).1
  omega
/-- No greatest block goes over a place. -/
def NoStr (F : List Bool) (a : Nat) : Prop := ∀ b j, Mx F b j → b + 2 ^ j ≤ a ∨ a ≤ b
theorem mx_of_scan {F : List Bool} {a k : Nat} (hs : NoStr F a) (h : kb F a 9 = some k) : Mx F a k := by
  obtain ⟨h1, h2, h3⟩ := kb_some h
  refine ⟨by omega, h2, fun h8 hp => ?_⟩
  have hin := par_in h2.1
  by_cases e : par a k = a
  · rw [e] at hp; exact h3 (k + 1) (by omega) (by omega) hp
  · obtain ⟨b, j, hm, _, g1, g2⟩ := mx_anc (8 - (k + 1)) (par a k) (k + 1) (by omega) hp
    have := two_pos k
    rcases hs b j hm with h | h <;> omega
theorem noStr_next {F : List Bool} {a k : Nat} (hm : Mx F a k) : NoStr F (a + 2 ^ k) := fun b j hb => by
  by_cases ho : Ovl b j a k
  · obtain ⟨rfl, rfl⟩ := mx_apart hb hm ho
    exact Or.inl (Nat.le_refl _)
  · have := two_pos k
    have := two_pos j
    by_cases h1 : b < a + 2 ^ k
    · left
      have : ¬ a < b + 2 ^ j := fun h2 => ho ⟨h1, h2⟩
      omega
    · right; omega
theorem noStr_skip {F : List Bool} {a : Nat} (hs : NoStr F a) (h : kb F a 9 = none) : NoStr F (a + 1) := fun b j hb => by
  have h0 := kb_none h 0 (by omega)
  have hb0 : b = a → False := fun e => by
    subst e
    exact h0 ⟨Nat.mod_one _, fun i h1 h2 => hb.2.1.2 i h1 (by have := two_pos j; simp at h2; omega)⟩
  rcases hs b j hb with h1 | h1
  · left; omega
  · right
    have : b ≠ a := fun e => hb0 e
    omega
theorem blF_mem (F : List Bool) : ∀ (f a : Nat), F.length ≤ a + f → NoStr F a → ∀ b j, (b, j) ∈ blF F f a ↔ Mx F b j ∧ a ≤ b := by
  intro f
  induction f with
  | zero =>
    intro a hf _ b j
    constructor
    · intro h; cases h
    · rintro ⟨h, h1⟩
      have := mx_lt h
      have := two_pos j
      omega
  | succ f ih =>
    intro a hf hs b j
    simp only [blF]
    by_cases ha : a < F.length
    · rw [if_pos ha]
      cases hk : kb F a 9 with
      | none =>
        simp only
        rw [ih (a + 1) (by omega) (noStr_skip hs hk)]
        constructor
        · rintro ⟨h, h1⟩; exact ⟨h, by omega⟩
        · rintro ⟨h, h1⟩
          refine ⟨h, ?_⟩
          have h0 := kb_none hk 0 (by omega)
          have : b ≠ a := fun e => by
            subst e
            exact h0 ⟨Nat.mod_one _, fun i g1 g2 => h.2.1.2 i g1 (by have := two_pos j; simp at g2; omega)⟩
          omega
      | some k =>
        have hm := mx_of_scan hs hk
        have hp := two_pos k
        simp only [List.mem_cons, Prod.mk.injEq]
        rw [ih (a + 2 ^ k) (by omega) (noStr_next hm)]
        constructor
        · rintro (⟨rfl, rfl⟩ | ⟨h, h1⟩)
          · exact ⟨hm, Nat.le_refl _⟩
          · exact ⟨h, by omega⟩
        · rintro ⟨h, h1⟩
          by_cases ho : Ovl b j a k
          · exact Or.inl (mx_apart h hm ho)
          · right
            refine ⟨h, ?_⟩
            have := two_pos j
            by_cases h2 : b < a + 2 ^ k
            · exact absurd ⟨h2, by omega⟩ ho
            · omega
    · rw [if_neg ha]
      constructor
      · intro h; cases h
      · rintro ⟨h, h1⟩
        have := mx_lt h
        have := two_pos j
        omega
theorem bk_mem {F : List Bool} {b j : Nat} : (b, j) ∈ bk F ↔ Mx F b j := by
  unfold bk
  rw [blF_mem F F.length 0 (by omega) (fun b j _ => Or.inr (Nat.zero_le _))]
  exact ⟨fun h => h.1, fun h => ⟨h, Nat.zero_le _⟩⟩
/-- One behind the other. -/
def Rise (l : List (Nat × Nat)) : Prop := l.Pairwise fun x y => x.1 + 2 ^ x.2 ≤ y.1
theorem blF_rise (F : List Bool) : ∀ (f a : Nat), Rise (blF F f a) ∧ ∀ x ∈ blF F f a, a ≤ x.1 := by
  intro f
  induction f with
  | zero => intro a; exact ⟨List.Pairwise.nil, fun x h => by cases h⟩
  | succ f ih =>
    intro a
    simp only [blF]
    by_cases ha : a < F.length
    · rw [if_pos ha]
      cases kb F a 9 with
      | none => exact ⟨(ih (a + 1)).1, fun x h => by have := (ih (a + 1)).2 x h; omega⟩
      | some k =>
        have hp := two_pos k
        refine ⟨List.Pairwise.cons (fun x h => (ih (a + 2 ^ k)).2 x h) (ih (a + 2 ^ k)).1, fun x h => ?_⟩
        rcases List.mem_cons.1 h with rfl | h
        · exact Nat.le_refl _
        · have := (ih (a + 2 ^ k)).2 x h; omega
    · rw [if_neg ha]; exact ⟨List.Pairwise.nil, fun x h => by cases h⟩
theorem bk_rise (F : List Bool) : Rise (bk F) := (blF_rise F _ 0).1
/-- Two rising lists of the same elements are the same. -/
theorem rise_ext : ∀ (l m : List (Nat × Nat)), l.Pairwise (fun x y => x.1 < y.1) → m.Pairwise (fun x y => x.1 < y.1) → (∀ x, x ∈ l ↔ x ∈ m) → l = m := by
  intro l
  induction l with
  | nil =>
    intro m _ _ h
    cases m with
    | nil => rfl
    | cons y m => exact absurd ((h y).2 List.mem_cons_self) (by simp)
  | cons x l ih =>
    intro m hl hm h
    cases m with
    | nil => exact absurd ((h x).1 List.mem_cons_self) (by simp)
    | cons y m =>
      obtain ⟨hx, hl'⟩ := List.pairwise_cons.1 hl
      obtain ⟨hy, hm'⟩ := List.pairwise_cons.1 hm
      have e : x = y := by
        rcases List.mem_cons.1 ((h x).1 List.mem_cons_self) with h1 | h1
        · exact h1
        · rcases List.mem_cons.1 ((h y).2 List.mem_cons_self) with h2 | h2
          · exact h2.symm
          · have := hy x h1; have := hx y h2; omega
      subst e
      rw [ih m hl' hm' fun z => ?_]
      constructor
      · intro hz
        rcases List.mem_cons.1 ((h z).1 (List.mem_cons_of_mem _ hz)) with h1 | h1
        · subst h1; have := hx z hz; omega
        · exact h1
      · intro hz
        rcases List.mem_cons.1 ((h z).2 (List.mem_cons_of_mem _ hz)) with h1 | h1
        · subst h1; have := hy z hz; omega
        · exact h1
theorem Rise.less {l : List (Nat × Nat)} (h : Rise l) : l.Pairwise fun x y => x.1 < y.1 := h.imp fun {x y} h => by have := two_pos x.2; omega
theorem blF_len (F : List Bool) : ∀ (f a : Nat), (blF F f a).length ≤ f := by
  intro f
  induction f with
  | zero => intro a; exact Nat.le_refl _
  | succ f ih =>
    intro a
    simp only [blF]
    split
    · cases kb F a 9 with
      | none => have := ih (a + 1); simp only; omega
      | some k => have := ih (a + 2 ^ k); simp only [List.length_cons]; omega
    · exact Nat.zero_le _
theorem bk_len (F : List Bool) : (bk F).length ≤ F.length := blF_len F _ _

/-- The first of the least order that is not below o. -/
def bst (o : Nat) : List (Nat × Nat) → Option (Nat × Nat)
  | l => l.foldl (fun c x => if o ≤ x.2 ∧ (∀ y ∈ c, x.2 < y.2) then some x else c) none
theorem bst_snoc (o : Nat) (l : List (Nat × Nat)) (x : Nat × Nat) : bst o (l ++ [x]) = if o ≤ x.2 ∧ (∀ y ∈ bst o l, x.2 < y.2) then some x else bst o l := by
  unfold bst; rw [List.foldl_append]; rfl
theorem rev_ind {α : Type} {P : List α → Prop} (h0 : P []) (h1 : ∀ l x, P l → P (l ++ [x])) (l : List α) : P l := by
  have : ∀ l : List α, P l.reverse := by
    intro l
    induction l with
    | nil => exact h0
    | cons x r ih => rw [List.reverse_cons]; exact h1 _ _ ih
  simpa using this l.reverse
/-- What the best is: of the list, great enough, none less, none as great ahead of it. -/
theorem bst_spec (o : Nat) : ∀ (l : List (Nat × Nat)), l.Pairwise (fun x y => x.1 < y.1) →
    (bst o l = none → ∀ x ∈ l, x.2 < o) ∧ ∀ y, bst o l = some y → y ∈ l ∧ o ≤ y.2 ∧ ∀ x ∈ l, o ≤ x.2 → y.2 < x.2 ∨ (y.2 = x.2 ∧ y.1 ≤ x.1) := by
  intro l
  induction l using rev_ind with
  | h0 => intro _; exact ⟨fun _ x h => by (cases h), fun y h => by (cases h)⟩
  | h1 l x ih =>
    intro hp
    obtain ⟨hl, _, hx⟩ := List.pairwise_append.1 hp
    obtain ⟨i1, i2⟩ := ih hl
    rw [bst_snoc]
    by_cases hc : o ≤ x.2 ∧ (∀ y ∈ bst o l, x.2 < y.2)
    · rw [if_pos hc]
      refine ⟨fun h => by (cases h), fun y hy => ?_⟩
      injection hy with hy
      subst hy
      refine ⟨by simp, hc.1, fun z hz ho => ?_⟩
      rcases List.mem_append.1 hz with h1 | h1
      · left
        cases hb : bst o l with
        | none => have := i1 hb z h1; omega
        | some w =>
          have h2 := hc.2 w hb
          rcases (i2 w hb).2.2 z h1 ho with h3 | h3 <;> omega
      · rw [List.mem_singleton.1 h1]; exact Or.inr ⟨rfl, Nat.le_refl _⟩
    · rw [if_neg hc]
      refine ⟨fun h z hz => ?_, fun y hy => ?_⟩
      · rcases List.mem_append.1 hz with h1 | h1
        · exact i1 h z h1
        · rw [List.mem_singleton.1 h1]
          rcases Nat.lt_or_ge x.2 o with h2 | h2
          · exact h2
          · exact absurd ⟨h2, fun y hy => by rw [h] at hy; cases hy⟩ hc
      · obtain ⟨g1, g2, g3⟩ := i2 y hy
        refine ⟨List.mem_append_left _ g1, g2, fun z hz ho => ?_⟩
        rcases List.mem_append.1 hz with h1 | h1
        · exact g3 z h1 ho
        · rw [List.mem_singleton.1 h1] at ho ⊢
          have hyx := hx y g1 x (List.mem_singleton.2 rfl)
          rcases Nat.lt_or_ge x.2 y.2 with h2 | h2
          · exact absurd ⟨ho, fun w hw => by rw [hy] at hw; injection hw with hw; subst hw; exact h2⟩ hc
          · rcases Nat.lt_or_ge y.2 x.2 with h3 | h3
            · exact Or.inl h3
            · exact Or.inr ⟨by omega, by omega⟩
end Go.Proofs.YtklhcgekagimkaaGreat
/- What each call of package buddy answers over the list of frames, and what becomes of that list; what is held by whoever took it. -/
namespace Go.Proofs.YtklhcgekagimkaaGreat

/-- Is it an order? -/
def orB (o : Int) : Bool := decide (0 ≤ o ∧ o ≤ 8)
/-- What is wrong with a block that is to become free (v), or not free. -/
def chE (F : List Bool) (f o : Int) (v : Bool) : Int :=
  if orB o = false then 2 else if f % 2 ^ o.toNat = 0 then (if f < 0 ∨ (F.length : Int) < f + 2 ^ o.toNat then 3 else if allB F f.toNat (2 ^ o.toNat) (!v) = true then 0 else 12) else 2
def chL (F : List Bool) (f o : Int) (v : Bool) : List Bool := if chE F f o v = 0 then setR F f.toNat (2 ^ o.toNat) v else F
/-- The block that a taking takes its frames from. -/
def tkB (F : List Bool) (o : Int) : Option (Nat × Nat) := if orB o = true then bst o.toNat (bk F) else none
def tkE (F : List Bool) (o : Int) : Int := if orB o = false then 2 else if (tkB F o).isSome then 0 else 8
def tkV (F : List Bool) (o : Int) : Int := match tkB F o with
  | some x => x.1
  | none => 0
def tkL (F : List Bool) (o : Int) : List Bool := match tkB F o with
  | some x => setR F x.1 (2 ^ o.toNat) false
  | none => F
/-- The greatest order of a free block. -/
def grt (F : List Bool) : Int := (bk F).foldl (fun k x => max k x.2) (-1)
def hasB (F : List Bool) (f : Int) : Bool := decide (0 ≤ f) && (F[f.toNat]? == some true)
theorem chL_length (F : List Bool) (f o : Int) (v : Bool) : (chL F f o v).length = F.length := by
  unfold chL; split
  · exact setR_length _ _ _ _
  · rfl
theorem tkL_length (F : List Bool) (o : Int) : (tkL F o).length = F.length := by
  unfold tkL; split
  · exact setR_length _ _ _ _
  · rfl
/-- What a change that is made has changed. -/
theorem chE_ok {F : List Bool} {f o : Int} {v : Bool} (h : chE F f o v = 0) : ∃ a k : Nat, f = a ∧ o = k ∧ k ≤ 8 ∧ a % 2 ^ k = 0 ∧ a + 2 ^ k ≤ F.length ∧ Alq F a (2 ^ k) (!v) ∧ chL F f o v = setR F a (2 ^ k) v := by
  have hL : chL F f o v = setR F f.toNat (2 ^ o.toNat) v := by unfold chL; rw [if_pos h]
  unfold chE at h
  by_cases h1 : orB o = false
  · rw [if_pos h1] at h; omega
  · rw [if_neg h1] at h
    have h1' : 0 ≤ o ∧ o ≤ 8 := by simpa [orB] using h1
    split at h
    · rename_i h2
      split at h
      · omega
      · rename_i h3
        split at h
        · rename_i h4
          obtain ⟨k, rfl⟩ : ∃ k : Nat, o = k := ⟨o.toNat, by omega⟩
          obtain ⟨a, rfl⟩ : ∃ a : Nat, f = a := ⟨f.toNat, by omega⟩
          simp only [Int.toNat_natCast] at h2 h3 h4 hL
          refine ⟨a, k, rfl, rfl, by omega, ?_, ?_, allB_iff.1 h4, hL⟩
          · have e : ((a : Int) % 2 ^ k) = ((a % 2 ^ k : Nat) : Int) := by simp
            rw [e] at h2; omega
          · have e : ((2 : Int) ^ k) = ((2 ^ k : Nat) : Int) := by simp
            rw [e] at h3; omega
        · omega
    · omega
theorem chL_of {F : List Bool} {f o : Int} {v : Bool} (h : chE F f o v = 0) : chL F f o v = setR F f.toNat (2 ^ o.toNat) v := by unfold chL; rw [if_pos h]
theorem setR_back {F : List Bool} {a m : Nat} {v w : Bool} (hr : a + m ≤ F.length) (h : Alq F a m w) : setR (setR F a m v) a m w = F := by
  apply List.ext_getElem?
  intro i
  rw [setR_get _ _ _ _ (by rw [setR_length]; exact hr)]
  by_cases hc : a ≤ i ∧ i < a + m
  · rw [if_pos hc, h i hc.1 hc.2]
  · rw [if_neg hc, setR_get _ _ _ _ hr, if_neg hc]
/-- A change there and back. -/
theorem ch_back {F : List Bool} {f o : Int} {v : Bool} (h : chE F f o v = 0) : chE (chL F f o v) f o (!v) = 0 ∧ chL (chL F f o v) f o (!v) = F := by
  obtain ⟨a, k, rfl, rfl, hk, ha, hr, hq, hL⟩ := chE_ok h
  have ho : ¬ orB (k : Int) = false := by simp [orB]; omega
  have h2 : ((a : Int) % 2 ^ (k : Int).toNat) = 0 := by
    have e : ((a : Int) % 2 ^ k) = ((a % 2 ^ k : Nat) : Int) := by simp
    rw [Int.toNat_natCast, e, ha]; rfl
  have h3 : ¬ ((a : Int) < 0 ∨ ((chL F a k v).length : Int) < (a : Int) + 2 ^ (k : Int).toNat) := by
    rw [chL_length, Int.toNat_natCast]
    have e : ((2 : Int) ^ k) = ((2 ^ k : Nat) : Int) := by simp
    rw [e]; omega
  have h4 : allB (chL F a k v) (a : Int).toNat (2 ^ (k : Int).toNat) (!!v) = true := by
    rw [allB_iff, hL, Bool.not_not, Int.toNat_natCast, Int.toNat_natCast]
    intro i h1 h2
    rw [setR_get _ _ _ _ hr, if_pos ⟨h1, h2⟩]
  have hz : chE (chL F a k v) a k (!v) = 0 := by
    unfold chE
    rw [if_neg ho, if_pos h2, if_neg h3, if_pos h4]
  refine ⟨hz, ?_⟩
  rw [chL_of hz, hL]
  exact setR_back hr hq
/-- What a taking that takes has taken. -/
theorem tkB_some {F : List Bool} {o : Int} {x : Nat × Nat} (h : tkB F o = some x) : ∃ k : Nat, o = k ∧ k ≤ 8 ∧ k ≤ x.2 ∧ Mx F x.1 x.2 ∧ ∀ b j, Mx F b j → k ≤ j → x.2 < j ∨ (x.2 = j ∧ x.1 ≤ b) := by
  unfold tkB at h
  split at h
  · rename_i ho
    have ho' : 0 ≤ o ∧ o ≤ 8 := by simpa [orB] using ho
    obtain ⟨k, rfl⟩ : ∃ k : Nat, o = k := ⟨o.toNat, by omega⟩
    obtain ⟨h1, h2, h3⟩ := (bst_spec _ _ (bk_rise F).less).2 x h
    exact ⟨k, rfl, by omega, h2, bk_mem.1 h1, fun b j hm hj => h3 (b, j) (bk_mem.2 hm) hj⟩
  · cases h
theorem tkB_none {F : List Bool} {k : Nat} (hk : k ≤ 8) (h : tkB F k = none) (b j : Nat) (hm : Mx F b j) : j < k := by
  unfold tkB at h
  rw [if_pos (by simp [orB]; omega)] at h
  exact (bst_spec _ _ (bk_rise F).less).1 h (b, j) (bk_mem.2 hm)
/-- There is none only if no even block of the order is free as a whole. -/
theorem tk_finds {F : List Bool} {k : Nat} (hk : k ≤ 8) : (tkB F k).isSome = true ↔ ∃ a, Fre F a k := by
  constructor
  · intro h
    obtain ⟨x, hx⟩ := Option.isSome_iff_exists.1 h
    obtain ⟨k', e, h1, h2, h3, _⟩ := tkB_some hx
    obtain rfl : k = k' := by omega
    exact ⟨x.1, h3.2.1.in_ (al_less h3.2.1.1 h2) (Nat.le_refl _) (by have := Nat.pow_le_pow_right (by omega : 0 < 2) h2; omega)⟩
  · rintro ⟨a, ha⟩
    cases hb : tkB F k with
    | some x => rfl
    | none =>
      obtain ⟨b, j, hm, h1, _⟩ := mx_anc (8 - k) a k (by omega) ha
      have := tkB_none hk hb b j hm
      omega
theorem tk_fre {F : List Bool} {k : Nat} {x : Nat × Nat} (h : tkB F k = some x) : k ≤ 8 ∧ Fre F x.1 k ∧ x.1 + 2 ^ k ≤ F.length := by
  obtain ⟨k', e, h1, h2, h3, _⟩ := tkB_some h
  obtain rfl : k = k' := by omega
  have hp := Nat.pow_le_pow_right (by omega : 0 < 2) h2
  have hl := mx_lt h3
  exact ⟨h1, h3.2.1.in_ (al_less h3.2.1.1 h2) (Nat.le_refl _) (by omega), by omega⟩
/-- How many are free. -/
theorem count_setR {F : List Bool} {a : Nat} {v : Bool} : ∀ {m : Nat}, a + m ≤ F.length → Alq F a m (!v) → (setR F a m v).count (!v) + m = F.count (!v) := by
  intro m
  induction m with
  | zero => intro _ _; rfl
  | succ m ih =>
    intro hr h
    have i := ih (by omega) (fun i h1 h2 => h i h1 (by omega))
    have hl : a + m < (setR F a m v).length := by rw [setR_length]; omega
    have hg : (setR F a m v)[a + m] = !v := by
      have h1 := setR_get F a m v (by omega) (a + m)
      rw [if_neg (by omega), h (a + m) (by omega) (by omega), List.getElem?_eq_getElem hl] at h1
      injection h1
    simp only [setR]
    rw [List.count_set hl, hg]
    have hp : 0 < (setR F a m v).count (!v) := List.count_pos_iff.2 (hg ▸ List.getElem_mem hl)
    have e1 : ((!v) == (!v)) = true := beq_self_eq_true _
    have e2 : (v == !v) = false := by cases v <;> rfl
    rw [e1, e2]
    simp only [if_true, Bool.false_eq_true, if_false]
    omega
/-- No two halves of one block are both free and apart. -/
theorem mx_merged {F : List Bool} {a b k : Nat} (ha : Mx F a k) (hb : Mx F b k) (hk : k < 8) (h : a + 2 ^ k = b) (he : a % (2 * 2 ^ k) = 0) : False := by
  have hp : par a k = a := by
    unfold par
    rw [Nat.pow_succ, Nat.mul_comm (2 ^ k) 2]
    exact Nat.div_mul_cancel (Nat.dvd_of_mod_eq_zero he)
  refine ha.2.2 hk ?_
  rw [hp]
  refine ⟨by rw [Nat.pow_succ, Nat.mul_comm]; exact he, fun i h1 h2 => ?_⟩
  rw [Nat.pow_succ] at h2
  by_cases hi : i < a + 2 ^ k
  · exact ha.2.1.2 i h1 hi
  · exact hb.2.1.2 i (by omega) (by omega)

/-! What is held: blocks that were taken and not given back. -/
def InT (t : Nat × Nat) (i : Nat) : Prop := t.1 ≤ i ∧ i < t.1 + 2 ^ t.2
structure Held (F : List Bool) (T : List (Nat × Nat)) : Prop where
  even : ∀ t ∈ T, t.2 ≤ 8 ∧ t.1 % 2 ^ t.2 = 0 ∧ t.1 + 2 ^ t.2 ≤ F.length
  apart : T.Pairwise fun s t => ∀ i, InT s i → ¬ InT t i
  off : ∀ i, i < F.length → (F[i]? = some false ↔ ∃ t ∈ T, InT t i)
theorem held_start (n : Nat) : Held (List.replicate n true) [] :=
  ⟨fun t h => by (cases h), List.Pairwise.nil, fun i hi => by rw [List.length_replicate] at hi; simp [hi]⟩
theorem Held.all {F : List Bool} {T : List (Nat × Nat)} (h : Held F T) {t : Nat × Nat} (ht : t ∈ T) : Alq F t.1 (2 ^ t.2) false := fun i h1 h2 =>
  (h.off i (by have := (h.even t ht).2.2; omega)).2 ⟨t, ht, h1, h2⟩
theorem Held.take {F : List Bool} {T : List (Nat × Nat)} (h : Held F T) {a k : Nat} (hk : k ≤ 8) (ha : a % 2 ^ k = 0) (hr : a + 2 ^ k ≤ F.length) (hq : Alq F a (2 ^ k) true) : Held (setR F a (2 ^ k) false) (T ++ [(a, k)]) := by
  refine ⟨fun t ht => ?_, ?_, fun i hi => ?_⟩
  · rw [setR_length]
    rcases List.mem_append.1 ht with h1 | h1
    · exact h.even t h1
    · rw [List.mem_singleton.1 h1]; exact ⟨hk, ha, hr⟩
  · rw [List.pairwise_append]
    refine ⟨h.apart, by simp, fun s hs t ht i hi => ?_⟩
    rw [List.mem_singleton.1 ht]
    rintro ⟨h1, h2⟩
    have g1 := hq i h1 h2
    rw [h.all hs i hi.1 hi.2] at g1
    cases g1
  · rw [setR_length] at hi
    rw [setR_get _ _ _ _ hr]
    constructor
    · intro g
      split at g
      · rename_i hc; exact ⟨(a, k), by simp, hc⟩
      · obtain ⟨t, ht, g2⟩ := (h.off i hi).1 g
        exact ⟨t, List.mem_append_left _ ht, g2⟩
    · rintro ⟨t, ht, g⟩
      split
      · rfl
      · rename_i hc
        rcases List.mem_append.1 ht with h1 | h1
        · exact (h.off i hi).2 ⟨t, h1, g⟩
        · rw [List.mem_singleton.1 h1] at g; exact absurd g hc
theorem mem_without {α : Type} (T : List α) (i : Nat) (hi : i < T.length) (t : α) : t ∈ T ↔ t = T[i] ∨ t ∈ T.take i ++ T.drop (i + 1) := by
  conv => lhs; rw [← List.take_append_drop i T, List.drop_eq_getElem_cons hi]
  simp only [List.mem_append, List.mem_cons]
  constructor
  · rintro (h | h | h)
    · exact Or.inr (Or.inl h)
    · exact Or.inl h
    · exact Or.inr (Or.inr h)
  · rintro (h | h | h)
    · exact Or.inr (Or.inl h)
    · exact Or.inl h
    · exact Or.inr (Or.inr h)
theorem pairwise_without {α : Type} {R : α → α → Prop} (hs : ∀ x y, R x y → R y x) {T : List α} (i : Nat) (hi : i < T.length) (h : T.Pairwise R) : (T.take i ++ T.drop (i + 1)).Pairwise R ∧ ∀ t ∈ T.take i ++ T.drop (i + 1), R T[i] t := by
  rw [← List.take_append_drop i T, List.drop_eq_getElem_cons hi, List.pairwise_append] at h
  obtain ⟨h1, h2, h3⟩ := h
  obtain ⟨h4, h5⟩ := List.pairwise_cons.1 h2
  refine ⟨List.pairwise_append.2 ⟨h1, h5, fun x hx y hy => h3 x hx y (List.mem_cons_of_mem _ hy)⟩, fun t ht => ?_⟩
  rcases List.mem_append.1 ht with g | g
  · exact hs _ _ (h3 t g _ List.mem_cons_self)
  · exact h4 t g
theorem Held.give {F : List Bool} {T : List (Nat × Nat)} (h : Held F T) (i : Nat) (hi : i < T.length) : Held (setR F T[i].1 (2 ^ T[i].2) true) (T.take i ++ T.drop (i + 1)) := by
  obtain ⟨p1, p2⟩ := pairwise_without (fun x y hxy j hj1 hj2 => hxy j hj2 hj1) i hi h.apart
  have hr := (h.even _ (List.getElem_mem hi)).2.2
  refine ⟨fun t ht => ?_, p1, fun j hj => ?_⟩
  · rw [setR_length]; exact h.even t ((mem_without T i hi t).2 (Or.inr ht))
  · rw [setR_length] at hj
    rw [setR_get _ _ _ _ hr]
    constructor
    · intro g
      split at g
      · cases g
      · rename_i hc
        obtain ⟨t, ht, g2⟩ := (h.off j hj).1 g
        rcases (mem_without T i hi t).1 ht with rfl | g3
        · exact absurd g2 hc
        · exact ⟨t, g3, g2⟩
    · rintro ⟨t, ht, g⟩
      rw [if_neg (show ¬ (T[i].1 ≤ j ∧ j < T[i].1 + 2 ^ T[i].2) from fun hc => p2 t ht j hc g)]
      exact (h.off j hj).2 ⟨t, (mem_without T i hi t).2 (Or.inr ht), g⟩
/-- The upper half is given back, the lower one stays. -/
theorem Held.half {F : List Bool} {T : List (Nat × Nat)} (h : Held F T) (i k : Nat) (hi : i < T.length) (hk : T[i].2 = k + 1) :
    Held (setR F (T[i].1 + 2 ^ k) (2 ^ k) true) (T.take i ++ T.drop (i + 1) ++ [(T[i].1, k)]) := by
  have g := h.give i hi
  obtain ⟨e1, e2, e3⟩ := h.even _ (List.getElem_mem hi)
  have hall := h.all (List.getElem_mem hi)
  obtain ⟨a, ea⟩ : ∃ a, a = T[i].1 := ⟨_, rfl⟩
  rw [hk] at g e1 e2 e3 hall
  rw [← ea] at g e2 e3 hall ⊢
  rw [Nat.pow_succ] at g e3 hall
  have hal : a % 2 ^ k = 0 := al_less e2 (by omega)
  have t := g.take (a := a) (k := k) (by omega) hal (by rw [setR_length]; omega) (fun j h1 h2 => by rw [setR_get _ _ _ _ (by omega), if_pos ⟨h1, by omega⟩])
  have e : setR (setR F a (2 ^ k * 2) true) a (2 ^ k) false = setR F (a + 2 ^ k) (2 ^ k) true := by
    apply List.ext_getElem?
    intro j
    rw [setR_get _ _ _ _ (by rw [setR_length]; omega), setR_get _ _ _ _ (by omega), setR_get _ _ _ _ (by omega)]
    by_cases c1 : a ≤ j ∧ j < a + 2 ^ k
    · rw [if_pos c1, if_neg (by omega)]; exact (hall j c1.1 (by omega)).symm
    · rw [if_neg c1]
      by_cases c2 : a + 2 ^ k ≤ j ∧ j < a + 2 ^ k + 2 ^ k
      · rw [if_pos c2, if_pos (by omega)]
      · rw [if_neg c2, if_neg (by omega)]
  rw [e] at t
  exact t
theorem Held.none {F : List Bool} (h : Held F []) : F = List.replicate F.length true := by
  apply List.ext_getElem?
  intro i
  rw [List.getElem?_replicate]
  by_cases hi : i < F.length
  · rw [if_pos hi]
    have := h.off i hi
    rw [List.getElem?_eq_getElem hi] at this ⊢
    cases hv : F[i] with
    | true => rfl
    | false => rw [hv] at this; obtain ⟨t, ht, _⟩ := this.1 rfl; cases ht
  · rw [if_neg hi, List.getElem?_eq_none (by omega)]
/-- While some is held, some frame is not free. -/
theorem Held.some_off {F : List Bool} {T : List (Nat × Nat)} (h : Held F T) (hT : T ≠ []) : 0 < F.count false := by
  obtain ⟨t, r, rfl⟩ := List.exists_cons_of_ne_nil hT
  have h1 := h.all (List.mem_cons_self : t ∈ t :: r) t.1 (Nat.le_refl _) (by have := two_pos t.2; omega)
  exact List.count_pos_iff.2 (List.mem_of_getElem? h1)
end Go.Proofs.YtklhcgekagimkaaGreat
