/- What each call of package buddy answers over the list of frames, and what becomes of that list; what is held by whoever took it. -/
import Derived.Test.YtfjphlickpgbnaaBq
namespace Go.Proofs.Ytfjphlickpgbnaa

/-- Is it an order? -/
def orB (o : Int) : Bool := decide (0 ≤ o ∧ o ≤ 8)
/-- What is wrong with a block that is to become free (v), or not free. -/
def chE (F : List Bool) (f o : Int) (v : Bool) : Int :=
  if orB o = false then 2 else if f % 2 ^ o.toNat = 0 then (if f < 0 ∨ (F.length : Int) < f + 2 ^ o.toNat then 3 else if allB F f.toNat (2 ^ o.toNat) (!v) = true then 0 else 12) else 2
def chL (F : List Bool) (f o : Int) (v : Bool) : List Bool := if chE F f o v = 0 then setR F f.toNat (2 ^ o.toNat) v else F
/-- The block that a taking takes its frames from. -/
def tkB (F : List Bool) (o : Int) : Option (Nat × Nat) := if orB o = true then bst o.toNat (bk F) else none
def tkE (F : List Bool) (o : Int) : Int := if orB o = false then 2 else if (tkB F o).isSome then 0 else 8
def tkV (F : List Bool) (o : Int) : Int := match tkB F o with
  | some x => x.1
  | none => 0
def tkL (F : List Bool) (o : Int) : List Bool := match tkB F o with
  | some x => setR F x.1 (2 ^ o.toNat) false
  | none => F
/-- The greatest order of a free block. -/
def grt (F : List Bool) : Int := (bk F).foldl (fun k x => max k x.2) (-1)
def hasB (F : List Bool) (f : Int) : Bool := decide (0 ≤ f) && (F[f.toNat]? == some true)
theorem chL_length (F : List Bool) (f o : Int) (v : Bool) : (chL F f o v).length = F.length := by
  unfold chL; split
  · exact setR_length _ _ _ _
  · rfl
theorem tkL_length (F : List Bool) (o : Int) : (tkL F o).length = F.length := by
  unfold tkL; split
  · exact setR_length _ _ _ _
  · rfl
/-- What a change that is made has changed. -/
theorem chE_ok {F : List Bool} {f o : Int} {v : Bool} (h : chE F f o v = 0) : ∃ a k : Nat, f = a ∧ o = k ∧ k ≤ 8 ∧ a % 2 ^ k = 0 ∧ a + 2 ^ k ≤ F.length ∧ Alq F a (2 ^ k) (!v) ∧ chL F f o v = setR F a (2 ^ k) v := by
  have hL : chL F f o v = setR F f.toNat (2 ^ o.toNat) v := by unfold chL; rw [if_pos h]
  unfold chE at h
  by_cases h1 : orB o = false
  · rw [if_pos h1] at h; omega
  · rw [if_neg h1] at h
    have h1' : 0 ≤ o ∧ o ≤ 8 := by simpa [orB] using h1
    split at h
    · rename_i h2
      split at h
      · omega
      · rename_i h3
        split at h
        · rename_i h4
          obtain ⟨k, rfl⟩ : ∃ k : Nat, o = k := ⟨o.toNat, by omega⟩
          obtain ⟨a, rfl⟩ : ∃ a : Nat, f = a := ⟨f.toNat, by omega⟩
          simp only [Int.toNat_natCast] at h2 h3 h4 hL
          refine ⟨a, k, rfl, rfl, by omega, ?_, ?_, allB_iff.1 h4, hL⟩
          · have e : ((a : Int) % 2 ^ k) = ((a % 2 ^ k : Nat) : Int) := by simp
            rw [e] at h2; omega
          · have e : ((2 : Int) ^ k) = ((2 ^ k : Nat) : Int) := by simp
            rw [e] at h3; omega
        · omega
    · omega
theorem chL_of {F : List Bool} {f o : Int} {v : Bool} (h : chE F f o v = 0) : chL F f o v = setR F f.toNat (2 ^ o.toNat) v := by unfold chL; rw [if_pos h]
theorem setR_back {F : List Bool} {a m : Nat} {v w : Bool} (hr : a + m ≤ F.length) (h : Alq F a m w) : setR (setR F a m v) a m w = F := by
  apply List.ext_getElem?
  intro i
  rw [setR_get _ _ _ _ (by rw [setR_length]; exact hr)]
  by_cases hc : a ≤ i ∧ i < a + m
  · rw [if_pos hc, h i hc.1 hc.2]
  · rw [if_neg hc, setR_get _ _ _ _ hr, if_neg hc]
/-- A change there and back. -/
theorem ch_back {F : List Bool} {f o : Int} {v : Bool} (h : chE F f o v = 0) : chE (chL F f o v) f o (!v) = 0 ∧ chL (chL F f o v) f o (!v) = F := by
  obtain ⟨a, k, rfl, rfl, hk, ha, hr, hq, hL⟩ := chE_ok h
  have ho : ¬ orB (k : Int) = false := by simp [orB]; omega
  have h2 : ((a : Int) % 2 ^ (k : Int).toNat) = 0 := by
    have e : ((a : Int) % 2 ^ k) = ((a % 2 ^ k : Nat) : Int) := by simp
    rw [Int.toNat_natCast, e, ha]; rfl
  have h3 : ¬ ((a : Int) < 0 ∨ ((chL F a k v).length : Int) < (a : Int) + 2 ^ (k : Int).toNat) := by
    rw [chL_length, Int.toNat_natCast]
    have e : ((2 : Int) ^ k) = ((2 ^ k : Nat) : Int) := by simp
    rw [e]; omega
  have h4 : allB (chL F a k v) (a : Int).toNat (2 ^ (k : Int).toNat) (!!v) = true := by
    rw [allB_iff, hL, Bool.not_not, Int.toNat_natCast, Int.toNat_natCast]
    intro i h1 h2
    rw [setR_get _ _ _ _ hr, if_pos ⟨h1, h2⟩]
  have hz : chE (chL F a k v) a k (!v) = 0 := by
    unfold chE
    rw [if_neg ho, if_pos h2, if_neg h3, if_pos h4]
  refine ⟨hz, ?_⟩
  rw [chL_of hz, hL]
  exact setR_back hr hq
/-- What a taking that takes has taken. -/
theorem tkB_some {F : List Bool} {o : Int} {x : Nat × Nat} (h : tkB F o = some x) : ∃ k : Nat, o = k ∧ k ≤ 8 ∧ k ≤ x.2 ∧ Mx F x.1 x.2 ∧ ∀ b j, Mx F b j → k ≤ j → x.2 < j ∨ (x.2 = j ∧ x.1 ≤ b) := by
  unfold tkB at h
  split at h
  · rename_i ho
    have ho' : 0 ≤ o ∧ o ≤ 8 := by simpa [orB] using ho
    obtain ⟨k, rfl⟩ : ∃ k : Nat, o = k := ⟨o.toNat, by omega⟩
    obtain ⟨h1, h2, h3⟩ := (bst_spec _ _ (bk_rise F).less).2 x h
    exact ⟨k, rfl, by omega, h2, bk_mem.1 h1, fun b j hm hj => h3 (b, j) (bk_mem.2 hm) hj⟩
  · cases h
theorem tkB_none {F : List Bool} {k : Nat} (hk : k ≤ 8) (h : tkB F k = none) (b j : Nat) (hm : Mx F b j) : j < k := by
  unfold tkB at h
  rw [if_pos (by simp [orB]; omega)] at h
  exact (bst_spec _ _ (bk_rise F).less).1 h (b, j) (bk_mem.2 hm)
/-- There is none only if no even block of the order is free as a whole. -/
theorem tk_finds {F : List Bool} {k : Nat} (hk : k ≤ 8) : (tkB F k).isSome = true ↔ ∃ a, Fre F a k := by
  constructor
  · intro h
    obtain ⟨x, hx⟩ := Option.isSome_iff_exists.1 h
    obtain ⟨k', e, h1, h2, h3, _⟩ := tkB_some hx
    obtain rfl : k = k' := by omega
    exact ⟨x.1, h3.2.1.in_ (al_less h3.2.1.1 h2) (Nat.le_refl _) (by have := Nat.pow_le_pow_right (by omega : 0 < 2) h2; omega)⟩
  · rintro ⟨a, ha⟩
    cases hb : tkB F k with
    | some x => rfl
    | none =>
      obtain ⟨b, j, hm, h1, _⟩ := mx_anc (8 - k) a k (by omega) ha
      have := tkB_none hk hb b j hm
      omega
theorem tk_fre {F : List Bool} {k : Nat} {x : Nat × Nat} (h : tkB F k = some x) : k ≤ 8 ∧ Fre F x.1 k ∧ x.1 + 2 ^ k ≤ F.length := by
  obtain ⟨k', e, h1, h2, h3, _⟩ := tkB_some h
  obtain rfl : k = k' := by omega
  have hp := Nat.pow_le_pow_right (by omega : 0 < 2) h2
  have hl := mx_lt h3
  exact ⟨h1, h3.2.1.in_ (al_less h3.2.1.1 h2) (Nat.le_refl _) (by omega), by omega⟩
/-- How many are free. -/
theorem count_setR {F : List Bool} {a : Nat} {v : Bool} : ∀ {m : Nat}, a + m ≤ F.length → Alq F a m (!v) → (setR F a m v).count (!v) + m = F.count (!v) := by
  intro m
  induction m with
  | zero => intro _ _; rfl
  | succ m ih =>
    intro hr h
    have i := ih (by omega) (fun i h1 h2 => h i h1 (by omega))
    have hl : a + m < (setR F a m v).length := by rw [setR_length]; omega
    have hg : (setR F a m v)[a + m] = !v := by
      have h1 := setR_get F a m v (by omega) (a + m)
      rw [if_neg (by omega), h (a + m) (by omega) (by omega), List.getElem?_eq_getElem hl] at h1
      injection h1
    simp only [setR]
    rw [List.count_set hl, hg]
    have hp : 0 < (setR F a m v).count (!v) := List.count_pos_iff.2 (hg ▸ List.getElem_mem hl)
    have e1 : ((!v) == (!v)) = true := beq_self_eq_true _
    have e2 : (v == !v) = false := by cases v <;> rfl
    rw [e1, e2]
    simp only [if_true, Bool.false_eq_true, if_false]
    omega
/-- No two halves of one block are both free and apart. -/
theorem mx_merged {F : List Bool} {a b k : Nat} (ha : Mx F a k) (hb : Mx F b k) (hk : k < 8) (h : a + 2 ^ k = b) (he : a % (2 * 2 ^ k) = 0) : False := by
  have hp : par a k = a := by
    unfold par
    rw [Nat.pow_succ, Nat.mul_comm (2 ^ k) 2]
    exact Nat.div_mul_cancel (Nat.dvd_of_mod_eq_zero he)
  refine ha.2.2 hk ?_
  rw [hp]
  refine ⟨by rw [Nat.pow_succ, Nat.mul_comm]; exact he, fun i h1 h2 => ?_⟩
  rw [Nat.pow_succ] at h2
  by_cases hi : i < a + 2 ^ k
  · exact ha.2.1.2 i h1 hi
  · exact hb.2.1.2 i (by omega) (by omega)

/-! What is held: blocks that were taken and not given back. -/
def InT (t : Nat × Nat) (i : Nat) : Prop := t.1 ≤ i ∧ i < t.1 + 2 ^ t.2
structure Held (F : List Bool) (T : List (Nat × Nat)) : Prop where
  even : ∀ t ∈ T, t.2 ≤ 8 ∧ t.1 % 2 ^ t.2 = 0 ∧ t.1 + 2 ^ t.2 ≤ F.length
  apart : T.Pairwise fun s t => ∀ i, InT s i → ¬ InT t i
  off : ∀ i, i < F.length → (F[i]? = some false ↔ ∃ t ∈ T, InT t i)
theorem held_start (n : Nat) : Held (List.replicate n true) [] :=
  ⟨fun t h => by (cases h), List.Pairwise.nil, fun i hi => by rw [List.length_replicate] at hi; simp [hi]⟩
theorem Held.all {F : List Bool} {T : List (Nat × Nat)} (h : Held F T) {t : Nat × Nat} (ht : t ∈ T) : Alq F t.1 (2 ^ t.2) false := fun i h1 h2 =>
  (h.off i (by have := (h.even t ht).2.2; omega)).2 ⟨t, ht, h1, h2⟩
theorem Held.take {F : List Bool} {T : List (Nat × Nat)} (h : Held F T) {a k : Nat} (hk : k ≤ 8) (ha : a % 2 ^ k = 0) (hr : a + 2 ^ k ≤ F.length) (hq : Alq F a (2 ^ k) true) : Held (setR F a (2 ^ k) false) (T ++ [(a, k)]) := by
  refine ⟨fun t ht => ?_, ?_, fun i hi => ?_⟩
  · rw [setR_length]
    rcases List.mem_append.1 ht with h1 | h1
    · exact h.even t h1
    · rw [List.mem_singleton.1 h1]; exact ⟨hk, ha, hr⟩
  · rw [List.pairwise_append]
    refine ⟨h.apart, by simp, fun s hs t ht i hi => ?_⟩
    rw [List.mem_singleton.1 ht]
    rintro ⟨h1, h2⟩
    have g1 := hq i h1 h2
    rw [h.all hs i hi.1 hi.2] at g1
    cases g1
  · rw [setR_length] at hi
    rw [setR_get _ _ _ _ hr]
    constructor
    · intro g
      split at g
      · rename_i hc; exact ⟨(a, k), by simp, hc⟩
      · obtain ⟨t, ht, g2⟩ := (h.off i hi).1 g
        exact ⟨t, List.mem_append_left _ ht, g2⟩
    · rintro ⟨t, ht, g⟩
      split
      · rfl
      · rename_i hc
        rcases List.mem_append.1 ht with h1 | h1
        · exact (h.off i hi).2 ⟨t, h1, g⟩
        · rw [List.mem_singleton.1 h1] at g; exact absurd g hc
theorem mem_without {α : Type} (T : List α) (i : Nat) (hi : i < T.length) (t : α) : t ∈ T ↔ t = T[i] ∨ t ∈ T.take i ++ T.drop (i + 1) := by
  conv => lhs; rw [← List.take_append_drop i T, List.drop_eq_getElem_cons hi]
  simp only [List.mem_append, List.mem_cons]
  constructor
  · rintro (h | h | h)
    · exact Or.inr (Or.inl h)
    · exact Or.inl h
    · exact Or.inr (Or.inr h)
  · rintro (h | h | h)
    · exact Or.inr (Or.inl h)
    · exact Or.inl h
    · exact Or.inr (Or.inr h)
theorem pairwise_without {α : Type} {R : α → α → Prop} (hs : ∀ x y, R x y → R y x) {T : List α} (i : Nat) (hi : i < T.length) (h : T.Pairwise R) : (T.take i ++ T.drop (i + 1)).Pairwise R ∧ ∀ t ∈ T.take i ++ T.drop (i + 1), R T[i] t := by
  rw [← List.take_append_drop i T, List.drop_eq_getElem_cons hi, List.pairwise_append] at h
  obtain ⟨h1, h2, h3⟩ := h
  obtain ⟨h4, h5⟩ := List.pairwise_cons.1 h2
  refine ⟨List.pairwise_append.2 ⟨h1, h5, fun x hx y hy => h3 x hx y (List.mem_cons_of_mem _ hy)⟩, fun t ht => ?_⟩
  rcases List.mem_append.1 ht with g | g
  · exact hs _ _ (h3 t g _ List.mem_cons_self)
  · exact h4 t g
theorem Held.give {F : List Bool} {T : List (Nat × Nat)} (h : Held F T) (i : Nat) (hi : i < T.length) : Held (setR F T[i].1 (2 ^ T[i].2) true) (T.take i ++ T.drop (i + 1)) := by
  obtain ⟨p1, p2⟩ := pairwise_without (fun x y hxy j hj1 hj2 => hxy j hj2 hj1) i hi h.apart
  have hr := (h.even _ (List.getElem_mem hi)).2.2
  refine ⟨fun t ht => ?_, p1, fun j hj => ?_⟩
  · rw [setR_length]; exact h.even t ((mem_without T i hi t).2 (Or.inr ht))
  · rw [setR_length] at hj
    rw [setR_get _ _ _ _ hr]
    constructor
    · intro g
      split at g
      · cases g
      · rename_i hc
        obtain ⟨t, ht, g2⟩ := (h.off j hj).1 g
        rcases (mem_without T i hi t).1 ht with rfl | g3
        · exact absurd g2 hc
        · exact ⟨t, g3, g2⟩
    · rintro ⟨t, ht, g⟩
      rw [if_neg (show ¬ (T[i].1 ≤ j ∧ j < T[i].1 + 2 ^ T[i].2) from fun hc => p2 t ht j hc g)]
      exact (h.off j hj).2 ⟨t, (mem_without T i hi t).2 (Or.inr ht), g⟩
/-- The upper half is given back, the lower one stays. -/
theorem Held.half {F : List Bool} {T : List (Nat × Nat)} (h : Held F T) (i k : Nat) (hi : i < T.length) (hk : T[i].2 = k + 1) :
    Held (setR F (T[i].1 + 2 ^ k) (2 ^ k) true) (T.take i ++ T.drop (i + 1) ++ [(T[i].1, k)]) := by
  have g := h.give i hi
  obtain ⟨e1, e2, e3⟩ := h.even _ (List.getElem_mem hi)
  have hall := h.all (List.getElem_mem hi)
  obtain ⟨a, ea⟩ : ∃ a, a = T[i].1 := ⟨_, rfl⟩
  rw [hk] at g e1 e2 e3 hall
  rw [← ea] at g e2 e3 hall ⊢
  rw [Nat.pow_succ] at g e3 hall
  have hal : a % 2 ^ k = 0 := al_less e2 (by omega)
  have t := g.take (a := a) (k := k) (by omega) hal (by rw [setR_length]; omega) (fun j h1 h2 => by rw [setR_get _ _ _ _ (by omega), if_pos ⟨h1, by omega⟩])
  have e : setR (setR F a (2 ^ k * 2) true) a (2 ^ k) false = setR F (a + 2 ^ k) (2 ^ k) true := by
    apply List.ext_getElem?
    intro j
    rw [setR_get _ _ _ _ (by rw [setR_length]; omega), setR_get _ _ _ _ (by omega), setR_get _ _ _ _ (by omega)]
    by_cases c1 : a ≤ j ∧ j < a + 2 ^ k
    · rw [if_pos c1, if_neg (by omega)]; exact (hall j c1.1 (by omega)).symm
    · rw [if_neg c1]
      by_cases c2 : a + 2 ^ k ≤ j ∧ j < a + 2 ^ k + 2 ^ k
      · rw [if_pos c2, if_pos (by omega)]
      · rw [if_neg c2, if_neg (by omega)]
  rw [e] at t
  exact t
theorem Held.none {F : List Bool} (h : Held F []) : F = List.replicate F.length true := by
  apply List.ext_getElem?
  intro i
  rw [List.getElem?_replicate]
  by_cases hi : i < F.length
  · rw [if_pos hi]
    have := h.off i hi
    rw [List.getElem?_eq_getElem hi] at this ⊢
    cases hv : F[i] with
    | true => rfl
    | false => rw [hv] at this; obtain ⟨t, ht, _⟩ := this.1 rfl; cases ht
  · rw [if_neg hi, List.getElem?_eq_none (by omega)]
/-- While some is held, some frame is not free. -/
theorem Held.some_off {F : List Bool} {T : List (Nat × Nat)} (h : Held F T) (hT : T ≠ []) : 0 < F.count false := by
  obtain ⟨t, r, rfl⟩ := List.exists_cons_of_ne_nil hT
  have h1 := h.all (List.mem_cons_self : t ∈ t :: r) t.1 (Nat.le_refl _) (by have := two_pos t.2; omega)
  exact List.count_pos_iff.2 (List.mem_of_getElem? h1)
end Go.Proofs.Ytfjphlickpgbnaa
