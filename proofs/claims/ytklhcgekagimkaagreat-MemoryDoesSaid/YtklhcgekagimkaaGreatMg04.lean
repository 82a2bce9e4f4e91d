/- Lists of free blocks by their orders: what they say of the frames, and what becomes of both when a block is put in or taken out; a block's halves put back, and a block that goes together with those beside it. -/
import Derived.Test.YtklhcgekagimkaaGreatMg03
import Derived.Test.YtklhcgekagimkaaGreatMg00
import Derived.WalkKit
import Derived.WalkSpells
import Derived.Below
import Derived.Laws.OwnMore
import Derived.Laws.Rows
import Derived.Laws.CopyOwn
import Derived.Laws.IdiomCopy
import Derived.Deep.Draws
import Derived.Lib.Hide
namespace Go.Proofs.YtklhcgekagimkaaGreat

/-! A rising list of numbers: where a number belongs. -/
def cutI (a : Nat) (l : List Nat) : Nat := l.countP (· < a)
def insL (a : Nat) (l : List Nat) : List Nat := l.take (cutI a l) ++ a :: l.drop (cutI a l)
def remL (a : Nat) (l : List Nat) : List Nat := l.take (cutI a l) ++ l.drop (cutI a l + 1)
abbrev Up (l : List Nat) : Prop := l.Pairwise (· < ·)
theorem cutI_le (a : Nat) (l : List Nat) : cutI a l ≤ l.length := List.countP_le_length
theorem up_split (a : Nat) : ∀ (l : List Nat), Up l → (∀ x ∈ l.take (cutI a l), x < a) ∧ (∀ x ∈ l.drop (cutI a l), a ≤ x) := by
  intro l
  induction l with
  | nil => intro _; simp [cutI]
  | cons x r ih =>
    intro h
    obtain ⟨h1, h2⟩ := List.pairwise_cons.1 h
    obtain ⟨i1, i2⟩ := ih h2
    by_cases hx : x < a
    · have e : cutI a (x :: r) = cutI a r + 1 := by simp [cutI, hx]
      rw [e]
      simp only [List.take_succ_cons, List.drop_succ_cons, List.mem_cons]
      exact ⟨fun y hy => by rcases hy with rfl | hy; exact hx; exact i1 y hy, i2⟩
    · have e0 : cutI a r = 0 := by
        unfold cutI
        rw [List.countP_eq_zero]
        intro y hy
        have := h1 y hy
        simp; omega
      have e : cutI a (x :: r) = 0 := by
        unfold cutI at e0 ⊢
        rw [List.countP_cons, e0]; simp [hx]
      rw [e]
      simp only [List.take_zero, List.drop_zero, List.mem_cons]
      exact ⟨fun y hy => by (cases hy), fun y hy => by rcases hy with rfl | hy; omega; have := h1 y hy; omega⟩
theorem insL_mem (a : Nat) (l : List Nat) (x : Nat) : x ∈ insL a l ↔ x ∈ l ∨ x = a := by
  unfold insL
  conv => rhs; lhs; rw [← List.take_append_drop (cutI a l) l]
  simp only [List.mem_append, List.mem_cons]
  constructor
  · rintro (h | h | h)
    · exact Or.inl (Or.inl h)
    · exact Or.inr h
    · exact Or.inl (Or.inr h)
  · rintro ((h | h) | h)
    · exact Or.inl h
    · exact Or.inr (Or.inr h)
    · exact Or.inr (Or.inl h)
theorem insL_up {a : Nat} {l : List Nat} (h : Up l) (ha : a ∉ l) : Up (insL a l) := by
  obtain ⟨h1, h2⟩ := up_split a l h
  have h3 := h
  rw [← List.take_append_drop (cutI a l) l] at h3
  obtain ⟨h4, h5, h6⟩ := List.pairwise_append.1 h3
  unfold insL
  refine List.pairwise_append.2 ⟨h4, List.pairwise_cons.2 ⟨fun x hx => ?_, h5⟩, fun x hx y hy => ?_⟩
  · have := h2 x hx
    rcases Nat.lt_or_ge a x with g | g
    · exact g
    · obtain rfl : x = a := by omega
      exact absurd (List.mem_of_mem_drop hx) ha
  · rcases List.mem_cons.1 hy with rfl | hy
    · exact h1 x hx
    · exact h6 x hx y hy
theorem insL_len (a : Nat) (l : List Nat) : (insL a l).length = l.length + 1 := by
  have := cutI_le a l
  simp only [insL, List.length_append, List.length_take, List.length_cons, List.length_drop]; omega
/-- Where a number that is there lies. -/
theorem cut_at {a : Nat} {l : List Nat} (h : Up l) (ha : a ∈ l) : l[cutI a l]? = some a ∧ l.drop (cutI a l) = a :: l.drop (cutI a l + 1) := by
  obtain ⟨h1, h2⟩ := up_split a l h
  rw [← List.take_append_drop (cutI a l) l] at ha
  rcases List.mem_append.1 ha with g | g
  · exact absurd (h1 a g) (by omega)
  · have hd : Up (l.drop (cutI a l)) := h.sublist (List.drop_sublist _ _)
    cases hl : l.drop (cutI a l) with
    | nil => rw [hl] at g; cases g
    | cons y r =>
      rw [hl] at g h2 hd
      have hy : y = a := by
        rcases List.mem_cons.1 g with rfl | g
        · rfl
        · have := (List.pairwise_cons.1 hd).1 a g
          have := h2 y List.mem_cons_self
          omega
      subst hy
      have e : l.drop (cutI y l + 1) = r := by
        rw [← List.drop_drop, hl]; rfl
      rw [e]
      refine ⟨?_, rfl⟩
      have := List.getElem?_drop (xs := l) (i := cutI y l) (j := 0)
      rw [hl] at this
      simpa using this.symm
theorem cut_lt {a : Nat} {l : List Nat} (h : Up l) (ha : a ∈ l) : cutI a l < l.length := by
  have := (cut_at h ha).1
  rcases Nat.lt_or_ge (cutI a l) l.length with g | g
  · exact g
  · rw [List.getElem?_eq_none g] at this; cases this
theorem remL_up {a : Nat} {l : List Nat} (h : Up l) : Up (remL a l) := by
  have h3 := h
  rw [← List.take_append_drop (cutI a l) l] at h3
  obtain ⟨h4, h5, h6⟩ := List.pairwise_append.1 h3
  unfold remL
  have hs : ∀ y, y ∈ l.drop (cutI a l + 1) → y ∈ l.drop (cutI a l) := fun y hy => by
    rw [← List.drop_drop] at hy; exact List.mem_of_mem_drop hy
  exact List.pairwise_append.2 ⟨h4, h.sublist (List.drop_sublist _ _), fun x hx y hy => h6 x hx y (hs y hy)⟩
theorem remL_mem {a : Nat} {l : List Nat} (h : Up l) (ha : a ∈ l) (x : Nat) : x ∈ remL a l ↔ x ∈ l ∧ x ≠ a := by
  obtain ⟨h1, h2⟩ := up_split a l h
  obtain ⟨_, e⟩ := cut_at h ha
  have hd : Up (l.drop (cutI a l)) := h.sublist (List.drop_sublist _ _)
  rw [e] at hd
  have hd1 := (List.pairwise_cons.1 hd).1
  have e2 : x ∈ l ↔ x ∈ l.take (cutI a l) ∨ x = a ∨ x ∈ l.drop (cutI a l + 1) := by
    conv => lhs; rw [← List.take_append_drop (cutI a l) l, e]
    simp only [List.mem_append, List.mem_cons]
  rw [e2]
  unfold remL
  rw [List.mem_append]
  constructor
  · rintro (g | g)
    · exact ⟨Or.inl g, by have := h1 x g; omega⟩
    · exact ⟨Or.inr (Or.inr g), by have := hd1 x g; omega⟩
  · rintro ⟨g | g | g, hx⟩
    · exact Or.inl g
    · exact absurd g hx
    · exact Or.inr g
theorem remL_len {a : Nat} {l : List Nat} (h : Up l) (ha : a ∈ l) : (remL a l).length + 1 = l.length := by
  have := cut_lt h ha
  simp only [remL, List.length_append, List.length_take, List.length_drop]; omega
theorem up_len : ∀ (l : List Nat) (m n : Nat), Up l → (∀ x ∈ l, m ≤ x ∧ x < n) → l.length + m ≤ n ∨ l = [] := by
  intro l
  induction l with
  | nil => intro m n _ _; exact Or.inr rfl
  | cons x r ih =>
    intro m n h hb
    left
    obtain ⟨h1, h2⟩ := List.pairwise_cons.1 h
    have hx := hb x List.mem_cons_self
    rcases ih (x + 1) n h2 (fun y hy => ⟨by have := h1 y hy; omega, (hb y (List.mem_cons_of_mem _ hy)).2⟩) with g | g
    · simp only [List.length_cons]; omega
    · rw [g]; simp only [List.length_cons, List.length_nil]; omega

/-! The lists, order by order. -/
def upd (L : Nat → List Nat) (k : Nat) (l : List Nat) : Nat → List Nat := fun j => if j = k then l else L j
theorem upd_same (L : Nat → List Nat) (k : Nat) (l : List Nat) : upd L k l k = l := if_pos rfl
theorem upd_other (L : Nat → List Nat) {k j : Nat} (l : List Nat) (h : j ≠ k) : upd L k l j = L j := if_neg h
def sumL (L : Nat → List Nat) : Nat → Nat
  | 0 => 0
  | n + 1 => sumL L n + (L n).length * 2 ^ n
theorem sumL_upd (L : Nat → List Nat) (k : Nat) (l : List Nat) : ∀ (n : Nat), (n ≤ k → sumL (upd L k l) n = sumL L n) ∧ (k < n → sumL (upd L k l) n + (L k).length * 2 ^ k = sumL L n + l.length * 2 ^ k) := by
  intro n
  induction n with
  | zero => exact ⟨fun _ => rfl, fun h => by omega⟩
  | succ n ih =>
    refine ⟨fun h => ?_, fun h => ?_⟩
    · simp only [sumL, ih.1 (by omega), upd_other L l (show n ≠ k by omega)]
    · simp only [sumL]
      by_cases hn : n = k
      · subst hn
        rw [ih.1 (Nat.le_refl _), upd_same]; omega
      · rw [upd_other L l hn]
        have := ih.2 (by omega)
        omega
/-- What the lists say: of each order the first frames of the greatest free blocks, rising; and together they hold all that is free. -/
structure Good (F : List Bool) (L : Nat → List Nat) : Prop where
  rise : ∀ k, k ≤ 8 → Up (L k)
  mem : ∀ k, k ≤ 8 → ∀ a, a ∈ L k ↔ Mx F a k
  cnt : sumL L 9 = F.count true
theorem Good.lt {F : List Bool} {L : Nat → List Nat} (h : Good F L) {k a : Nat} (hk : k ≤ 8) (ha : a ∈ L k) : a + 2 ^ k ≤ F.length := mx_lt ((h.mem k hk a).1 ha)
theorem Good.len {F : List Bool} {L : Nat → List Nat} (h : Good F L) {k : Nat} (hk : k ≤ 8) : (L k).length ≤ F.length := by
  rcases up_len (L k) 0 F.length (h.rise k hk) (fun x hx => ⟨Nat.zero_le _, by have := h.lt hk hx; have := two_pos k; omega⟩) with g | g
  · omega
  · rw [g]; simp
theorem good_none (n : Nat) : Good (List.replicate n false) (fun _ => []) := by
  refine ⟨fun _ _ => List.Pairwise.nil, fun k _ a => ⟨fun h => by (cases h), fun h => ?_⟩, ?_⟩
  · have := h.2.1.2 a (Nat.le_refl _) (by have := two_pos k; omega)
    rw [List.getElem?_replicate] at this
    split at this <;> cases this
  · rw [List.count_replicate]; rfl
theorem par_sib {a k : Nat} (ha : a % 2 ^ k = 0) : par (sib a k) k = par a k := by
  have h1 := sib_in ha
  have h3 : par (sib a k) k ≤ sib a k := par_le _ _
  have h4 := par_lt (sib a k) k
  have := two_pos k
  exact same_of_eq_order (par_al _ _) (par_al _ _) ⟨by omega, by omega⟩
theorem sib_sib {a k : Nat} (ha : a % 2 ^ k = 0) : sib (sib a k) k = a := by
  have h1 := sib_split ha
  have h2 := sib_split (sib_al ha)
  rw [par_sib ha] at h2
  have := two_pos k
  rcases h1 with h1 | h1 <;> rcases h2 with h2 | h2 <;> omega
section
variable {F G : List Bool} {L : Nat → List Nat} {a k : Nat}
theorem Good.put (h : Good F L) (hk : k ≤ 8) (ha : a % 2 ^ k = 0) (hr : a + 2 ^ k ≤ F.length) (h0 : Alq F a (2 ^ k) false) (hs : k < 8 → ¬ Fre F (sib a k) k) :
    a ∉ L k ∧ Good (setR F a (2 ^ k) true) (upd L k (insL a (L k))) := by
  have hna : a ∉ L k := fun hc => by
    have h1 := ((h.mem k hk a).1 hc).2.1.2 a (Nat.le_refl _) (by have := two_pos k; omega)
    rw [h0 a (Nat.le_refl _) (by have := two_pos k; omega)] at h1
    cases h1
  refine ⟨hna, ⟨fun j hj => ?_, fun j hj b => ?_, ?_⟩⟩
  · by_cases e : j = k
    · subst e; rw [upd_same]; exact insL_up (h.rise j hj) hna
    · rw [upd_other L _ e]; exact h.rise j hj
  · rw [mx_add hk ha hr h0 hs]
    by_cases e : j = k
    · subst e
      rw [upd_same, insL_mem, h.mem j hj]
      simp
    · rw [upd_other L _ e, h.mem j hj]
      simp [e]
  · have h1 := (sumL_upd L k (insL a (L k)) 9).2 (by omega)
    rw [insL_len, Nat.add_mul, h.cnt] at h1
    have h2 := count_setR (F := F) (a := a) (v := true) (m := 2 ^ k) hr h0
    have h3 : F.count true + F.count false = F.length := by
      have := List.length_eq_countP_add_countP (p := fun b => b == true) (l := F)
      have e : F.countP (fun b => decide ¬(b == true) = true) = F.count false := by
        unfold List.count; congr 1; funext b; cases b <;> rfl
      rw [e] at this
      exact this.symm
    have h4 : (setR F a (2 ^ k) true).count true + (setR F a (2 ^ k) true).count false = (setR F a (2 ^ k) true).length := by
      have := List.length_eq_countP_add_countP (p := fun b => b == true) (l := setR F a (2 ^ k) true)
      have e : (setR F a (2 ^ k) true).countP (fun b => decide ¬(b == true) = true) = (setR F a (2 ^ k) true).count false := by
        unfold List.count; congr 1; funext b; cases b <;> rfl
      rw [e] at this
      exact this.symm
    rw [setR_length] at h4
    simp only [Bool.not_true] at h2
    omega
theorem Good.drop (h : Good F L) (hk : k ≤ 8) (ha : a ∈ L k) : Good (setR F a (2 ^ k) false) (upd L k (remL a (L k))) := by
  have hm := (h.mem k hk a).1 ha
  have hr := mx_lt hm
  refine ⟨fun j hj => ?_, fun j hj b => ?_, ?_⟩
  · by_cases e : j = k
    · subst e; rw [upd_same]; exact remL_up (h.rise j hj)
    · rw [upd_other L _ e]; exact h.rise j hj
  · rw [mx_remove hm hr]
    by_cases e : j = k
    · subst e
      rw [upd_same, remL_mem (h.rise j hj) ha, h.mem j hj]
      simp
    · rw [upd_other L _ e, h.mem j hj]
      simp [e]
  · have h1 := (sumL_upd L k (remL a (L k)) 9).2 (by omega)
    have h5 := remL_len (h.rise k hk) ha
    rw [← h5, Nat.add_mul, h.cnt] at h1
    have h2 := count_setR (F := F) (a := a) (v := false) (m := 2 ^ k) hr hm.2.1.2
    simp only [Bool.not_false] at h2
    omega

/-! A block that goes together with those beside it. -/
/-- On the way: the block (a, k) is off in F, and with it on it is G. -/
structure Join (G F : List Bool) (a k : Nat) : Prop where
  k8 : k ≤ 8
  al : a % 2 ^ k = 0
  fit : a + 2 ^ k ≤ F.length
  off : Alq F a (2 ^ k) false
  eq : setR F a (2 ^ k) true = G
theorem Join.sib_free (j : Join G F a k) (hf : Fre F (sib a k) k) : Mx F (sib a k) k := by
  refine ⟨j.k8, hf, fun _ hp => ?_⟩
  rw [par_sib j.al] at hp
  have h1 := par_in j.al
  have h2 := hp.2 a h1.1 (by have := two_pos k; omega : a < par a k + 2 ^ (k + 1))
  rw [j.off a (Nat.le_refl _) (by have := two_pos k; omega)] at h2
  cases h2
theorem Join.next (j : Join G F a k) (hk : k < 8) (hf : Fre F (sib a k) k) : Join G (setR F (sib a k) (2 ^ k) false) (par a k) (k + 1) := by
  have hm := j.sib_free hf
  have hr := mx_lt hm
  have hin := par_in j.al
  have hsi := sib_in j.al
  have hfit : par a k + 2 ^ (k + 1) ≤ F.length := by
    rcases sib_split j.al with h | h
    · rw [Nat.pow_succ]; have := j.fit; omega
    · rw [Nat.pow_succ]; omega
  refine ⟨hk, par_al _ _, by rw [setR_length]; exact hfit, fun i h1 h2 => ?_, ?_⟩
  · rw [setR_get _ _ _ _ hr]
    rcases par_cover j.al h1 h2 with h | h
    · split
      · rfl
      · exact j.off i h.1 h.2
    · rw [if_pos h]
  · rw [← j.eq]
    apply List.ext_getElem?
    intro i
    rw [setR_get _ _ _ _ (by rw [setR_length]; exact hfit), setR_get _ _ _ _ hr, setR_get _ _ _ _ j.fit]
    by_cases h1 : par a k ≤ i ∧ i < par a k + 2 ^ (k + 1)
    · rw [if_pos h1]
      rcases par_cover j.al h1.1 h1.2 with h | h
      · rw [if_pos h]
      · split
        · rfl
        · exact (hf.2 i h.1 h.2).symm
    · rw [if_neg h1, if_neg (by omega), if_neg (by omega)]
theorem Join.last (j : Join G F a k) (h : Good F L) (hs : k < 8 → ¬ Fre F (sib a k) k) : a ∉ L k ∧ Good G (upd L k (insL a (L k))) := by
  rw [← j.eq]
  exact h.put j.k8 j.al j.fit j.off hs
theorem Join.mem (j : Join G F a k) (h : Good F L) : sib a k ∈ L k ↔ Fre F (sib a k) k := by
  rw [h.mem k j.k8]
  exact ⟨fun g => g.2.1, j.sib_free⟩
end

/-! A block cut out of a free one. -/
/-- Where the block of order i begins that holds a. -/
def dn (a i : Nat) : Nat := a / 2 ^ i * 2 ^ i
theorem dn_al (a i : Nat) : dn a i % 2 ^ i = 0 := Nat.mul_mod_left _ _
theorem dn_le (a i : Nat) : dn a i ≤ a := Nat.div_mul_le_self _ _
theorem dn_lt (a i : Nat) : a < dn a i + 2 ^ i := by
  have := Nat.div_add_mod a (2 ^ i)
  have hm := Nat.mod_lt a (two_pos i)
  unfold dn
  rw [Nat.mul_comm] at this
  omega
theorem dn_self {a i : Nat} (h : a % 2 ^ i = 0) : dn a i = a := Nat.div_mul_cancel (Nat.dvd_of_mod_eq_zero h)
theorem dn_in {a k i : Nat} (ha : a % 2 ^ k = 0) (hki : k ≤ i) : dn a i ≤ a ∧ a + 2 ^ k ≤ dn a i + 2 ^ i :=
  nest ha (dn_al a i) hki ⟨dn_lt a i, by have := dn_le a i; have := two_pos k; omega⟩
theorem dn_eq {a b i : Nat} (hb : b % 2 ^ i = 0) (h1 : b ≤ a) (h2 : a < b + 2 ^ i) : dn a i = b :=
  same_of_eq_order (dn_al a i) hb ⟨by have := dn_le a i; omega, by have := dn_lt a i; omega⟩
theorem par_dn (a i : Nat) : par (dn a i) i = dn a (i + 1) := by
  have h1 := par_in (dn_al a i)
  have h2 := dn_le a i
  have h3 := dn_lt a i
  exact (dn_eq (par_al _ _) (by omega) (by omega)).symm
/-- A block (a, k) in a free one (b, j). -/
structure Part (F : List Bool) (a k b j : Nat) : Prop where
  kj : k ≤ j
  j8 : j ≤ 8
  al : a % 2 ^ k = 0
  fre : Fre F b j
  inn : b ≤ a ∧ a + 2 ^ k ≤ b + 2 ^ j
  fit : b + 2 ^ j ≤ F.length
/-- The frames on the way: of the whole what lies in the block of order i around the part is free, but for the part. -/
def cvF (F : List Bool) (a k b j i : Nat) : List Bool := setR (setR (setR F b (2 ^ j) false) (dn a i) (2 ^ i) true) a (2 ^ k) false
section
variable {F G : List Bool} {L : Nat → List Nat} {a k b j i : Nat}
theorem cvF_length : (cvF F a k b j i).length = F.length := by simp only [cvF, setR_length]
theorem Part.dn_in (h : Part F a k b j) (hk : k ≤ i) (hj : i ≤ j) : (dn a i ≤ a ∧ a + 2 ^ k ≤ dn a i + 2 ^ i) ∧ b ≤ dn a i ∧ dn a i + 2 ^ i ≤ b + 2 ^ j := by
  have h1 := Go.Proofs.YtklhcgekagimkaaGreat.dn_in h.al hk
  have h2 := h.inn
  have := two_pos k
  exact ⟨h1, nest (dn_al a i) h.fre.1 hj ⟨by omega, by omega⟩⟩
theorem cvF_get (h : Part F a k b j) (hk : k ≤ i) (hj : i ≤ j) (x : Nat) : (cvF F a k b j i)[x]? =
    if a ≤ x ∧ x < a + 2 ^ k then some false else if dn a i ≤ x ∧ x < dn a i + 2 ^ i then some true else if b ≤ x ∧ x < b + 2 ^ j then some false else F[x]? := by
  obtain ⟨h1, h2⟩ := h.dn_in hk hj
  have h3 := h.inn
  have h4 := h.fit
  unfold cvF
  rw [setR_get _ _ _ _ (by simp only [setR_length]; omega), setR_get _ _ _ _ (by simp only [setR_length]; omega), setR_get _ _ _ _ h4]
theorem cvF_start (h : Part F a k b j) : cvF F a k b j k = setR F b (2 ^ j) false := by
  apply List.ext_getElem?
  intro x
  have h1 := h.inn
  rw [cvF_get h (Nat.le_refl _) h.kj, setR_get _ _ _ _ h.fit, dn_self h.al]
  by_cases c : a ≤ x ∧ x < a + 2 ^ k
  · rw [if_pos c, if_pos (by omega)]
  · rw [if_neg c, if_neg c]
theorem cvF_end (h : Part F a k b j) : cvF F a k b j j = setR F a (2 ^ k) false := by
  apply List.ext_getElem?
  intro x
  have h1 := h.inn
  have h2 := h.fit
  have := two_pos k
  have e : dn a j = b := dn_eq h.fre.1 h1.1 (by omega)
  rw [cvF_get h h.kj (Nat.le_refl _), setR_get _ _ _ _ (by omega), e]
  by_cases c : a ≤ x ∧ x < a + 2 ^ k
  · rw [if_pos c, if_pos c]
  · rw [if_neg c, if_neg c]
    by_cases c2 : b ≤ x ∧ x < b + 2 ^ j
    · rw [if_pos c2, h.fre.2 x c2.1 c2.2]
    · rw [if_neg c2, if_neg c2]
theorem cvF_step (h : Part F a k b j) (hk : k ≤ i) (hj : i < j) : cvF F a k b j (i + 1) = setR (cvF F a k b j i) (sib (dn a i) i) (2 ^ i) true := by
  apply List.ext_getElem?
  intro x
  obtain ⟨h1, h2⟩ := h.dn_in hk (Nat.le_of_lt hj)
  obtain ⟨h3, h4⟩ := h.dn_in (i := i + 1) (by omega) hj
  have h5 := sib_in (dn_al a i)
  have h6 := sib_apart (dn_al a i)
  have h7 := h.fit
  have hp := par_in (dn_al a i)
  rw [par_dn] at h5 hp
  have hc : ∀ x, dn a (i + 1) ≤ x → x < dn a (i + 1) + 2 ^ (i + 1) → (dn a i ≤ x ∧ x < dn a i + 2 ^ i) ∨ (sib (dn a i) i ≤ x ∧ x < sib (dn a i) i + 2 ^ i) := fun x g1 g2 => par_cover (dn_al a i) (by rw [par_dn]; exact g1) (by rw [par_dn]; exact g2)
  rw [cvF_get (i := i + 1) h (by omega) hj, setR_get _ _ _ _ (by rw [cvF_length]; omega), cvF_get h hk (Nat.le_of_lt hj)]
  by_cases c : sib (dn a i) i ≤ x ∧ x < sib (dn a i) i + 2 ^ i
  · rw [if_pos c, if_neg (fun hc => h6 ⟨by omega, by omega⟩), if_pos (by omega)]
  · rw [if_neg c]
    by_cases c1 : a ≤ x ∧ x < a + 2 ^ k
    · rw [if_pos c1, if_pos c1]
    · rw [if_neg c1, if_neg c1]
      by_cases c2 : dn a (i + 1) ≤ x ∧ x < dn a (i + 1) + 2 ^ (i + 1)
      · rw [if_pos c2]
        rcases hc x c2.1 c2.2 with g | g
        · rw [if_pos g]
        · exact absurd g c
      · have c3 : ¬ (dn a i ≤ x ∧ x < dn a i + 2 ^ i) := by omega
        rw [if_neg c2, if_neg c3]
theorem cvF_good (h : Part F a k b j) (hk : k ≤ i) (hj : i < j) (hG : Good (cvF F a k b j i) L) :
    sib (dn a i) i ∉ L i ∧ Good (cvF F a k b j (i + 1)) (upd L i (insL (sib (dn a i) i) (L i))) := by
  obtain ⟨h1, h2⟩ := h.dn_in hk (Nat.le_of_lt hj)
  obtain ⟨h3, h4⟩ := h.dn_in (i := i + 1) (by omega) hj
  have h5 := sib_in (dn_al a i)
  have h6 := sib_apart (dn_al a i)
  have h7 := h.fit
  have j8 := h.j8
  have := two_pos k
  rw [par_dn] at h5
  rw [cvF_step h hk hj]
  refine hG.put (by omega) (sib_al (dn_al a i)) (by rw [cvF_length]; omega) (fun x g1 g2 => ?_) (fun _ hf => ?_)
  · rw [cvF_get h hk (Nat.le_of_lt hj), if_neg (fun hc => h6 ⟨by omega, by omega⟩), if_neg (fun hc => h6 ⟨by omega, by omega⟩), if_pos (by omega)]
  · rw [sib_sib (dn_al a i)] at hf
    have g := hf.2 a h1.1 (by omega)
    rw [cvF_get h hk (Nat.le_of_lt hj), if_pos (by omega)] at g
    cases g
theorem Part.of_mx (hm : Mx F b j) (hk : k ≤ j) (ha : a % 2 ^ k = 0) (hi : b ≤ a ∧ a + 2 ^ k ≤ b + 2 ^ j) : Part F a k b j := ⟨hk, hm.1, ha, hm.2.1, hi, mx_lt hm⟩
theorem part_first (h : Good F L) (hk : k ≤ j) (hj : j ≤ 8) (hb : b ∈ L j) : Part F b k b j := by
  have hm := (h.mem j hj b).1 hb
  have := Nat.pow_le_pow_right (by omega : 0 < 2) hk
  exact Part.of_mx hm hk (al_less hm.2.1.1 hk) ⟨Nat.le_refl _, by omega⟩
theorem part_dn (h : Good F L) (hk : k ≤ j) (hj : j ≤ 8) (ha : a % 2 ^ k = 0) (hb : dn a j ∈ L j) : Part F a k (dn a j) j :=
  Part.of_mx ((h.mem j hj _).1 hb) hk ha (Go.Proofs.YtklhcgekagimkaaGreat.dn_in ha hk)
theorem Part.free (h : Part F a k b j) : Fre F a k := h.fre.in_ h.al h.inn.1 h.inn.2
/-- What is free as a whole lies in one of the lists' blocks. -/
theorem fre_dn (h : Good F L) (hk : k ≤ 8) (hf : Fre F a k) : ∃ j, k ≤ j ∧ j ≤ 8 ∧ dn a j ∈ L j := by
  obtain ⟨b, j, hm, h1, h2, h3⟩ := mx_anc (8 - k) a k (by omega) hf
  have := two_pos k
  refine ⟨j, h1, hm.1, ?_⟩
  rw [dn_eq hm.2.1.1 h2 (by omega)]
  exact (h.mem j hm.1 b).2 hm
end
end Go.Proofs.YtklhcgekagimkaaGreat
/- Free lists as they lie in memory, and what a call leaves as it was that turns them alone. -/
namespace Go.Proofs.YtklhcgekagimkaaGreat
variable {Xc : Nat → Prop}
open Go.RowKit


/-! A list with a stretch of it laid anew. -/

/-- A block that is known whole. -/
def Lrow (w : World) (g : Nat) (t : TypeId) (vs : List Value) : Prop := w.heap[g]? = some (.cells vs.toArray t (0, 0))
section
variable {w w' : World} {g : Nat} {t : TypeId} {vs : List Value}
theorem Lrow.lt (h : Lrow w g t vs) : g < w.heap.size := by
  rcases Nat.lt_or_ge g w.heap.size with hl | hl
  · exact hl
  · unfold Lrow at h; rw [Array.getElem?_eq_none hl] at h; cases h
theorem Lrow.cell (h : Lrow w g t vs) (i : Nat) : w.cell? ⟨g, i, none⟩ = vs[i]? := by
  have := cell_of_row w g i vs.toArray t (0, 0) h
  simpa using this
theorem Lrow.frozen (h : Lrow w g t vs) (i : Nat) : w.frozen? ⟨g, i, none⟩ = false := by
  unfold Lrow at h
  simp [World.frozen?, h]
theorem Lrow.shape (h : Lrow w g t vs) : w.shape? g = some (t, vs.length) := by
  unfold Lrow at h
  simp [World.shape?, h]
theorem Lrow.new (w : World) (t : TypeId) (vs : List Value) : Lrow (w.alloc (.cells vs.toArray t)) w.heap.size t vs := heap_alloc_new w _
theorem Lrow.alloc (h : Lrow w g t vs) (o : Obj) : Lrow (w.alloc o) g t vs := (Below.heap_alloc w o g h.lt).trans h
theorem Lrow.set_ (h : Lrow w g t vs) (i : Nat) (u : Value) : Lrow (w.setCell ⟨g, i, none⟩ u) g t (vs.set i u) := by
  unfold Lrow at h ⊢
  simp [World.setCell, Array.getElem?_modify, h]
theorem Lrow.far (h : Lrow w g t vs) {p : Addr} (hp : g ≠ p.block) (u : Value) : Lrow (w.setCell p u) g t vs := (Below.heap_setCell w p u g hp).trans h
theorem Lrow.below {B : Nat} (h : Lrow w g t vs) (hb : Below B w w') (hg : g < B) : Lrow w' g t vs := (hb.block g hg).trans h
theorem Lrow.call (h : Lrow w g t vs) (hb : Below w.heap.size w w') : Lrow w' g t vs := h.below hb h.lt
theorem Lrow.grown {row : Option Nat} (h : Lrow w g t vs) (hb : w.grownBy w' row) (hg : some g ≠ row) : Lrow w' g t vs := (hb.block g h.lt hg).trans h
theorem Lrow.apart {g' : Nat} {t' : TypeId} {vs' : List Value} (h : Lrow w g t vs) (h' : Lrow w g' t' vs') (hne : t ≠ t') : g ≠ g' := by
  rintro rfl
  unfold Lrow at h h'
  rw [h] at h'
  injection h' with h'
  injection h' with _ ht
  exact hne ht
theorem Lrow.drewN (h : Lrow w g t vs) (k : Nat) : Lrow (w.drewN k) g t vs := h
theorem Lrow.inj {t' : TypeId} {vs' : List Value} (h : Lrow w g t vs) (h' : Lrow w g t' vs') : vs = vs' := by
  unfold Lrow at h h'
  rw [h] at h'
  injection h' with h'
  injection h' with e _
  exact List.toArray_inj e
end
theorem Lrow.setCells {g : Nat} {t : TypeId} : ∀ (cs : List Value) {w : World} {vs : List Value} (o : Nat), Lrow w g t vs → o + cs.length ≤ vs.length → Lrow (w.setCells g o cs) g t (splice vs o cs) := by
  intro cs
  induction cs with
  | nil => intro w vs o h _; rw [show splice vs o [] = vs by simp [splice]]; exact h
  | cons v r ih =>
    intro w vs o h hl
    rw [← splice_cons vs o v r hl]
    exact ih (o + 1) (h.set_ o v) (by rw [List.length_set]; simp only [List.length_cons] at hl; omega)
theorem Lrow.setCells_far {g g' : Nat} {t : TypeId} : ∀ (cs : List Value) {w : World} {vs : List Value} (o : Nat), Lrow w g t vs → g ≠ g' → Lrow (w.setCells g' o cs) g t vs := by
  intro cs
  induction cs with
  | nil => intro w vs o h _; exact h
  | cons v r ih => intro w vs o h hne; exact ih (o + 1) (h.far hne v) hne

/-- What a call leaves as it was that turns free lists above B alone: all below B, each block that is known whole, but of the two types that free lists are made of, and each block of a set that the caller names. -/
structure Turn (Xc : Nat → Prop) (B : Nat) (w w' : World) : Prop where
  os : w'.os = w.os
  tape : w'.tape = w.tape
  output : w'.output = w.output
  size : w.heap.size ≤ w'.heap.size
  low : ∀ k, k < B → w'.heap[k]? = w.heap[k]?
  row : ∀ g t vs, Lrow w g t vs → t ≠ 3 → t ≠ 132 → Lrow w' g t vs
  exc : ∀ g, Xc g → g < w.heap.size → w'.heap[g]? = w.heap[g]?
section
variable {w w' w'' : World} {B g : Nat} {t : TypeId} {vs : List Value}
theorem Turn.refl (B : Nat) (w : World) : Turn Xc B w w := ⟨rfl, rfl, rfl, Nat.le_refl _, fun _ _ => rfl, fun _ _ _ h _ _ => h, fun _ _ _ => rfl⟩
theorem Turn.trans (h : Turn Xc B w w') (k : Turn Xc B w' w'') : Turn Xc B w w'' :=
  ⟨k.os.trans h.os, k.tape.trans h.tape, k.output.trans h.output, Nat.le_trans h.size k.size, fun i hi => (k.low i hi).trans (h.low i hi), fun g t vs r h1 h2 => k.row g t vs (h.row g t vs r h1 h2) h1 h2, fun g hg hl => (k.exc g hg (Nat.lt_of_lt_of_le hl h.size)).trans (h.exc g hg hl)⟩
theorem Turn.of_below (h : Below w.heap.size w w') (hB : B ≤ w.heap.size) : Turn Xc B w w' :=
  ⟨h.os, h.tape, h.output, h.size, fun k hk => h.block k (by omega), fun _ _ _ r _ _ => r.call h, fun g _ hl => h.block g hl⟩
theorem Turn.below (h : Turn Xc B w w') : Below B w w' := ⟨h.os, h.tape, h.output, h.size, h.low⟩
theorem Turn.drew (h : Turn Xc B w w') : Turn Xc B w w'.drew := ⟨h.os, h.tape, h.output, h.size, h.low, h.row, h.exc⟩
theorem Turn.drewN (h : Turn Xc B w w') (q : Nat) : Turn Xc B w (w'.drewN q) := ⟨h.os, h.tape, h.output, h.size, h.low, h.row, h.exc⟩
theorem Turn.alloc (h : Turn Xc B w w') (hB : B ≤ w'.heap.size) (o : Obj) : Turn Xc B w (w'.alloc o) := h.trans (Turn.of_below ((Below.refl _ _).alloc (Nat.le_refl _) o) hB)
theorem Turn.setNew (h : Turn Xc B w w') (hg : w.heap.size ≤ g) (hB : B ≤ g) (i : Nat) (u : Value) : Turn Xc B w (w'.setCell ⟨g, i, none⟩ u) :=
  ⟨h.os, h.tape, h.output, by have := h.size; simpa [World.setCell] using this, fun k hk => (Below.heap_setCell w' ⟨g, i, none⟩ u k (by show k ≠ g; omega)).trans (h.low k hk), fun g' t vs r h1 h2 => (h.row g' t vs r h1 h2).far (by show g' ≠ g; have := r.lt; omega) u, fun g' hx hl => (Below.heap_setCell w' ⟨g, i, none⟩ u g' (by show g' ≠ g; omega)).trans (h.exc g' hx hl)⟩
theorem Turn.grown {b : Nat} (h : Turn Xc B w w') (r : Lrow w' b t vs) (ht : t = 3 ∨ t = 132) (hb : B ≤ b) (hx : Xc b → False) (hg : w'.grownBy w'' (some b)) : Turn Xc B w w'' :=
  h.trans ⟨hg.os, hg.tape, hg.output, hg.size, fun k hk => hg.block k (by have := r.lt; omega) (by intro e; injection e with e; omega), fun g s us q h1 h2 => q.grown hg (by
    intro e; injection e with e; subst e
    refine q.apart r ?_ rfl
    rcases ht with rfl | rfl
    · exact h1
    · exact h2), fun g hX hl => hg.block g hl (by intro e; injection e with e; subst e; exact hx hX)⟩
end
theorem below_dN {B : Nat} {w w' : World} (h : Below B w w') (q : Nat) : Below B w (w'.drewN q) := ⟨h.os, h.tape, h.output, h.size, h.block⟩
theorem grown_setCells (g : Nat) : ∀ (cs : List Value) (w : World) (o : Nat), w.grownBy (w.setCells g o cs) (some g) := by
  intro cs
  induction cs with
  | nil => intro w o; exact World.grownBy.refl _ _
  | cons v r ih => intro w o; exact (grown_set w g o v).trans (ih _ (o + 1))
theorem grown_drewN (w : World) (q : Nat) (row : Option Nat) : w.grownBy (w.drewN q) row := ⟨rfl, rfl, rfl, Nat.le_refl _, fun _ _ _ => rfl⟩

/-- Numbers as cells: those of a list, and what lies behind them. -/
def ints (l : List Nat) (r : List Int) : List Int := l.map (fun x : Nat => (x : Int)) ++ r
def icells (zs : List Int) : List Value := zs.map (Value.int .i64)
theorem icells_length (zs : List Int) : (icells zs).length = zs.length := by simp [icells]
theorem icells_get (zs : List Int) (i : Nat) : (icells zs)[i]? = zs[i]?.map (Value.int .i64) := by simp [icells]
theorem ints_length (l : List Nat) (r : List Int) : (ints l r).length = l.length + r.length := by simp [ints]
theorem ints_take (l : List Nat) (r : List Int) : (ints l r).take l.length = l.map (fun x : Nat => (x : Int)) := by
  unfold ints
  rw [List.take_append_of_le_length (by simp)]
  exact List.take_of_length_le (by simp)
/-- Where a slice of numbers lies: from the front of a block of its own. -/
def slA (p : Option Nat) : Option Addr := p.map fun b => ⟨b, 0, none⟩

/-- The free lists in memory: the struct in block a; of each order k the numbers L k in block p k, whose room is c k. All lie above B. -/
structure BudX (Xc : Nat → Prop) (B : Nat) (w : World) (a n : Nat) (L : Nat → List Nat) (p : Nat → Option Nat) (c : Nat → Nat) : Prop where
  top : Lrow w a 132 (.int .i64 n :: (List.range 9).map fun k => .slice (slA (p k)) (L k).length (c k))
  lo : B ≤ a
  nil : ∀ k, k ≤ 8 → p k = none → L k = [] ∧ c k = 0
  row : ∀ k, k ≤ 8 → ∀ b, p k = some b → B ≤ b ∧ ∃ r : List Int, Lrow w b 3 (icells (ints (L k) r)) ∧ c k = (L k).length + r.length ∧ 0 < c k ∧ c k ≤ 9223372036854775807
  apart : ∀ j k, j ≤ 8 → k ≤ 8 → j ≠ k → ∀ b, p j = some b → p k = some b → False
  exc : ∀ g, Xc g → g < w.heap.size ∧ g ≠ a ∧ ∀ k, k ≤ 8 → p k ≠ some g
def BudAt (Xc : Nat → Prop) (B : Nat) (w : World) (a n : Nat) (L : Nat → List Nat) : Prop := ∃ p c, BudX Xc B w a n L p c
section
variable {w w' : World} {B a n : Nat} {L : Nat → List Nat} {p : Nat → Option Nat} {c : Nat → Nat}
theorem BudX.size (h : BudX Xc B w a n L p c) : w.cell? ⟨a, 0, none⟩ = some (.int .i64 n) := by rw [h.top.cell]; rfl
theorem BudX.field (h : BudX Xc B w a n L p c) {k : Nat} (hk : k ≤ 8) : w.cell? ⟨a, 1 + k, none⟩ = some (.slice (slA (p k)) (L k).length (c k)) := by
  rw [h.top.cell, Nat.add_comm, List.getElem?_cons_succ, List.getElem?_map, List.getElem?_range (by omega)]; rfl
theorem BudX.room (h : BudX Xc B w a n L p c) {k : Nat} (hk : k ≤ 8) : (L k).length ≤ c k ∧ c k ≤ 9223372036854775807 := by
  cases hp : p k with
  | none => obtain ⟨h1, h2⟩ := h.nil k hk hp; rw [h1, h2]; simp
  | some b => obtain ⟨_, r, _, h2, _, h3⟩ := h.row k hk b hp; omega
theorem BudX.keep (h : BudX Xc B w a n L p c) (hs : w.heap.size ≤ w'.heap.size) (hk : ∀ g t vs, Lrow w g t vs → B ≤ g → Lrow w' g t vs) : BudX Xc B w' a n L p c :=
  ⟨hk _ _ _ h.top h.lo, h.lo, h.nil, fun k h8 b hp => by
    obtain ⟨h1, r, h2, h3⟩ := h.row k h8 b hp
    exact ⟨h1, r, hk _ _ _ h2 h1, h3⟩, h.apart, fun g hg => ⟨Nat.lt_of_lt_of_le (h.exc g hg).1 hs, (h.exc g hg).2⟩⟩
theorem BudX.call (h : BudX Xc B w a n L p c) (hb : Below w.heap.size w w') : BudX Xc B w' a n L p c := h.keep hb.size fun _ _ _ r _ => r.call hb
theorem BudX.alloc (h : BudX Xc B w a n L p c) (o : Obj) : BudX Xc B (w.alloc o) a n L p c := h.keep (by simp) fun _ _ _ r _ => r.alloc o
theorem BudX.drewN (h : BudX Xc B w a n L p c) (q : Nat) : BudX Xc B (w.drewN q) a n L p c := h.keep (Nat.le_refl _) fun _ _ _ r _ => r
theorem BudX.grown {row : Option Nat} (h : BudX Xc B w a n L p c) (hg : w.grownBy w' row) (hr : ∀ b, row = some b → ∃ t vs, Lrow w b t vs ∧ t ≠ 3 ∧ t ≠ 132) : BudX Xc B w' a n L p c := by
  refine ⟨h.top.grown hg ?_, h.lo, h.nil, fun k h8 b hp => ?_, h.apart, fun g hX => ⟨Nat.lt_of_lt_of_le (h.exc g hX).1 hg.size, (h.exc g hX).2⟩⟩
  · intro e
    obtain ⟨t, vs, q, _, h2⟩ := hr a e.symm
    exact q.apart h.top h2 rfl
  · obtain ⟨h1, r, h2, h3⟩ := h.row k h8 b hp
    refine ⟨h1, r, h2.grown hg ?_, h3⟩
    intro e
    obtain ⟨t, vs, q, h4, _⟩ := hr b e.symm
    exact q.apart h2 h4 rfl
theorem BudAt.call (h : BudAt Xc B w a n L) (hb : Below w.heap.size w w') : BudAt Xc B w' a n L := by obtain ⟨p, c, h⟩ := h; exact ⟨p, c, h.call hb⟩
theorem BudAt.alloc (h : BudAt Xc B w a n L) (o : Obj) : BudAt Xc B (w.alloc o) a n L := by obtain ⟨p, c, h⟩ := h; exact ⟨p, c, h.alloc o⟩
theorem BudAt.drewN (h : BudAt Xc B w a n L) (q : Nat) : BudAt Xc B (w.drewN q) a n L := by obtain ⟨p, c, h⟩ := h; exact ⟨p, c, h.drewN q⟩
theorem BudAt.drew (h : BudAt Xc B w a n L) : BudAt Xc B w.drew a n L := h.drewN 1
theorem BudAt.grown {row : Option Nat} (h : BudAt Xc B w a n L) (hg : w.grownBy w' row) (hr : ∀ b, row = some b → ∃ t vs, Lrow w b t vs ∧ t ≠ 3 ∧ t ≠ 132) : BudAt Xc B w' a n L := by obtain ⟨p, c, h⟩ := h; exact ⟨p, c, h.grown hg hr⟩
theorem BudAt.setFar {g : Nat} {t : TypeId} {vs : List Value} (h : BudAt Xc B w a n L) (r : Lrow w g t vs) (h1 : t ≠ 3) (h2 : t ≠ 132) (i : Nat) (u : Value) : BudAt Xc B (w.setCell ⟨g, i, none⟩ u) a n L :=
  h.grown (grown_set w g i u) fun b e => by injection e with e; subst e; exact ⟨t, vs, r, h1, h2⟩
theorem BudAt.lo (h : BudAt Xc B w a n L) : B ≤ w.heap.size := by obtain ⟨p, c, h⟩ := h; have := h.lo; have := h.top.lt; omega
theorem BudAt.lt (h : BudAt Xc B w a n L) : a < w.heap.size := by obtain ⟨p, c, h⟩ := h; exact h.top.lt
/-- The list of one order has been laid anew, in the same block or in another, and the struct tells so. -/
theorem BudX.turned {k : Nat} {l : List Nat} {b cc : Nat} {r : List Int} (h : BudX Xc B w a n L p c) (hk : k ≤ 8)
    (hB : B ≤ b) (hb : p k = some b ∨ w.heap.size ≤ b) (hr : Lrow w' b 3 (icells (ints l r))) (hc : cc = l.length + r.length) (h0 : 0 < cc) (hm : cc ≤ 9223372036854775807)
    (hg : w.grownBy w' (some b)) :
    Turn Xc B w (w'.setCell ⟨a, 1 + k, none⟩ (.slice (some ⟨b, 0, none⟩) l.length cc)) ∧ BudAt Xc B (w'.setCell ⟨a, 1 + k, none⟩ (.slice (some ⟨b, 0, none⟩) l.length cc)) a n (upd L k l) := by
  have hab : a ≠ b := by
    rcases hb with hb | hb
    · obtain ⟨_, q, h2, _⟩ := h.row k hk b hb
      exact h.top.apart h2 (by decide)
    · have := h.top.lt; omega
  have htop : Lrow w' a 132 _ := h.top.grown hg (by simpa using hab)
  have ht1 : Turn Xc B w w' := by
    rcases hb with hb | hb
    · obtain ⟨_, q, h2, _⟩ := h.row k hk b hb
      exact (Turn.refl B w).grown h2 (Or.inl rfl) hB (fun hX => (h.exc b hX).2.2 k hk hb) hg
    · refine Turn.of_below ⟨hg.os, hg.tape, hg.output, hg.size, fun i hi => hg.block i hi ?_⟩ (by have := h.lo; have := h.top.lt; omega)
      intro e; injection e with e; omega
  refine ⟨ht1.grown htop (Or.inr rfl) h.lo (fun hX => (h.exc a hX).2.1 rfl) (grown_set _ _ _ _), ⟨fun j => if j = k then some b else p j, fun j => if j = k then cc else c j, ?_⟩⟩
  refine ⟨?_, h.lo, fun j hj hp => ?_, fun j hj d hp => ?_, fun i j hi hj hne d h1 h2 => ?_, fun g hX => ⟨?_, (h.exc g hX).2.1, fun j hj => ?_⟩⟩
  · have := htop.set_ (1 + k) (.slice (some ⟨b, 0, none⟩) l.length cc)
    rw [Nat.add_comm 1 k, List.set_cons_succ] at this
    rw [Nat.add_comm 1 k]
    have e : ((List.range 9).map fun k => Value.slice (slA (p k)) (L k).length (c k)).set k (.slice (some ⟨b, 0, none⟩) l.length cc) =
        (List.range 9).map fun j => Value.slice (slA (if j = k then some b else p j)) (upd L k l j).length (if j = k then cc else c j) := by
      apply List.ext_getElem?
      intro i
      rw [List.getElem?_set]
      by_cases hi : i < 9
      · simp only [List.length_map, List.length_range, List.getElem?_map, List.getElem?_range hi, Option.map_some]
        by_cases hik : k = i
        · subst hik
          simp [hi, slA, upd_same]
        · rw [if_neg hik, if_neg (Ne.symm hik), if_neg (Ne.symm hik), upd_other L l (Ne.symm hik)]
      · rw [List.getElem?_eq_none (l := (List.range 9).map _) (by simp; omega), List.getElem?_eq_none (l := (List.range 9).map _) (by simp; omega)]
        simp only [List.length_map, List.length_range]
        split
        · rw [if_neg (by omega)]
        · rfl
    rw [e] at this
    exact this
  · by_cases e : j = k
    · simp [e] at hp
    · simp only [e, if_false] at hp ⊢
      rw [upd_other L l e]
      exact h.nil j hj hp
  · by_cases e : j = k
    · subst e
      simp only [if_true, Option.some.injEq] at hp
      subst hp
      refine ⟨hB, r, ?_, ?_⟩
      · rw [upd_same]; exact hr.far (Ne.symm hab) _
      · rw [upd_same]
        simp only [if_true]
        exact ⟨hc, h0, hm⟩
    · simp only [e, if_false] at hp ⊢
      rw [upd_other L l e]
      obtain ⟨g1, q, g2, g3⟩ := h.row j hj d hp
      refine ⟨g1, q, ?_, g3⟩
      have hda : d ≠ a := g2.apart h.top (by decide)
      refine (g2.grown hg ?_).far hda _
      intro e2; injection e2 with e2; subst e2
      rcases hb with hb | hb
      · exact h.apart j k hj hk e d hp hb
      · have := g2.lt; omega
  · by_cases e1 : i = k
    · have e2 : j ≠ k := fun e => hne (e1.trans e.symm)
      simp only [e1, if_true, Option.some.injEq] at h1
      simp only [e2, if_false] at h2
      subst h1
      obtain ⟨g1, q, g2, g3⟩ := h.row j hj b h2
      rcases hb with hb | hb
      · exact h.apart j k hj hk e2 b h2 hb
      · have := g2.lt; omega
    · simp only [e1, if_false] at h1
      by_cases e2 : j = k
      · simp only [e2, if_true, Option.some.injEq] at h2
        subst h2
        obtain ⟨g1, q, g2, g3⟩ := h.row i hi b h1
        rcases hb with hb | hb
        · exact h.apart i k hi hk e1 b h1 hb
        · have := g2.lt; omega
      · simp only [e2, if_false] at h2
        exact h.apart i j hi hj hne d h1 h2
  · have h1 := (h.exc g hX).1
    have h2 := hg.size
    simp only [World.setCell, Array.size_modify]
    omega
  · have h1 := h.exc g hX
    by_cases e : j = k
    · simp only [e, if_true, ne_eq, Option.some.injEq]
      intro e2
      subst e2
      rcases hb with hb | hb
      · exact h1.2.2 k hk hb
      · omega
    · simp only [e, if_false]
      exact h1.2.2 j hj
/-- More blocks are named: any that are newer than the lists. -/
theorem BudAt.more {Y : Nat → Prop} (h : BudAt Xc B w a n L) (hb : Below w.heap.size w w') (hY : ∀ g, Y g → g < w'.heap.size ∧ (Xc g ∨ w.heap.size ≤ g)) : BudAt Y B w' a n L := by
  obtain ⟨p, c, h⟩ := h
  have h1 := h.call hb
  refine ⟨p, c, h1.top, h1.lo, h1.nil, h1.row, h1.apart, fun g hg => ⟨(hY g hg).1, ?_⟩⟩
  rcases (hY g hg).2 with g1 | g1
  · exact (h.exc g g1).2
  · refine ⟨by have := h.top.lt; omega, fun k hk e => ?_⟩
    obtain ⟨_, r, h2, _⟩ := h.row k hk g e
    have := h2.lt
    omega
/-- A block that is named is turned: the lists stay. -/
theorem BudAt.named {g : Nat} (h : BudAt Xc B w a n L) (hg : w.grownBy w' (some g)) (hX : Xc g) : BudAt Xc B w' a n L := by
  obtain ⟨p, c, h⟩ := h
  have h1 := h.exc g hX
  refine ⟨p, c, h.top.grown hg (by simpa using h1.2.1.symm), h.lo, h.nil, fun k h8 b hp => ?_, h.apart, fun g' hX' => ⟨Nat.lt_of_lt_of_le (h.exc g' hX').1 hg.size, (h.exc g' hX').2⟩⟩
  obtain ⟨h2, r, h3, h4⟩ := h.row k h8 b hp
  refine ⟨h2, r, h3.grown hg ?_, h4⟩
  intro e
  injection e with e
  exact h1.2.2 k h8 (by rw [hp, e])
end
end Go.Proofs.YtklhcgekagimkaaGreat
