/- Rising lists of numbers: where one stands, is put in, is taken out; the pages of a pool that are so. -/
import Derived.Test.YtllepijlebbjbaaPoA
namespace Go.Proofs.Ytllepijlebbjbaa
abbrev UpN (l : List Int) : Prop := l.Pairwise (· < ·)
def cutN (x : Int) (l : List Int) : Nat := l.countP (· < x)
def insN (x : Int) (l : List Int) : List Int := l.take (cutN x l) ++ x :: l.drop (cutN x l)
def delN (x : Int) (l : List Int) : List Int := l.take (cutN x l) ++ l.drop (cutN x l + 1)
section
variable {x y : Int} {l r : List Int}
theorem cutN_le (x : Int) (l : List Int) : cutN x l ≤ l.length := List.countP_le_length
theorem cutN_cons (x y : Int) (r : List Int) : cutN x (y :: r) = cutN x r + if y < x then 1 else 0 := by
  unfold cutN; rw [List.countP_cons]; simp
theorem cutN_zero (h : ∀ y ∈ l, x ≤ y) : cutN x l = 0 := by
  unfold cutN
  rw [List.countP_eq_zero]
  intro a ha
  have := h a ha
  simp; omega
theorem cutN_low (h : UpN (y :: r)) (c : ¬ y < x) : cutN x (y :: r) = 0 := cutN_zero fun z hz => by
  rcases List.mem_cons.1 hz with e | e
  · omega
  · have := (List.pairwise_cons.1 h).1 z e; omega
theorem insN_cons (h : UpN (y :: r)) : insN x (y :: r) = if y < x then y :: insN x r else x :: y :: r := by
  unfold insN
  by_cases c : y < x
  · rw [cutN_cons, if_pos c, if_pos c, List.take_succ_cons, List.drop_succ_cons, List.cons_append]
  · rw [cutN_low h c, if_neg c]; rfl
theorem delN_cons (h : UpN (y :: r)) : delN x (y :: r) = if y < x then y :: delN x r else r := by
  unfold delN
  by_cases c : y < x
  · rw [cutN_cons, if_pos c, if_pos c, List.take_succ_cons, List.drop_succ_cons, List.cons_append]
  · rw [cutN_low h c, if_neg c]; rfl
theorem mem_insN : y ∈ insN x l ↔ y = x ∨ y ∈ l := by
  unfold insN
  conv => rhs; rw [← List.take_append_drop (cutN x l) l]
  simp only [List.mem_append, List.mem_cons]
  constructor
  · rintro (h | h | h)
    · exact Or.inr (Or.inl h)
    · exact Or.inl h
    · exact Or.inr (Or.inr h)
  · rintro (h | h | h)
    · exact Or.inr (Or.inl h)
    · exact Or.inl h
    · exact Or.inr (Or.inr h)
theorem up_insN : ∀ {l : List Int}, UpN l → x ∉ l → UpN (insN x l)
  | [], _, _ => by simp [insN, cutN]
  | y :: r, h, hx => by
    obtain ⟨h1, h2⟩ := List.pairwise_cons.1 h
    rw [insN_cons h]
    split
    · rename_i c
      refine List.pairwise_cons.2 ⟨fun z hz => ?_, up_insN h2 fun e => hx (List.mem_cons_of_mem _ e)⟩
      rcases mem_insN.1 hz with e | e
      · omega
      · exact h1 z e
    · rename_i c
      have hne : x ≠ y := fun e => hx (by rw [e]; exact List.mem_cons_self)
      refine List.pairwise_cons.2 ⟨fun z hz => ?_, h⟩
      rcases List.mem_cons.1 hz with e | e
      · omega
      · have := h1 z e; omega
theorem mem_delN : ∀ {l : List Int}, UpN l → x ∈ l → (y ∈ delN x l ↔ y ∈ l ∧ y ≠ x)
  | [], _, hx => by cases hx
  | z :: r, h, hx => by
    obtain ⟨h1, h2⟩ := List.pairwise_cons.1 h
    rw [delN_cons h]
    split
    · rename_i c
      have hx' : x ∈ r := by
        rcases List.mem_cons.1 hx with e | e
        · omega
        · exact e
      rw [List.mem_cons, List.mem_cons, mem_delN h2 hx']
      constructor
      · rintro (e | ⟨e, f⟩)
        · exact ⟨Or.inl e, by omega⟩
        · exact ⟨Or.inr e, f⟩
      · rintro ⟨e | e, f⟩
        · exact Or.inl e
        · exact Or.inr ⟨e, f⟩
    · rename_i c
      have hxz : x = z := by
        rcases List.mem_cons.1 hx with e | e
        · exact e
        · have := h1 x e; omega
      subst hxz
      rw [List.mem_cons]
      constructor
      · intro e
        have := h1 y e
        exact ⟨Or.inr e, by omega⟩
      · rintro ⟨e | e, f⟩
        · exact absurd e f
        · exact e
theorem up_delN : ∀ {l : List Int}, UpN l → UpN (delN x l)
  | [], _ => by simp [delN]
  | y :: r, h => by
    obtain ⟨h1, h2⟩ := List.pairwise_cons.1 h
    rw [delN_cons h]
    split
    · refine List.pairwise_cons.2 ⟨fun z hz => h1 z ?_, up_delN h2⟩
      unfold delN at hz
      rcases List.mem_append.1 hz with e | e
      · exact List.mem_of_mem_take e
      · exact List.mem_of_mem_drop e
    · exact h2
theorem cutN_lt : ∀ {l : List Int}, UpN l → x ∈ l → ∃ h : cutN x l < l.length, l[cutN x l] = x
  | [], _, hx => by cases hx
  | y :: r, h, hx => by
    obtain ⟨h1, h2⟩ := List.pairwise_cons.1 h
    by_cases c : y < x
    · have hx' : x ∈ r := by
        rcases List.mem_cons.1 hx with e | e
        · omega
        · exact e
      obtain ⟨a, b⟩ := cutN_lt h2 hx'
      have e : cutN x (y :: r) = cutN x r + 1 := by rw [cutN_cons, if_pos c]
      exact ⟨by rw [e, List.length_cons]; omega, by simp only [e, List.getElem_cons_succ]; exact b⟩
    · have e := cutN_low h c
      refine ⟨by rw [e, List.length_cons]; omega, ?_⟩
      simp only [e, List.getElem_cons_zero]
      rcases List.mem_cons.1 hx with d | d
      · exact d.symm
      · have := h1 x d; omega
theorem cutN_at (h : UpN l) {j : Nat} (hj : j < l.length) : cutN l[j] l = j := by
  obtain ⟨a, b⟩ := cutN_lt h (List.getElem_mem hj)
  rcases Nat.lt_trichotomy (cutN l[j] l) j with c | c | c
  · have := List.pairwise_iff_getElem.1 h _ _ a hj c; omega
  · exact c
  · have := List.pairwise_iff_getElem.1 h _ _ hj a c; omega
theorem insN_len (x : Int) (l : List Int) : (insN x l).length = l.length + 1 := by
  have := cutN_le x l
  unfold insN; rw [List.length_append, List.length_cons, List.length_take, List.length_drop]; omega
theorem delN_len (h : UpN l) (hx : x ∈ l) : (delN x l).length + 1 = l.length := by
  obtain ⟨a, _⟩ := cutN_lt h hx
  unfold delN; rw [List.length_append, List.length_take, List.length_drop]; omega
theorem up_extI : ∀ {L M : List Int}, UpN L → UpN M → (∀ i, i ∈ L ↔ i ∈ M) → L = M
  | [], [], _, _, _ => rfl
  | [], m :: M, _, _, h => by have := (h m).2 List.mem_cons_self; cases this
  | l :: L, [], _, _, h => by have := (h l).1 List.mem_cons_self; cases this
  | l :: L, m :: M, hl, hm, h => by
    obtain ⟨a1, a2⟩ := List.pairwise_cons.1 hl
    obtain ⟨b1, b2⟩ := List.pairwise_cons.1 hm
    have e : l = m := by
      rcases List.mem_cons.1 ((h l).1 List.mem_cons_self) with e | e
      · exact e
      · rcases List.mem_cons.1 ((h m).2 List.mem_cons_self) with d | d
        · exact d.symm
        · have := a1 m d; have := b1 l e; omega
    subst e
    rw [up_extI a2 b2 fun i => ?_]
    constructor
    · intro hi
      rcases List.mem_cons.1 ((h i).1 (List.mem_cons_of_mem _ hi)) with e | e
      · subst e; have := a1 i hi; omega
      · exact e
    · intro hi
      rcases List.mem_cons.1 ((h i).2 (List.mem_cons_of_mem _ hi)) with e | e
      · subst e; have := b1 i hi; omega
      · exact e
end
/-! The pages that are so. -/
def lsV (I : List Int) (v : Int) : List Int := ((List.range 1024).filter fun i => decide (I[i]? = some v)).map fun i : Nat => (i : Int)
section
variable {I : List Int} {v u x : Int} {i : Nat}
theorem frL_lsV (I : List Int) : frL I = lsV I 1 := rfl
theorem lsV_up (I : List Int) (v : Int) : UpN (lsV I v) := by
  unfold lsV
  show List.Pairwise _ _
  rw [List.pairwise_map]
  exact ((List.pairwise_lt_range (n := 1024)).filter _).imp fun h => by omega
theorem mem_lsV {y : Int} : y ∈ lsV I v ↔ ∃ i : Nat, y = i ∧ i < 1024 ∧ I[i]? = some v := by
  unfold lsV
  simp only [List.mem_map, List.mem_filter, List.mem_range, decide_eq_true_eq]
  constructor
  · rintro ⟨k, ⟨a, b⟩, e⟩; exact ⟨k, e.symm, a, b⟩
  · rintro ⟨k, e, a, b⟩; exact ⟨k, ⟨a, b⟩, e.symm⟩
theorem mem_lsV_nat : (i : Int) ∈ lsV I v ↔ i < 1024 ∧ I[i]? = some v := by
  rw [mem_lsV]
  constructor
  · rintro ⟨k, e, h⟩
    obtain rfl : i = k := by omega
    exact h
  · intro h; exact ⟨i, rfl, h⟩
theorem lsV_is {L : List Int} (h : UpN L) (hm : ∀ y, y ∈ L ↔ ∃ i : Nat, y = i ∧ i < 1024 ∧ I[i]? = some v) : lsV I v = L :=
  up_extI (lsV_up I v) h fun y => by rw [mem_lsV, hm]
theorem lsV_len (h : I.length = 1024) (v : Int) : (lsV I v).length = I.count v := by
  rw [← cn_is h v]
  unfold lsV cnK
  rw [List.length_map]
theorem set_some (h : I[i]? = some u) (v : Int) (k : Nat) : (I.set i v)[k]? = if k = i then some v else I[k]? := by
  rw [List.getElem?_set]
  by_cases e : i = k
  · subst e; simp [(List.getElem?_eq_some_iff.1 h).1]
  · rw [if_neg e, if_neg fun d => e d.symm]
theorem lsV_ins (hi : i < 1024) (h : I[i]? = some u) (hu : u ≠ v) : lsV (I.set i v) v = insN i (lsV I v) := by
  refine lsV_is (up_insN (lsV_up I v) fun e => ?_) fun y => ?_
  · rw [mem_lsV_nat, h] at e
    exact hu (by injection e.2)
  · rw [mem_insN, mem_lsV]
    constructor
    · rintro (e | ⟨k, e, a, b⟩)
      · exact ⟨i, e, hi, by rw [set_some h, if_pos rfl]⟩
      · refine ⟨k, e, a, ?_⟩
        rw [set_some h]
        split
        · rfl
        · exact b
    · rintro ⟨k, e, a, b⟩
      rw [set_some h] at b
      split at b
      · rename_i c; subst c; exact Or.inl e
      · exact Or.inr ⟨k, e, a, b⟩
theorem lsV_del (h : I[i]? = some v) (hi : i < 1024) (hu : x ≠ v) : lsV (I.set i x) v = delN i (lsV I v) := by
  refine lsV_is (up_delN (lsV_up I v)) fun y => ?_
  rw [mem_delN (lsV_up I v) (mem_lsV_nat.2 ⟨hi, h⟩), mem_lsV]
  constructor
  · rintro ⟨⟨k, e, a, b⟩, d⟩
    exact ⟨k, e, a, by rw [set_some h, if_neg (by omega)]; exact b⟩
  · rintro ⟨k, e, a, b⟩
    rw [set_some h] at b
    split at b
    · injection b with b; exact absurd b hu
    · exact ⟨⟨k, e, a, b⟩, by omega⟩
theorem lsV_same (h : I[i]? = some u) (hu : u ≠ v) (hx : x ≠ v) : lsV (I.set i x) v = lsV I v := by
  refine lsV_is (lsV_up I v) fun y => ?_
  rw [mem_lsV]
  constructor
  · rintro ⟨k, e, a, b⟩
    refine ⟨k, e, a, ?_⟩
    rw [set_some h]
    split
    · rename_i c; subst c; rw [h] at b; injection b with b; exact absurd b hu
    · exact b
  · rintro ⟨k, e, a, b⟩
    rw [set_some h] at b
    split at b
    · injection b with b; exact absurd b hx
    · exact ⟨k, e, a, b⟩
theorem lsV_new (v : Int) (h : v ≠ 0) : lsV (List.replicate 1024 0) v = [] := lsV_is List.Pairwise.nil fun y => by
  constructor
  · intro e; cases e
  · rintro ⟨k, _, a, b⟩
    rw [List.getElem?_replicate, if_pos a] at b
    injection b with b
    exact absurd b.symm h
end
end Go.Proofs.Ytllepijlebbjbaa
