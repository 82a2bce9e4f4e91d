/- A heap of items (a number and its worth), without the program: an item that is raised or sunk to its place, where each number stands; what each call answers over a list of items, whatever their order. -/
import Derived.Lib.Hide
namespace Go.Proofs.Ytgkliffhdibghaa

abbrev It := Int × Int
/-- Which of two items comes first. -/
def ltB (x y : It) : Bool := decide (x.2 < y.2 ∨ x.2 = y.2 ∧ x.1 < y.1)
def le (x y : It) : Prop := x.2 < y.2 ∨ x.2 = y.2 ∧ x.1 ≤ y.1
theorem le_refl (x : It) : le x x := by unfold le; omega
theorem le_trans {x y z : It} (h : le x y) (k : le y z) : le x z := by unfold le at *; omega
theorem le_anti {x y : It} (h : le x y) (k : le y x) : x = y := by
  obtain ⟨a, b⟩ := x; obtain ⟨c, d⟩ := y
  unfold le at *
  simp only at h k
  have h1 : a = c := by omega
  have h2 : b = d := by omega
  rw [h1, h2]
theorem le_of_lt {x y : It} (h : ltB x y = true) : le x y := by
  simp only [ltB, decide_eq_true_eq] at h; unfold le; omega
theorem le_of_not {x y : It} (h : ltB x y = false) : le y x := by
  simp only [ltB, decide_eq_false_iff_not] at h; unfold le; omega
theorem not_of_le {x y : It} (h : le x y) : ltB y x = false := by
  unfold le at h
  simp only [ltB, decide_eq_false_iff_not]; omega

/-- The item at a place. -/
def at' (L : List It) (k : Nat) : It := L.getD k (0, 0)
theorem at_get {L : List It} {k : Nat} (h : k < L.length) : L[k]? = some (at' L k) := by
  unfold at'; rw [List.getD_eq_getElem?_getD, List.getElem?_eq_getElem h]; rfl
theorem at_of_get {L : List It} {k : Nat} {x : It} (h : L[k]? = some x) : at' L k = x := by
  unfold at'; rw [List.getD_eq_getElem?_getD, h]; rfl
theorem at_mem {L : List It} {k : Nat} (h : k < L.length) : at' L k ∈ L := List.mem_of_getElem? (at_get h)
/-- Two items have changed their places. -/
def swp (L : List It) (i j : Nat) : List It := (L.set i (at' L j)).set j (at' L i)
theorem swp_length (L : List It) (i j : Nat) : (swp L i j).length = L.length := by simp [swp]
theorem swp_at (L : List It) (i j k : Nat) (hi : i < L.length) (hj : j < L.length) : at' (swp L i j) k = if k = j then at' L i else if k = i then at' L j else at' L k := by
  unfold at' swp
  rw [List.getD_eq_getElem?_getD, List.getElem?_set, List.getElem?_set]
  by_cases h1 : j = k
  · subst h1; simp [at', hj]
  · by_cases h2 : i = k
    · subst h2; simp [at', h1, hi, Ne.symm h1]
    · simp [h1, h2, Ne.symm h1, Ne.symm h2]
theorem swp_perm (L : List It) (i j : Nat) (hi : i < L.length) (hj : j < L.length) : (swp L i j).Perm L := by
  have e : swp L i j = (L.set i L[j]).set j L[i] := by
    unfold swp
    rw [show at' L j = L[j] from at_of_get (List.getElem?_eq_getElem hj), show at' L i = L[i] from at_of_get (List.getElem?_eq_getElem hi)]
  rw [e]
  exact List.set_set_perm hi hj

/-- The first n items stand in the order of a heap. -/
def Heap (L : List It) (n : Nat) : Prop := ∀ k, 0 < k → k < n → le (at' L ((k - 1) / 2)) (at' L k)
/-- But for the item at j, which may have to rise. -/
def UpI (L : List It) (n j : Nat) : Prop :=
  (∀ k, 0 < k → k < n → k ≠ j → le (at' L ((k - 1) / 2)) (at' L k)) ∧ (0 < j → ∀ k, 0 < k → k < n → (k - 1) / 2 = j → le (at' L ((j - 1) / 2)) (at' L k))
/-- But for the item at i, which may have to sink (and, as long as it stands where it began, to rise). -/
def DownI (L : List It) (n i0 i : Nat) : Prop :=
  (∀ k, 0 < k → k < n → (k - 1) / 2 ≠ i → (k ≠ i0 ∨ i0 < i) → le (at' L ((k - 1) / 2)) (at' L k)) ∧ (0 < i → ∀ k, 0 < k → k < n → (k - 1) / 2 = i → le (at' L ((i - 1) / 2)) (at' L k))

theorem Heap.le_root {L : List It} {n : Nat} (h : Heap L n) : ∀ k, k < n → le (at' L 0) (at' L k) := by
  intro k
  induction k using Nat.strongRecOn with
  | _ k ih =>
    intro hk
    by_cases h0 : k = 0
    · subst h0; exact le_refl _
    · exact le_trans (ih ((k - 1) / 2) (by omega) (by omega)) (h k (by omega) hk)
theorem UpI.done {L : List It} {n j : Nat} (h : UpI L n j) (hj : j = 0 ∨ le (at' L ((j - 1) / 2)) (at' L j)) : Heap L n := by
  intro k h0 hk
  by_cases e : k = j
  · subst e
    rcases hj with hj | hj
    · omega
    · exact hj
  · exact h.1 k h0 hk e
theorem UpI.step {L : List It} {n j : Nat} (h : UpI L n j) (hn : n ≤ L.length) (hj : j < n) (h0 : 0 < j) (hl : ltB (at' L j) (at' L ((j - 1) / 2)) = true) : UpI (swp L ((j - 1) / 2) j) n ((j - 1) / 2) := by
  obtain ⟨h1, h2⟩ := h
  have hle := le_of_lt hl
  have hw := fun k => swp_at L ((j - 1) / 2) j k (by omega) (by omega)
  refine ⟨fun k k0 kn kne => ?_, fun p0 k k0 kn kp => ?_⟩
  · rw [hw, hw]
    by_cases e1 : k = j
    · subst e1
      rw [if_neg (by omega), if_pos rfl, if_pos rfl]
      exact hle
    · rw [if_neg e1, if_neg kne]
      by_cases e2 : (k - 1) / 2 = j
      · rw [if_pos e2]
        exact h2 h0 k k0 kn e2
      · rw [if_neg e2]
        by_cases e3 : (k - 1) / 2 = (j - 1) / 2
        · rw [if_pos e3]
          have := h1 k k0 kn e1
          rw [e3] at this
          exact le_trans hle this
        · rw [if_neg e3]
          exact h1 k k0 kn e1
  · rw [hw, hw, if_neg (by omega), if_neg (by omega)]
    have hp := h1 ((j - 1) / 2) p0 (by omega) (by omega)
    by_cases e1 : k = j
    · rw [if_pos e1]; exact hp
    · rw [if_neg e1, if_neg (by omega)]
      have := h1 k k0 kn e1
      rw [kp] at this
      exact le_trans hp this
/-- It stays: no child comes ahead of it. -/
theorem DownI.stop {L : List It} {n i0 i : Nat} (h : DownI L n i0 i) (hc : ∀ k, 0 < k → k < n → (k - 1) / 2 = i → le (at' L i) (at' L k)) : (i0 < i → Heap L n) ∧ (i = i0 → UpI L n i0) := by
  obtain ⟨h1, h2⟩ := h
  refine ⟨fun hlt k k0 kn => ?_, fun e => ⟨fun k k0 kn kne => ?_, fun p0 k k0 kn kp => ?_⟩⟩
  · by_cases e : (k - 1) / 2 = i
    · rw [e]; exact hc k k0 kn e
    · exact h1 k k0 kn e (Or.inr hlt)
  · subst e
    by_cases e : (k - 1) / 2 = i
    · rw [e]; exact hc k k0 kn e
    · exact h1 k k0 kn e (Or.inl kne)
  · subst e
    exact h2 p0 k k0 kn kp
theorem DownI.step {L : List It} {n i0 i j : Nat} (h : DownI L n i0 i) (hn : n ≤ L.length) (hi0 : i0 ≤ i) (hj : j < n) (hp : (j - 1) / 2 = i) (j0 : 0 < j) (hl : ltB (at' L j) (at' L i) = true) (hm : ∀ k, 0 < k → k < n → (k - 1) / 2 = i → le (at' L j) (at' L k)) : DownI (swp L i j) n i0 j := by
  obtain ⟨h1, h2⟩ := h
  have hle := le_of_lt hl
  have hw := fun k => swp_at L i j k (by omega) (by omega)
  refine ⟨fun k k0 kn kne _ => ?_, fun p0 k k0 kn kp => ?_⟩
  · rw [hw, hw, if_neg kne]
    by_cases e1 : k = j
    · subst e1
      rw [if_pos hp, if_pos rfl]
      exact hle
    · rw [if_neg e1]
      by_cases e2 : k = i
      · subst e2
        rw [if_neg (by omega), if_pos rfl]
        exact h2 (by omega) j j0 hj hp
      · rw [if_neg e2]
        by_cases e3 : (k - 1) / 2 = i
        · rw [if_pos e3]
          exact hm k k0 kn e3
        · rw [if_neg e3]
          exact h1 k k0 kn e3 (by omega)
  · rw [hw, hw, hp, if_neg (by omega), if_pos rfl, if_neg (by omega), if_neg (by omega)]
    have := h1 k k0 kn (by omega) (by omega)
    rw [kp] at this
    exact this
/-- An item has been laid at a place of a heap: it may have to sink or rise. -/
theorem Heap.fix {L : List It} {n i : Nat} (h : Heap L n) (hi : i < n) (L' : List It) (hs : ∀ k, k < n → k ≠ i → at' L' k = at' L k) : DownI L' n i i := by
  refine ⟨fun k k0 kn kne hki => ?_, fun p0 k k0 kn kp => ?_⟩
  · rw [hs k kn (by omega), hs ((k - 1) / 2) (by omega) kne]
    exact h k k0 kn
  · rw [hs k kn (by omega), hs ((i - 1) / 2) (by omega) (by omega)]
    have h3 := h k k0 kn
    rw [kp] at h3
    exact le_trans (h i p0 hi) h3
/-- An item has been laid at the end: it may have to rise. -/
theorem Heap.push {L : List It} (h : Heap L L.length) (x : It) : UpI (L ++ [x]) (L ++ [x]).length L.length := by
  have hs : ∀ k, k < L.length → at' (L ++ [x]) k = at' L k := fun k hk => by
    unfold at'; rw [List.getD_eq_getElem?_getD, List.getElem?_append_left hk, ← List.getD_eq_getElem?_getD]
  simp only [List.length_append, List.length_singleton]
  refine ⟨fun k k0 kn kne => ?_, fun p0 k k0 kn kp => (by omega)⟩
  rw [hs k (by omega), hs _ (by omega)]
  exact h k k0 (by omega)
theorem Heap.less {L : List It} {n m : Nat} (h : Heap L n) (hm : m ≤ n) : Heap L m := fun k k0 km => h k k0 (by omega)
theorem Heap.of_at {L L' : List It} {n : Nat} (h : Heap L n) (hs : ∀ k, k < n → at' L' k = at' L k) : Heap L' n := fun k k0 kn => by
  rw [hs k kn, hs _ (by omega)]; exact h k k0 kn
theorem heap_take {L : List It} {n : Nat} (h : Heap L n) (hn : n ≤ L.length) : Heap (L.take n) (L.take n).length := by
  rw [List.length_take, Nat.min_eq_left hn]
  exact h.of_at fun k hk => by unfold at'; rw [List.getD_eq_getElem?_getD, List.getElem?_take_of_lt hk, ← List.getD_eq_getElem?_getD]
theorem heap_nil : Heap [] 0 := fun k _ h => by omega

/-! Where each number stands. -/
structure Idx (L : List It) (M : Int → Option Int) : Prop where
  at_ : ∀ k, k < L.length → M (at' L k).1 = some (k : Int)
  of : ∀ f p, M f = some p → ∃ k : Nat, p = k ∧ k < L.length ∧ (at' L k).1 = f
def updM (M : Int → Option Int) (f : Int) (v : Option Int) : Int → Option Int := fun g => if g = f then v else M g
theorem updM_same (M : Int → Option Int) (f : Int) (v : Option Int) : updM M f v f = v := by simp [updM]
theorem updM_other (M : Int → Option Int) {f g : Int} (v : Option Int) (h : g ≠ f) : updM M f v g = M g := by simp [updM, h]
theorem idx_nil : Idx [] (fun _ => none) := ⟨fun k h => by simp at h, fun f p h => by simp at h⟩
theorem Idx.inj {L : List It} {M : Int → Option Int} (h : Idx L M) {i j : Nat} (hi : i < L.length) (hj : j < L.length) (e : (at' L i).1 = (at' L j).1) : i = j := by
  have h1 := h.at_ i hi
  rw [e, h.at_ j hj] at h1
  injection h1 with h1
  omega
theorem Idx.swp {L : List It} {M : Int → Option Int} (h : Idx L M) {i j : Nat} (hi : i < L.length) (hj : j < L.length) : Idx (swp L i j) (updM (updM M (at' (swp L i j) i).1 (some (i : Int))) (at' (swp L i j) j).1 (some (j : Int))) := by
  have hw := fun k => swp_at L i j k hi hj
  refine ⟨fun k hk => ?_, fun f p hf => ?_⟩
  · rw [swp_length] at hk
    by_cases e1 : k = j
    · subst e1; rw [updM_same]
    · have n1 : (at' (Go.Proofs.Ytgkliffhdibghaa.swp L i j) k).1 ≠ (at' (Go.Proofs.Ytgkliffhdibghaa.swp L i j) j).1 := by
        rw [hw, hw, if_neg e1, if_pos rfl]
        by_cases e2 : k = i
        · subst e2; rw [if_pos rfl]; intro e; exact e1 (h.inj hi hj e.symm)
        · rw [if_neg e2]; intro e; exact e2 (h.inj hk hi e)
      rw [updM_other _ _ n1]
      by_cases e2 : k = i
      · subst e2; rw [updM_same]
      · have n2 : (at' (Go.Proofs.Ytgkliffhdibghaa.swp L i j) k).1 ≠ (at' (Go.Proofs.Ytgkliffhdibghaa.swp L i j) i).1 := by
          rw [hw, hw, if_neg e1, if_neg e2]
          by_cases e3 : i = j
          · subst e3; rw [if_pos rfl]; intro e; exact e2 (h.inj hk hi e)
          · rw [if_neg e3, if_pos rfl]; intro e; exact e1 (h.inj hk hj e)
        rw [updM_other _ _ n2, hw, if_neg e1, if_neg e2]
        exact h.at_ k hk
  · by_cases e1 : f = (at' (Go.Proofs.Ytgkliffhdibghaa.swp L i j) j).1
    · subst e1
      rw [updM_same] at hf
      injection hf with hf
      exact ⟨j, hf.symm, by rw [swp_length]; exact hj, rfl⟩
    · rw [updM_other _ _ e1] at hf
      by_cases e2 : f = (at' (Go.Proofs.Ytgkliffhdibghaa.swp L i j) i).1
      · subst e2
        rw [updM_same] at hf
        injection hf with hf
        exact ⟨i, hf.symm, by rw [swp_length]; exact hi, rfl⟩
      · rw [updM_other _ _ e2] at hf
        obtain ⟨k, hp, hk, e⟩ := h.of f p hf
        refine ⟨k, hp, by rw [swp_length]; exact hk, ?_⟩
        rw [hw]
        by_cases e3 : k = j
        · subst e3
          exfalso
          apply e2
          rw [hw]
          by_cases e4 : i = k
          · subst e4; rw [if_pos rfl]; exact e.symm
          · rw [if_neg e4, if_pos rfl]; exact e.symm
        · rw [if_neg e3]
          by_cases e4 : k = i
          · subst e4
            exfalso
            apply e1
            rw [hw, if_pos rfl]; exact e.symm
          · rw [if_neg e4]; exact e
theorem Idx.push {L : List It} {M : Int → Option Int} (h : Idx L M) {x : It} (hx : M x.1 = none) : Idx (L ++ [x]) (updM M x.1 (some (L.length : Int))) := by
  have hs : ∀ k, k < L.length → at' (L ++ [x]) k = at' L k := fun k hk => by
    unfold at'; rw [List.getD_eq_getElem?_getD, List.getElem?_append_left hk, ← List.getD_eq_getElem?_getD]
  have hl : at' (L ++ [x]) L.length = x := at_of_get (by simp)
  refine ⟨fun k hk => ?_, fun f p hf => ?_⟩
  · simp only [List.length_append, List.length_singleton] at hk
    by_cases e : k = L.length
    · subst e; rw [hl, updM_same]
    · rw [hs k (by omega)]
      have h1 := h.at_ k (by omega)
      rw [updM_other]
      · exact h1
      · intro e2; rw [e2, hx] at h1; cases h1
  · by_cases e : f = x.1
    · subst e
      rw [updM_same] at hf
      injection hf with hf
      exact ⟨L.length, hf.symm, by simp, by rw [hl]⟩
    · rw [updM_other _ _ e] at hf
      obtain ⟨k, hp, hk, e2⟩ := h.of f p hf
      exact ⟨k, hp, by simp only [List.length_append, List.length_singleton]; omega, by rw [hs k hk]; exact e2⟩
/-- The last item has been taken out. -/
theorem Idx.pop {L : List It} {M : Int → Option Int} (h : Idx L M) {n : Nat} (hn : L.length = n + 1) : Idx (L.take n) (updM M (at' L n).1 none) := by
  have hs : ∀ k, k < n → at' (L.take n) k = at' L k := fun k hk => by
    unfold at'; rw [List.getD_eq_getElem?_getD, List.getElem?_take_of_lt hk, ← List.getD_eq_getElem?_getD]
  have hln : (L.take n).length = n := by rw [List.length_take]; omega
  refine ⟨fun k hk => ?_, fun f p hf => ?_⟩
  · rw [hln] at hk
    rw [hs k hk, updM_other]
    · exact h.at_ k (by omega)
    · intro e
      have := h.inj (by omega) (by omega) e
      omega
  · by_cases e : f = (at' L n).1
    · subst e; rw [updM_same] at hf; cases hf
    · rw [updM_other _ _ e] at hf
      obtain ⟨k, hp, hk, e2⟩ := h.of f p hf
      have hkn : k ≠ n := by rintro rfl; exact e e2.symm
      exact ⟨k, hp, by rw [hln]; omega, by rw [hs k (by omega)]; exact e2⟩
/-- An item has got another worth. -/
theorem Idx.set_ {L : List It} {M : Int → Option Int} (h : Idx L M) {i : Nat} {x : It} (hx : x.1 = (at' L i).1) : Idx (L.set i x) M := by
  have hs : ∀ k, (at' (L.set i x) k).1 = (at' L k).1 := fun k => by
    by_cases e : i = k
    · subst e
      by_cases hl : i < L.length
      · rw [at_of_get (L := L.set i x) (x := x) (by simp [hl])]; exact hx
      · rw [List.set_eq_of_length_le (by omega)]
    · unfold at'; rw [List.getD_eq_getElem?_getD, List.getElem?_set_ne e, ← List.getD_eq_getElem?_getD]
  refine ⟨fun k hk => ?_, fun f p hf => ?_⟩
  · rw [hs]; exact h.at_ k (by simpa using hk)
  · obtain ⟨k, hp, hk, e2⟩ := h.of f p hf
    exact ⟨k, hp, by simpa using hk, by rw [hs]; exact e2⟩
end Go.Proofs.Ytgkliffhdibghaa
