/- What stretches have ahead of a page, and from it on; who has a page; without the program. -/
import Derived.Test.YtekfkglielmfaaaTgB
import Derived.Test.YtekfkglielmfaaaTrD
import Derived.Test.YtekfkglielmfaaaTrF
namespace Go.Proofs.Ytekfkglielmfaaa
def ah1 (p : Nat) (x : Nat × Nat) : List (Nat × Nat) := if x.2 ≤ p then [x] else if p ≤ x.1 then [] else [(x.1, p)]
def bh1 (p : Nat) (x : Nat × Nat) : List (Nat × Nat) := if p ≤ x.1 then [x] else if x.2 ≤ p then [] else [(p, x.2)]
def ahS (p : Nat) (L : List (Nat × Nat)) : List (Nat × Nat) := L.flatMap (ah1 p)
def bhS (p : Nat) (L : List (Nat × Nat)) : List (Nat × Nat) := L.flatMap (bh1 p)
theorem ahS_app (p : Nat) (L M : List (Nat × Nat)) : ahS p (L ++ M) = ahS p L ++ ahS p M := List.flatMap_append ..
theorem bhS_app (p : Nat) (L M : List (Nat × Nat)) : bhS p (L ++ M) = bhS p L ++ bhS p M := List.flatMap_append ..
theorem ahS_cons (p : Nat) (x : Nat × Nat) (M : List (Nat × Nat)) : ahS p (x :: M) = ah1 p x ++ ahS p M := List.flatMap_cons ..
theorem bhS_cons (p : Nat) (x : Nat × Nat) (M : List (Nat × Nat)) : bhS p (x :: M) = bh1 p x ++ bhS p M := List.flatMap_cons ..
theorem ahS_all {p : Nat} : ∀ {L : List (Nat × Nat)}, (∀ x ∈ L, x.2 ≤ p) → ahS p L = L
  | [], _ => rfl
  | x :: r, h => by
    rw [ahS_cons, ahS_all fun y hy => h y (List.mem_cons_of_mem _ hy)]
    unfold ah1
    rw [if_pos (h x List.mem_cons_self)]
    rfl
theorem bhS_none {p : Nat} : ∀ {L : List (Nat × Nat)}, (∀ x ∈ L, x.1 < x.2 ∧ x.2 ≤ p) → bhS p L = []
  | [], _ => rfl
  | x :: r, h => by
    have hx := h x List.mem_cons_self
    rw [bhS_cons, bhS_none fun y hy => h y (List.mem_cons_of_mem _ hy)]
    unfold bh1
    rw [if_neg (by omega), if_pos hx.2]
    rfl
theorem ahS_none {p : Nat} : ∀ {L : List (Nat × Nat)}, (∀ x ∈ L, x.1 < x.2 ∧ p ≤ x.1) → ahS p L = []
  | [], _ => rfl
  | x :: r, h => by
    have hx := h x List.mem_cons_self
    rw [ahS_cons, ahS_none fun y hy => h y (List.mem_cons_of_mem _ hy)]
    unfold ah1
    rw [if_neg (by omega), if_pos hx.2]
    rfl
theorem bhS_all {p : Nat} : ∀ {L : List (Nat × Nat)}, (∀ x ∈ L, p ≤ x.1) → bhS p L = L
  | [], _ => rfl
  | x :: r, h => by
    rw [bhS_cons, bhS_all fun y hy => h y (List.mem_cons_of_mem _ hy)]
    unfold bh1
    rw [if_pos (h x List.mem_cons_self)]
    rfl
theorem ah1_in {p : Nat} {x y : Nat × Nat} (hx : x.1 < x.2) (hy : y ∈ ah1 p x) : y.1 < y.2 ∧ x.1 ≤ y.1 ∧ y.2 ≤ x.2 ∧ y.2 ≤ p := by
  unfold ah1 at hy
  split at hy
  · simp at hy; subst hy; omega
  · split at hy
    · cases hy
    · simp at hy; subst hy; simp; omega
theorem bh1_in {p : Nat} {x y : Nat × Nat} (hx : x.1 < x.2) (hy : y ∈ bh1 p x) : y.1 < y.2 ∧ x.1 ≤ y.1 ∧ y.2 ≤ x.2 ∧ p ≤ y.1 := by
  unfold bh1 at hy
  split at hy
  · simp at hy; subst hy; omega
  · split at hy
    · cases hy
    · simp at hy; subst hy; simp; omega
theorem ahS_in {p : Nat} {L : List (Nat × Nat)} (h : OkS L) {y : Nat × Nat} (hy : y ∈ ahS p L) : y.2 ≤ p := by
  obtain ⟨x, hx, hyx⟩ := List.mem_flatMap.1 hy
  exact (ah1_in (h.in_ x hx).2.1 hyx).2.2.2
theorem bhS_in {p : Nat} {L : List (Nat × Nat)} (h : OkS L) {y : Nat × Nat} (hy : y ∈ bhS p L) : p ≤ y.1 := by
  obtain ⟨x, hx, hyx⟩ := List.mem_flatMap.1 hy
  exact (bh1_in (h.in_ x hx).2.1 hyx).2.2.2
theorem OkS.parts {q : Nat × Nat → List (Nat × Nat)} (hq : ∀ x, x.1 < x.2 → (q x).Pairwise (fun y z => y.2 ≤ z.1) ∧ ∀ y ∈ q x, y.1 < y.2 ∧ x.1 ≤ y.1 ∧ y.2 ≤ x.2) : ∀ {L : List (Nat × Nat)}, OkS L → OkS (L.flatMap q)
  | [], _ => OkS.nil
  | x :: r, h => by
    have hx := h.in_ x List.mem_cons_self
    have hqx := hq x hx.2.1
    rw [List.flatMap_cons]
    refine OkS.join ⟨hqx.1, fun y hy => by have := hqx.2 y hy; omega⟩ (OkS.parts hq h.tail) fun y hy z hz => ?_
    obtain ⟨u, hu, hzu⟩ := List.mem_flatMap.1 hz
    have h1 := (List.pairwise_cons.1 h.up).1 u hu
    have h2 := hqx.2 y hy
    have h3 := (hq u (h.tail.in_ u hu).2.1).2 z hzu
    omega
theorem OkS.ahead {L : List (Nat × Nat)} (h : OkS L) (p : Nat) : OkS (ahS p L) := h.parts fun x hx => by
  refine ⟨?_, fun y hy => ?_⟩
  · unfold ah1; split
    · simp
    · split <;> simp
  · have := ah1_in hx hy
    exact ⟨this.1, this.2.1, this.2.2.1⟩
theorem OkS.behind {L : List (Nat × Nat)} (h : OkS L) (p : Nat) : OkS (bhS p L) := h.parts fun x hx => by
  refine ⟨?_, fun y hy => ?_⟩
  · unfold bh1; split
    · simp
    · split <;> simp
  · have := bh1_in hx hy
    exact ⟨this.1, this.2.1, this.2.2.1⟩
section
variable {l r : Nd} {s : Nat × Nat} {p : Nat}
/-- The page lies ahead of a node's stretch. -/
theorem part_left (h : OkS (Nd.node l s r).L) (hp : p ≤ s.1) : ahS p (Nd.node l s r).L = ahS p l.L ∧ bhS p (Nd.node l s r).L = bhS p l.L ++ s :: r.L := by
  obtain ⟨hl, hr, hs, h1, h2⟩ := h.nd
  have hall : ∀ x ∈ s :: r.L, x.1 < x.2 ∧ p ≤ x.1 := fun x hx => by
    rcases List.mem_cons.1 hx with rfl | hx
    · omega
    · have := h2 x hx
      have := hr.in_ x hx
      omega
  rw [Nd.L_node, ahS_app, bhS_app, ahS_none hall, bhS_all fun x hx => (hall x hx).2, List.append_nil]
  exact ⟨rfl, rfl⟩
theorem part_right (h : OkS (Nd.node l s r).L) (hp : s.2 ≤ p) : ahS p (Nd.node l s r).L = l.L ++ s :: ahS p r.L ∧ bhS p (Nd.node l s r).L = bhS p r.L := by
  obtain ⟨hl, hr, hs, h1, h2⟩ := h.nd
  have hall : ∀ x ∈ l.L, x.1 < x.2 ∧ x.2 ≤ p := fun x hx => by
    have := h1 x hx
    have := hl.in_ x hx
    omega
  rw [Nd.L_node, ahS_app, bhS_app, ahS_cons, bhS_cons, ahS_all fun x hx => (hall x hx).2, bhS_none hall]
  unfold ah1 bh1
  rw [if_pos hp, if_neg (by omega), if_pos hp]
  exact ⟨rfl, rfl⟩
theorem part_mid (h : OkS (Nd.node l s r).L) (h1 : s.1 < p) (h2 : p < s.2) : ahS p (Nd.node l s r).L = l.L ++ [(s.1, p)] ∧ bhS p (Nd.node l s r).L = (p, s.2) :: r.L := by
  obtain ⟨hl, hr, hs, h3, h4⟩ := h.nd
  have hal : ∀ x ∈ l.L, x.1 < x.2 ∧ x.2 ≤ p := fun x hx => by
    have := h3 x hx
    have := hl.in_ x hx
    omega
  have har : ∀ x ∈ r.L, x.1 < x.2 ∧ p ≤ x.1 := fun x hx => by
    have := h4 x hx
    have := hr.in_ x hx
    omega
  rw [Nd.L_node, ahS_app, bhS_app, ahS_cons, bhS_cons, ahS_all fun x hx => (hal x hx).2, bhS_none hal, ahS_none har, bhS_all fun x hx => (har x hx).2]
  unfold ah1 bh1
  rw [if_neg (by omega), if_neg (by omega), if_neg (by omega), if_neg (by omega)]
  exact ⟨rfl, rfl⟩
end
/-- What is put stands between both parts. -/
theorem ins_parts {f t : Nat} (hft : f < t) : ∀ {L : List (Nat × Nat)}, OkS L → (∀ x ∈ L, ¬ (x.1 < t ∧ f < x.2)) → insS f t L = ahS f L ++ (f, t) :: bhS f L
  | [], _, _ => rfl
  | x :: r, h, ho => by
    have hx := h.in_ x List.mem_cons_self
    have hox := ho x List.mem_cons_self
    by_cases c : x.2 ≤ f
    · rw [ahS_cons, bhS_cons]
      unfold ah1 bh1
      rw [if_pos c, if_neg (by omega), if_pos c, insS, if_neg (by omega), ins_parts hft h.tail fun y hy => ho y (List.mem_cons_of_mem _ hy)]
      rfl
    · have hall : ∀ y ∈ x :: r, y.1 < y.2 ∧ f ≤ y.1 := fun y hy => by
        have hy0 := h.in_ y hy
        rcases List.mem_cons.1 hy with rfl | hy
        · omega
        · have := (List.pairwise_cons.1 h.up).1 y hy
          omega
      rw [ahS_none hall, bhS_all fun y hy => (hall y hy).2, insS, if_pos (by omega)]
      rfl
theorem cut_behind {f t : Nat} : ∀ {L : List (Nat × Nat)}, (∀ x ∈ L, x.1 < x.2 ∧ f ≤ x.1) → bhS t L = L.flatMap (ct1 f t)
  | [], _ => rfl
  | x :: r, h => by
    have hx := h x List.mem_cons_self
    rw [bhS_cons, List.flatMap_cons, cut_behind fun y hy => h y (List.mem_cons_of_mem _ hy)]
    congr 1
    unfold bh1 ct1
    by_cases c : t ≤ x.1
    · rw [if_pos c, if_pos (Or.inl c)]
    · have d1 : ¬ (t ≤ x.1 ∨ x.2 ≤ f) := by omega
      have d2 : ¬ x.1 < f := by omega
      rw [if_neg c, if_neg d1, if_neg d2]
      by_cases c2 : x.2 ≤ t
      · have d3 : ¬ t < x.2 := by omega
        rw [if_pos c2, if_neg d3]; rfl
      · have d3 : t < x.2 := by omega
        rw [if_neg c2, if_pos d3]; rfl
theorem cut_parts {f t : Nat} (hft : f < t) : ∀ {L : List (Nat × Nat)}, OkS L → ahS f L ++ bhS t (bhS f L) = L.flatMap (ct1 f t)
  | [], _ => rfl
  | x :: r, h => by
    have hx := h.in_ x List.mem_cons_self
    have hr : ∀ y ∈ r, y.1 < y.2 ∧ x.2 ≤ y.1 := fun y hy => ⟨(h.tail.in_ y hy).2.1, (List.pairwise_cons.1 h.up).1 y hy⟩
    by_cases c : x.2 ≤ f
    · rw [ahS_cons, bhS_cons, List.flatMap_cons, ← cut_parts hft h.tail]
      unfold ah1 bh1 ct1
      rw [if_pos c, if_neg (by omega), if_pos c, if_pos (Or.inr c)]
      rfl
    · by_cases c1 : f ≤ x.1
      · have hall : ∀ y ∈ x :: r, y.1 < y.2 ∧ f ≤ y.1 := fun y hy => by
          rcases List.mem_cons.1 hy with rfl | hy
          · omega
          · have := hr y hy
            omega
        rw [ahS_none hall, bhS_all fun y hy => (hall y hy).2, cut_behind hall]
        rfl
      · have hall : ∀ y ∈ r, y.1 < y.2 ∧ f ≤ y.1 := fun y hy => by
          have := hr y hy
          omega
        have d1 : x.1 < f := by omega
        have d2 : ¬ (t ≤ x.1 ∨ x.2 ≤ f) := by omega
        have e1 : ah1 f x = [(x.1, f)] := by unfold ah1; rw [if_neg c, if_neg c1]
        have e2 : bh1 f x = [(f, x.2)] := by unfold bh1; rw [if_neg c1, if_neg c]
        have e3 : ct1 f t x = [(x.1, f)] ++ bh1 t (f, x.2) := by
          unfold ct1 bh1
          rw [if_neg d2, if_pos d1, if_neg (show ¬ t ≤ (f, x.2).1 from by show ¬ t ≤ f; omega)]
          by_cases c2 : x.2 ≤ t
          · rw [if_neg (show ¬ t < x.2 by omega), if_pos (show (f, x.2).2 ≤ t from c2)]
          · rw [if_pos (show t < x.2 by omega), if_neg (show ¬ (f, x.2).2 ≤ t from c2)]
        rw [ahS_cons, bhS_cons, ahS_none hall, bhS_all fun y hy => (hall y hy).2, List.flatMap_cons, e1, e2, e3, bhS_app, cut_behind hall, List.append_nil, List.append_assoc]
        rw [show bhS t [(f, x.2)] = bh1 t (f, x.2) from by rw [bhS_cons]; exact List.append_nil _]
theorem OkS.apart {L : List (Nat × Nat)} : OkS L → ∀ {x y : Nat × Nat}, x ∈ L → y ∈ L → x = y ∨ x.2 ≤ y.1 ∨ y.2 ≤ x.1 := by
  induction L with
  | nil => intro _ x y hx _; cases hx
  | cons z r ih =>
    intro h x y hx hy
    rcases List.mem_cons.1 hx with ex | hx'
    · subst ex
      rcases List.mem_cons.1 hy with ey | hy'
      · exact Or.inl ey.symm
      · exact Or.inr (Or.inl ((List.pairwise_cons.1 h.up).1 y hy'))
    · rcases List.mem_cons.1 hy with ey | hy'
      · subst ey
        exact Or.inr (Or.inr ((List.pairwise_cons.1 h.up).1 x hx'))
      · exact ih h.tail hx' hy'
/-- A stretch is cut out whole. -/
theorem cut_one {f t : Nat} {L : List (Nat × Nat)} (h : OkS L) (hm : (f, t) ∈ L) : L.flatMap (ct1 f t) = L.filter (kpS f t) := by
  have hft := h.in_ _ hm
  have hall : ∀ x ∈ L, ct1 f t x = if kpS f t x = true then [x] else [] := fun x hx => by
    have hx0 := h.in_ x hx
    unfold kpS
    by_cases c : x = (f, t)
    · subst c
      unfold ct1
      simp
      omega
    · rw [ct1_keep (by rcases h.apart hx hm with c' | c' | c'
                       · exact absurd c' c
                       · exact Or.inr c'
                       · exact Or.inl c'), if_pos]
      simp only [Bool.not_eq_true', decide_eq_false_iff_not]
      rintro ⟨c1, c2⟩
      exact c (Prod.ext (by show x.1 = f; omega) (by show x.2 = t; omega))
  clear hm hft h
  induction L with
  | nil => rfl
  | cons x r ih =>
    rw [List.flatMap_cons, hall x List.mem_cons_self, ih fun y hy => hall y (List.mem_cons_of_mem _ hy), List.filter_cons]
    split <;> simp [*]
/-- The node nearest to the root that has one of some pages. -/
def Nd.mt (a b : Int) : Nd → Nd
  | .nil => .nil
  | .node l s r => if b < (s.1 : Int) then l.mt a b else if (s.2 : Int) ≤ a then r.mt a b else .node l s r
theorem mt_spec {a b : Int} (hab : a ≤ b) : ∀ {T : Nd}, OkS T.L → (T.mt a b = .nil ∧ ∀ x ∈ T.L, b < (x.1 : Int) ∨ (x.2 : Int) ≤ a) ∨ (∃ l s r, T.mt a b = .node l s r ∧ s ∈ T.L ∧ (s.1 : Int) ≤ b ∧ a < (s.2 : Int))
  | .nil, _ => Or.inl ⟨rfl, fun x hx => (by cases hx)⟩
  | .node l s r, h => by
    obtain ⟨hl, hr, hs, h1, h2⟩ := h.nd
    rw [Nd.mt, Nd.L_node]
    by_cases c1 : b < (s.1 : Int)
    · rw [if_pos c1]
      rcases mt_spec hab hl with ⟨e, k⟩ | ⟨l', s', r', e, k, k'⟩
      · refine Or.inl ⟨e, fun x hx => ?_⟩
        rcases List.mem_append.1 hx with hx | hx
        · exact k x hx
        · rcases List.mem_cons.1 hx with rfl | hx
          · exact Or.inl c1
          · have := h2 x hx
            omega
      · exact Or.inr ⟨l', s', r', e, List.mem_append_left _ k, k'⟩
    · rw [if_neg c1]
      by_cases c2 : (s.2 : Int) ≤ a
      · rw [if_pos c2]
        rcases mt_spec hab hr with ⟨e, k⟩ | ⟨l', s', r', e, k, k'⟩
        · refine Or.inl ⟨e, fun x hx => ?_⟩
          rcases List.mem_append.1 hx with hx | hx
          · have := h1 x hx
            omega
          · rcases List.mem_cons.1 hx with rfl | hx
            · exact Or.inr c2
            · exact k x hx
        · exact Or.inr ⟨l', s', r', e, by simp [k], k'⟩
      · rw [if_neg c2]
        exact Or.inr ⟨l, s, r, rfl, by simp, by omega, by omega⟩
/-- Of a page. -/
theorem mt_page {p : Int} {T : Nd} (h : OkS T.L) : (T.mt p p = .nil ∧ ∀ x ∈ T.L, ¬ ((x.1 : Int) ≤ p ∧ p < x.2)) ∨ (∃ l s r, T.mt p p = .node l s r ∧ s ∈ T.L ∧ (s.1 : Int) ≤ p ∧ p < (s.2 : Int)) := by
  rcases mt_spec (Int.le_refl p) h with ⟨e, k⟩ | k
  · exact Or.inl ⟨e, fun x hx c => by have := k x hx; omega⟩
  · exact Or.inr k
theorem FdIs.one {L : List (Nat × Nat)} (ok : OkS L) {p a b a' b' : Int} {v v' : Bool} (h : FdIs L p a b v) (h' : FdIs L p a' b' v') : a = a' ∧ b = b' ∧ v = v' := by
  rcases h with ⟨rfl, rfl, rfl, h⟩ | ⟨rfl, x, hx, rfl, rfl, h⟩
  · rcases h' with ⟨rfl, rfl, rfl, -⟩ | ⟨rfl, y, hy, rfl, rfl, k⟩
    · exact ⟨rfl, rfl, rfl⟩
    · exact absurd k (h y hy)
  · rcases h' with ⟨rfl, rfl, rfl, k⟩ | ⟨rfl, y, hy, rfl, rfl, k⟩
    · exact absurd h (k x hx)
    · rcases ok.apart hx hy with rfl | c | c
      · exact ⟨rfl, rfl, rfl⟩
      · omega
      · omega
end Go.Proofs.Ytekfkglielmfaaa
