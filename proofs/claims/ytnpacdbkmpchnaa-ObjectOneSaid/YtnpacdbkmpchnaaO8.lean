/- Objects, without the program: what holds of a state, and that each call keeps it; what the laws want. -/
import Derived.Test.YtnpacdbkmpchnaaO0
namespace Go.Proofs.Ytnpacdbkmpchnaa

/-- A state as it may be. -/
structure Good (H : List Int) (L : List Og) : Prop where
  fr : L.Pairwise fun x y => x.f ≠ y.f
  pg : L.Pairwise fun x y => ¬ (x.i = y.i ∧ x.p = y.p)
  rg : ∀ x ∈ L, 0 ≤ x.f ∧ x.f ≤ 1023 ∧ 0 ≤ x.p ∧ x.p ≤ 4095
  al : ∀ x ∈ L, isB H x.i = true
theorem Good.nil : Good [] [] := ⟨List.Pairwise.nil, List.Pairwise.nil, (fun x h => by cases h), (fun x h => by cases h)⟩
section
variable {H : List Int} {L : List Og}
theorem pw_get {α : Type} {R : α → α → Prop} {L : List α} (h : L.Pairwise R) {j k : Nat} (hjk : j < k) (hk : k < L.length) : R L[j] L[k] := by
  induction L generalizing j k with
  | nil => cases hk
  | cons a r ih =>
    obtain ⟨h1, h2⟩ := List.pairwise_cons.1 h
    cases k with
    | zero => omega
    | succ k =>
      have hk' : k < r.length := by simp at hk; omega
      cases j with
      | zero => exact h1 _ (List.getElem_mem hk')
      | succ j => exact ih h2 (by omega) hk'
/-- Frames are of one page each. -/
theorem Good.one (h : Good H L) {x y : Og} (hx : x ∈ L) (hy : y ∈ L) (e : x.f = y.f) : x = y := by
  obtain ⟨j, hj, rfl⟩ := List.getElem_of_mem hx
  obtain ⟨k, hk, rfl⟩ := List.getElem_of_mem hy
  rcases Nat.lt_trichotomy j k with c | c | c
  · exact absurd e (pw_get h.fr c hk)
  · subst c; rfl
  · exact absurd e.symm (pw_get h.fr c hj)
theorem Good.page (h : Good H L) {x y : Og} (hx : x ∈ L) (hy : y ∈ L) (e : x.i = y.i) (e2 : x.p = y.p) : x = y := by
  obtain ⟨j, hj, rfl⟩ := List.getElem_of_mem hx
  obtain ⟨k, hk, rfl⟩ := List.getElem_of_mem hy
  rcases Nat.lt_trichotomy j k with c | c | c
  · exact absurd ⟨e, e2⟩ (pw_get h.pg c hk)
  · subst c; rfl
  · exact absurd ⟨e.symm, e2.symm⟩ (pw_get h.pg c hj)
theorem byF_mem {f : Int} (h : fi (byF f) L < L.length) : (L[fi (byF f) L]).f = f ∧ L[fi (byF f) L] ∈ L := ⟨of_decide_eq_true (fi_at h), fi_mem h⟩
theorem byP_mem {i p : Int} (h : fi (byP i p) L < L.length) : (L[fi (byP i p) L]).i = i ∧ (L[fi (byP i p) L]).p = p ∧ L[fi (byP i p) L] ∈ L := by
  have := fi_at h
  unfold byP at this
  rw [Bool.and_eq_true] at this
  exact ⟨of_decide_eq_true this.1, of_decide_eq_true this.2, fi_mem h⟩
theorem byF_in {x : Og} (hx : x ∈ L) : fi (byF x.f) L < L.length := Classical.byContradiction fun h => by
  have := fi_none.1 h x hx
  unfold byF at this
  rw [decide_eq_true rfl] at this
  cases this
theorem byP_in {x : Og} (hx : x ∈ L) : fi (byP x.i x.p) L < L.length := Classical.byContradiction fun h => by
  have := fi_none.1 h x hx
  unfold byP at this
  rw [decide_eq_true rfl, decide_eq_true rfl] at this
  cases this
/-- What is looked up of a page that is there. -/
theorem Good.looks (h : Good H L) {x : Og} (hx : x ∈ L) : owI L x.f = x.i ∧ owP L x.f = x.p ∧ owE L x.f = 0 ∧ frV L x.i x.p = x.f ∧ frE L x.i x.p = 0 := by
  have h1 := byF_in hx
  have h2 := byP_in hx
  have e1 := h.one (byF_mem h1).2 hx (byF_mem h1).1
  have e2 := h.page (byP_mem h2).2.2 hx (byP_mem h2).1 (byP_mem h2).2.1
  refine ⟨?_, ?_, if_pos h1, ?_, if_pos h2⟩
  · unfold owI; rw [dif_pos h1, e1]
  · unfold owP; rw [dif_pos h1, e1]
  · unfold frV; rw [dif_pos h2, e2]
theorem has_iff (h : Good H L) {i : Int} {f : Nat} : hasF L i f = true ↔ ∃ x ∈ L, x.i = i ∧ x.f = f := by
  unfold hasF
  by_cases c : fi (byF (f : Int)) L < L.length
  · rw [dif_pos c, decide_eq_true_eq]
    obtain ⟨e1, e2⟩ := byF_mem c
    constructor
    · intro e; exact ⟨_, e2, e, e1⟩
    · rintro ⟨x, hx, rfl, hf⟩
      exact congrArg Og.i (h.one e2 hx (e1.trans hf.symm))
  · rw [dif_neg c]
    constructor
    · intro e; cases e
    · rintro ⟨x, hx, _, hf⟩
      rw [← hf] at c
      exact absurd (byF_in hx) c
theorem frs_mem (h : Good H L) {i f : Int} : f ∈ frs L i ↔ ∃ x ∈ L, x.i = i ∧ x.f = f := by
  unfold frs frsN
  rw [List.mem_map]
  constructor
  · rintro ⟨k, hk, rfl⟩
    rw [List.mem_filter] at hk
    obtain ⟨x, hx, e1, e2⟩ := (has_iff h).1 hk.2
    exact ⟨x, hx, e1, e2⟩
  · rintro ⟨x, hx, rfl, rfl⟩
    have hr := h.rg x hx
    refine ⟨x.f.toNat, ?_, by omega⟩
    rw [List.mem_filter, List.mem_range]
    exact ⟨by omega, (has_iff h).2 ⟨x, hx, rfl, by omega⟩⟩
theorem range_up (n : Nat) : (List.range n).Pairwise fun a b => a < b := by
  induction n with
  | zero => exact List.Pairwise.nil
  | succ n ih =>
    rw [List.range_succ, List.pairwise_append]
    exact ⟨ih, List.pairwise_singleton _ _, fun a ha b hb => by
      rw [List.mem_range] at ha
      rw [List.mem_singleton] at hb
      omega⟩
theorem frs_up (L : List Og) (i : Int) : (frs L i).Pairwise fun a b => a < b := by
  unfold frs frsN
  rw [List.pairwise_map]
  exact ((range_up 1024).sublist List.filter_sublist).imp fun h => by omega
/-- Lists that rise are known by their members. -/
theorem up_ext : ∀ (L M : List Int), (L.Pairwise fun a b => a < b) → (M.Pairwise fun a b => a < b) → (∀ x, x ∈ L ↔ x ∈ M) → L = M
  | [], [], _, _, _ => rfl
  | [], b :: s, _, _, h => absurd ((h b).2 (List.mem_cons_self ..)) (by simp)
  | a :: r, [], _, _, h => absurd ((h a).1 (List.mem_cons_self ..)) (by simp)
  | a :: r, b :: s, hL, hM, h => by
    obtain ⟨l1, l2⟩ := List.pairwise_cons.1 hL
    obtain ⟨m1, m2⟩ := List.pairwise_cons.1 hM
    have e : a = b := by
      rcases List.mem_cons.1 ((h a).1 (List.mem_cons_self ..)) with c | c
      · exact c
      · rcases List.mem_cons.1 ((h b).2 (List.mem_cons_self ..)) with d | d
        · exact d.symm
        · have := m1 a c; have := l1 b d; omega
    subst e
    rw [up_ext r s l2 m2 fun x => ?_]
    constructor
    · intro hx
      rcases List.mem_cons.1 ((h x).1 (List.mem_cons_of_mem _ hx)) with c | c
      · subst c; exact absurd (l1 x hx) (by omega)
      · exact c
    · intro hx
      rcases List.mem_cons.1 ((h x).2 (List.mem_cons_of_mem _ hx)) with c | c
      · subst c; exact absurd (m1 x hx) (by omega)
      · exact c
theorem frs_is (h : Good H L) {i : Int} {R : List Int} (hu : R.Pairwise fun a b => a < b) (hm : ∀ f, f ∈ R ↔ ∃ x ∈ L, x.i = i ∧ x.f = f) : R = frs L i :=
  up_ext R _ hu (frs_up L i) fun f => (hm f).trans (frs_mem h).symm
/-! Each call keeps it. -/
theorem isB_get {i : Int} (h : isB H i = true) : ∃ j : Nat, i = j ∧ j < H.length ∧ 0 < H.getD j 0 := by
  unfold isB at h
  simp only [Bool.and_eq_true, decide_eq_true_eq] at h
  exact ⟨i.toNat, by omega, by omega, h.2⟩
theorem isB_of {j : Nat} (h1 : j < H.length) (h2 : 0 < H.getD j 0) : isB H (j : Int) = true := by
  unfold isB
  rw [decide_eq_true (show (0 : Int) ≤ j by omega), decide_eq_true (show (j : Int) < H.length by omega), Int.toNat_natCast, decide_eq_true h2]
  rfl
theorem getD_set {j k : Nat} (v : Int) (hj : j < H.length) : (H.set j v).getD k 0 = if k = j then v else H.getD k 0 := by
  rw [List.getD_eq_getElem?_getD, List.getD_eq_getElem?_getD]
  by_cases e : k = j
  · subst e; rw [if_pos rfl, List.getElem?_set_self hj]; rfl
  · rw [if_neg e, List.getElem?_set_ne (Ne.symm e)]
theorem Good.make (h : Good H L) : Good (mkH H) L := ⟨h.fr, h.pg, h.rg, fun x hx => by
  obtain ⟨j, e, h1, h2⟩ := isB_get (h.al x hx)
  rw [e]
  unfold mkH
  refine isB_of (by rw [List.length_append]; omega) ?_
  rw [List.getD_eq_getElem?_getD, List.getElem?_append_left h1, ← List.getD_eq_getElem?_getD]; exact h2⟩
theorem Good.hold (h : Good H L) (i : Int) : Good (hoH H i) L := by
  unfold hoH
  by_cases c : isB H i = true
  · rw [if_pos c]
    obtain ⟨j, rfl, h1, h2⟩ := isB_get c
    rw [Int.toNat_natCast]
    refine ⟨h.fr, h.pg, h.rg, fun x hx => ?_⟩
    obtain ⟨k, e, k1, k2⟩ := isB_get (h.al x hx)
    rw [e]
    refine isB_of (by rw [List.length_set]; exact k1) ?_
    rw [getD_set _ h1]
    split
    · omega
    · exact k2
  · rw [if_neg c]; exact h
theorem Good.drop (h : Good H L) (i : Int) : Good (drH H i) (drL H L i) := by
  unfold drH drL
  by_cases c : isB H i = true
  · rw [if_pos c]
    obtain ⟨j, rfl, h1, h2⟩ := isB_get c
    rw [Int.toNat_natCast]
    have hl : lstB H j = decide (H.getD j 0 - 1 ≤ 0) := by unfold lstB; rw [c, Int.toNat_natCast]; rfl
    by_cases d : H.getD j 0 - 1 ≤ 0
    · rw [hl, decide_eq_true d, if_pos rfl]
      refine ⟨h.fr.sublist List.filter_sublist, h.pg.sublist List.filter_sublist, fun x hx => h.rg x (List.mem_filter.1 hx).1, fun x hx => ?_⟩
      obtain ⟨hx1, hx2⟩ := List.mem_filter.1 hx
      have hx2 := of_decide_eq_true hx2
      obtain ⟨k, e, k1, k2⟩ := isB_get (h.al x hx1)
      rw [e] at hx2 ⊢
      refine isB_of (by rw [List.length_set]; exact k1) ?_
      rw [getD_set _ h1, if_neg (by omega)]; exact k2
    · rw [hl, decide_eq_false d, if_neg (by decide)]
      refine ⟨h.fr, h.pg, h.rg, fun x hx => ?_⟩
      obtain ⟨k, e, k1, k2⟩ := isB_get (h.al x hx)
      rw [e]
      refine isB_of (by rw [List.length_set]; exact k1) ?_
      rw [getD_set _ h1]
      split
      · omega
      · exact k2
  · rw [if_neg c, show lstB H i = false by unfold lstB; rw [show isB H i = false by simpa using c]; rfl, if_neg (by decide)]; exact h
theorem Good.set (h : Good H L) (i p f : Int) : Good H (seL H L i p f) := by
  unfold seL
  by_cases c : seE H L i p f = 0
  · rw [if_pos c]
    unfold seE at c
    by_cases c1 : isB H i = false
    · rw [if_pos c1] at c; cases c
    · rw [if_neg c1] at c
      by_cases c2 : rgB p f = true
      · rw [if_pos c2] at c; cases c
      · rw [if_neg c2] at c
        by_cases c3 : frE L i p = 0 ∨ 0 ≤ ofI L f
        · rw [if_pos c3] at c; cases c
        · unfold rgB at c2
          simp only [Bool.or_eq_true, decide_eq_true_eq, not_or] at c2
          have n1 : ¬ fi (byP i p) L < L.length := fun e => c3 (Or.inl (if_pos e))
          have n2 : ¬ fi (byF f) L < L.length := fun e => c3 (Or.inr (ofI_pos.2 e))
          refine ⟨?_, ?_, fun x hx => ?_, fun x hx => ?_⟩
          · rw [List.pairwise_append]
            refine ⟨h.fr, List.pairwise_singleton _ _, fun x hx y hy e => ?_⟩
            rw [List.mem_singleton] at hy
            subst hy
            have e : x.f = f := e
            subst e
            exact n2 (byF_in hx)
          · rw [List.pairwise_append]
            refine ⟨h.pg, List.pairwise_singleton _ _, fun x hx y hy e => ?_⟩
            rw [List.mem_singleton] at hy
            subst hy
            have e1 : x.i = i := e.1
            have e2 : x.p = p := e.2
            subst e1 e2
            exact n1 (byP_in hx)
          · rcases List.mem_append.1 hx with hx | hx
            · exact h.rg x hx
            · rw [List.mem_singleton] at hx
              subst hx
              exact ⟨by show 0 ≤ f; omega, by show f ≤ 1023; omega, by show 0 ≤ p; omega, by show p ≤ 4095; omega⟩
          · rcases List.mem_append.1 hx with hx | hx
            · exact h.al x hx
            · rw [List.mem_singleton] at hx
              subst hx
              show isB H i = true
              simpa using c1
  · rw [if_neg c]; exact h
/-- What a good change says. -/
theorem chE_ok {a t : Int} (c : chE L a t = 0) : fi (byF a) L < L.length ∧ 0 ≤ t ∧ t ≤ 1023 ∧ ¬ fi (byF t) L < L.length := by
  unfold chE at c
  by_cases c1 : ofI L a < 0
  · rw [if_pos c1] at c; cases c
  · rw [if_neg c1] at c
    by_cases c2 : t < 0 ∨ 1023 < t
    · rw [if_pos c2] at c; cases c
    · rw [if_neg c2] at c
      by_cases c3 : 0 ≤ ofI L t
      · rw [if_pos c3] at c; cases c
      · exact ⟨ofI_pos.1 (by omega), by omega, by omega, fun e => c3 (ofI_pos.2 e)⟩
theorem Good.change (h : Good H L) (a t : Int) : Good H (chL L a t) := by
  unfold chL
  by_cases c : chE L a t = 0
  · rw [if_pos c]
    obtain ⟨k1, k2, k3, k4⟩ := chE_ok c
    rw [dif_pos k1]
    obtain ⟨k, hk⟩ : ∃ k, k = fi (byF a) L := ⟨_, rfl⟩
    simp only [← hk] at k1 ⊢
    have nt : ∀ x ∈ L, x.f ≠ t := fun x hx e => k4 (e ▸ byF_in hx)
    have pw : ∀ (R : Og → Og → Prop), L.Pairwise R → (∀ x ∈ L, R x { L[k] with f := t } ∨ x = L[k]) → (∀ x ∈ L, R { L[k] with f := t } x ∨ x = L[k]) → (∀ j m (hj : j < L.length) (hm : m < L.length), j < m → L[j] = L[k] → j ≠ k → False) → (∀ j m (hj : j < L.length) (hm : m < L.length), j < m → L[m] = L[k] → m ≠ k → False) → (L.set k { L[k] with f := t }).Pairwise R := fun R hp q1 q2 q3 q4 => by
      rw [List.pairwise_iff_getElem]
      intro j m hj hm hjm
      rw [List.length_set] at hj hm
      rw [List.getElem_set, List.getElem_set]
      by_cases e1 : k = j
      · rw [if_pos e1, if_neg (by omega)]
        rcases q2 L[m] (List.getElem_mem hm) with r | r
        · exact r
        · exact absurd (q4 j m hj hm hjm r (by omega)) id
      · rw [if_neg e1]
        by_cases e2 : k = m
        · rw [if_pos e2]
          rcases q1 L[j] (List.getElem_mem hj) with r | r
          · exact r
          · exact absurd (q3 j m hj hm hjm r (fun e => e1 e.symm)) id
        · rw [if_neg e2]
          exact List.pairwise_iff_getElem.1 hp j m hj hm hjm
    have inj : ∀ j (hj : j < L.length), L[j] = L[k] → j = k := fun j hj e => by
      rcases Nat.lt_trichotomy j k with d | d | d
      · exact absurd (congrArg Og.f e) (pw_get h.fr d k1)
      · exact d
      · exact absurd (congrArg Og.f e).symm (pw_get h.fr d hj)
    refine ⟨pw _ h.fr (fun x hx => Or.inl (nt x hx)) (fun x hx => Or.inl (Ne.symm (nt x hx))) (fun j m hj hm _ e hne => hne (inj j hj e)) (fun j m hj hm _ e hne => hne (inj m hm e)),
      pw _ h.pg (fun x hx => ?_) (fun x hx => ?_) (fun j m hj hm _ e hne => hne (inj j hj e)) (fun j m hj hm _ e hne => hne (inj m hm e)), fun x hx => ?_, fun x hx => ?_⟩
    · by_cases e : x = L[k]
      · exact Or.inr e
      · exact Or.inl fun ⟨e1, e2⟩ => e (h.page hx (List.getElem_mem k1) e1 e2)
    · by_cases e : x = L[k]
      · exact Or.inr e
      · exact Or.inl fun ⟨e1, e2⟩ => e (h.page hx (List.getElem_mem k1) e1.symm e2.symm)
    · rcases List.mem_or_eq_of_mem_set hx with hx | rfl
      · exact h.rg x hx
      · have := h.rg _ (List.getElem_mem k1)
        exact ⟨k2, k3, this.2.2⟩
    · rcases List.mem_or_eq_of_mem_set hx with hx | rfl
      · exact h.al x hx
      · show isB H L[k].i = true
        exact h.al _ (List.getElem_mem k1)
  · rw [if_neg c]; exact h
end
end Go.Proofs.Ytnpacdbkmpchnaa
