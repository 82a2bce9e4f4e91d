/- Objects, without the program: what the owners' map and each object's map of frames say, and what becomes of it with each call. -/
import Derived.Test.YtnpacdbkmpchnaaO9
namespace Go.Proofs.Ytnpacdbkmpchnaa
/-- Whose a frame is, as a pair; an object's page's frame. -/
def sayW (L : List Og) : Int → Option Value := fun f => if owE L f = 0 then some (.agg #[.int .i64 (owI L f), .int .i64 (owP L f)]) else none
def sayF (L : List Og) (i : Int) : Int → Option Value := fun p => if frE L i p = 0 then some (.int .i64 (frV L i p)) else none
section
variable {H H' : List Int} {L L' : List Og} {i p f : Int}
theorem sayW_at (h : Good H L) {x : Og} (hx : x ∈ L) : sayW L x.f = some (.agg #[.int .i64 x.i, .int .i64 x.p]) := by
  obtain ⟨e1, e2, e3, _⟩ := h.looks hx
  unfold sayW
  rw [if_pos e3, e1, e2]
theorem sayF_at (h : Good H L) {x : Og} (hx : x ∈ L) : sayF L x.i x.p = some (.int .i64 x.f) := by
  obtain ⟨_, _, _, e4, e5⟩ := h.looks hx
  unfold sayF
  rw [if_pos e5, e4]
theorem sayW_no (h : ∀ x ∈ L, x.f ≠ f) : sayW L f = none := by
  have c : ¬ fi (byF f) L < L.length := fi_none.2 fun x hx => decide_eq_false (h x hx)
  unfold sayW owE
  rw [if_neg c, if_neg (by decide)]
theorem sayF_no (h : ∀ x ∈ L, ¬ (x.i = i ∧ x.p = p)) : sayF L i p = none := by
  have c : ¬ fi (byP i p) L < L.length := fi_none.2 fun x hx => by
    unfold byP
    by_cases e : x.i = i
    · rw [decide_eq_true e, decide_eq_false (fun e2 => h x hx ⟨e, e2⟩)]; rfl
    · rw [decide_eq_false e]; rfl
  unfold sayF frE
  rw [if_neg c, if_neg (by decide)]
theorem sayW_is : (sayW L f).isSome = true ↔ owE L f = 0 := by
  unfold sayW
  by_cases c : owE L f = 0
  · rw [if_pos c]; exact ⟨fun _ => c, fun _ => rfl⟩
  · rw [if_neg c]; exact ⟨fun e => (by cases e), fun e => absurd e c⟩
theorem sayF_is : (sayF L i p).isSome = true ↔ frE L i p = 0 := by
  unfold sayF
  by_cases c : frE L i p = 0
  · rw [if_pos c]; exact ⟨fun _ => c, fun _ => rfl⟩
  · rw [if_neg c]; exact ⟨fun e => (by cases e), fun e => absurd e c⟩
theorem owE_of : owE L f = 0 ↔ 0 ≤ ofI L f := by
  rw [ofI_pos]
  unfold owE
  by_cases c : fi (byF f) L < L.length
  · rw [if_pos c]; exact ⟨fun _ => c, fun _ => rfl⟩
  · rw [if_neg c]; exact ⟨fun e => (by cases e), fun e => absurd e c⟩
/-- Only pages and frames that are in a list are told. -/
theorem sayW_mem (e : sayW L f ≠ none) : ∃ x ∈ L, x.f = f := Classical.byContradiction fun c => e (sayW_no fun x hx hf => c ⟨x, hx, hf⟩)
theorem sayF_mem (e : sayF L i p ≠ none) : ∃ x ∈ L, x.i = i ∧ x.p = p := Classical.byContradiction fun c => e (sayF_no fun x hx hf => c ⟨x, hx, hf⟩)
theorem sayW_ext (h : Good H L) (h' : Good H' L') (e : ∀ x : Og, x.f = f → (x ∈ L ↔ x ∈ L')) : sayW L' f = sayW L f := by
  by_cases c : ∃ x ∈ L, x.f = f
  · obtain ⟨x, hx, rfl⟩ := c
    rw [sayW_at h hx, sayW_at h' ((e x rfl).1 hx)]
  · rw [sayW_no (fun x hx hf => c ⟨x, hx, hf⟩), sayW_no (fun x hx hf => c ⟨x, (e x hf).2 hx, hf⟩)]
theorem sayF_ext (h : Good H L) (h' : Good H' L') (e : ∀ x : Og, x.i = i → x.p = p → (x ∈ L ↔ x ∈ L')) : sayF L' i p = sayF L i p := by
  by_cases c : ∃ x ∈ L, x.i = i ∧ x.p = p
  · obtain ⟨x, hx, rfl, rfl⟩ := c
    rw [sayF_at h hx, sayF_at h' ((e x rfl rfl).1 hx)]
  · rw [sayF_no (fun x hx hf => c ⟨x, hx, hf⟩), sayF_no (fun x hx hf => c ⟨x, (e x hf.1 hf.2).2 hx, hf⟩)]
/-- An object that is not there has no page. -/
theorem sayF_out (h : Good H L) (c : isB H i = false) : sayF L i p = none := sayF_no fun x hx e => by
  have := h.al x hx
  rw [e.1, c] at this
  cases this
/-! Set. -/
theorem seE_ok (c : seE H L i p f = 0) : isB H i = true ∧ rgB p f = false ∧ ¬ frE L i p = 0 ∧ ¬ 0 ≤ ofI L f ∧ 0 ≤ p ∧ p ≤ 4095 ∧ 0 ≤ f ∧ f ≤ 1023 := by
  unfold seE at c
  by_cases c1 : isB H i = false
  · rw [if_pos c1] at c; cases c
  · rw [if_neg c1] at c
    by_cases c2 : rgB p f = true
    · rw [if_pos c2] at c; cases c
    · rw [if_neg c2] at c
      by_cases c3 : frE L i p = 0 ∨ 0 ≤ ofI L f
      · rw [if_pos c3] at c; cases c
      · have c2' : rgB p f = false := by simpa using c2
        unfold rgB at c2
        simp only [Bool.or_eq_true, decide_eq_true_eq, not_or] at c2
        exact ⟨by simpa using c1, c2', fun e => c3 (Or.inl e), fun e => c3 (Or.inr e), by omega, by omega, by omega, by omega⟩
theorem seL_yesO (c : seE H L i p f = 0) : seL H L i p f = L ++ [⟨i, p, f⟩] := if_pos c
theorem sayW_set (h : Good H L) (c : seE H L i p f = 0) (g : Int) : sayW (seL H L i p f) g = if g = f then some (.agg #[.int .i64 i, .int .i64 p]) else sayW L g := by
  have h' := h.set i p f
  have hm : (⟨i, p, f⟩ : Og) ∈ seL H L i p f := by rw [seL_yesO c]; exact List.mem_append_right _ (List.mem_singleton.2 rfl)
  by_cases e : g = f
  · subst e
    rw [if_pos rfl]
    exact sayW_at h' hm
  · rw [if_neg e]
    refine sayW_ext h h' fun x hx => ?_
    rw [seL_yesO c, List.mem_append, List.mem_singleton]
    constructor
    · exact Or.inl
    · rintro (q | rfl)
      · exact q
      · exact absurd hx.symm e
theorem sayF_set (h : Good H L) (c : seE H L i p f = 0) (j q : Int) : sayF (seL H L i p f) j q = if j = i ∧ q = p then some (.int .i64 f) else sayF L j q := by
  have h' := h.set i p f
  have hm : (⟨i, p, f⟩ : Og) ∈ seL H L i p f := by rw [seL_yesO c]; exact List.mem_append_right _ (List.mem_singleton.2 rfl)
  by_cases e : j = i ∧ q = p
  · obtain ⟨rfl, rfl⟩ := e
    rw [if_pos ⟨rfl, rfl⟩]
    exact sayF_at h' hm
  · rw [if_neg e]
    refine sayF_ext h h' fun x h1 h2 => ?_
    rw [seL_yesO c, List.mem_append, List.mem_singleton]
    constructor
    · exact Or.inl
    · rintro (d | rfl)
      · exact d
      · exact absurd ⟨h1.symm, h2.symm⟩ e
/-! Change. -/
theorem chL_mem (h : Good H L) {a t : Int} (c : chE L a t = 0) : ∃ y ∈ L, y.f = a ∧ owI L a = y.i ∧ owP L a = y.p ∧ owE L a = 0 ∧ ∀ x, x ∈ chL L a t ↔ (x ∈ L ∧ x.f ≠ a) ∨ x = { y with f := t } := by
  obtain ⟨k1, k2, k3, k4⟩ := chE_ok c
  obtain ⟨k, hk⟩ : ∃ k, k = fi (byF a) L := ⟨_, rfl⟩
  have hf : (L[fi (byF a) L]).f = a := (byF_mem k1).1
  have hm := (byF_mem k1).2
  have hl := h.looks hm
  rw [hf] at hl
  have hC : chL L a t = L.set (fi (byF a) L) { L[fi (byF a) L] with f := t } := by unfold chL; rw [if_pos c, dif_pos k1]
  refine ⟨_, hm, hf, hl.1, hl.2.1, hl.2.2.1, fun x => ?_⟩
  rw [hC]
  simp only [← hk] at k1 hf ⊢
  constructor
  · intro hx
    obtain ⟨j, hj, rfl⟩ := List.getElem_of_mem hx
    rw [List.length_set] at hj
    rw [List.getElem_set]
    by_cases e : k = j
    · rw [if_pos e]; exact Or.inr rfl
    · rw [if_neg e]
      refine Or.inl ⟨List.getElem_mem hj, fun e2 => ?_⟩
      rcases Nat.lt_trichotomy j k with d | d | d
      · exact pw_get h.fr d k1 (e2.trans hf.symm)
      · exact e d.symm
      · exact pw_get h.fr d hj (hf.trans e2.symm)
  · rintro (⟨hx, hne⟩ | rfl)
    · obtain ⟨j, hj, rfl⟩ := List.getElem_of_mem hx
      have e : k ≠ j := fun e => by subst e; exact hne hf
      have : (L.set k { L[k] with f := t })[j]'(by rw [List.length_set]; exact hj) = L[j] := by rw [List.getElem_set, if_neg e]
      rw [← this]
      exact List.getElem_mem _
    · exact List.mem_set k1 _
theorem sayW_change (h : Good H L) {a t : Int} (c : chE L a t = 0) (g : Int) : sayW (chL L a t) g = if g = t then some (.agg #[.int .i64 (owI L a), .int .i64 (owP L a)]) else if g = a then none else sayW L g := by
  obtain ⟨y, hy, e1, e2, e3, e4, hm⟩ := chL_mem h c
  have h' := h.change a t
  have hat : a ≠ t := fun e => by
    subst e
    have := chE_ok c
    exact this.2.2.2 this.1
  by_cases e : g = t
  · subst e
    rw [if_pos rfl, e2, e3]
    exact sayW_at h' ((hm { y with f := g }).2 (Or.inr rfl))
  · rw [if_neg e]
    by_cases d : g = a
    · subst d
      rw [if_pos rfl]
      refine sayW_no fun x hx hf => ?_
      rcases (hm x).1 hx with q | rfl
      · exact q.2 hf
      · exact e hf.symm
    · rw [if_neg d]
      refine sayW_ext h h' fun x hx => ?_
      rw [hm x]
      constructor
      · intro q; exact Or.inl ⟨q, fun e => d (hx.symm.trans e)⟩
      · rintro (q | rfl)
        · exact q.1
        · exact absurd hx.symm e
theorem sayF_change (h : Good H L) {a t : Int} (c : chE L a t = 0) (j q : Int) : sayF (chL L a t) j q = if j = owI L a ∧ q = owP L a then some (.int .i64 t) else sayF L j q := by
  obtain ⟨y, hy, e1, e2, e3, e4, hm⟩ := chL_mem h c
  have h' := h.change a t
  rw [e2, e3]
  by_cases e : j = y.i ∧ q = y.p
  · obtain ⟨rfl, rfl⟩ := e
    rw [if_pos ⟨rfl, rfl⟩]
    exact sayF_at h' ((hm { y with f := t }).2 (Or.inr rfl))
  · rw [if_neg e]
    refine sayF_ext h h' fun x h1 h2 => ?_
    rw [hm x]
    constructor
    · intro k
      refine Or.inl ⟨k, fun e5 => e ?_⟩
      have := h.one k hy (e5.trans e1.symm)
      subst this
      exact ⟨h1.symm, h2.symm⟩
    · rintro (k | rfl)
      · exact k.1
      · exact absurd ⟨h1.symm, h2.symm⟩ e
/-! Drop. -/
theorem outL_mem {x : Og} : x ∈ outL L i ↔ x ∈ L ∧ x.i ≠ i := by
  unfold outL
  rw [List.mem_filter, decide_eq_true_eq]
theorem sayF_out_ (h : Good H L) (h' : Good H' (outL L i)) {j : Int} (q : Int) (hj : j ≠ i) : sayF (outL L i) j q = sayF L j q :=
  sayF_ext h h' fun x h1 _ => by
    rw [outL_mem]
    exact ⟨fun k => ⟨k, fun e => hj (h1.symm.trans e)⟩, fun k => k.1⟩
theorem sayW_out (h : Good H L) (h' : Good H' (outL L i)) (g : Int) : sayW (outL L i) g = if g ∈ frs L i then none else sayW L g := by
  by_cases c : g ∈ frs L i
  · rw [if_pos c]
    obtain ⟨x, hx, h1, h2⟩ := (frs_mem h).1 c
    refine sayW_no fun y hy hf => ?_
    obtain ⟨y1, y2⟩ := outL_mem.1 hy
    have := h.one y1 hx (hf.trans h2.symm)
    subst this
    exact y2 h1
  · rw [if_neg c]
    refine sayW_ext h h' fun x hx => ?_
    rw [outL_mem]
    exact ⟨fun k => ⟨k, fun e => c ((frs_mem h).2 ⟨x, k, e, hx⟩)⟩, fun k => k.1⟩
/-! Who is there behind a call. -/
theorem isB_iff {j : Int} : isB H j = true ↔ ∃ k : Nat, j = k ∧ k < H.length ∧ 0 < H.getD k 0 := ⟨isB_get, fun ⟨k, e, h1, h2⟩ => by rw [e]; exact isB_of h1 h2⟩
theorem isB_eq {j k : Int} (h : isB H j = true ↔ isB H' k = true) : isB H j = isB H' k := by
  cases e1 : isB H j
  · cases e2 : isB H' k
    · rfl
    · exact absurd (h.2 e2) (by rw [e1]; decide)
  · exact (h.1 e1).symm
theorem isB_make (j : Int) : isB (mkH H) j = if j = H.length then true else isB H j := by
  by_cases e : j = H.length
  · subst e
    rw [if_pos rfl]
    unfold mkH
    refine isB_of (by simp) ?_
    rw [getD_snoc, if_neg (by omega), if_pos rfl]; decide
  · rw [if_neg e]
    refine isB_eq ?_
    rw [isB_iff, isB_iff]
    unfold mkH
    constructor
    · rintro ⟨k, rfl, h1, h2⟩
      rw [List.length_append] at h1
      rw [getD_snoc] at h2
      have h1 : k < H.length + 1 := h1
      have : k < H.length := by omega
      rw [if_pos this] at h2
      exact ⟨k, rfl, this, h2⟩
    · rintro ⟨k, rfl, h1, h2⟩
      refine ⟨k, rfl, by rw [List.length_append]; omega, ?_⟩
      rw [getD_snoc, if_pos h1]; exact h2
theorem isB_set {k : Nat} {v : Int} (hk : k < H.length) (j : Int) : isB (H.set k v) j = if j = k then decide (0 < v) else isB H j := by
  by_cases e : j = k
  · subst e
    rw [if_pos rfl]
    by_cases c : 0 < v
    · rw [decide_eq_true c]
      exact isB_of (by rw [List.length_set]; exact hk) (by rw [getD_set _ hk, if_pos rfl]; exact c)
    · rw [decide_eq_false c]
      cases d : isB (H.set k v) (k : Int)
      · rfl
      · obtain ⟨m, e, _, d2⟩ := isB_get d
        obtain rfl : k = m := by omega
        rw [getD_set _ hk, if_pos rfl] at d2
        exact absurd d2 c
  · rw [if_neg e]
    refine isB_eq ?_
    rw [isB_iff, isB_iff]
    constructor
    · rintro ⟨m, rfl, h1, h2⟩
      rw [List.length_set] at h1
      rw [getD_set _ hk, if_neg (by omega)] at h2
      exact ⟨m, rfl, h1, h2⟩
    · rintro ⟨m, rfl, h1, h2⟩
      exact ⟨m, rfl, by rw [List.length_set]; exact h1, by rw [getD_set _ hk, if_neg (by omega)]; exact h2⟩
end
end Go.Proofs.Ytnpacdbkmpchnaa
