/- Objects, without the program: calls in a row; a change there and back; what is told when nobody holds an object; numbers. -/
import Derived.Test.YtnpacdbkmpchnaaO8
import Derived.Test.YtnpacdbkmpchnaaO7
namespace Go.Proofs.Ytnpacdbkmpchnaa

/-- What a call makes of both. -/
def doH (H : List Int) (l : Ac) : List Int := if l.k = 0 then mkH H else if l.k = 1 then hoH H l.i else if l.k = 2 then drH H l.i else H
def doL (H : List Int) (L : List Og) (l : Ac) : List Og := if l.k = 0 then L else if l.k = 1 then L else if l.k = 2 then drL H L l.i else if l.k = 3 ∨ l.k = 4 ∨ l.k = 5 then seL H L l.i l.p l.f else chL L l.f l.t
def doS (S : List Int × List Og) (l : Ac) : List Int × List Og := (doH S.1 l, doL S.1 S.2 l)
def mdS (M : List Ac) : List Int × List Og := M.foldl doS ([], [])
theorem mdS_next (M : List Ac) {j : Nat} (h : j < M.length) : mdS (M.take (j + 1)) = doS (mdS (M.take j)) M[j] := by
  unfold mdS
  rw [List.take_succ_eq_append_getElem h, List.foldl_append]; rfl
/-- Bounds behind n calls. -/
structure Bnd (n : Nat) (H : List Int) (L : List Og) : Prop where
  good : Good H L
  hl : H.length ≤ n
  ll : L.length ≤ n
  hb : ∀ j, 0 ≤ H.getD j 0 ∧ H.getD j 0 ≤ n
section
variable {H : List Int} {L : List Og} {n : Nat}
theorem getD_nil (j : Nat) : ([] : List Int).getD j 0 = 0 := by rw [List.getD_eq_getElem?_getD]; rfl
theorem Bnd.nil : Bnd 0 [] [] := ⟨Good.nil, Nat.le_refl _, Nat.le_refl _, fun j => by rw [getD_nil]; omega⟩
theorem getD_snoc (H : List Int) (v : Int) (j : Nat) : (H ++ [v]).getD j 0 = if j < H.length then H.getD j 0 else if j = H.length then v else 0 := by
  rw [List.getD_eq_getElem?_getD, List.getD_eq_getElem?_getD, List.getElem?_append]
  by_cases h : j < H.length
  · rw [if_pos h, if_pos h]
  · rw [if_neg h, if_neg h]
    by_cases e : j = H.length
    · subst e; rw [if_pos rfl, Nat.sub_self]; rfl
    · rw [if_neg e, List.getElem?_eq_none (by simp; omega)]; rfl
theorem Bnd.mono {m : Nat} (h : Bnd n H L) (hm : n ≤ m) : Bnd m H L := ⟨h.good, by have := h.hl; omega, by have := h.ll; omega, fun j => by have := h.hb j; omega⟩
theorem Bnd.make (h : Bnd n H L) : Bnd (n + 1) (mkH H) L := ⟨h.good.make, by unfold mkH; rw [List.length_append]; have := h.hl; simp; omega, by have := h.ll; omega, fun j => by
  unfold mkH
  rw [getD_snoc]
  have := h.hb j
  split
  · omega
  · split <;> omega⟩
theorem Bnd.hold (h : Bnd n H L) (i : Int) : Bnd (n + 1) (hoH H i) L := by
  refine ⟨h.good.hold i, ?_, by have := h.ll; omega, fun j => ?_⟩
  · unfold hoH
    have := h.hl
    split
    · rw [List.length_set]; omega
    · omega
  · unfold hoH
    have h1 := h.hb j
    split
    · rename_i c
      obtain ⟨k, rfl, k1, k2⟩ := isB_get c
      rw [Int.toNat_natCast, getD_set _ k1]
      have := h.hb k
      split <;> omega
    · omega
theorem drL_len (H : List Int) (L : List Og) (i : Int) : (drL H L i).length ≤ L.length := by
  unfold drL
  split
  · exact outL_len L i
  · exact Nat.le_refl _
theorem Bnd.drop (h : Bnd n H L) (i : Int) : Bnd (n + 1) (drH H i) (drL H L i) := by
  refine ⟨h.good.drop i, ?_, by have := h.ll; have := drL_len H L i; omega, fun j => ?_⟩
  · unfold drH
    have := h.hl
    split
    · rw [List.length_set]; omega
    · omega
  · unfold drH
    have h1 := h.hb j
    split
    · rename_i c
      obtain ⟨k, rfl, k1, k2⟩ := isB_get c
      rw [Int.toNat_natCast, getD_set _ k1]
      have := h.hb k
      split <;> omega
    · omega
theorem Bnd.set (h : Bnd n H L) (i p f : Int) : Bnd (n + 1) H (seL H L i p f) := by
  refine ⟨h.good.set i p f, by have := h.hl; omega, ?_, fun j => by have := h.hb j; omega⟩
  unfold seL
  have := h.ll
  split
  · rw [List.length_append]; simp; omega
  · omega
theorem chL_len (L : List Og) (a t : Int) : (chL L a t).length = L.length := by
  unfold chL
  split
  · split
    · rw [List.length_set]
    · rfl
  · rfl
theorem Bnd.change (h : Bnd n H L) (a t : Int) : Bnd (n + 1) H (chL L a t) :=
  ⟨h.good.change a t, by have := h.hl; omega, by rw [chL_len]; have := h.ll; omega, fun j => by have := h.hb j; omega⟩
theorem Bnd.do_ (h : Bnd n H L) (l : Ac) : Bnd (n + 1) (doH H l) (doL H L l) := by
  unfold doH doL
  by_cases c0 : l.k = 0
  · rw [if_pos c0, if_pos c0]; exact h.make
  · rw [if_neg c0, if_neg c0]
    by_cases c1 : l.k = 1
    · rw [if_pos c1, if_pos c1]; exact h.hold _
    · rw [if_neg c1, if_neg c1]
      by_cases c2 : l.k = 2
      · rw [if_pos c2, if_pos c2]; exact h.drop _
      · rw [if_neg c2, if_neg c2]
        by_cases c3 : l.k = 3 ∨ l.k = 4 ∨ l.k = 5
        · rw [if_pos c3]; exact h.set _ _ _
        · rw [if_neg c3]; exact h.change _ _
theorem chL_yes {M : List Og} {b s : Int} (c : chE M b s = 0) (h : fi (byF b) M < M.length) : chL M b s = M.set (fi (byF b) M) { M[fi (byF b) M] with f := s } := by unfold chL; rw [if_pos c, dif_pos h]
/-- A page that is moved to another frame and back stands as it did. -/
theorem ch_back (h : Good H L) {a t : Int} (c : chE L a t = 0) : owE L a = 0 ∧ frV (chL L a t) (owI L a) (owP L a) = t ∧ frE (chL L a t) (owI L a) (owP L a) = 0 ∧ chE (chL L a t) t a = 0 ∧ chL (chL L a t) t a = L := by
  have hg := h.change a t
  obtain ⟨k1, k2, k3, k4⟩ := chE_ok c
  obtain ⟨k, hk⟩ : ∃ k, k = fi (byF a) L := ⟨_, rfl⟩
  have hf : (L[fi (byF a) L]).f = a := (byF_mem k1).1
  have hC : chL L a t = L.set (fi (byF a) L) { L[fi (byF a) L] with f := t } := by unfold chL; rw [if_pos c, dif_pos k1]
  obtain ⟨x, hx⟩ : ∃ x, x = L[fi (byF a) L] := ⟨_, rfl⟩
  have hI : owI L a = x.i := by unfold owI; rw [dif_pos k1, hx]
  have hP : owP L a = x.p := by unfold owP; rw [dif_pos k1, hx]
  rw [← hx] at hf hC
  simp only [← hk] at k1 hC hx
  have hxm : x ∈ L := by rw [hx]; exact List.getElem_mem k1
  have hm : (⟨x.i, x.p, t⟩ : Og) ∈ chL L a t := by rw [hC]; exact List.mem_set k1 _
  have hl := hg.looks hm
  have hne : a ≠ t := fun e => by
    subst e
    rw [← hk] at k4
    exact k4 k1
  have hkt : fi (byF t) (chL L a t) = k := by
    have h1 := byF_in hm
    have h2 := byF_mem h1
    have h3 : fi (byF t) (chL L a t) < (chL L a t).length := h1
    have h4 := hg.one h2.2 hm h2.1
    rcases Nat.lt_trichotomy (fi (byF t) (chL L a t)) k with d | d | d
    · exfalso
      have hk' : k < (chL L a t).length := by rw [chL_len]; exact k1
      have := pw_get hg.fr d hk'
      have e1 : (chL L a t)[k] = ⟨x.i, x.p, t⟩ := by simp only [hC, List.getElem_set_self]
      rw [e1] at this
      exact this h2.1
    · exact d
    · exfalso
      have := pw_get hg.fr d h1
      have e1 : (chL L a t)[k]'(by rw [chL_len]; exact k1) = ⟨x.i, x.p, t⟩ := by simp only [hC, List.getElem_set_self]
      rw [e1] at this
      exact this h2.1.symm
  have hka : ¬ fi (byF a) (chL L a t) < (chL L a t).length := fun e => by
    obtain ⟨e1, e2⟩ := byF_mem e
    have e3 : ∀ y, y ∈ chL L a t → y.f = a → False := fun y hy he => by
      rw [hC] at hy
      obtain ⟨j, hj, rfl⟩ := List.getElem_of_mem hy
      rw [List.getElem_set] at he
      rw [List.length_set] at hj
      by_cases d : k = j
      · rw [if_pos d] at he; exact hne he.symm
      · rw [if_neg d] at he
        rcases Nat.lt_trichotomy j k with q | q | q
        · have := pw_get h.fr q k1
          rw [← hx] at this
          exact this (he.trans hf.symm)
        · exact d q.symm
        · have := pw_get h.fr q hj
          rw [← hx] at this
          exact this (hf.trans he.symm)
    exact e3 _ e2 e1
  have hc2 : chE (chL L a t) t a = 0 := by
    unfold chE
    have hr := h.rg x hxm
    rw [ofI_yes (f := t) (by rw [hkt, chL_len]; exact k1), if_neg (by omega), if_neg (by omega), ofI_no hka, if_neg (by omega)]
  refine ⟨?_, ?_, ?_, hc2, ?_⟩
  · unfold owE; rw [if_pos (by rw [← hk]; exact k1)]
  · rw [hI, hP]; exact hl.2.2.2.1
  · rw [hI, hP]; exact hl.2.2.2.2
  · have : chL (chL L a t) t a = (chL L a t).set k { (chL L a t)[k]'(by rw [chL_len]; exact k1) with f := a } := by
      rw [chL_yes hc2 (by rw [hkt, chL_len]; exact k1)]
      simp only [hkt]
    rw [this]
    simp only [hC, List.getElem_set_self, List.set_set]
    rw [show ({ i := x.i, p := x.p, f := a } : Og) = L[k] by rw [← hx, ← hf], List.set_getElem_self]
/-- All frames of one object. -/
theorem frs_count (h : Good H L) (i : Int) : (frs L i).length = (L.filter fun x => decide (x.i = i)).length := by
  have hn1 : (frs L i).Nodup := (frs_up L i).imp fun h => by omega
  have hn2 : ((L.filter fun x => decide (x.i = i)).map Og.f).Nodup := by
    unfold List.Nodup
    rw [List.pairwise_map]
    exact h.fr.sublist List.filter_sublist
  have hp : (frs L i).Perm ((L.filter fun x => decide (x.i = i)).map Og.f) := (List.perm_ext_iff_of_nodup hn1 hn2).2 fun f => by
    rw [frs_mem h, List.mem_map]
    constructor
    · rintro ⟨x, hx, e1, e2⟩
      exact ⟨x, List.mem_filter.2 ⟨hx, decide_eq_true e1⟩, e2⟩
    · rintro ⟨x, hx, e2⟩
      obtain ⟨h1, h2⟩ := List.mem_filter.1 hx
      exact ⟨x, h1, of_decide_eq_true h2, e2⟩
  rw [hp.length_eq, List.length_map]
end
end Go.Proofs.Ytnpacdbkmpchnaa
