/- What is lost by a putting. -/
import Derived.Test.YtbnnfgdlkldafaaAw
namespace Go.Proofs.Ytbnnfgdlkldafaa
open Go.RowKit
def nthO : List Oper → Nat → Option Oper
  | [], _ => none
  | o :: _, 0 => some o
  | _ :: r, i + 1 => nthO r i
theorem nthO_eq : ∀ (l : List Oper) (i : Nat), nthO l i = l[i]?
  | [], _ => rfl
  | _ :: _, 0 => rfl
  | _ :: r, i + 1 => (nthO_eq r i).trans (by rw [List.getElem?_cons_succ])
theorem at_lit {l : List Oper} {i : Nat} {o : Oper} (h : nthO l i = some o) : l.toArray[i]? = some o := by
  rw [List.getElem?_toArray, ← nthO_eq]
  exact h
theorem ln_keep {w w' : World} {b : Nat} {A : Option Addr} {L : List Cd} (h : Ln w b A L) (hs : w.heap.size ≤ w'.heap.size) (hk : ∀ g, b ≤ g → g < w.heap.size → w'.heap[g]? = w.heap[g]?) : Ln w' b A L := fun h0 => by
  obtain ⟨g, e, hl, hb, hat⟩ := h h0
  exact ⟨g, e, Nat.lt_of_lt_of_le hl hs, hb, fun j hj => (hat j hj).heap (hk g hb hl)⟩
theorem CdAt.call9 {w w' : World} {g o : Nat} {c : Cd} (h : CdAt w ⟨g, o, none⟩ c) (hb : Below w.heap.size w w') (hg : g < w.heap.size) : CdAt w' ⟨g, o, none⟩ c := h.heap (hb.block g hg)
/-- A line that was there, is there no more, and neither holds the new one's page nor is held by it. -/
def lstB (X : List Cd) (c x : Cd) : Bool := !(X.any fun y => decide (y = x)) && (!hdB x c.s c.p && !hdB c x.s x.p)
theorem lst_snoc (X : List Cd) (c : Cd) (L : List Cd) {k : Nat} (h : k < L.length) : (L.take (k + 1)).countP (lstB X c) = (L.take k).countP (lstB X c) + if lstB X c L[k] then 1 else 0 := by
  rw [List.take_succ_eq_append_getElem h, List.countP_append, List.countP_singleton]
theorem lst_far {X : List Cd} {c x : Cd} (h : lstB X c x = true) : metB x c.s c.p (szO c.o) = false ∧ x ∉ X := by
  unfold lstB at h
  rw [Bool.and_eq_true, Bool.and_eq_true] at h
  obtain ⟨h1, h2, h3⟩ := h
  refine ⟨?_, fun hx => ?_⟩
  · have h2 : hdB x c.s c.p = false := by simpa using h2
    have h3 : hdB c x.s x.p = false := by simpa using h3
    unfold hdB at h2 h3
    rw [decide_eq_false_iff_not] at h2 h3
    unfold metB
    rw [decide_eq_false_iff_not]
    rintro ⟨_, k1, k2, k3⟩
    by_cases hp : x.p ≤ c.p
    · exact h2 ⟨k1, hp, k3⟩
    · exact h3 ⟨k1.symm, by omega, k2⟩
  · have h1 : (X.any fun y => decide (y = x)) = false := by simpa using h1
    rw [List.any_eq_false] at h1
    exact h1 x hx (decide_eq_true rfl)
theorem lst_none {X : List Cd} {c : Cd} : ∀ {M : List Cd}, (∀ x ∈ M, lstB X c x = true → x ∈ X) → M.countP (lstB X c) = 0 := fun {M} h => by
  rw [List.countP_eq_zero]
  intro x hx e
  exact (lst_far e).2 (h x hx e)
theorem lst_fine {z : Nat} {L : List Cd} (h : Good z L) (c : Cd) : L.countP (lstB (cutL z (flL L c.s c.p (szO c.o))) c) ≤ 1 ∧ (L.countP (lstB (cutL z (flL L c.s c.p (szO c.o))) c) = 0 ∨ L.length = z) := by
  obtain ⟨F, hF⟩ : ∃ F, F = flL L c.s c.p (szO c.o) := ⟨_, rfl⟩
  have hin : ∀ X, ∀ x ∈ L, lstB X c x = true → x ∈ F := fun X x hx e => by
    rw [hF]
    unfold flL
    exact List.mem_filter.2 ⟨hx, by rw [(lst_far e).1]; rfl⟩
  have hsub : F.Sublist L := hF ▸ flL_sub L c.s c.p (szO c.o)
  have hll := hsub.length_le
  have hlz := h.len
  rw [← hF]
  by_cases hc : z ≤ F.length
  · have hFL : F = L := hsub.eq_of_length (by omega)
    rw [show cutL z F = F.tail from if_pos hc, hFL]
    refine ⟨?_, Or.inr (by omega)⟩
    cases L with
    | nil => exact Nat.zero_le _
    | cons a r =>
      rw [List.tail_cons, List.countP_cons, lst_none (fun x hx _ => hx)]
      split <;> omega
  · rw [show cutL z F = F from if_neg hc]
    have := lst_none (hin F)
    exact ⟨by omega, Or.inl this⟩
end Go.Proofs.Ytbnnfgdlkldafaa
