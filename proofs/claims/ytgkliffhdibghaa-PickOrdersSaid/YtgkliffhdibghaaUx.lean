/- What a popping leaves. -/
import Derived.Test.YtgkliffhdibghaaUd
namespace Go.Proofs.Ytgkliffhdibghaa
open Go.RowKit

theorem dropL_mem {N : List It} {f : Int} {y : It} : y ∈ dropL N f ↔ y ∈ N ∧ y.1 ≠ f := by
  unfold dropL
  rw [List.mem_filter]
  simp [isF]
theorem dropL_in {N : List It} (hd : Dst N) {x : It} (hx : x ∈ N) : (dropL N x.1).length + 1 = N.length := by
  have hp := List.perm_cons_erase hx
  have h1 := dropL_perm hp x.1
  have h2 := hd.perm hp
  have h3 : dropL (x :: N.erase x) x.1 = N.erase x := by
    have hc := List.pairwise_cons.1 h2
    have e : dropL (x :: N.erase x) x.1 = dropL (N.erase x) x.1 := by simp [dropL, isF]
    rw [e]
    exact dropL_none (by
      rw [Bool.eq_false_iff]
      intro h
      obtain ⟨y, hy, ey⟩ := hasF_iff.1 h
      exact hc.1 y hy ey.symm)
  rw [h3] at h1
  rw [h1.length_eq, hp.length_eq]
  rfl
theorem lst_has {N : List It} (h : 0 < N.length) : hasF N (lst N).1 = true := hasF_iff.2 ⟨_, lst_mem h, rfl⟩
theorem lst_drops {N : List It} (h : 0 < N.length) : dropE N (lst N).1 = 0 := by simp [dropE, lst_has h]
theorem lst_before {N : List It} {y : It} (hy : y ∈ dropL N (lst N).1) : ltB (lst N) y = true := by
  obtain ⟨h1, h2⟩ := dropL_mem.1 hy
  have h3 := lst_le h1
  unfold le at h3
  unfold ltB
  simp only [decide_eq_true_eq]
  omega
theorem St.fitL {B : Nat} {w0 w : World} {p q m x : Nat} {iv rv : Value} {N : List It} (h : St B w0 w p q m x iv rv N) {y : It} (hy : y ∈ N) : (0 ≤ y.1 ∧ y.1 ≤ 1023) ∧ Fits y.2 := by
  obtain ⟨L, M, hq, _, hp⟩ := h.pick.qs
  exact hq.fit _ (hp.mem_iff.2 hy)
end Go.Proofs.Ytgkliffhdibghaa
