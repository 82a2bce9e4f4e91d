/- Two of the program's and the reference, held together; a list laid in another order. -/
import Derived.Test.YtgkliffhdibghaaUx
namespace Go.Proofs.Ytgkliffhdibghaa
open Go.RowKit

theorem perm_of {M : List It} : ∀ {N : List It}, Dst M → (∀ y ∈ M, y ∈ N) → N.length = M.length → M.Perm N := by
  induction M with
  | nil => intro N _ _ hl; rw [List.length_eq_zero_iff.1 hl]
  | cons z r ih =>
    intro N hd hs hl
    obtain ⟨h1, h2⟩ := List.pairwise_cons.1 hd
    have hz := hs z List.mem_cons_self
    have hp := List.perm_cons_erase hz
    refine (List.Perm.cons z (ih h2 (fun y hy => ?_) ?_)).trans hp.symm
    · have hne : y ≠ z := fun e => h1 y hy (by rw [e])
      exact (List.mem_erase_of_ne hne).2 (hs y (List.mem_cons_of_mem _ hy))
    · have := hp.length_eq
      simp only [List.length_cons] at this hl
      omega
theorem mod_inj {n a i k : Nat} (hi : i < k) (hk : k < n) : (n - 1 - i + a) % n ≠ (n - 1 - k + a) % n := fun e => by
  have h := Nat.sub_mod_eq_zero_of_mod_eq e
  have e2 : n - 1 - i + a - (n - 1 - k + a) = k - i := by omega
  rw [e2, Nat.mod_eq_of_lt (by omega)] at h
  omega
/-- Two of the program's, with the frames Na and Nb, and the reference, with those of N. -/
structure Tri (B : Nat) (w0 w : World) (pa qa ma pb qb mb x : Nat) (iva ivb rv : Value) (Na Nb N : List It) : Prop where
  a : PickAt B w pa qa ma iva Na
  b : PickAt B w pb qb mb ivb Nb
  ref : RefX B w x rv N
  apart : ∀ k, Mine qb mb ivb k → ¬ Mine qa ma iva k
  below : Below B w0 w
section
variable {B : Nat} {w0 w w' : World} {pa qa ma pb qb mb x : Nat} {iva ivb rv : Value} {Na Nb N Na' Nb' N' : List It}
theorem Tri.call (h : Tri B w0 w pa qa ma pb qb mb x iva ivb rv Na Nb N) (hb : Below w.heap.size w w') : Tri B w0 w' pa qa ma pb qb mb x iva ivb rv Na Nb N :=
  ⟨h.a.call hb, h.b.call hb, h.ref.call hb, h.apart, h.below.trans (hb.mono h.a.lo)⟩
theorem Tri.drewN (h : Tri B w0 w pa qa ma pb qb mb x iva ivb rv Na Nb N) (k : Nat) : Tri B w0 (w.drewN k) pa qa ma pb qb mb x iva ivb rv Na Nb N := h.call (below_dN (Below.refl _ _) k)
theorem Tri.drew (h : Tri B w0 w pa qa ma pb qb mb x iva ivb rv Na Nb N) : Tri B w0 w.drew pa qa ma pb qb mb x iva ivb rv Na Nb N := h.drewN 1
theorem Tri.callA (h : Tri B w0 w pa qa ma pb qb mb x iva ivb rv Na Nb N) {r : Value} {e : Ending} (d : Did B w pa qa ma iva Na' r e w') : e = .returned r ∧ ∃ iva', Tri B w0 w' pa qa ma pb qb mb x iva' ivb rv Na' Nb N ∧ Grew w w' qa ma iva iva' := by
  obtain ⟨e1, iv', h1, g⟩ := d
  refine ⟨e1, iv', ⟨h1, h.b.foot g.foot (h.a.qs.other h.b.top (by decide) (by decide)) h.apart, h.ref.beside h.a.qs g, fun k hk hm => h.apart k hk (g.mine k hm (h.b.qs.lt k hk)), h.below.trans (h.a.below g)⟩, g⟩
theorem Tri.callB (h : Tri B w0 w pa qa ma pb qb mb x iva ivb rv Na Nb N) {r : Value} {e : Ending} (d : Did B w pb qb mb ivb Nb' r e w') : e = .returned r ∧ ∃ ivb', Tri B w0 w' pa qa ma pb qb mb x iva ivb' rv Na Nb' N ∧ Grew w w' qb mb ivb ivb' := by
  obtain ⟨e1, iv', h1, g⟩ := d
  refine ⟨e1, iv', ⟨h.a.foot g.foot (h.b.qs.other h.a.top (by decide) (by decide)) (fun k hk hm => h.apart k hm hk), h1, h.ref.beside h.b.qs g, fun k hk hm => h.apart k (g.mine k hk (h.a.qs.lt k hm)) hm, h.below.trans (h.b.below g)⟩, g⟩
theorem Tri.callR (h : Tri B w0 w pa qa ma pb qb mb x iva ivb rv Na Nb N) {r : Value} {e : Ending} (d : DidR B w x rv N' r e w') : e = .returned r ∧ ∃ rv', Tri B w0 w' pa qa ma pb qb mb x iva ivb rv' Na Nb N' ∧ GrewR w w' x rv rv' := by
  obtain ⟨e1, rv', h1, g⟩ := d
  exact ⟨e1, rv', ⟨h.a.beside h.ref g, h.b.beside h.ref g, h1, h.apart, h.below.trans (g.below h.ref)⟩, g⟩
theorem Tri.perm (h : Tri B w0 w pa qa ma pb qb mb x iva ivb rv Na Nb N) (e : Nb.Perm Nb') : Tri B w0 w pa qa ma pb qb mb x iva ivb rv Na Nb' N := ⟨h.a, h.b.perm e, h.ref, h.apart, h.below⟩
theorem Tri.fit (h : Tri B w0 w pa qa ma pb qb mb x iva ivb rv Na Nb N) {y : It} (hy : y ∈ Na) : (0 ≤ y.1 ∧ y.1 ≤ 1023) ∧ Fits y.2 := by
  obtain ⟨L, M, hq, _, hp⟩ := h.a.qs
  exact hq.fit _ (hp.mem_iff.2 hy)
end
theorem PickAt.base {B C : Nat} {w : World} {p q m : Nat} {iv : Value} {N : List It} (h : PickAt C w p q m iv N) (hB : B ≤ C) : PickAt B w p q m iv N := by
  obtain ⟨h1, ⟨L, M, h2, h3⟩, h4⟩ := h
  exact ⟨h1, ⟨L, M, ⟨h2.top, own_base h2.own hB, h2.map, h2.idx, h2.fit, h2.len, Nat.le_trans hB h2.lq, Nat.le_trans hB h2.lm⟩, h3⟩, Nat.le_trans hB h4⟩
end Go.Proofs.Ytgkliffhdibghaa
