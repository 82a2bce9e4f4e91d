/- Reservations: one alone, filled and cleared (no program). -/
import Derived.Test.YtfalmjibpkkjaaaA0
import Derived.Test.YtfalmjibpkkjaaaA4
namespace Go.Proofs.Ytfalmjibpkkjaaa
open Go.RowKit
/-- One reservation alone. -/
def oneS (sp a f : Int) (nn : Nat) (t : Int) : Rs := ⟨[⟨sp, a, f, nn, t⟩], t⟩
structure FOk (sp a f : Int) : Prop where
  s0 : 0 ≤ sp
  s1 : sp < 256
  a0 : 0 ≤ a
  a1 : a ≤ 800
  a8 : a % 8 = 0
  f0 : 0 ≤ f
  f1 : f ≤ 792
  f8 : f % 8 = 0
section
variable {sp a f t : Int} {nn kk : Nat}
theorem FOk.bnd (h : FOk sp a f) (hn : nn < 256) (t0 : 0 ≤ t) (t1 : t ≤ 60) : Bnd 60 (oneS sp a f nn t) where
  up := List.pairwise_singleton _ _
  fr := List.pairwise_singleton _ _
  ok := fun x hx => by
    have : x = ⟨sp, a, f, nn, t⟩ := List.mem_singleton.1 hx
    subst this
    exact ⟨h.s0, by have := h.s1; show sp ≤ _; omega, h.a0, by have := h.a1; show a ≤ _; omega, h.a8, h.f0, by have := h.f1; show f ≤ _; omega, h.f8, hn⟩
  tm := fun x hx => by
    have : x = ⟨sp, a, f, nn, t⟩ := List.mem_singleton.1 hx
    subst this
    exact ⟨t0, Int.le_refl _⟩
  ln := by show 1 ≤ 60; omega
  t0 := t0
  t1 := t1
theorem FOk.in_ (h : FOk sp a f) (hk : kk < 8) : pd (a + (kk : Int)) = a ∧ jd (a + (kk : Int)) = kk := by
  have := h.a8
  unfold pd jd
  omega
theorem FOk.hit (h : FOk sp a f) (hk : kk < 8) : hitP sp (a + (kk : Int)) ⟨sp, a, f, nn, t⟩ = true := by
  unfold hitP
  exact decide_eq_true ⟨rfl, (h.in_ hk).1.symm⟩
theorem FOk.find (h : FOk sp a f) (hk : kk < 8) : atP (oneS sp a f nn t).L sp (a + (kk : Int)) = some ⟨sp, a, f, nn, t⟩ := by
  unfold atP
  exact List.find?_cons_of_pos (h.hit hk)
theorem FOk.turn (h : FOk sp a f) (hk : kk < 8) (b : Bool) : tuS (oneS sp a f nn t) sp (a + (kk : Int)) b = oneS sp a f (setB nn kk b) (t + 1) := by
  unfold tuS oneS
  show (⟨[tuX sp (a + (kk : Int)) b (t + 1) ⟨sp, a, f, nn, t⟩], t + 1⟩ : Rs) = _
  unfold tuX
  rw [if_pos (h.hit hk), (h.in_ hk).2]
theorem FOk.fill1 (h : FOk sp a f) (hk : kk < 8) (c : nn.testBit kk = true) : fiE (oneS sp a f nn t) sp (a + (kk : Int)) = 7 ∧ fiV (oneS sp a f nn t) sp (a + (kk : Int)) = 0 ∧ fiS (oneS sp a f nn t) sp (a + (kk : Int)) = oneS sp a f nn t := by
  have e : fiE (oneS sp a f nn t) sp (a + (kk : Int)) = 7 := by
    unfold fiE; rw [h.find hk, (h.in_ hk).2]; exact if_pos c
  refine ⟨e, ?_, ?_⟩
  · unfold fiV; rw [h.find hk, (h.in_ hk).2]; exact if_pos c
  · unfold fiS; rw [e]; exact if_neg (by decide)
theorem FOk.fill0 (h : FOk sp a f) (hk : kk < 8) (c : ¬ nn.testBit kk = true) : fiE (oneS sp a f nn t) sp (a + (kk : Int)) = 0 ∧ fiV (oneS sp a f nn t) sp (a + (kk : Int)) = f + (kk : Int) ∧ fiS (oneS sp a f nn t) sp (a + (kk : Int)) = oneS sp a f (setB nn kk true) (t + 1) := by
  have e : fiE (oneS sp a f nn t) sp (a + (kk : Int)) = 0 := by
    unfold fiE; rw [h.find hk, (h.in_ hk).2]; exact if_neg c
  refine ⟨e, ?_, ?_⟩
  · unfold fiV; rw [h.find hk, (h.in_ hk).2]; exact if_neg c
  · unfold fiS; rw [e, if_pos rfl]; exact h.turn hk true
theorem FOk.clear1 (h : FOk sp a f) (hk : kk < 8) (c : nn.testBit kk = true) : clE (oneS sp a f nn t) sp (a + (kk : Int)) = 0 ∧ clS (oneS sp a f nn t) sp (a + (kk : Int)) = oneS sp a f (setB nn kk false) (t + 1) := by
  have e : clE (oneS sp a f nn t) sp (a + (kk : Int)) = 0 := by
    unfold clE; rw [h.find hk, (h.in_ hk).2]; exact if_pos c
  refine ⟨e, ?_⟩
  unfold clS; rw [e, if_pos rfl]; exact h.turn hk false
theorem FOk.clear0 (h : FOk sp a f) (hk : kk < 8) (c : ¬ nn.testBit kk = true) : clE (oneS sp a f nn t) sp (a + (kk : Int)) = 6 ∧ clS (oneS sp a f nn t) sp (a + (kk : Int)) = oneS sp a f nn t := by
  have e : clE (oneS sp a f nn t) sp (a + (kk : Int)) = 6 := by
    unfold clE; rw [h.find hk, (h.in_ hk).2]; exact if_neg c
  refine ⟨e, ?_⟩
  unfold clS; rw [e]; exact if_neg (by decide)
theorem FOk.brk (h : FOk sp a f) (hk : kk < 8) : brE (oneS sp a f nn t) sp (a + (kk : Int)) = 0 ∧ brV (oneS sp a f nn t) sp (a + (kk : Int)) = opN nn f ∧ brS (oneS sp a f nn t) sp (a + (kk : Int)) = ⟨[], t⟩ := by
  refine ⟨?_, ?_, ?_⟩
  · unfold brE; rw [h.find hk]
  · unfold brV; rw [h.find hk]; rfl
  · unfold brS oneS
    show (⟨List.filter (fun x => !hitP sp (a + (kk : Int)) x) [⟨sp, a, f, nn, t⟩], t⟩ : Rs) = _
    rw [List.filter_cons_of_neg (by rw [h.hit hk]; decide)]
    rfl
theorem FOk.make (h : FOk sp a f) : mkE ⟨[], 0⟩ sp a f = 0 ∧ mkS ⟨[], 0⟩ sp a f = oneS sp a f 0 1 := by
  have e : mkE ⟨[], 0⟩ sp a f = 0 := by
    unfold mkE
    rw [if_neg, if_neg, if_neg]
    · show ¬ ((none : Option Rv).isSome = true ∨ (none : Option Rv).isSome = true); simp
    · unfold alR; rw [decide_eq_true_eq]; have := h.a8; have := h.f8; omega
    · unfold rgR; rw [decide_eq_true_eq]; have := h.s0; have := h.a0; have := h.a1; have := h.f0; have := h.f1; omega
  exact ⟨e, by rw [mkS_yes e]; rfl⟩
theorem set_bitsV (hn : nn < 256) (hk : kk < 8) (b : Bool) : bitsV (setB nn kk b) = (bitsV nn).set kk (.bool b) := by
  unfold bitsV
  rw [bitsL_set hn hk b, List.map_set]
theorem bitsV_get (hn : nn < 256) (hk : kk < 8) : (bitsV nn)[kk]? = some (.bool (nn.testBit kk)) := by
  unfold bitsV
  rw [List.getElem?_map, bitsL_get hn hk]; rfl
end
end Go.Proofs.Ytfalmjibpkkjaaa
