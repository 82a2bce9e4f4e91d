/- What a call makes of the object: a row that is turned, one that goes, one that moves. -/
import Derived.Test.YtgpbbmcadifdhaaR7
namespace Go.Proofs.Ytgpbbmcadifdhaa
open Go.RowKit

/-- The same object, with another map. -/
def Rm.upd (T : Rm) (f : Int) (x : Option Value) : Rm := ⟨T.s, T.b, updV T.M f x⟩
/-- What a call has done. -/
structure Chg (B : Nat) (w : World) (T T' : Rm) (N : List On) (w' : World) : Prop where
  s : T'.s = T.s
  is : RmIs B w' T' N
  foot : Foot (Mine T) w w'
  own : ∀ k, Mine T' k → Mine T k ∨ w.heap.size ≤ k
def Changed (B : Nat) (T : Rm) (E : Int) (N : List On) (w : World) (e : Ending) (w' : World) : Prop := e = .returned (.int .i64 E) ∧ ∃ T', Chg B w T T' N w'
theorem keys_of {N : List On} {f : Int} (h : sps N f ≠ []) : f ∈ N.map Prod.fst := by
  obtain ⟨s, hs⟩ := List.exists_mem_of_ne_nil _ h
  exact List.mem_map.2 ⟨(f, s), mem_sps.1 hs, rfl⟩
section
variable {w w1 w' : World} {B n : Nat} {T : Rm} {L N : List On} {f : Int}
theorem Rm.row_some {k : Nat} (e : (T.row f).ownBlock = some k) : T.M f = some (T.row f) := by
  unfold Rm.row at e ⊢
  cases hm : T.M f with
  | none => rw [hm] at e; cases e
  | some v => rfl
theorem Rm.upd_same (x : Option Value) : (T.upd f x).row f = x.getD (.slice none 0 0) := by show ((updV T.M f x) f).getD _ = _; rw [updV_same]
theorem Rm.upd_other {g : Int} (x : Option Value) (h : g ≠ f) : (T.upd f x).row g = T.row g := by show ((updV T.M f x) g).getD _ = (T.M g).getD _; rw [updV_other _ _ h]
theorem MapV.fit {b : Nat} {M : Int → Option Value} (h : MapV w b n M) (hs : ∀ g, Fits g → ((M g).isSome = true ↔ sps N g ≠ [])) : MapV w b N.length M := by
  have := h.small (N.map Prod.fst) (fun g hg hm => keys_of ((hs g hg).1 (by cases e : M g with | none => exact absurd e hm | some v => rfl)))
  rwa [List.length_map] at this
theorem RmIs.same (h : RmIs B w T L) (hb : Below w.heap.size w w') : Chg B w T T L w' := ⟨rfl, h.call hb, Foot.of_below hb, fun _ hk => Or.inl hk⟩
theorem RmIs.sb (h : RmIs B w T L) : T.s ≠ T.b := h.map.apart h.top
theorem RmIs.turn (h : RmIs B w T L) (hN : Good N) (hf : Fits f) (ho : ∀ g, g ≠ f → sps N g = sps L g) (hne : sps N f ≠ []) {v : Value}
    (hv : Sp B w1 v (sps N f)) (hg : w.grownBy w1 (T.row f).ownBlock) (hvb : v.ownBlock = (T.row f).ownBlock ∨ ∃ g, v.ownBlock = some g ∧ w.heap.size ≤ g)
    (hm : MapV w' T.b n (updV T.M f (some v))) (hg2 : w1.grownBy w' (some T.b)) : Chg B w T (T.upd f (some v)) N w' := by
  have hrow := h.row f hf
  have nS : some T.s ≠ (T.row f).ownBlock := fun e => by
    obtain ⟨vs, r, _⟩ := own_block hrow e.symm
    exact h.top.apart r (by decide) rfl
  have nB : some T.b ≠ (T.row f).ownBlock := fun e => by
    obtain ⟨vs, r, _⟩ := own_block hrow e.symm
    exact h.map.apart r rfl
  have hm1 : MapV w1 T.b L.length T.M := h.map.heap (hg.block _ h.map.lt nB)
  have far : ∀ g k, g ≠ f → (T.row g).ownBlock = some k → (T.row f).ownBlock ≠ some k := fun g k hgf e e2 =>
    hgf (h.apart g f _ _ k (Rm.row_some e) (Rm.row_some e2) e e2)
  have hS : ∀ g, Fits g → (((T.upd f (some v)).M g).isSome = true ↔ sps N g ≠ []) := fun g hgf => by
    by_cases e : g = f
    · subst e
      show (updV T.M g (some v) g).isSome = true ↔ _
      rw [updV_same]; exact ⟨fun _ => hne, fun _ => rfl⟩
    · show (updV T.M f (some v) g).isSome = true ↔ _
      rw [updV_other _ _ e, ho g e]; exact h.isS g hgf
  refine ⟨rfl, ⟨(h.top.grown hg nS).grown hg2 (fun e => h.sb (by injection e)), hm.fit hS, hN, fun g hgf => ?_, hS, fun g hgf => ?_, ?_, h.los, h.lob⟩, (Foot.grownO hg fun b e _ => Or.inr (Or.inr ⟨f, _, Rm.row_some e, e⟩)).trans (Foot.grown hg2 (Or.inr (Or.inl rfl))) (fun _ hb _ => hb), ?_⟩
  · by_cases e : g = f
    · subst e
      rw [Rm.upd_same]
      refine own_heap hv fun k ek => ?_
      obtain ⟨vs, r, _⟩ := own_block hv ek
      exact hg2.block k r.lt (fun e2 => hm1.apart r (by injection e2))
    · rw [Rm.upd_other _ e, ho g e]
      refine own_heap (h.row g hgf) fun k ek => ?_
      obtain ⟨vs, r, _⟩ := own_block (h.row g hgf) ek
      have hk : some k ≠ (T.row f).ownBlock := fun e2 => far g k e ek e2.symm
      exact (hg2.block k (Nat.lt_of_lt_of_le r.lt hg.size) (fun e2 => h.map.apart r (by injection e2))).trans (hg.block k r.lt hk)
  · show updV T.M f (some v) g = none
    rw [updV_other _ _ (fun e : g = f => hgf (e ▸ hf))]; exact h.out g hgf
  · intro g g2 u u2 k e1 e2 k1 k2
    change updV T.M f (some v) g = some u at e1
    change updV T.M f (some v) g2 = some u2 at e2
    have old : ∀ {g u}, T.M g = some u → u.ownBlock = some k → (T.row g).ownBlock = some k ∧ k < w.heap.size := fun {g u} e ek => by
      have e3 : T.row g = u := by unfold Rm.row; rw [e]; rfl
      obtain ⟨vs, r, _⟩ := own_block (h.own e) ek
      exact ⟨by rw [e3]; exact ek, r.lt⟩
    have new : ∀ {g u}, g ≠ f → T.M g = some u → u.ownBlock = some k → v.ownBlock = some k → False := fun {g u} hgf e ek ev => by
      obtain ⟨o1, o2⟩ := old e ek
      rcases hvb with hvb | ⟨q, hq, hq2⟩
      · exact far g k hgf o1 (by rw [← hvb]; exact ev)
      · rw [hq] at ev; injection ev with ev; omega
    by_cases g1f : g = f
    · by_cases g2f : g2 = f
      · rw [g1f, g2f]
      · subst g1f
        rw [updV_same] at e1
        rw [updV_other _ _ g2f] at e2
        injection e1 with e1
        exact (new g2f e2 k2 (by rw [e1]; exact k1)).elim
    · by_cases g2f : g2 = f
      · subst g2f
        rw [updV_same] at e2
        rw [updV_other _ _ g1f] at e1
        injection e2 with e2
        exact (new g1f e1 k1 (by rw [e2]; exact k2)).elim
      · rw [updV_other _ _ g1f] at e1
        rw [updV_other _ _ g2f] at e2
        exact h.apart g g2 u u2 k e1 e2 k1 k2
  · rintro k (rfl | rfl | ⟨g, u, e, ek⟩)
    · exact Or.inl (Or.inl rfl)
    · exact Or.inl (Or.inr (Or.inl rfl))
    · change updV T.M f (some v) g = some u at e
      by_cases g1f : g = f
      · subst g1f
        rw [updV_same] at e
        injection e with e
        subst e
        rcases hvb with hvb | ⟨q, hq, hq2⟩
        · rw [hvb] at ek; exact Or.inl (Or.inr (Or.inr ⟨g, _, Rm.row_some ek, ek⟩))
        · rw [hq] at ek; injection ek with ek; exact Or.inr (by omega)
      · rw [updV_other _ _ g1f] at e
        exact Or.inl (Or.inr (Or.inr ⟨g, u, e, ek⟩))
theorem RmIs.gone (h : RmIs B w T L) (hN : Good N) (hf : Fits f) (ho : ∀ g, g ≠ f → sps N g = sps L g) (he : sps N f = [])
    (hm : MapV w' T.b n (updV T.M f none)) (hg : w.grownBy w' (some T.b)) : Chg B w T (T.upd f none) N w' := by
  have hS : ∀ g, Fits g → (((T.upd f none).M g).isSome = true ↔ sps N g ≠ []) := fun g hgf => by
    by_cases e : g = f
    · subst e
      show (updV T.M g none g).isSome = true ↔ _
      rw [updV_same, he]; simp
    · show (updV T.M f none g).isSome = true ↔ _
      rw [updV_other _ _ e, ho g e]; exact h.isS g hgf
  have hM : ∀ {g u}, updV T.M f none g = some u → T.M g = some u := fun {g u} e => by
    by_cases e1 : g = f
    · subst e1; rw [updV_same] at e; cases e
    · rwa [updV_other _ _ e1] at e
  refine ⟨rfl, ⟨h.top.grown hg (fun e => h.sb (by injection e)), hm.fit hS, hN, fun g hgf => ?_, hS, fun g hgf => ?_, fun g g2 u u2 k e1 e2 => h.apart g g2 u u2 k (hM e1) (hM e2), h.los, h.lob⟩, Foot.grown hg (Or.inr (Or.inl rfl)), ?_⟩
  · by_cases e : g = f
    · subst e
      rw [Rm.upd_same, he]
      exact Sp.nil B w'
    · rw [Rm.upd_other _ e, ho g e]
      refine own_heap (h.row g hgf) fun k ek => ?_
      obtain ⟨vs, r, _⟩ := own_block (h.row g hgf) ek
      exact hg.block k r.lt (fun e2 => h.map.apart r (by injection e2))
  · show updV T.M f none g = none
    rw [updV_other _ _ (fun e : g = f => hgf (e ▸ hf))]; exact h.out g hgf
  · rintro k (rfl | rfl | ⟨g, u, e, ek⟩)
    · exact Or.inl (Or.inl rfl)
    · exact Or.inl (Or.inr (Or.inl rfl))
    · exact Or.inl (Or.inr (Or.inr ⟨g, u, hM e, ek⟩))
theorem RmIs.went (h : RmIs B w T L) (hN : Good N) {a b : Int} (ha : Fits a) (hb : Fits b) (hab : a ≠ b) (hLa : sps L a ≠ []) (hLb : sps L b = []) (h1 : sps N b = sps L a) (h2 : sps N a = []) (ho : ∀ g, g ≠ a → g ≠ b → sps N g = sps L g)
    (hm : MapV w' T.b n (updV (updV T.M b (some (T.row a))) a none)) (hg : w.grownBy w' (some T.b)) : Chg B w T ((T.upd b (some (T.row a))).upd a none) N w' := by
  have hTa : T.M a = some (T.row a) := by
    have := (h.isS a ha).2 hLa
    unfold Rm.row
    cases e : T.M a with
    | none => rw [e] at this; cases this
    | some v => rfl
  have hS : ∀ g, Fits g → ((((T.upd b (some (T.row a))).upd a none).M g).isSome = true ↔ sps N g ≠ []) := fun g hgf => by
    show (updV (updV T.M b (some (T.row a))) a none g).isSome = true ↔ _
    by_cases e : g = a
    · subst e; rw [updV_same, h2]; simp
    · rw [updV_other _ _ e]
      by_cases e2 : g = b
      · subst e2; rw [updV_same, h1]; exact ⟨fun _ => hLa, fun _ => rfl⟩
      · rw [updV_other _ _ e2, ho g e e2]; exact h.isS g hgf
  have hM : ∀ {g u}, updV (updV T.M b (some (T.row a))) a none g = some u → g ≠ a ∧ (g = b ∧ u = T.row a ∨ g ≠ b ∧ T.M g = some u) := fun {g u} e => by
    by_cases e1 : g = a
    · subst e1; rw [updV_same] at e; cases e
    · rw [updV_other _ _ e1] at e
      by_cases e2 : g = b
      · subst e2; rw [updV_same] at e; injection e with e; exact ⟨e1, Or.inl ⟨rfl, e.symm⟩⟩
      · rw [updV_other _ _ e2] at e; exact ⟨e1, Or.inr ⟨e2, e⟩⟩
  refine ⟨rfl, ⟨h.top.grown hg (fun e => h.sb (by injection e)), hm.fit hS, hN, fun g hgf => ?_, hS, fun g hgf => ?_, fun g g2 u u2 k e1 e2 k1 k2 => ?_, h.los, h.lob⟩, Foot.grown hg (Or.inr (Or.inl rfl)), ?_⟩
  · have keep : ∀ g, Fits g → Sp B w' (T.row g) (sps L g) := fun g hgf => by
      refine own_heap (h.row g hgf) fun k ek => ?_
      obtain ⟨vs, r, _⟩ := own_block (h.row g hgf) ek
      exact hg.block k r.lt (fun e2 => h.map.apart r (by injection e2))
    by_cases e : g = a
    · subst e
      rw [Rm.upd_same, h2]
      exact Sp.nil B w'
    · rw [Rm.upd_other _ e]
      by_cases e2 : g = b
      · subst e2; rw [Rm.upd_same, h1]; exact keep a ha
      · rw [Rm.upd_other _ e2, ho g e e2]; exact keep g hgf
  · show updV (updV T.M b (some (T.row a))) a none g = none
    rw [updV_other _ _ (fun e : g = a => hgf (e ▸ ha)), updV_other _ _ (fun e : g = b => hgf (e ▸ hb))]; exact h.out g hgf
  · obtain ⟨n1, m1⟩ := hM e1
    obtain ⟨n2, m2⟩ := hM e2
    rcases m1 with ⟨rfl, rfl⟩ | ⟨p1, q1⟩
    · rcases m2 with ⟨rfl, rfl⟩ | ⟨p2, q2⟩
      · rfl
      · exact absurd (h.apart g2 a _ _ k q2 hTa k2 k1) n2
    · rcases m2 with ⟨rfl, rfl⟩ | ⟨p2, q2⟩
      · exact absurd (h.apart g a _ _ k q1 hTa k1 k2) n1
      · exact h.apart g g2 _ _ k q1 q2 k1 k2
  · rintro k (rfl | rfl | ⟨g, u, e, ek⟩)
    · exact Or.inl (Or.inl rfl)
    · exact Or.inl (Or.inr (Or.inl rfl))
    · obtain ⟨n1, m1⟩ := hM e
      rcases m1 with ⟨rfl, rfl⟩ | ⟨p1, q1⟩
      · exact Or.inl (Or.inr (Or.inr ⟨a, _, hTa, ek⟩))
      · exact Or.inl (Or.inr (Or.inr ⟨g, u, q1, ek⟩))
theorem Chg.pre {V : World} {T' : Rm} (h : Below w.heap.size w V) (c : Chg B V T T' N w') : Chg B w T T' N w' :=
  ⟨c.s, c.is, (Foot.of_below h).trans c.foot (fun _ hb _ => hb), fun k hk => (c.own k hk).imp id fun e => Nat.le_trans h.size e⟩
theorem Chg.post {V : World} {T' : Rm} (c : Chg B w T T' N w') (h : Below w'.heap.size w' V) : Chg B w T T' N V :=
  ⟨c.s, c.is.call h, c.foot.trans (Foot.of_below (X := Mine T) h) (fun _ hb _ => hb), c.own⟩
end
end Go.Proofs.Ytgpbbmcadifdhaa
