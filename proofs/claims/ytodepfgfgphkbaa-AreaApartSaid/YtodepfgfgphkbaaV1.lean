/- What each call on areas answers over pages, and what becomes of them (plain). -/
import Derived.Test.YtodepfgfgphkbaaV0
import Derived.Test.YtodepfgfgphkbaaGp
namespace Go.Proofs.Ytodepfgfgphkbaa

/-- Some of the first n. -/
def anyB (n : Nat) (f : Nat → Bool) : Bool := (List.range n).any f
theorem anyB_zero (f : Nat → Bool) : anyB 0 f = false := rfl
theorem anyB_succ (n : Nat) (f : Nat → Bool) : anyB (n + 1) f = (anyB n f || f n) := by
  unfold anyB; rw [List.range_succ, List.any_append]; simp
theorem anyB_true {n : Nat} {f : Nat → Bool} : anyB n f = true ↔ ∃ k, k < n ∧ f k = true := by
  unfold anyB; rw [List.any_eq_true]; simp only [List.mem_range]
theorem anyB_false {n : Nat} {f : Nat → Bool} : anyB n f = false ↔ ∀ k, k < n → f k = false := by
  unfold anyB; rw [List.any_eq_false]; simp only [List.mem_range]
  constructor
  · intro h k hk; simpa using h k hk
  · intro h k hk; simpa using h k hk
/-- How many pages a page of some making is, with its neighbours. -/
def szO (h : Int) : Int := if h = 3 ∨ h = 5 ∨ h = 6 then 8 else if h = 4 then 64 else 1
def ordO (h : Int) : Int := if h = 3 ∨ h = 5 ∨ h = 6 then 3 else if h = 4 then 6 else 0
def prB (p : Int) : Bool := decide (p = 0 ∨ p = 1 ∨ p = 3)
theorem szO_pos (h : Int) : szO h = 1 ∨ szO h = 8 ∨ szO h = 64 := by unfold szO; split; exact Or.inr (Or.inl rfl); split; exact Or.inr (Or.inr rfl); exact Or.inl rfl
theorem szO_one {h : Int} : 1 < szO h ↔ szO h ≠ 1 := by rcases szO_pos h with e | e | e <;> rw [e] <;> omega
/-- Pages of a space, as they may be. -/
structure PsOk (P : Int → Pg) : Prop where
  ok : ∀ i, PgOk (P i)
  far : ∀ i, ¬ (0 ≤ i ∧ i < 4096) → P i = zP
  sm : ∀ i, 0 ≤ (P i).x ∧ (P i).x ≤ 4096
def inS (a n i : Int) : Prop := a ≤ i ∧ i < a + n
instance (a n i : Int) : Decidable (inS a n i) := by unfold inS; infer_instance
def mapP (P : Int → Pg) (a n how p o : Int) : Int → Pg := fun i => if inS a n i then ⟨how, p, o, if shr how then i - a else 0⟩ else P i
def unP (P : Int → Pg) (a n : Int) : Int → Pg := fun i => if inS a n i then zP else P i
def prP (P : Int → Pg) (a n p : Int) : Int → Pg := fun i => if inS a n i then { P i with p := p } else P i
def mvP (P : Int → Pg) (a n t : Int) : Int → Pg := fun i => if inS t n i then P (i - t + a) else if inS a n i then zP else P i
/-- All areas. -/
def allA (P : Int → Pg) : List Ar := pcs P 0 4096
def fullB (P : Int → Pg) : Bool := decide (64 < (allA P).length)
def usedB (P : Int → Pg) (a : Int) (n : Nat) : Bool := anyB n fun k => decide ((P (a + k)).h ≠ 0)
def covB (P : Int → Pg) (a : Int) (n : Nat) : Bool := !anyB n fun k => decide ((P (a + k)).h = 0)
def hugeB (P : Int → Pg) (a : Int) (n : Nat) : Bool := anyB n fun k => decide (1 < szO (P (a + k)).h)
def cutsB (P : Int → Pg) (a n : Int) : Bool := decide (a % szO (P a).h ≠ 0) || (decide (a + n < 4096) && decide ((a + n) % szO (P (a + n)).h ≠ 0))
def mapA (how p o : Int) : Bool := decide (how < 1) || decide (6 < how) || !prB p || (decide (p = 0) && decide (1 < szO how)) || decide (o < 0) || (decide (0 < o) && !decide (shr how))
def mapE (P : Int → Pg) (a n how p o : Int) : Int :=
  if mapA how p o = true then 2 else if rtI a n (ordO how) ≠ 0 then rtI a n (ordO how) else if usedB P a n.toNat = true then 7 else if fullB (mapP P a n how p o) = true then 13 else 0
def unE (P : Int → Pg) (a n : Int) : Int :=
  if rtI a n 0 ≠ 0 then rtI a n 0 else if cutsB P a n = true then 2 else if fullB (unP P a n) = true then 13 else 0
def prE (P : Int → Pg) (a n p : Int) : Int :=
  if rtI a n 0 ≠ 0 then rtI a n 0 else if prB p = false then 2 else if covB P a n.toNat = false then 6 else if cutsB P a n = true then 2 else if p = 0 ∧ hugeB P a n.toNat = true then 2 else if fullB (prP P a n p) = true then 13 else 0
def mvE (P : Int → Pg) (a n t : Int) : Int :=
  if rtI a n 0 ≠ 0 then rtI a n 0 else if rtI t n 0 ≠ 0 then rtI t n 0 else if t < a + n ∧ a < t + n then 2 else if covB P a n.toNat = false then 6 else if hugeB P a n.toNat = true then 2 else if usedB P t n.toNat = true then 7 else if fullB (mvP P a n t) = true then 13 else 0
/-- What becomes of the pages. -/
def nextP (e : Int) (P Q : Int → Pg) : Int → Pg := if e = 0 then Q else P
theorem rt_in {a n k : Int} (h : rtI a n k = 0) : 1 ≤ a ∧ 1 ≤ n ∧ a + n ≤ 4096 := by
  unfold rtI at h
  split at h
  · cases h
  · split at h
    · cases h
    · split at h
      · cases h
      · split at h
        · cases h
        · omega
theorem PsOk.map {P : Int → Pg} (h : PsOk P) {a n how p o : Int} (hh : how ≠ 0) (ha : 0 ≤ a) (hn : a + n ≤ 4096) : PsOk (mapP P a n how p o) := by
  refine ⟨fun i => ?_, fun i hi => ?_, fun i => ?_⟩
  · unfold mapP
    split
    · refine ⟨fun e => absurd e hh, fun hs => if_neg hs⟩
    · exact h.ok i
  · unfold mapP; rw [if_neg (show ¬ inS a n i by unfold inS; omega)]; exact h.far i hi
  · unfold mapP
    split
    · rename_i hs
      unfold inS at hs
      show 0 ≤ (if shr how then i - a else 0) ∧ (if shr how then i - a else 0) ≤ 4096
      split <;> omega
    · exact h.sm i
theorem PsOk.un {P : Int → Pg} (h : PsOk P) (a n : Int) : PsOk (unP P a n) := by
  refine ⟨fun i => ?_, fun i hi => ?_, fun i => ?_⟩
  · unfold unP
    split
    · exact zP_ok
    · exact h.ok i
  · unfold unP
    split
    · rfl
    · exact h.far i hi
  · unfold unP
    split
    · show (0 : Int) ≤ 0 ∧ (0 : Int) ≤ 4096; omega
    · exact h.sm i
theorem PsOk.pr {P : Int → Pg} (h : PsOk P) {a n p : Int} (hc : ∀ i, inS a n i → (P i).h ≠ 0) : PsOk (prP P a n p) := by
  refine ⟨fun i => ?_, fun i hi => ?_, fun i => ?_⟩
  · unfold prP
    split
    · rename_i hs
      exact ⟨fun e => absurd e (hc i hs), (h.ok i).2⟩
    · exact h.ok i
  · have hz := h.far i hi
    unfold prP
    rw [if_neg (fun hs => hc i hs (by rw [hz]; rfl)), hz]
  · unfold prP
    split
    · exact h.sm i
    · exact h.sm i
theorem PsOk.mv {P : Int → Pg} (h : PsOk P) {a n t : Int} (ht : 0 ≤ t) (hn : t + n ≤ 4096) : PsOk (mvP P a n t) := by
  refine ⟨fun i => ?_, fun i hi => ?_, fun i => ?_⟩
  · unfold mvP
    split
    · exact h.ok _
    · split
      · exact zP_ok
      · exact h.ok i
  · unfold mvP
    rw [if_neg (by unfold inS; omega)]
    split
    · rfl
    · exact h.far i hi
  · unfold mvP
    split
    · exact h.sm _
    · split
      · show (0 : Int) ≤ 0 ∧ (0 : Int) ≤ 4096; omega
      · exact h.sm i
theorem cov_in {P : Int → Pg} {a n : Int} (h : covB P a n.toNat = true) (i : Int) (hi : inS a n i) : (P i).h ≠ 0 := by
  unfold covB at h
  rw [Bool.not_eq_true', anyB_false] at h
  unfold inS at hi
  have := h (i - a).toNat (by omega)
  rw [show a + (((i - a).toNat : Nat) : Int) = i by omega] at this
  simpa using this
end Go.Proofs.Ytodepfgfgphkbaa
