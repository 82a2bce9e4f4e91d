/- Lines of a buffer of translations: what each call answers over a plain list of lines. -/
import Derived.Test.YtbnnfgdlkldafaaGp
namespace Go.Proofs.Ytbnnfgdlkldafaa

structure Cd where
  s : Int
  p : Int
  o : Int
  f : Int
  w : Bool
theorem Cd.ext_iff' {a b : Cd} : a = b ↔ a.s = b.s ∧ a.p = b.p ∧ a.o = b.o ∧ a.f = b.f ∧ a.w = b.w := by
  constructor
  · rintro rfl; exact ⟨rfl, rfl, rfl, rfl, rfl⟩
  · rcases a with ⟨⟩; rcases b with ⟨⟩; rintro ⟨h1, h2, h3, h4, h5⟩; dsimp only at h1 h2 h3 h4 h5; rw [h1, h2, h3, h4, h5]
instance : DecidableEq Cd := fun _ _ => decidable_of_iff _ Cd.ext_iff'.symm
def Fits (n : Int) : Prop := -9223372036854775808 ≤ n ∧ n ≤ 9223372036854775807
structure CFits (c : Cd) : Prop where
  s : Fits c.s
  p : Fits c.p
  o : Fits c.o
  f : Fits c.f
def szO (o : Int) : Int := if o = 3 then 8 else if o = 6 then 64 else 1
theorem szO_pos (o : Int) : 1 ≤ szO o ∧ szO o ≤ 64 := by unfold szO; split <;> (try split) <;> omega
def isO (o : Int) : Bool := decide (o = 0 ∨ o = 3 ∨ o = 6)
/-- What a line that may be keeps to. -/
def ROk (c : Cd) : Prop := (c.o = 0 ∨ c.o = 3 ∨ c.o = 6) ∧ 0 ≤ c.s ∧ 0 ≤ c.p ∧ c.p < 4096 ∧ c.p % szO c.o = 0 ∧ 0 ≤ c.f ∧ c.f < 1048576 ∧ c.f % szO c.o = 0
instance (c : Cd) : Decidable (ROk c) := by unfold ROk; exact inferInstance
def rgB (c : Cd) : Bool := decide (ROk c)
theorem szO_ord {o : Int} (h : o = 0 ∨ o = 3 ∨ o = 6) : ordB o = true ∧ szO o = 2 ^ o.toNat := by
  rcases h with rfl | rfl | rfl <;> exact ⟨rfl, rfl⟩
/-- Does a line hold one of n pages of a space? -/
def metB (c : Cd) (s p n : Int) : Bool := decide (1 ≤ n ∧ c.s = s ∧ c.p < p + n ∧ p < c.p + szO c.o)
def hdB (c : Cd) (s p : Int) : Bool := decide (c.s = s ∧ c.p ≤ p ∧ p < c.p + szO c.o)
theorem metB_one (c : Cd) (s p : Int) : metB c s p 1 = hdB c s p := by
  unfold metB hdB
  apply decide_eq_decide.2
  constructor
  · rintro ⟨_, h1, h2, h3⟩; exact ⟨h1, by omega, h3⟩
  · rintro ⟨h1, h2, h3⟩; exact ⟨by omega, h1, by omega, h3⟩
/-- What the program asks of a line that may be. -/
theorem dn_le {c : Cd} (h : ROk c) (p : Int) : dnI p c.o ≤ c.p ↔ p < c.p + szO c.o := by
  obtain ⟨ho, _, _, _, he, _⟩ := h
  obtain ⟨h1, h2⟩ := szO_ord ho
  unfold dnI
  rw [if_pos h1, ← h2]
  rcases ho with ho | ho | ho <;> rw [ho] at he ⊢ <;> simp only [szO] at he ⊢ <;> simp at he ⊢ <;> omega
/-! The calls over a list. -/
def flL (L : List Cd) (s p n : Int) : List Cd := L.filter fun c => !metB c s p n
def flN (L : List Cd) (s p n : Int) : Int := (L.length : Int) - (flL L s p n).length
def cutL (z : Nat) (M : List Cd) : List Cd := if z ≤ M.length then M.tail else M
def putE (c : Cd) : Int := if rgB c = true then 0 else 2
def putL (z : Nat) (L : List Cd) (c : Cd) : List Cd := if rgB c = true then cutL z (flL L c.s c.p (szO c.o)) ++ [c] else L
def drE (L : List Cd) (i : Int) : Int := if 0 ≤ i ∧ i < L.length then 0 else 3
def drL (L : List Cd) (i : Int) : List Cd := if 0 ≤ i ∧ i < L.length then L.eraseIdx i.toNat else L
/-! No two hold one page. -/
def Far (a b : Cd) : Prop := ¬ (a.s = b.s ∧ a.p < b.p + szO b.o ∧ b.p < a.p + szO a.o)
structure Good (z : Nat) (L : List Cd) : Prop where
  ok : ∀ c ∈ L, ROk c
  far : L.Pairwise Far
  len : L.length ≤ z
theorem Far.symm {a b : Cd} (h : Far a b) : Far b a := fun ⟨h1, h2, h3⟩ => h ⟨h1.symm, h3, h2⟩
theorem Far.not_met {a b : Cd} (h : Far a b) : metB a b.s b.p (szO b.o) = false := by
  unfold metB
  rw [decide_eq_false_iff_not]
  rintro ⟨_, h1, h2, h3⟩
  exact h ⟨h1, h2, h3⟩
theorem far_of_not_met {a b : Cd} (h : metB a b.s b.p (szO b.o) = false) : Far a b := by
  unfold metB at h
  rw [decide_eq_false_iff_not] at h
  rintro ⟨h1, h2, h3⟩
  exact h ⟨(szO_pos _).1, h1, h2, h3⟩
theorem Far.one {a b : Cd} (h : Far a b) : hdB a b.s b.p = false := by
  unfold hdB
  rw [decide_eq_false_iff_not]
  rintro ⟨h1, h2, h3⟩
  have := (szO_pos b.o).1
  exact h ⟨h1, by omega, h3⟩
theorem Good.nil (z : Nat) : Good z [] := ⟨fun _ h => absurd h List.not_mem_nil, List.Pairwise.nil, Nat.zero_le _⟩
theorem Good.sub {z : Nat} {L M : List Cd} (h : Good z L) (hs : M.Sublist L) : Good z M :=
  ⟨fun c hc => h.ok c (hs.subset hc), h.far.sublist hs, Nat.le_trans hs.length_le h.len⟩
theorem flL_sub (L : List Cd) (s p n : Int) : (flL L s p n).Sublist L := List.filter_sublist
theorem flL_none (L : List Cd) (s p : Int) {n : Int} (h : n < 1) : flL L s p n = L := by
  unfold flL
  apply List.filter_eq_self.2
  intro c _
  have : metB c s p n = false := by unfold metB; rw [decide_eq_false_iff_not]; rintro ⟨h1, _⟩; omega
  rw [this]; rfl
theorem flL_none' (L : List Cd) (s p : Int) {n : Int} (h : n < 1) : flN L s p n = 0 := by
  unfold flN; rw [flL_none L s p h]; omega
theorem drL_sub (L : List Cd) (i : Int) : (drL L i).Sublist L := by
  unfold drL
  split
  · exact List.eraseIdx_sublist _ _
  · exact List.Sublist.refl _
theorem cutL_sub (z : Nat) (M : List Cd) : (cutL z M).Sublist M := by
  unfold cutL
  split
  · exact List.tail_sublist _
  · exact List.Sublist.refl _
theorem cutL_len {z : Nat} {M : List Cd} (hz : 1 ≤ z) (h : M.length ≤ z) : (cutL z M).length + 1 ≤ z := by
  unfold cutL
  split
  · rw [List.length_tail]; omega
  · omega
theorem Good.put {z : Nat} {L : List Cd} (h : Good z L) (hz : 1 ≤ z) (c : Cd) : Good z (putL z L c) := by
  unfold putL
  split
  case isTrue hr =>
    have hf := h.sub (flL_sub L c.s c.p (szO c.o))
    have hc := hf.sub (cutL_sub z _)
    refine ⟨fun x hx => ?_, ?_, ?_⟩
    · rcases List.mem_append.1 hx with hx | hx
      · exact hc.ok x hx
      · rw [List.mem_singleton.1 hx]; exact of_decide_eq_true hr
    · rw [List.pairwise_append]
      refine ⟨hc.far, List.pairwise_singleton _ _, fun a ha b hb => ?_⟩
      rw [List.mem_singleton.1 hb]
      have := (cutL_sub z _).subset ha
      unfold flL at this
      have := (List.mem_filter.1 this).2
      exact far_of_not_met (by simpa using this)
    · rw [List.length_append]
      exact cutL_len hz hf.len
  case isFalse => exact h
theorem Good.drop {z : Nat} {L : List Cd} (h : Good z L) (i : Int) : Good z (drL L i) := h.sub (drL_sub L i)
theorem Good.flush {z : Nat} {L : List Cd} (h : Good z L) (s p n : Int) : Good z (flL L s p n) := h.sub (flL_sub L s p n)
/-! Who holds a page: from the front and from the back the same. -/
def lkP (L : List Cd) (s p : Int) : Option Cd := L.reverse.find? fun c => hdB c s p
def lkR (L : List Cd) (s p : Int) : Option Cd := L.find? fun c => hdB c s p
theorem held_far {a b : Cd} {s p : Int} (ha : hdB a s p = true) (hb : hdB b s p = true) : ¬ Far a b := by
  unfold hdB at ha hb
  obtain ⟨h1, h2, h3⟩ := of_decide_eq_true ha
  obtain ⟨k1, k2, k3⟩ := of_decide_eq_true hb
  intro h
  exact h ⟨h1.trans k1.symm, by omega, by omega⟩
theorem lk_all : ∀ {L : List Cd} {s p : Int}, L.Pairwise Far → ∀ c ∈ L, hdB c s p = true → L.find? (fun c => hdB c s p) = some c
  | [], _, _, _, c, hc, _ => by cases hc
  | x :: r, s, p, h, c, hc, hh => by
    rw [List.pairwise_cons] at h
    rcases List.mem_cons.1 hc with rfl | hc
    · rw [List.find?_cons, hh]
    · have hx : hdB x s p = false := by
        cases e : hdB x s p
        · rfl
        · exact absurd (h.1 c hc) (held_far e hh)
      rw [List.find?_cons, hx]
      exact lk_all h.2 c hc hh
theorem Good.rev {L : List Cd} (h : L.Pairwise Far) : L.reverse.Pairwise Far := List.pairwise_reverse.2 (h.imp fun h => h.symm)
theorem lk_same {L : List Cd} (h : L.Pairwise Far) (s p : Int) : lkP L s p = lkR L s p := by
  unfold lkP lkR
  cases e : L.find? (fun c => hdB c s p) with
  | none =>
    rw [List.find?_eq_none] at e ⊢
    intro x hx
    exact e x (List.mem_reverse.1 hx)
  | some c => exact lk_all (Good.rev h) c (List.mem_reverse.2 (List.mem_of_find?_eq_some e)) (by have := List.find?_some e; exact this)
theorem lk_mem {L : List Cd} (h : L.Pairwise Far) {c : Cd} (hc : c ∈ L) : lkP L c.s c.p = some c := by
  refine lk_all (Good.rev h) c (List.mem_reverse.2 hc) ?_
  unfold hdB
  have := (szO_pos c.o).1
  exact decide_eq_true ⟨rfl, by omega, by omega⟩
def lkC (x : Option Cd) : Cd := x.getD ⟨0, 0, 0, 0, false⟩
/-! A scan from the back: what is left when all from a place on have been looked at. -/
def scn (L : List Cd) (s p n : Int) (k : Nat) : List Cd := L.take k ++ (L.drop k).filter fun c => !metB c s p n
theorem scn_all (L : List Cd) (s p n : Int) : scn L s p n L.length = L := by simp [scn]
theorem scn_none (L : List Cd) (s p n : Int) : scn L s p n 0 = flL L s p n := by simp [scn, flL]
theorem scn_at {L : List Cd} {s p n : Int} {k : Nat} (hk : k < L.length) (j : Nat) (hj : j ≤ k) : (scn L s p n (k + 1))[j]? = L[j]? := by
  unfold scn
  rw [List.getElem?_append_left (by rw [List.length_take]; omega), List.getElem?_take_of_lt (by omega)]
theorem scn_keep {L : List Cd} {s p n : Int} {k : Nat} (hk : k < L.length) (h : metB L[k] s p n = false) : scn L s p n (k + 1) = scn L s p n k := by
  unfold scn
  rw [List.drop_eq_getElem_cons hk, List.take_succ_eq_append_getElem hk, List.filter_cons, h, List.append_assoc]
  rfl
theorem scn_drop {L : List Cd} {s p n : Int} {k : Nat} (hk : k < L.length) (h : metB L[k] s p n = true) : (scn L s p n (k + 1)).eraseIdx k = scn L s p n k := by
  unfold scn
  rw [List.drop_eq_getElem_cons hk, List.filter_cons, h, List.take_succ_eq_append_getElem hk, List.append_assoc, List.eraseIdx_append_of_length_le (by rw [List.length_take]; omega)]
  simp [List.length_take, Nat.min_eq_left (Nat.le_of_lt hk)]
theorem scn_len {L : List Cd} {s p n : Int} {k : Nat} (hk : k ≤ L.length) : k ≤ (scn L s p n k).length ∧ (scn L s p n k).length ≤ L.length := by
  unfold scn
  rw [List.length_append, List.length_take]
  have := List.length_filter_le (fun c => !metB c s p n) (L.drop k)
  rw [List.length_drop] at this
  omega
theorem flL_len (L : List Cd) (s p n : Int) : (flL L s p n).length ≤ L.length := List.length_filter_le _ _
end Go.Proofs.Ytbnnfgdlkldafaa
