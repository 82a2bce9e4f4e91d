/- A pool, without the program: what each call answers, and what it makes of it. -/
import Derived.WalkKit
import Derived.Lib.Hide
namespace Go.Proofs.Ytllepijlebbjbaa
/-- A pool: its order, how many may be surplus, of each frame what a page that begins there is (0 none, 1 free, 2 in use), the promised, the surplus. -/
structure Pk where
  o : Int
  m : Int
  I : List Int
  P : Int
  U : Int
def frK (I : List Int) (j : Nat) : List Int := ((List.range j).filter fun i => decide (I[i]? = some 1)).map fun i : Nat => (i : Int)
def cnK (I : List Int) (x : Int) (j : Nat) : Nat := ((List.range j).filter fun i => decide (I[i]? = some x)).length
def frL (I : List Int) : List Int := frK I 1024
def szI (o : Int) : Int := if o = 3 then 8 else 64
def stP (S : Pk) (f v : Int) : Pk := ⟨S.o, S.m, S.I.set f.toNat v, S.P, S.U⟩
def maE (S : Pk) (f : Int) : Int := if f < 0 ∨ 1024 - szI S.o < f then 3 else if f % szI S.o ≠ 0 then 4 else if S.I[f.toNat]? ≠ some 0 then 7 else 0
def grS (S : Pk) (f : Int) : Pk := if maE S f = 0 then stP S f 1 else S
def exE (S : Pk) (f : Int) : Int := if maE S f ≠ 0 then maE S f else if S.m ≤ S.U then 13 else 0
def exS (S : Pk) (f : Int) : Pk := if exE S f = 0 then ⟨S.o, S.m, S.I.set f.toNat 2, S.P, S.U + 1⟩ else S
def prE (S : Pk) (n : Int) : Int := if n < 0 then 2 else if ((frL S.I).length : Int) - S.P < n then 8 else 0
def prS (S : Pk) (n : Int) : Pk := if prE S n = 0 then ⟨S.o, S.m, S.I, S.P + n, S.U⟩ else S
def unE (S : Pk) (n : Int) : Int := if n < 0 then 2 else if S.P < n then 3 else 0
def unS (S : Pk) (n : Int) : Pk := if unE S n = 0 then ⟨S.o, S.m, S.I, S.P - n, S.U⟩ else S
def shE (S : Pk) : Int := if ((frL S.I).length : Int) ≤ S.P then 12 else 0
def shV (S : Pk) : Int := if shE S = 0 then (frL S.I).getLastD 0 else 0
def shS (S : Pk) : Pk := if shE S = 0 then stP S ((frL S.I).getLastD 0) 0 else S
def taE (S : Pk) (b : Bool) : Int := if b = true ∧ S.P = 0 then 3 else if b = false ∧ ((frL S.I).length : Int) ≤ S.P then 9 else 0
def taV (S : Pk) (b : Bool) : Int := if taE S b = 0 then (frL S.I).headD 0 else 0
def taS (S : Pk) (b : Bool) : Pk := if taE S b = 0 then ⟨S.o, S.m, S.I.set ((frL S.I).headD 0).toNat 2, if b = true then S.P - 1 else S.P, S.U⟩ else S
def giE (S : Pk) (f : Int) : Int := if f < 0 ∨ 1023 < f ∨ S.I[f.toNat]? ≠ some 2 then 6 else 0
def giV (S : Pk) (f : Int) (b : Bool) : Bool := decide (giE S f = 0 ∧ 0 < S.U ∧ b = false)
def giS (S : Pk) (f : Int) (b : Bool) : Pk := if giE S f = 0 then (if 0 < S.U ∧ b = false then ⟨S.o, S.m, S.I.set f.toNat 0, S.P, S.U - 1⟩ else ⟨S.o, S.m, S.I.set f.toNat 1, if b = true then S.P + 1 else S.P, S.U⟩) else S
/-! Counting. -/
section
variable {I : List Int} {x v : Int} {j i : Nat}
theorem frK_len (I : List Int) (j : Nat) : (frK I j).length = cnK I 1 j := by unfold frK cnK; rw [List.length_map]
theorem cnK_le (I : List Int) (x : Int) (j : Nat) : cnK I x j ≤ j := by
  unfold cnK
  exact Nat.le_trans (List.length_filter_le _ _) (by simp)
theorem frK_succ (I : List Int) (j : Nat) : frK I (j + 1) = if I[j]? = some 1 then frK I j ++ [(j : Int)] else frK I j := by
  unfold frK
  rw [List.range_succ, List.filter_append, List.map_append]
  by_cases c : I[j]? = some 1
  · rw [if_pos c, List.filter_cons_of_pos (by simpa using c)]; simp
  · rw [if_neg c, List.filter_cons_of_neg (by simpa using c)]; simp
theorem cnK_succ (I : List Int) (x : Int) (j : Nat) : cnK I x (j + 1) = if I[j]? = some x then cnK I x j + 1 else cnK I x j := by
  unfold cnK
  rw [List.range_succ, List.filter_append, List.length_append]
  by_cases c : I[j]? = some x
  · rw [if_pos c, List.filter_cons_of_pos (by simpa using c)]; simp
  · rw [if_neg c, List.filter_cons_of_neg (by simpa using c)]; simp
theorem cnK_is (I : List Int) (x : Int) : ∀ j, cnK I x j = (I.take j).count x
  | 0 => by simp [cnK]
  | j + 1 => by
    rw [cnK_succ, cnK_is I x j, List.take_add_one, List.count_append]
    cases e : I[j]? with
    | none => simp
    | some y =>
      by_cases c : y = x
      · subst c; simp
      · rw [if_neg (by simpa using c)]; simp [c]
theorem cn_is (h : I.length = 1024) (x : Int) : cnK I x 1024 = I.count x := by rw [cnK_is, List.take_of_length_le (by omega)]
theorem frL_len (h : I.length = 1024) : (frL I).length = I.count 1 := by unfold frL; rw [frK_len, cn_is h]
theorem mem_frL : (i : Int) ∈ frL I ↔ i < 1024 ∧ I[i]? = some 1 := by
  unfold frL frK
  simp only [List.mem_map, List.mem_filter, List.mem_range, decide_eq_true_eq]
  constructor
  · rintro ⟨k, ⟨a, b⟩, e⟩
    have : k = i := by omega
    subst this; exact ⟨a, b⟩
  · rintro ⟨a, b⟩; exact ⟨i, ⟨a, b⟩, rfl⟩
theorem frL_nat {y : Int} (h : y ∈ frL I) : ∃ i : Nat, y = i ∧ i < 1024 ∧ I[i]? = some 1 := by
  have h' := h
  unfold frL frK at h'
  obtain ⟨i, _, rfl⟩ := List.mem_map.1 h'
  obtain ⟨a, b⟩ := mem_frL.1 h
  exact ⟨i, rfl, a, b⟩
theorem frL_up (I : List Int) : (frL I).Pairwise (· < ·) := by
  unfold frL frK
  rw [List.pairwise_map]
  exact ((List.pairwise_lt_range (n := 1024)).filter _).imp fun h => by omega
theorem frL_head (h : 0 < (frL I).length) : ∃ i : Nat, (frL I)[0]? = some (i : Int) ∧ (frL I).headD 0 = i ∧ i < 1024 ∧ I[i]? = some 1 := by
  cases e : frL I with
  | nil => rw [e] at h; exact absurd h (by decide)
  | cons a r =>
    obtain ⟨i, rfl, h1, h2⟩ := frL_nat (I := I) (y := a) (by rw [e]; exact List.mem_cons_self)
    exact ⟨i, rfl, rfl, h1, h2⟩
theorem frL_last (h : 0 < (frL I).length) : ∃ i : Nat, (frL I)[(frL I).length - 1]? = some (i : Int) ∧ (frL I).getLastD 0 = i ∧ i < 1024 ∧ I[i]? = some 1 := by
  have hl : (frL I).length - 1 < (frL I).length := by omega
  obtain ⟨i, e, h1, h2⟩ := frL_nat (I := I) (List.getElem_mem hl)
  refine ⟨i, by rw [List.getElem?_eq_getElem hl, e], ?_, h1, h2⟩
  rw [List.getLastD_eq_getLast?, List.getLast?_eq_getElem?, List.getElem?_eq_getElem hl, e]; rfl
end
/-! What is known of pools. -/
structure POk (S : Pk) : Prop where
  o : S.o = 3 ∨ S.o = 6
  m0 : 0 ≤ S.m
  m1 : S.m ≤ 64
  ln : S.I.length = 1024
  al : ∀ (i : Nat) (x : Int), S.I[i]? = some x → x = 0 ∨ ((x = 1 ∨ x = 2) ∧ (i : Int) % szI S.o = 0 ∧ (i : Int) ≤ 1024 - szI S.o)
  p0 : 0 ≤ S.P
  p1 : S.P ≤ (S.I.count 1 : Nat)
  u0 : 0 ≤ S.U
  u1 : S.U ≤ S.m
section
variable {S : Pk}
theorem count_set {I : List Int} {i : Nat} {x : Int} (h : I[i]? = some x) (v y : Int) : ((I.set i v).count y : Int) = (I.count y : Int) - (if x = y then 1 else 0) + (if v = y then 1 else 0) := by
  obtain ⟨hi, e⟩ := List.getElem?_eq_some_iff.1 h
  have h1 : I.count y = (I.take i).count y + ((if x = y then 1 else 0) + (I.drop (i + 1)).count y) := by
    conv => lhs; rw [← List.take_append_drop i I, List.count_append, List.drop_eq_getElem_cons hi, e, List.count_cons]
    by_cases c : x = y
    · simp [c]; omega
    · simp [c]
  have h2 : (I.set i v).count y = (I.take i).count y + ((if v = y then 1 else 0) + (I.drop (i + 1)).count y) := by
    rw [List.set_eq_take_append_cons_drop, if_pos hi, List.count_append, List.count_cons]
    by_cases c : v = y
    · simp [c]; omega
    · simp [c]
  rw [h1, h2]
  by_cases c : x = y
  · by_cases d : v = y
    · simp [c, d]
    · simp [c, d]; omega
  · by_cases d : v = y
    · simp [c, d]; omega
    · simp [c, d]
/-- A turned frame. -/
theorem POk.set_ (h : POk S) {i : Nat} {x v P U : Int} (hx : S.I[i]? = some x) (hv : v = 0 ∨ ((v = 1 ∨ v = 2) ∧ (i : Int) % szI S.o = 0 ∧ (i : Int) ≤ 1024 - szI S.o)) (p0 : 0 ≤ P) (p1 : P ≤ (S.I.count 1 : Int) - (if x = 1 then 1 else 0) + (if v = 1 then 1 else 0)) (u0 : 0 ≤ U) (u1 : U ≤ S.m) : POk ⟨S.o, S.m, S.I.set i v, P, U⟩ where
  o := h.o
  m0 := h.m0
  m1 := h.m1
  ln := by show (S.I.set i v).length = 1024; rw [List.length_set]; exact h.ln
  al := fun k y hk => by
    have hk' : (S.I.set i v)[k]? = some y := hk
    rw [List.getElem?_set] at hk'
    split at hk'
    · rename_i e
      subst e
      split at hk'
      · injection hk' with e; subst e; exact hv
      · cases hk'
    · exact h.al k y hk'
  p0 := p0
  p1 := by show P ≤ ((S.I.set i v).count 1 : Nat); rw [count_set hx]; exact p1
  u0 := u0
  u1 := u1
theorem maE_ok {f : Int} (h : maE S f = 0) : 0 ≤ f ∧ f ≤ 1024 - szI S.o ∧ f % szI S.o = 0 ∧ S.I[f.toNat]? = some 0 := by
  unfold maE at h
  split at h
  · omega
  · split at h
    · omega
    · split at h
      · omega
      · rename_i a b c
        refine ⟨by omega, by omega, by omega, ?_⟩
        exact Classical.not_not.1 c
theorem POk.grow (h : POk S) (f : Int) : POk (grS S f) := by
  unfold grS
  split
  · rename_i c
    obtain ⟨a, b, c1, d⟩ := maE_ok c
    exact h.set_ d (Or.inr ⟨Or.inl rfl, by rw [Int.toNat_of_nonneg a]; exact c1, by rw [Int.toNat_of_nonneg a]; exact b⟩) h.p0 (by have := h.p1; simp; omega) h.u0 h.u1
  · exact h
theorem POk.extra (h : POk S) (f : Int) : POk (exS S f) := by
  unfold exS
  split
  · rename_i c
    have c' := c
    unfold exE at c'
    split at c'
    · omega
    · rename_i c2
      split at c'
      · omega
      · rename_i c3
        obtain ⟨a, b, c1, d⟩ := maE_ok (Classical.not_not.1 c2)
        exact h.set_ d (Or.inr ⟨Or.inr rfl, by rw [Int.toNat_of_nonneg a]; exact c1, by rw [Int.toNat_of_nonneg a]; exact b⟩) h.p0 (by have := h.p1; simp; omega) (by have := h.u0; omega) (by omega)
  · exact h
theorem POk.promise (h : POk S) (n : Int) : POk (prS S n) := by
  unfold prS
  split
  · rename_i c
    unfold prE at c
    split at c
    · omega
    · split at c
      · omega
      · rename_i c1 c2
        rw [frL_len h.ln] at c2
        exact ⟨h.o, h.m0, h.m1, h.ln, h.al, by have := h.p0; show 0 ≤ S.P + n; omega, by show S.P + n ≤ (S.I.count 1 : Nat); omega, h.u0, h.u1⟩
  · exact h
theorem POk.unpromise (h : POk S) (n : Int) : POk (unS S n) := by
  unfold unS
  split
  · rename_i c
    unfold unE at c
    split at c
    · omega
    · split at c
      · omega
      · exact ⟨h.o, h.m0, h.m1, h.ln, h.al, by show 0 ≤ S.P - n; omega, by have := h.p1; show S.P - n ≤ (S.I.count 1 : Nat); omega, h.u0, h.u1⟩
  · exact h
theorem POk.shrink (h : POk S) : POk (shS S) := by
  unfold shS
  split
  · rename_i c
    unfold shE at c
    split at c
    · omega
    · rename_i c1
      have := h.p0
      obtain ⟨i, _, e, _, e1⟩ := frL_last (I := S.I) (by omega)
      rw [frL_len h.ln] at c1
      unfold stP
      rw [e, Int.toNat_natCast]
      exact h.set_ e1 (Or.inl rfl) h.p0 (by simp; omega) h.u0 h.u1
  · exact h
theorem taE_ok (h : POk S) {b : Bool} (c : taE S b = 0) : 0 < (frL S.I).length ∧ (b = true → 0 < S.P) ∧ (b = false → S.P < ((frL S.I).length : Int)) := by
  have p0 := h.p0
  have p1 := h.p1
  rw [← frL_len h.ln] at p1
  unfold taE at c
  split at c
  · omega
  · split at c
    · omega
    · rename_i c1 c2
      cases b
      · have : ¬ ((frL S.I).length : Int) ≤ S.P := fun e => c2 ⟨rfl, e⟩
        exact ⟨by omega, ⟨(fun e => by cases e), fun _ => by omega⟩⟩
      · have : ¬ S.P = 0 := fun e => c1 ⟨rfl, e⟩
        exact ⟨by omega, ⟨(fun _ => by omega), fun e => by cases e⟩⟩
theorem POk.take (h : POk S) (b : Bool) : POk (taS S b) := by
  unfold taS
  split
  · rename_i c
    obtain ⟨c0, c1, c2⟩ := taE_ok h c
    obtain ⟨i, _, e, _, e1⟩ := frL_head c0
    have hp := h.p1
    have hp0 := h.p0
    rw [frL_len h.ln] at c2
    rw [e, Int.toNat_natCast]
    have al := h.al _ _ e1
    refine h.set_ e1 (Or.inr ⟨Or.inr rfl, by omega, by omega⟩) ?_ ?_ h.u0 h.u1
    · cases b
      · exact hp0
      · have := c1 rfl; show 0 ≤ S.P - 1; omega
    · cases b
      · have := c2 rfl; simp; omega
      · simp; omega
  · exact h
theorem giE_ok {f : Int} (c : giE S f = 0) : 0 ≤ f ∧ f ≤ 1023 ∧ S.I[f.toNat]? = some 2 := by
  unfold giE at c
  split at c
  · omega
  · rename_i c1
    refine ⟨by omega, by omega, ?_⟩
    exact Classical.not_not.1 fun e => c1 (Or.inr (Or.inr e))
theorem POk.give (h : POk S) (f : Int) (b : Bool) : POk (giS S f b) := by
  have hp := h.p1
  have hp0 := h.p0
  unfold giS
  split
  · rename_i c
    obtain ⟨a, a1, e1⟩ := giE_ok c
    have al := h.al _ _ e1
    split
    · rename_i d
      exact h.set_ e1 (Or.inl rfl) h.p0 (by simp; omega) (by omega) (by have := h.u1; omega)
    · refine h.set_ e1 (Or.inr ⟨Or.inl rfl, by omega, by omega⟩) ?_ ?_ h.u0 h.u1
      · cases b
        · exact hp0
        · show 0 ≤ S.P + 1; omega
      · cases b
        · simp; omega
        · simp; omega
  · exact h
end
end Go.Proofs.Ytllepijlebbjbaa
