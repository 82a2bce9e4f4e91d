/- Objects, without the program: what each call answers over how often each is held and a list of pages that have frames, and what becomes of both. -/
import Derived.Lib.Hide
namespace Go.Proofs.Ytnpacdbkmpchnaa

/-- A page of an object, and its frame. -/
structure Og where
  i : Int
  p : Int
  f : Int
deriving DecidableEq
/-- The first that is so (the length: none). -/
def fi {α : Type} (q : α → Bool) : List α → Nat
  | [] => 0
  | x :: r => if q x = true then 0 else fi q r + 1
section
variable {α : Type} {q : α → Bool}
theorem fi_le (L : List α) : fi q L ≤ L.length := by
  induction L with
  | nil => exact Nat.le_refl _
  | cons x r ih => unfold fi; split <;> simp <;> omega
theorem fi_lt {L : List α} {j : Nat} (h : j < fi q L) (hj : j < L.length) : q L[j] = false := by
  induction L generalizing j with
  | nil => cases hj
  | cons x r ih =>
    unfold fi at h
    by_cases c : q x = true
    · rw [if_pos c] at h; omega
    · rw [if_neg c] at h
      cases j with
      | zero => simpa using c
      | succ j => exact ih (j := j) (by omega) (by simp at hj; omega)
theorem fi_at {L : List α} (h : fi q L < L.length) : q (L[fi q L]) = true := by
  induction L with
  | nil => cases h
  | cons x r ih =>
    by_cases c : q x = true
    · have e : fi q (x :: r) = 0 := by show (if q x = true then 0 else fi q r + 1) = 0; rw [if_pos c]
      simp only [e]; exact c
    · have e : fi q (x :: r) = fi q r + 1 := by show (if q x = true then 0 else fi q r + 1) = _; rw [if_neg c]
      rw [e] at h
      simp only [e, List.getElem_cons_succ]
      exact ih (by simpa using h)
theorem fi_mem {L : List α} (h : fi q L < L.length) : L[fi q L] ∈ L := List.getElem_mem h
theorem fi_none {L : List α} : ¬ fi q L < L.length ↔ ∀ x ∈ L, q x = false := by
  constructor
  · intro h x hx
    obtain ⟨j, hj, rfl⟩ := List.getElem_of_mem hx
    exact fi_lt (by omega) hj
  · intro h hl
    have := h _ (fi_mem hl)
    rw [fi_at hl] at this
    cases this
end
def byF (f : Int) (x : Og) : Bool := decide (x.f = f)
def byP (i p : Int) (x : Og) : Bool := decide (x.i = i) && decide (x.p = p)
/-- Whose a frame is (below 0: nobody's). -/
def ofI (L : List Og) (f : Int) : Int := if fi (byF f) L < L.length then (fi (byF f) L : Nat) else -1
def isB (H : List Int) (i : Int) : Bool := decide (0 ≤ i) && decide (i < H.length) && decide (0 < H.getD i.toNat 0)
/-- Frame: what it answers. -/
def frV (L : List Og) (i p : Int) : Int := if h : fi (byP i p) L < L.length then (L[fi (byP i p) L]).f else 0
def frE (L : List Og) (i p : Int) : Int := if fi (byP i p) L < L.length then 0 else 6
/-- Owner. -/
def owI (L : List Og) (f : Int) : Int := if h : fi (byF f) L < L.length then (L[fi (byF f) L]).i else 0
def owP (L : List Og) (f : Int) : Int := if h : fi (byF f) L < L.length then (L[fi (byF f) L]).p else 0
def owE (L : List Og) (f : Int) : Int := if fi (byF f) L < L.length then 0 else 6
/-- An object's frames, rising. -/
def hasF (L : List Og) (i : Int) (f : Nat) : Bool := if h : fi (byF f) L < L.length then decide ((L[fi (byF f) L]).i = i) else false
def frsN (L : List Og) (i : Int) (n : Nat) : List Int := ((List.range n).filter fun f => hasF L i f).map fun f => ((f : Nat) : Int)
def frs (L : List Og) (i : Int) : List Int := frsN L i 1024
theorem frsN_succ (L : List Og) (i : Int) (n : Nat) : frsN L i (n + 1) = if hasF L i n = true then frsN L i n ++ [(n : Int)] else frsN L i n := by
  unfold frsN
  rw [List.range_succ, List.filter_append, List.map_append]
  by_cases h : hasF L i n = true
  · rw [if_pos h, List.filter_cons_of_pos h]; rfl
  · rw [if_neg h, List.filter_cons_of_neg h]; simp
theorem frsN_len (L : List Og) (i : Int) (n : Nat) : (frsN L i n).length ≤ n := by
  unfold frsN
  rw [List.length_map]
  exact Nat.le_trans (List.length_filter_le _ _) (by rw [List.length_range]; exact Nat.le_refl _)
/-- How many objects there are. -/
def lenI : List Int → Int
  | [] => 0
  | h :: r => (if 0 < h then 1 else 0) + lenI r
theorem lenI_append (L M : List Int) : lenI (L ++ M) = lenI L + lenI M := by
  induction L with
  | nil => show _ = 0 + _; rw [List.nil_append]; omega
  | cons h r ih => rw [List.cons_append]; show (if 0 < h then 1 else 0) + lenI (r ++ M) = (if 0 < h then 1 else 0) + lenI r + lenI M; rw [ih]; omega
theorem lenI_le (L : List Int) : 0 ≤ lenI L ∧ lenI L ≤ L.length := by
  induction L with
  | nil => exact ⟨Int.le_refl _, Int.le_refl _⟩
  | cons h r ih =>
    show 0 ≤ (if 0 < h then 1 else 0) + lenI r ∧ (if 0 < h then 1 else 0) + lenI r ≤ ((r.length + 1 : Nat) : Int)
    split <;> omega
/-- Make, Hold, Drop. -/
def mkH (H : List Int) : List Int := H ++ [1]
def hoE (H : List Int) (i : Int) : Int := if isB H i = true then 0 else 6
def hoH (H : List Int) (i : Int) : List Int := if isB H i = true then H.set i.toNat (H.getD i.toNat 0 + 1) else H
def drH (H : List Int) (i : Int) : List Int := if isB H i = true then H.set i.toNat (H.getD i.toNat 0 - 1) else H
/-- Is it held by nobody behind a dropping? -/
def lstB (H : List Int) (i : Int) : Bool := isB H i && decide (H.getD i.toNat 0 - 1 ≤ 0)
def outL (L : List Og) (i : Int) : List Og := L.filter fun x => decide (x.i ≠ i)
def drL (H : List Int) (L : List Og) (i : Int) : List Og := if lstB H i = true then outL L i else L
def drT (H : List Int) (L : List Og) (i : Int) : List Int := if lstB H i = true then frs L i else []
theorem outL_snoc (L : List Og) (i : Int) {k : Nat} (h : k < L.length) : outL (L.take (k + 1)) i = if L[k].i = i then outL (L.take k) i else outL (L.take k) i ++ [L[k]] := by
  unfold outL
  rw [List.take_succ_eq_append_getElem h, List.filter_append]
  by_cases e : L[k].i = i
  · rw [if_pos e, List.filter_cons_of_neg (by simpa using e)]; simp
  · rw [if_neg e, List.filter_cons_of_pos (by simpa using e)]; rfl
theorem outL_len (L : List Og) (i : Int) : (outL L i).length ≤ L.length := List.length_filter_le _ _
/-- Set. -/
def rgB (p f : Int) : Bool := decide (p < 0) || decide (4095 < p) || decide (f < 0) || decide (1023 < f)
def seE (H : List Int) (L : List Og) (i p f : Int) : Int := if isB H i = false then 6 else if rgB p f = true then 3 else if frE L i p = 0 ∨ 0 ≤ ofI L f then 7 else 0
def seL (H : List Int) (L : List Og) (i p f : Int) : List Og := if seE H L i p f = 0 then L ++ [⟨i, p, f⟩] else L
/-- Change. -/
def chE (L : List Og) (a t : Int) : Int := if ofI L a < 0 then 6 else if t < 0 ∨ 1023 < t then 3 else if 0 ≤ ofI L t then 7 else 0
def chL (L : List Og) (a t : Int) : List Og := if chE L a t = 0 then (if h : fi (byF a) L < L.length then L.set (fi (byF a) L) { L[fi (byF a) L] with f := t } else L) else L
theorem ofI_yes {L : List Og} {f : Int} (h : fi (byF f) L < L.length) : ofI L f = (fi (byF f) L : Nat) := if_pos h
theorem ofI_no {L : List Og} {f : Int} (h : ¬ fi (byF f) L < L.length) : ofI L f = -1 := if_neg h
theorem ofI_pos {L : List Og} {f : Int} : 0 ≤ ofI L f ↔ fi (byF f) L < L.length := by
  by_cases h : fi (byF f) L < L.length
  · rw [ofI_yes h]; exact ⟨fun _ => h, fun _ => by omega⟩
  · rw [ofI_no h]; exact ⟨fun e => by omega, fun e => absurd e h⟩
end Go.Proofs.Ytnpacdbkmpchnaa
