/- Reservations, without the program: what each call answers, and what it makes of them. -/
import Derived.WalkKit
import Derived.Lib.Hide
namespace Go.Proofs.Ytfalmjibpkkjaaa
/-- Which of eight are filled, as a list, and with one turned. -/
def bitsL (n : Nat) : List Bool := (List.range 8).map fun i => n.testBit i
def setB (n j : Nat) (b : Bool) : Nat := if b then n ||| 2 ^ j else n &&& (255 - 2 ^ j)
structure Rv where
  s : Int
  p : Int
  f : Int
  n : Nat
  t : Int
/-- All reservations, and the time. -/
structure Rs where
  L : List Rv
  T : Int
def pd (p : Int) : Int := p - p % 8
def jd (p : Int) : Nat := (p % 8).toNat
def hitP (s p : Int) (x : Rv) : Bool := decide (x.s = s ∧ x.p = pd p)
def hitF (f : Int) (x : Rv) : Bool := decide (x.f = pd f)
def atP (L : List Rv) (s p : Int) : Option Rv := L.find? (hitP s p)
def atF (L : List Rv) (f : Int) : Option Rv := L.find? (hitF f)
def befR (s p : Int) (y : Rv) : Bool := decide (y.s < s ∨ (y.s = s ∧ y.p ≤ p))
def insR (x : Rv) (L : List Rv) : List Rv := L.takeWhile (befR x.s x.p) ++ x :: L.dropWhile (befR x.s x.p)
def rgR (s p f : Int) : Bool := decide (s < 0 ∨ p < 0 ∨ 4095 < p ∨ f < 0 ∨ 1016 < f)
def alR (p f : Int) : Bool := decide (p % 8 ≠ 0 ∨ f % 8 ≠ 0)
def mkE (S : Rs) (s p f : Int) : Int := if rgR s p f = true then 3 else if alR p f = true then 4 else if (atP S.L s p).isSome = true ∨ (atF S.L f).isSome = true then 7 else 0
def mkS (S : Rs) (s p f : Int) : Rs := if mkE S s p f = 0 then ⟨insR ⟨s, p, f, 0, S.T + 1⟩ S.L, S.T + 1⟩ else S
def tuX (s p : Int) (b : Bool) (T : Int) (x : Rv) : Rv := if hitP s p x = true then ⟨x.s, x.p, x.f, setB x.n (jd p) b, T⟩ else x
def tuS (S : Rs) (s p : Int) (b : Bool) : Rs := ⟨S.L.map (tuX s p b (S.T + 1)), S.T + 1⟩
def fiE (S : Rs) (s p : Int) : Int := match atP S.L s p with
  | none => 6
  | some x => if x.n.testBit (jd p) = true then 7 else 0
def fiV (S : Rs) (s p : Int) : Int := match atP S.L s p with
  | none => 0
  | some x => if x.n.testBit (jd p) = true then 0 else x.f + jd p
def fiS (S : Rs) (s p : Int) : Rs := if fiE S s p = 0 then tuS S s p true else S
def clE (S : Rs) (s p : Int) : Int := match atP S.L s p with
  | none => 6
  | some x => if x.n.testBit (jd p) = true then 0 else 6
def clS (S : Rs) (s p : Int) : Rs := if clE S s p = 0 then tuS S s p false else S
def opN (n : Nat) (f : Int) : List Int := ((List.range 8).filter fun i => !n.testBit i).map fun i => f + (i : Nat)
def opn (x : Rv) : List Int := opN x.n x.f
def brE (S : Rs) (s p : Int) : Int := match atP S.L s p with
  | none => 6
  | some _ => 0
def brV (S : Rs) (s p : Int) : List Int := match atP S.L s p with
  | none => []
  | some x => opn x
def brS (S : Rs) (s p : Int) : Rs := ⟨S.L.filter fun x => !hitP s p x, S.T⟩
def hdV (L : List Rv) : Int := (L.map fun x => ((opn x).length : Int)).sum

/-! Bits. -/
theorem bits_all : ∀ n : Fin 256, ∀ j : Fin 8, ∀ b : Bool, setB n j b < 256 ∧ bitsL (setB n j b) = (bitsL n).set j b ∧ (bitsL n)[j.1]? = some (n.1.testBit j) := by decide +kernel
theorem setB_lt {n j : Nat} (hn : n < 256) (hj : j < 8) (b : Bool) : setB n j b < 256 := (bits_all ⟨n, hn⟩ ⟨j, hj⟩ b).1
theorem bitsL_set {n j : Nat} (hn : n < 256) (hj : j < 8) (b : Bool) : bitsL (setB n j b) = (bitsL n).set j b := (bits_all ⟨n, hn⟩ ⟨j, hj⟩ b).2.1
theorem bitsL_get {n j : Nat} (hn : n < 256) (hj : j < 8) : (bitsL n)[j]? = some (n.testBit j) := (bits_all ⟨n, hn⟩ ⟨j, hj⟩ true).2.2
theorem bitsL_len (n : Nat) : (bitsL n).length = 8 := by simp [bitsL]
theorem testBit_set {n i j : Nat} (hn : n < 256) (hj : j < 8) (hi : i < 8) (b : Bool) : (setB n j b).testBit i = if i = j then b else n.testBit i := by
  have h1 := bitsL_get (setB_lt hn hj b) hi
  rw [bitsL_set hn hj b, List.getElem?_set] at h1
  by_cases e : j = i
  · subst e
    rw [if_pos rfl, if_pos (by rw [bitsL_len]; exact hj)] at h1
    injection h1 with h1
    rw [if_pos rfl]; exact h1.symm
  · rw [if_neg e, bitsL_get hn hi] at h1
    injection h1 with h1
    rw [if_neg (fun k => e k.symm), h1]
theorem bitsL_inj {n m : Nat} (hn : n < 256) (hm : m < 256) (h : ∀ i, i < 8 → n.testBit i = m.testBit i) : n = m := by
  apply Nat.eq_of_testBit_eq
  intro i
  by_cases hi : i < 8
  · exact h i hi
  · rw [Nat.testBit_lt_two_pow (Nat.lt_of_lt_of_le hn (show 2 ^ 8 ≤ 2 ^ i from Nat.pow_le_pow_right (by decide) (by omega))), Nat.testBit_lt_two_pow (Nat.lt_of_lt_of_le hm (show 2 ^ 8 ≤ 2 ^ i from Nat.pow_le_pow_right (by decide) (by omega)))]
theorem opN_len (n : Nat) (f : Int) : (opN n f).length ≤ 8 := by
  unfold opN
  rw [List.length_map]
  exact Nat.le_trans (List.length_filter_le _ _) (by simp)
theorem jd_lt (p : Int) : jd p < 8 := by unfold jd; omega
theorem jd_is (p : Int) : ((jd p : Nat) : Int) = p % 8 ∧ ((jd p : Nat) : Int) = p - pd p := by unfold jd pd; omega

/-! What is known of reservations. -/
structure OkR (x : Rv) : Prop where
  s0 : 0 ≤ x.s
  s1 : x.s ≤ 9223372036854775807
  p0 : 0 ≤ x.p
  p1 : x.p ≤ 4088
  p8 : x.p % 8 = 0
  f0 : 0 ≤ x.f
  f1 : x.f ≤ 1016
  f8 : x.f % 8 = 0
  nl : x.n < 256
def upR (x y : Rv) : Prop := x.s < y.s ∨ (x.s = y.s ∧ x.p < y.p)
structure Bnd (n : Nat) (S : Rs) : Prop where
  up : S.L.Pairwise upR
  fr : S.L.Pairwise fun x y => x.f ≠ y.f
  ok : ∀ x ∈ S.L, OkR x
  tm : ∀ x ∈ S.L, 0 ≤ x.t ∧ x.t ≤ S.T
  ln : S.L.length ≤ n
  t0 : 0 ≤ S.T
  t1 : S.T ≤ n
theorem pw_uniq {α : Type} {R : α → α → Prop} {x y : α} : ∀ {L : List α}, L.Pairwise R → x ∈ L → y ∈ L → x = y ∨ R x y ∨ R y x
  | [], _, hx, _ => by cases hx
  | z :: r, h, hx, hy => by
    obtain ⟨h1, h2⟩ := List.pairwise_cons.1 h
    rcases List.mem_cons.1 hx with e | hx
    · rcases List.mem_cons.1 hy with d | hy
      · exact Or.inl (e.trans d.symm)
      · exact Or.inr (Or.inl (e ▸ h1 y hy))
    · rcases List.mem_cons.1 hy with d | hy
      · exact Or.inr (Or.inr (d ▸ h1 x hx))
      · exact pw_uniq h2 hx hy
section
variable {S : Rs} {n : Nat} {s p f : Int} {x y : Rv}
theorem Bnd.nil : Bnd 0 ⟨[], 0⟩ where
  up := List.Pairwise.nil
  fr := List.Pairwise.nil
  ok := fun x (h : x ∈ []) => by cases h
  tm := fun x (h : x ∈ []) => by cases h
  ln := Nat.le_refl _
  t0 := Int.le_refl _
  t1 := Int.le_refl _
theorem Bnd.mono {m : Nat} (h : Bnd n S) (hm : n ≤ m) : Bnd m S := ⟨h.up, h.fr, h.ok, h.tm, by have := h.ln; omega, h.t0, by have := h.t1; omega⟩
theorem Bnd.key (h : Bnd n S) (hx : x ∈ S.L) (hy : y ∈ S.L) (h1 : x.s = y.s) (h2 : x.p = y.p) : x = y := by
  rcases pw_uniq h.up hx hy with e | e | e
  · exact e
  · unfold upR at e; omega
  · unfold upR at e; omega
theorem Bnd.own (h : Bnd n S) (hx : x ∈ S.L) (hy : y ∈ S.L) (h1 : x.f = y.f) : x = y := by
  rcases pw_uniq h.fr hx hy with e | e | e
  · exact e
  · exact absurd h1 e
  · exact absurd h1.symm e
theorem atP_mem (h : atP S.L s p = some x) : x ∈ S.L ∧ x.s = s ∧ x.p = pd p := by
  have := List.find?_some h
  unfold hitP at this
  exact ⟨List.mem_of_find?_eq_some h, by simpa using this⟩
theorem atF_mem (h : atF S.L f = some x) : x ∈ S.L ∧ x.f = pd f := by
  have := List.find?_some h
  unfold hitF at this
  exact ⟨List.mem_of_find?_eq_some h, by simpa using this⟩
theorem Bnd.atP (h : Bnd n S) (hx : x ∈ S.L) (h1 : x.s = s) (h2 : x.p = pd p) : atP S.L s p = some x := by
  cases e : Go.Proofs.Ytfalmjibpkkjaaa.atP S.L s p with
  | none =>
    have := List.find?_eq_none.1 e x hx
    unfold hitP at this
    exact absurd (decide_eq_true ⟨h1, h2⟩) this
  | some y =>
    obtain ⟨a, b, c⟩ := atP_mem e
    rw [h.key a hx (b.trans h1.symm) (c.trans h2.symm)]
theorem Bnd.atF (h : Bnd n S) (hx : x ∈ S.L) (h1 : x.f = pd f) : atF S.L f = some x := by
  cases e : Go.Proofs.Ytfalmjibpkkjaaa.atF S.L f with
  | none =>
    have := List.find?_eq_none.1 e x hx
    unfold hitF at this
    exact absurd (decide_eq_true h1) this
  | some y =>
    obtain ⟨a, b⟩ := atF_mem e
    rw [h.own a hx (b.trans h1.symm)]
theorem atP_none (h : atP S.L s p = none) (hx : x ∈ S.L) : ¬ (x.s = s ∧ x.p = pd p) := by
  have := List.find?_eq_none.1 h x hx
  unfold hitP at this
  simpa using this
theorem atF_none (h : atF S.L f = none) (hx : x ∈ S.L) : x.f ≠ pd f := by
  have := List.find?_eq_none.1 h x hx
  unfold hitF at this
  simpa using this
/-! Inserting. -/
theorem mem_insR (L : List Rv) : y ∈ insR x L ↔ y = x ∨ y ∈ L := by
  unfold insR
  have e : y ∈ L ↔ y ∈ L.takeWhile (befR x.s x.p) ∨ y ∈ L.dropWhile (befR x.s x.p) := by
    rw [← List.mem_append, List.takeWhile_append_dropWhile]
  rw [e, List.mem_append, List.mem_cons]
  constructor
  · rintro (h | h | h)
    · exact Or.inr (Or.inl h)
    · exact Or.inl h
    · exact Or.inr (Or.inr h)
  · rintro (h | h | h)
    · exact Or.inr (Or.inl h)
    · exact Or.inl h
    · exact Or.inr (Or.inr h)
theorem insR_perm (x : Rv) (L : List Rv) : (insR x L).Perm (x :: L) := by
  unfold insR
  have := List.takeWhile_append_dropWhile (p := befR x.s x.p) (l := L)
  exact (List.perm_middle).trans (by rw [this])
theorem insR_len (x : Rv) (L : List Rv) : (insR x L).length = L.length + 1 := (insR_perm x L).length_eq
theorem drop_all {L : List Rv} (h : L.Pairwise upR) : ∀ y ∈ L.dropWhile (befR s p), befR s p y = false := by
  induction h with
  | nil => intro y hy; cases hy
  | @cons a r h1 h2 ih =>
    intro y hy
    by_cases c : befR s p a = true
    · rw [List.dropWhile_cons_of_pos c] at hy
      exact ih y hy
    · rw [List.dropWhile_cons_of_neg c] at hy
      have c' : befR s p a = false := by simpa using c
      rcases List.mem_cons.1 hy with rfl | hy
      · exact c'
      · have := h1 y hy
        unfold upR at this
        unfold befR at c' ⊢
        simp only [decide_eq_false_iff_not] at c' ⊢
        omega
theorem take_all (L : List Rv) : ∀ y ∈ L.takeWhile (befR s p), befR s p y = true := by
  induction L with
  | nil => intro y hy; cases hy
  | cons a r ih =>
    intro y hy
    by_cases c : befR s p a = true
    · rw [List.takeWhile_cons_of_pos c] at hy
      rcases List.mem_cons.1 hy with rfl | hy
      · exact c
      · exact ih y hy
    · rw [List.takeWhile_cons_of_neg c] at hy
      cases hy
theorem insR_up {L : List Rv} (h : L.Pairwise upR) (hx : ∀ y ∈ L, ¬ (y.s = x.s ∧ y.p = x.p)) : (insR x L).Pairwise upR := by
  have e := List.takeWhile_append_dropWhile (p := befR x.s x.p) (l := L)
  have h' := h
  rw [← e] at h'
  obtain ⟨a, b, c⟩ := List.pairwise_append.1 h'
  unfold insR
  have hd := drop_all (s := x.s) (p := x.p) h
  have ht := take_all (s := x.s) (p := x.p) L
  refine List.pairwise_append.2 ⟨a, List.pairwise_cons.2 ⟨fun y hy => ?_, b⟩, fun y hy z hz => ?_⟩
  · have := hd y hy
    unfold befR at this
    unfold upR
    simp only [decide_eq_false_iff_not] at this
    omega
  · rcases List.mem_cons.1 hz with rfl | hz
    · have h1 := ht y hy
      have h2 := hx y (by rw [← e]; exact List.mem_append_left _ hy)
      unfold befR at h1
      unfold upR
      simp only [decide_eq_true_eq] at h1
      omega
    · exact c y hy z hz
theorem mkE_ok (h : mkE S s p f = 0) : (0 ≤ s ∧ 0 ≤ p ∧ p ≤ 4088 ∧ p % 8 = 0 ∧ 0 ≤ f ∧ f ≤ 1016 ∧ f % 8 = 0) ∧ atP S.L s p = none ∧ atF S.L f = none := by
  unfold mkE at h
  split at h
  · omega
  · rename_i h1
    split at h
    · omega
    · rename_i h2
      split at h
      · omega
      · rename_i h3
        unfold rgR at h1
        unfold alR at h2
        simp only [decide_eq_true_eq] at h1 h2
        refine ⟨by omega, ?_, ?_⟩
        · cases e : Go.Proofs.Ytfalmjibpkkjaaa.atP S.L s p with
          | none => rfl
          | some y => exact absurd (Or.inl (by rw [e]; rfl)) h3
        · cases e : Go.Proofs.Ytfalmjibpkkjaaa.atF S.L f with
          | none => rfl
          | some y => exact absurd (Or.inr (by rw [e]; rfl)) h3
theorem pd_even (h : p % 8 = 0) : pd p = p := by unfold pd; omega
theorem mkS_no (c : mkE S s p f ≠ 0) : mkS S s p f = S := if_neg c
theorem mkS_yes (c : mkE S s p f = 0) : mkS S s p f = ⟨insR ⟨s, p, f, 0, S.T + 1⟩ S.L, S.T + 1⟩ := if_pos c
theorem Bnd.make (h : Bnd n S) (s p f : Int) (hs : s ≤ 9223372036854775807) : Bnd (n + 1) (mkS S s p f) := by
  by_cases c : mkE S s p f = 0
  · obtain ⟨⟨a1, a2, a3, a4, a5, a6, a7⟩, c1, c2⟩ := mkE_ok c
    rw [mkS_yes c]
    refine ⟨insR_up h.up fun y hy e => atP_none c1 hy (by rw [pd_even a4]; exact e), ?_, fun y hy => ?_, fun y hy => ?_, ?_, ?_, ?_⟩
    · refine ((insR_perm ⟨s, p, f, 0, S.T + 1⟩ S.L).symm.pairwise_iff (fun {a b} (e : a.f ≠ b.f) => e.symm)).1 (List.pairwise_cons.2 ⟨fun y hy (e : f = y.f) => atF_none c2 hy (by rw [pd_even a7]; exact e.symm), h.fr⟩)
    · rcases (mem_insR _).1 hy with rfl | hy
      · exact ⟨a1, hs, a2, a3, a4, a5, a6, a7, (by decide : 0 < 256)⟩
      · exact h.ok y hy
    · have := h.t0
      rcases (mem_insR _).1 hy with rfl | hy
      · exact ⟨by show 0 ≤ S.T + 1; omega, Int.le_refl _⟩
      · have := h.tm y hy
        exact ⟨this.1, by show y.t ≤ S.T + 1; omega⟩
    · show (insR _ _).length ≤ _
      rw [insR_len]; have := h.ln; omega
    · have := h.t0; show 0 ≤ S.T + 1; omega
    · have := h.t1; show S.T + 1 ≤ _; omega
  · rw [mkS_no c]; exact h.mono (Nat.le_succ _)
/-! Turning. -/
theorem tuX_key (s p : Int) (b : Bool) (T : Int) (x : Rv) : (tuX s p b T x).s = x.s ∧ (tuX s p b T x).p = x.p ∧ (tuX s p b T x).f = x.f := by
  unfold tuX
  split
  · exact ⟨rfl, rfl, rfl⟩
  · exact ⟨rfl, rfl, rfl⟩
theorem Bnd.turn (h : Bnd n S) (s p : Int) (b : Bool) : Bnd (n + 1) (tuS S s p b) := by
  unfold tuS
  refine ⟨List.pairwise_map.2 (h.up.imp fun {x y} e => ?_), List.pairwise_map.2 (h.fr.imp fun {x y} e => ?_), fun y hy => ?_, fun y hy => ?_, ?_, ?_, ?_⟩
  · obtain ⟨a, b1, _⟩ := tuX_key s p b (S.T + 1) x
    obtain ⟨c, d, _⟩ := tuX_key s p b (S.T + 1) y
    unfold upR at e ⊢
    rw [a, b1, c, d]; exact e
  · rw [(tuX_key s p b (S.T + 1) x).2.2, (tuX_key s p b (S.T + 1) y).2.2]; exact e
  · obtain ⟨z, hz, rfl⟩ := List.mem_map.1 hy
    have o := h.ok z hz
    obtain ⟨a, b1, c⟩ := tuX_key s p b (S.T + 1) z
    refine ⟨a ▸ o.s0, a ▸ o.s1, b1 ▸ o.p0, b1 ▸ o.p1, b1 ▸ o.p8, c ▸ o.f0, c ▸ o.f1, c ▸ o.f8, ?_⟩
    unfold tuX
    split
    · exact setB_lt o.nl (jd_lt p) b
    · exact o.nl
  · obtain ⟨z, hz, rfl⟩ := List.mem_map.1 hy
    have := h.tm z hz
    have := h.t0
    unfold tuX
    split
    · exact ⟨by show 0 ≤ S.T + 1; omega, Int.le_refl _⟩
    · exact ⟨by omega, by show z.t ≤ S.T + 1; omega⟩
  · show (List.map _ _).length ≤ _
    rw [List.length_map]; have := h.ln; omega
  · have := h.t0; show 0 ≤ S.T + 1; omega
  · have := h.t1; show S.T + 1 ≤ _; omega
theorem Bnd.fill (h : Bnd n S) (s p : Int) : Bnd (n + 1) (fiS S s p) := by
  unfold fiS
  split
  · exact h.turn s p true
  · exact h.mono (Nat.le_succ _)
theorem Bnd.clear (h : Bnd n S) (s p : Int) : Bnd (n + 1) (clS S s p) := by
  unfold clS
  split
  · exact h.turn s p false
  · exact h.mono (Nat.le_succ _)
theorem Bnd.brk (h : Bnd n S) (s p : Int) : Bnd n (brS S s p) :=
  ⟨h.up.filter _, h.fr.filter _, fun x hx => h.ok x (List.mem_filter.1 hx).1, fun x hx => h.tm x (List.mem_filter.1 hx).1, Nat.le_trans (List.length_filter_le _ _) h.ln, h.t0, h.t1⟩
theorem brS_no (c : atP S.L s p = none) : brS S s p = S := by
  unfold brS
  have : (S.L.filter fun x => !hitP s p x) = S.L := by
    rw [List.filter_eq_self]
    intro x hx
    have := List.find?_eq_none.1 c x hx
    simpa using this
  rw [this]
end
end Go.Proofs.Ytfalmjibpkkjaaa
