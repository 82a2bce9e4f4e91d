/- Areas, without the program: lists of them, the pages that they say; a list that is joined is known by its pages; the pieces of pages. -/
import Derived.Lib.Hide
namespace Go.Proofs.Ytodepfgfgphkbaa

/-- A page: how, prot, object, off. -/
structure Pg where
  h : Int
  p : Int
  o : Int
  x : Int
deriving DecidableEq
/-- An area: from, to, how, prot, object, off. -/
structure Ar where
  f : Int
  t : Int
  h : Int
  p : Int
  o : Int
  x : Int
deriving DecidableEq
def shr (h : Int) : Prop := h = 2 ∨ h = 5
instance (h : Int) : Decidable (shr h) := by unfold shr; infer_instance
def zP : Pg := ⟨0, 0, 0, 0⟩
/-- A page as it may be. -/
def PgOk (p : Pg) : Prop := (p.h = 0 → p = zP) ∧ (¬ shr p.h → p.x = 0)
theorem zP_ok : PgOk zP := ⟨fun _ => rfl, fun _ => rfl⟩
/-- What an area says of a page. -/
def Ar.pg (a : Ar) (i : Int) : Pg := ⟨a.h, a.p, a.o, if shr a.h then a.x + (i - a.f) else 0⟩
def pgs : List Ar → Int → Pg
  | [], _ => zP
  | a :: r, i => if a.f ≤ i ∧ i < a.t then a.pg i else pgs r i
/-- The second goes on where the first ends. -/
def jn (a b : Ar) : Prop := b.f = a.t ∧ a.h = b.h ∧ a.p = b.p ∧ a.o = b.o ∧ (shr a.h → b.x = a.x + (a.t - a.f))
instance (a b : Ar) : Decidable (jn a b) := by unfold jn; infer_instance
/-- An area as it may be. -/
def ArOk (a : Ar) : Prop := a.f < a.t ∧ a.h ≠ 0 ∧ (¬ shr a.h → a.x = 0)
/-- Areas that rise from lo on, and are joined. -/
def Jd : Int → List Ar → Prop
  | _, [] => True
  | lo, a :: r => lo ≤ a.f ∧ ArOk a ∧ (∀ b ∈ r.head?, ¬ jn a b) ∧ Jd a.t r
theorem Jd.mono {lo lo' : Int} {L : List Ar} (h : Jd lo L) (hl : lo' ≤ lo) : Jd lo' L := by
  cases L with
  | nil => trivial
  | cons a r => exact ⟨Int.le_trans hl h.1, h.2⟩
theorem Jd.far {lo : Int} {L : List Ar} (h : Jd lo L) {i : Int} (hi : i < lo) : pgs L i = zP := by
  induction L generalizing lo with
  | nil => rfl
  | cons a r ih =>
    obtain ⟨h1, ⟨h2, _⟩, _, h5⟩ := h
    unfold pgs
    rw [if_neg (by omega)]
    exact ih h5 (by omega)
theorem pg_ne {a : Ar} (h : ArOk a) (i : Int) : a.pg i ≠ zP := fun e => h.2.1 (congrArg Pg.h e)
theorem pg_eq {a b : Ar} (ha : ArOk a) (hb : ArOk b) (e : a.pg a.f = b.pg b.f) : a.h = b.h ∧ a.p = b.p ∧ a.o = b.o ∧ a.x = b.x := by
  have e1 : a.h = b.h := congrArg Pg.h e
  have e2 : a.p = b.p := congrArg Pg.p e
  have e3 : a.o = b.o := congrArg Pg.o e
  have e4 : (if shr a.h then a.x + (a.f - a.f) else 0) = (if shr b.h then b.x + (b.f - b.f) else 0) := congrArg Pg.x e
  refine ⟨e1, e2, e3, ?_⟩
  by_cases hs : shr a.h
  · have hs' : shr b.h := e1 ▸ hs
    rw [if_pos hs, if_pos hs'] at e4; omega
  · have hs' : ¬ shr b.h := e1 ▸ hs
    rw [ha.2.2 hs, hb.2.2 hs']
/-- The end of a first area is seen in the pages. -/
theorem jd_end {a b : Ar} {r : List Ar} (ha : ArOk a) (hr : Jd a.t r) (hj : ∀ c ∈ r.head?, ¬ jn a c) (hf : a.f = b.f) (hh : a.h = b.h) (hp : a.p = b.p) (ho : a.o = b.o) (hx : a.x = b.x) (e : pgs r a.t = b.pg a.t) : False := by
  cases r with
  | nil => exact ha.2.1 (hh.trans (congrArg Pg.h e).symm)
  | cons c s =>
    obtain ⟨h1, h2, _, h4⟩ := hr
    by_cases hc : c.f ≤ a.t
    · have hcf : c.f = a.t := by omega
      unfold pgs at e
      rw [if_pos ⟨hc, by have := h2.1; omega⟩] at e
      refine hj c rfl ⟨hcf, ?_, ?_, ?_, fun hs => ?_⟩
      · exact hh.trans (congrArg Pg.h e).symm
      · exact hp.trans (congrArg Pg.p e).symm
      · exact ho.trans (congrArg Pg.o e).symm
      · have e4 : (if shr c.h then c.x + (a.t - c.f) else 0) = (if shr b.h then b.x + (a.t - b.f) else 0) := congrArg Pg.x e
        have hb : shr b.h := hh ▸ hs
        have hcs : shr c.h := by rw [show c.h = b.h from congrArg Pg.h e]; exact hb
        rw [if_pos hb, if_pos hcs] at e4
        omega
    · have := Jd.far (lo := c.f) (L := c :: s) (i := a.t) ⟨Int.le_refl _, h2, by assumption, h4⟩ (by omega)
      rw [this] at e
      exact ha.2.1 (hh.trans (congrArg Pg.h e).symm)
/-- What is joined is known by its pages. -/
theorem jd_ext : ∀ (L M : List Ar) (lo : Int), Jd lo L → Jd lo M → (∀ i, lo ≤ i → pgs L i = pgs M i) → L = M
  | [], [], _, _, _, _ => rfl
  | [], b :: s, lo, _, hM, e => by
    have := e b.f hM.1
    unfold pgs at this
    rw [if_pos ⟨Int.le_refl _, hM.2.1.1⟩] at this
    exact absurd this.symm (pg_ne hM.2.1 _)
  | a :: r, [], lo, hL, _, e => by
    have := e a.f hL.1
    unfold pgs at this
    rw [if_pos ⟨Int.le_refl _, hL.2.1.1⟩] at this
    exact absurd this (pg_ne hL.2.1 _)
  | a :: r, b :: s, lo, hL, hM, e => by
    obtain ⟨l1, l2, l3, l4⟩ := hL
    obtain ⟨m1, m2, m3, m4⟩ := hM
    have pa : ∀ i, a.f ≤ i → i < a.t → pgs (a :: r) i = a.pg i := fun i h1 h2 => by unfold pgs; rw [if_pos ⟨h1, h2⟩]
    have pb : ∀ i, b.f ≤ i → i < b.t → pgs (b :: s) i = b.pg i := fun i h1 h2 => by unfold pgs; rw [if_pos ⟨h1, h2⟩]
    have fa : ∀ i, i < a.f → pgs (a :: r) i = zP := fun i h => Jd.far (lo := a.f) (L := a :: r) ⟨Int.le_refl _, l2, l3, l4⟩ h
    have fb : ∀ i, i < b.f → pgs (b :: s) i = zP := fun i h => Jd.far (lo := b.f) (L := b :: s) ⟨Int.le_refl _, m2, m3, m4⟩ h
    have oa : ∀ i, a.t ≤ i → pgs (a :: r) i = pgs r i := fun i h => by unfold pgs; rw [if_neg (by omega)]; cases r <;> rfl
    have ob : ∀ i, b.t ≤ i → pgs (b :: s) i = pgs s i := fun i h => by unfold pgs; rw [if_neg (by omega)]; cases s <;> rfl
    have hf : a.f = b.f := by
      rcases Int.lt_trichotomy a.f b.f with h | h | h
      · have := e a.f l1
        rw [pa _ (Int.le_refl _) l2.1, fb _ h] at this
        exact absurd this (pg_ne l2 _)
      · exact h
      · have := e b.f m1
        rw [pb _ (Int.le_refl _) m2.1, fa _ h] at this
        exact absurd this.symm (pg_ne m2 _)
    have e0 := e a.f l1
    rw [pa _ (Int.le_refl _) l2.1, hf, pb _ (Int.le_refl _) m2.1, ← hf] at e0
    obtain ⟨q1, q2, q3, q4⟩ := pg_eq l2 m2 (by rw [← hf]; exact e0)
    have ht : a.t = b.t := by
      rcases Int.lt_trichotomy a.t b.t with h | h | h
      · have := e a.t (by have := l2.1; omega)
        rw [oa _ (Int.le_refl _), pb _ (by have := l2.1; omega) h] at this
        exact (jd_end l2 l4 l3 hf q1 q2 q3 q4 this).elim
      · exact h
      · have := e b.t (by have := m2.1; omega)
        rw [ob _ (Int.le_refl _), pa _ (by have := m2.1; omega) h] at this
        exact (jd_end m2 m4 m3 hf.symm q1.symm q2.symm q3.symm q4.symm this.symm).elim
    have hab : a = b := by
      obtain ⟨a1, a2, a3, a4, a5, a6⟩ := a
      obtain ⟨b1, b2, b3, b4, b5, b6⟩ := b
      simp only at hf ht q1 q2 q3 q4
      subst hf ht q1 q2 q3 q4
      rfl
    subst hab
    rw [jd_ext r s a.t l4 m4 fun i hi => by rw [← oa i hi, ← ob i hi]; exact e i (by have := l2.1; omega)]

/-! The pieces of pages, as the reference tells them. -/
/-- Does a page go on where another one ends? -/
def nxt (a b : Pg) : Bool := decide (a.h = b.h ∧ a.p = b.p ∧ a.o = b.o ∧ (¬ shr a.h ∨ b.x = a.x + 1))
/-- The last area ends later. -/
def setTo : List Ar → Int → List Ar
  | [], _ => []
  | [a], t => [{ a with t := t }]
  | a :: b :: r, t => a :: setTo (b :: r) t
def newA (p : Pg) (i : Int) : Ar := ⟨i, i + 1, p.h, p.p, p.o, p.x⟩
def pcs (P : Int → Pg) (at_ : Int) : Nat → List Ar
  | 0 => []
  | k + 1 => if (P (at_ + k)).h = 0 then pcs P at_ k
    else if 0 < k ∧ (P (at_ + k - 1)).h ≠ 0 ∧ nxt (P (at_ + k - 1)) (P (at_ + k)) = true then setTo (pcs P at_ k) (at_ + k + 1)
    else pcs P at_ k ++ [newA (P (at_ + k)) (at_ + k)]
theorem setTo_snoc (L : List Ar) (a : Ar) (t : Int) : setTo (L ++ [a]) t = L ++ [{ a with t := t }] := by
  induction L with
  | nil => rfl
  | cons b r ih =>
    cases r with
    | nil => rfl
    | cons c s => rw [List.cons_append, List.cons_append, setTo, ← List.cons_append, ih]; rfl
theorem setTo_length (L : List Ar) (t : Int) : (setTo L t).length = L.length := by
  induction L with
  | nil => rfl
  | cons b r ih =>
    cases r with
    | nil => rfl
    | cons c s =>
      show (setTo (c :: s) t).length + 1 = _
      rw [ih]; rfl
/-- Where the last one ends. -/
def lst (lo : Int) : List Ar → Int
  | [] => lo
  | a :: r => lst a.t r
theorem lst_snoc (lo : Int) (L : List Ar) (a : Ar) : lst lo (L ++ [a]) = a.t := by
  induction L generalizing lo with
  | nil => rfl
  | cons b r ih => exact ih b.t
theorem jd_lst {lo : Int} {L : List Ar} (h : Jd lo L) : lo ≤ lst lo L ∧ ∀ a ∈ L, lo ≤ a.f ∧ a.t ≤ lst lo L := by
  induction L generalizing lo with
  | nil => exact ⟨Int.le_refl _, fun a h => by cases h⟩
  | cons b r ih =>
    obtain ⟨h1, h2, _, h4⟩ := h
    obtain ⟨k1, k2⟩ := ih h4
    have := h2.1
    refine ⟨by show lo ≤ lst b.t r; omega, fun a ha => ?_⟩
    rcases List.mem_cons.1 ha with rfl | ha
    · exact ⟨h1, k1⟩
    · have := k2 a ha
      exact ⟨by omega, this.2⟩
theorem jd_snoc {lo : Int} {L : List Ar} {c : Ar} : Jd lo (L ++ [c]) ↔ Jd lo L ∧ lst lo L ≤ c.f ∧ ArOk c ∧ ∀ a ∈ L.getLast?, ¬ jn a c := by
  induction L generalizing lo with
  | nil => simp [Jd, lst]
  | cons b r ih =>
    rw [List.cons_append]
    cases r with
    | nil => simp [Jd, lst]; constructor <;> (intro h; simp_all)
    | cons d s =>
      have hh : ((d :: s) ++ [c]).head? = (d :: s).head? := rfl
      have hl : (b :: d :: s).getLast? = (d :: s).getLast? := rfl
      show (lo ≤ b.f ∧ ArOk b ∧ (∀ x ∈ ((d :: s) ++ [c]).head?, ¬ jn b x) ∧ Jd b.t ((d :: s) ++ [c])) ↔ _
      rw [hh, hl, ih]
      show _ ↔ (lo ≤ b.f ∧ ArOk b ∧ (∀ x ∈ (d :: s).head?, ¬ jn b x) ∧ Jd b.t (d :: s)) ∧ _
      constructor
      · rintro ⟨a1, a2, a3, a4, a5, a6, a7⟩; exact ⟨⟨a1, a2, a3, a4⟩, a5, a6, a7⟩
      · rintro ⟨⟨a1, a2, a3, a4⟩, a5, a6, a7⟩; exact ⟨a1, a2, a3, a4, a5, a6, a7⟩
theorem pgs_snoc {lo : Int} {L : List Ar} {c : Ar} (h : Jd lo L) (hc : lst lo L ≤ c.f) (i : Int) : pgs (L ++ [c]) i = if c.f ≤ i ∧ i < c.t then c.pg i else pgs L i := by
  induction L generalizing lo with
  | nil => rfl
  | cons a r ih =>
    obtain ⟨_, h2, _, h4⟩ := h
    have hl := (jd_lst h4).1
    rw [List.cons_append]
    unfold pgs
    rw [ih h4 hc]
    by_cases h : a.f ≤ i ∧ i < a.t
    · have hc' : lst a.t r ≤ c.f := hc
      rw [if_pos h, if_pos h, if_neg (by omega)]
    · rw [if_neg h, if_neg h]
/-- What the pieces of k pages are. -/
structure Pcd (P : Int → Pg) (at_ : Int) (k : Nat) (L : List Ar) : Prop where
  jd : Jd at_ L
  le : lst at_ L ≤ at_ + k
  pg : ∀ i, pgs L i = if at_ ≤ i ∧ i < at_ + k then P i else zP
  las : 0 < k → (P (at_ + k - 1)).h ≠ 0 → ∃ M a, L = M ++ [a] ∧ a.t = at_ + k ∧ a.pg (at_ + k - 1) = P (at_ + k - 1)
  len : L.length ≤ k
theorem newA_pg {p : Pg} (h : PgOk p) (i : Int) : (newA p i).pg i = p := by
  obtain ⟨a, b, c, d⟩ := p
  have h2 := h.2
  simp only at h2
  by_cases hs : shr a
  · simp [newA, Ar.pg, hs]
  · simp [newA, Ar.pg, hs, h2 hs]
theorem pcs_is {P : Int → Pg} (hP : ∀ i, PgOk (P i)) (at_ : Int) : ∀ k, Pcd P at_ k (pcs P at_ k)
  | 0 => ⟨trivial, by show at_ ≤ at_ + (0 : Nat); omega, fun i => by show zP = _; rw [if_neg (by omega)], fun h => absurd h (by omega), Nat.le_refl _⟩
  | k + 1 => by
    have ih := pcs_is hP at_ k
    obtain ⟨L, hL⟩ : ∃ L, L = pcs P at_ k := ⟨_, rfl⟩
    rw [← hL] at ih
    have hi0 : at_ + ((k + 1 : Nat) : Int) - 1 = at_ + k := by omega
    have hpo := hP (at_ + k)
    unfold pcs
    rw [← hL]
    by_cases h0 : (P (at_ + k)).h = 0
    · rw [if_pos h0]
      refine ⟨ih.jd, by have := ih.le; omega, fun i => ?_, fun _ h => absurd h0 (by rw [hi0] at h; exact h), Nat.le_succ_of_le ih.len⟩
      rw [ih.pg i]
      by_cases e : i = at_ + k
      · subst e; rw [if_neg (by omega), if_pos (by omega)]; exact (hpo.1 h0).symm
      · by_cases h1 : at_ ≤ i ∧ i < at_ + k
        · rw [if_pos h1, if_pos (by omega)]
        · rw [if_neg h1, if_neg (by omega)]
    · rw [if_neg h0]
      by_cases hj : 0 < k ∧ (P (at_ + k - 1)).h ≠ 0 ∧ nxt (P (at_ + k - 1)) (P (at_ + k)) = true
      · rw [if_pos hj]
        obtain ⟨M, a, e, ht, hpg⟩ := ih.las hj.1 hj.2.1
        have hjd := ih.jd
        rw [e] at hjd ⊢
        obtain ⟨j1, j2, j3, j4⟩ := jd_snoc.1 hjd
        rw [setTo_snoc]
        obtain ⟨b, hb⟩ : ∃ b : Ar, b = { a with t := at_ + k + 1 } := ⟨_, rfl⟩
        have bf : b.f = a.f := by rw [hb]
        have bt : b.t = at_ + k + 1 := by rw [hb]
        have bh : b.h = a.h := by rw [hb]
        have bo : ArOk b := ⟨by have := j3.1; omega, by rw [bh]; exact j3.2.1, by rw [hb]; exact j3.2.2⟩
        have bpg : ∀ i, b.pg i = a.pg i := fun i => by rw [hb]; rfl
        rw [← hb]
        have hjd2 : Jd at_ (M ++ [b]) := jd_snoc.2 ⟨j1, by rw [bf]; exact j2, bo, fun c hc hjn => j4 c hc (by rw [hb] at hjn; exact hjn)⟩
        have hn := of_decide_eq_true hj.2.2
        have hnew : b.pg (at_ + k) = P (at_ + k) := by
          rw [bpg]
          have e1 : a.h = (P (at_ + k - 1)).h := congrArg Pg.h hpg
          have e2 : a.p = (P (at_ + k - 1)).p := congrArg Pg.p hpg
          have e3 : a.o = (P (at_ + k - 1)).o := congrArg Pg.o hpg
          have e4 : (if shr a.h then a.x + (at_ + k - 1 - a.f) else 0) = (P (at_ + k - 1)).x := congrArg Pg.x hpg
          obtain ⟨n1, n2, n3, n4⟩ := hn
          have hx := hpo.2
          show (⟨a.h, a.p, a.o, if shr a.h then a.x + (at_ + k - a.f) else 0⟩ : Pg) = _
          rw [e1.trans n1, e2.trans n2, e3.trans n3]
          have e5 : (if shr (P (at_ + k)).h then a.x + (at_ + k - a.f) else 0) = (P (at_ + k)).x := by
            by_cases hs : shr (P (at_ + k)).h
            · have hs1 : shr a.h := by rw [e1, n1]; exact hs
              rw [if_pos hs]
              rw [if_pos hs1] at e4
              rcases n4 with n4 | n4
              · exact absurd (by rw [n1]; exact hs) n4
              · omega
            · rw [if_neg hs, hx hs]
          rw [e5]
        refine ⟨hjd2, by rw [lst_snoc, bt]; omega, fun i => ?_, fun _ _ => ⟨M, b, rfl, by rw [bt]; omega, by rw [hi0]; exact hnew⟩, by rw [List.length_append]; have := ih.len; rw [e, List.length_append] at this; simp only [List.length_cons, List.length_nil] at *; omega⟩
        have old := ih.pg i
        rw [e, pgs_snoc j1 j2] at old
        rw [pgs_snoc j1 (by rw [bf]; exact j2), bf, bt]
        by_cases ei : i = at_ + k
        · subst ei
          rw [if_pos (by have := j3.1; omega), if_pos (by omega)]; exact hnew
        · by_cases h1 : a.f ≤ i ∧ i < a.t
          · rw [if_pos h1, if_pos (by have := (jd_lst j1).1; omega)] at old
            rw [if_pos (by omega), bpg, old, if_pos (by have := (jd_lst j1).1; omega)]
          · rw [if_neg h1] at old
            rw [if_neg (by omega), old]
            by_cases h2 : at_ ≤ i ∧ i < at_ + k
            · rw [if_pos h2, if_pos (by omega)]
            · rw [if_neg h2, if_neg (by omega)]
      · rw [if_neg hj]
        have hnot : ∀ a ∈ L.getLast?, ¬ jn a (newA (P (at_ + k)) (at_ + k)) := fun a ha hjn => by
          obtain ⟨M, e⟩ : ∃ M, L = M ++ [a] := List.getLast?_eq_some_iff.1 ha
          have hjd := ih.jd
          rw [e] at hjd
          obtain ⟨j1, j2, j3, j4⟩ := jd_snoc.1 hjd
          obtain ⟨q1, q2, q3, q4, q5⟩ := hjn
          have q1 : at_ + k = a.t := q1
          have hk : 0 < k := by have := (jd_lst j1).1; have := j3.1; omega
          have hpv := ih.pg (at_ + k - 1)
          rw [e, pgs_snoc j1 j2, if_pos (by have := j3.1; omega), if_pos (by have := (jd_lst j1).1; have := j3.1; omega)] at hpv
          refine hj ⟨hk, ?_, ?_⟩
          · rw [← hpv]; exact j3.2.1
          · rw [← hpv]
            refine decide_eq_true ⟨q2, q3, q4, ?_⟩
            by_cases hs : shr a.h
            · right
              have q5 : (P (at_ + k)).x = a.x + (a.t - a.f) := q5 hs
              show (P (at_ + k)).x = (if shr a.h then a.x + (at_ + k - 1 - a.f) else 0) + 1
              rw [if_pos hs]; omega
            · exact Or.inl hs
        have hok : ArOk (newA (P (at_ + k)) (at_ + k)) := ⟨by show at_ + k < at_ + k + 1; omega, h0, hpo.2⟩
        refine ⟨jd_snoc.2 ⟨ih.jd, ih.le, hok, hnot⟩, by rw [lst_snoc]; show at_ + k + 1 ≤ _; omega, fun i => ?_, fun _ _ => ⟨L, _, rfl, by show at_ + k + 1 = _; omega, by rw [hi0]; exact newA_pg hpo _⟩, by rw [List.length_append]; have := ih.len; simp only [List.length_cons, List.length_nil]; omega⟩
        rw [pgs_snoc ih.jd ih.le, ih.pg i]
        show (if at_ + k ≤ i ∧ i < at_ + k + 1 then _ else _) = _
        by_cases ei : i = at_ + k
        · subst ei
          rw [if_pos (by omega), if_pos (by omega)]; exact newA_pg hpo _
        · rw [if_neg (by omega)]
          by_cases h2 : at_ ≤ i ∧ i < at_ + k
          · rw [if_pos h2, if_pos (by omega)]
          · rw [if_neg h2, if_neg (by omega)]
/-- A joined list is the pieces of its pages. -/
theorem jd_pcs {P : Int → Pg} (hP : ∀ i, PgOk (P i)) {at_ : Int} {k : Nat} {L : List Ar} (h : Jd at_ L) (hp : ∀ i, pgs L i = if at_ ≤ i ∧ i < at_ + k then P i else zP) : L = pcs P at_ k :=
  jd_ext L _ at_ h (pcs_is hP at_ k).jd fun i _ => by rw [hp, (pcs_is hP at_ k).pg]
end Go.Proofs.Ytodepfgfgphkbaa
