/- The reference of areas as it lies; its small functions. -/
import Derived.Test.YtnppnoabhpkmkaaGreatProg
import Derived.Test.YtnppnoabhpkmkaaGreatMg01
import Derived.Test.YtnppnoabhpkmkaaGreatMg00
import Derived.BigQuiet
import Derived.Deep.QuietTactic
import Derived.Deep.RegionHeld3
import Derived.Deep.LoopGhost
import Derived.Deep.CutRange
import Derived.Deep.RegionLaw
import Derived.WalkLawsBesides
import Derived.IntWalk
import Derived.Outline
namespace Go.Proofs.YtnppnoabhpkmkaaGreat
open Go.RowKit

def EPg : Enc Tryz.prog Pg where
  enc x := [.int .i64 x.h, .int .i64 x.p, .int .i64 x.o, .int .i64 x.x]
  sz := 4
  el := 45
  sl := 46
  zero := .agg #[.int .i64 0, .int .i64 0, .int .i64 0, .int .i64 0]
  bytes := 32
  len _ := rfl
  one a u h := by
    simp only [List.mem_cons, List.not_mem_nil, or_false] at h
    rcases h with rfl | rfl | rfl | rfl <;> rfl
  pos := by decide
  zsz := rfl
  und := by kernel_rfl
  info := by kernel_rfl
  small := by decide
def EAr : Enc Tryz.prog Ar where
  enc x := [.int .i64 x.f, .int .i64 x.t, .int .i64 x.h, .int .i64 x.p, .int .i64 x.o, .int .i64 x.x]
  sz := 6
  el := 93
  sl := 60
  zero := .agg #[.int .i64 0, .int .i64 0, .int .i64 0, .int .i64 0, .int .i64 0, .int .i64 0]
  bytes := 48
  len _ := rfl
  one a u h := by
    simp only [List.mem_cons, List.not_mem_nil, or_false] at h
    rcases h with rfl | rfl | rfl | rfl | rfl | rfl <;> rfl
  pos := by decide
  zsz := rfl
  und := by kernel_rfl
  info := by kernel_rfl
  small := by decide
theorem below_new (w : World) (o : Obj) : Below w.heap.size w (w.alloc o) := (Below.refl _ _).alloc (Nat.le_refl _) o
theorem pg_at {w : World} {g o : Nat} {x : Pg} (h : EPg.At w g o x) : w.cell? ⟨g, o, none⟩ = some (.int .i64 x.h) ∧ w.cell? ⟨g, o + 1, none⟩ = some (.int .i64 x.p) ∧ w.cell? ⟨g, o + 2, none⟩ = some (.int .i64 x.o) ∧ w.cell? ⟨g, o + 3, none⟩ = some (.int .i64 x.x) :=
  ⟨h 0 (by decide), h 1 (by decide), h 2 (by decide), h 3 (by decide)⟩
/-- The reference: its struct in block xa, its pages in a row. -/
structure Px (B : Nat) (w : World) (xa : Nat) (v : Value) (P : Int → Pg) : Prop where
  top : Lrow w xa 48 [v]
  own : ∃ L : List Pg, L.length = 4096 ∧ EPg.Own B w v L ∧ ∀ (i : Nat) (h : i < L.length), L[i] = P i
  ok : PsOk P
  lo : B ≤ xa
  lw : B ≤ w.heap.size
section
variable {w w' : World} {B xa : Nat} {v : Value} {P : Int → Pg}
theorem Px.form (h : Px B w xa v P) : ∃ g c, v = .slice (some ⟨g, 0, none⟩) 4096 c ∧ B ≤ g ∧ g < w.heap.size ∧ ∀ i : Nat, i < 4096 → EPg.At w g (i * 4) (P i) := by
  obtain ⟨L, hl, ho, hp⟩ := h.own
  obtain ⟨A, c, rfl⟩ := ho.form
  obtain ⟨g, rfl, hB, hg, -, hat⟩ := ho.some_ (by omega)
  refine ⟨g, c, by rw [hl], hB, hg, fun i hi => ?_⟩
  rw [← hp i (by omega)]
  exact hat i (by omega)
theorem Px.keep (h : Px B w xa v P) (hs : w.heap.size ≤ w'.heap.size) (hk : ∀ k, (k = xa ∨ v.ownBlock = some k) → k < w.heap.size → w'.heap[k]? = w.heap[k]?) : Px B w' xa v P := by
  obtain ⟨L, hl, ho, hp⟩ := h.own
  exact ⟨(hk xa (Or.inl rfl) h.top.lt).trans h.top, ⟨L, hl, ho.heap (fun g e => hk g (Or.inr e) (by obtain ⟨vs, r, _⟩ := ho.block e; exact r.lt)), hp⟩, h.ok, h.lo, Nat.le_trans h.lw hs⟩
theorem Px.call (h : Px B w xa v P) (hb : Below w.heap.size w w') : Px B w' xa v P := h.keep hb.size fun k _ hl => hb.block k hl
theorem Px.drewN (h : Px B w xa v P) (k : Nat) : Px B (w.drewN k) xa v P := h.call (below_dN (Below.refl _ _) k)
theorem Px.c0 (h : Px B w xa v P) : w.cell? ⟨xa, 0, none⟩ = some v := h.top.cell 0
end
theorem size_is (h : Int) (w : World) : Calls Tryz.prog 18 #[.int .i64 h] w fun e w' => e = .returned (.int .i64 (szO h)) ∧ w = w' := by
  unfold szO
  by_cases h1 : h = 3 ∨ h = 5 ∨ h = 6
  · rw [if_pos h1]
    rcases h1 with rfl | rfl | rfl
    all_goals
      go_enter Tryz.func18, Tryz.ntmps18
      go_wp2
      go_ret
      exact ⟨rfl, rfl⟩
  · rw [if_neg h1]
    have k3 : (h == 3) = false := by simpa using (by omega : ¬ h = 3)
    have k5 : (h == 5) = false := by simpa using (by omega : ¬ h = 5)
    have k6 : (h == 6) = false := by simpa using (by omega : ¬ h = 6)
    clear h1
    by_cases h4 : h = 4
    · subst h4
      go_enter Tryz.func18, Tryz.ntmps18
      go_wp2
      go_ret
      exact ⟨rfl, rfl⟩
    · rw [if_neg h4]
      have k4 : (h == 4) = false := by simpa using h4
      go_enter Tryz.func18, Tryz.ntmps18
      go_wp2
      go_ret
      exact ⟨rfl, rfl⟩
theorem shared_is (h : Int) (w : World) : Calls Tryz.prog 15 #[.int .i64 h] w fun e w' => e = .returned (.bool (decide (shr h))) ∧ w = w' := by
  have H : Hid (decide (shr h) = (h == 2 || h == 5)) := by
    show _ = _
    rw [Bool.eq_iff_iff]; simp only [decide_eq_true_eq, Bool.or_eq_true, beq_iff_eq]; exact Iff.rfl
  go_enter Tryz.func15, Tryz.ntmps15
  go_wp2
  all_goals
    go_ret
    exact ⟨ret_bool (by rw [H.out] <;> simp [*]), rfl⟩
theorem prot_is (p : Int) (w : World) : Calls Tryz.prog 80 #[.int .i64 p] w fun e w' => e = .returned (.bool (prB p)) ∧ w = w' := by
  have H : Hid (prB p = (p == 0 || p == 1 || p == 3)) := by
    show _ = _
    unfold prB
    rw [Bool.eq_iff_iff]; simp [or_assoc]
  go_enter Tryz.func80, Tryz.ntmps80
  go_wp2
  all_goals
    go_ret
    exact ⟨ret_bool (by rw [H.out] <;> simp [*]), rfl⟩
theorem next_is {a b : Pg} (ha : -9223372036854775808 ≤ a.x + 1) (hb : a.x + 1 ≤ 9223372036854775807) (w : World) : Calls Tryz.prog 107 #[.agg #[.int .i64 a.h, .int .i64 a.p, .int .i64 a.o, .int .i64 a.x], .agg #[.int .i64 b.h, .int .i64 b.p, .int .i64 b.o, .int .i64 b.x]] w fun e w' => e = .returned (.bool (nxt a b)) ∧ Below w.heap.size w w' := by
  obtain ⟨ah, ap, ao, ax⟩ := a
  obtain ⟨bh, bp, bo, bx⟩ := b
  dsimp only at ha hb ⊢
  have hbl := ((Below.refl w.heap.size w).alloc (Nat.le_refl _) (.cells #[.int .i64 ah, .int .i64 ap, .int .i64 ao, .int .i64 ax] 45)).alloc (by simp) (.cells #[.int .i64 bh, .int .i64 bp, .int .i64 bo, .int .i64 bx] 45)
  have HB := Lib.hid hbl
  clear hbl
  have hw : IntKind.i64.wrap (ax + 1) = ax + 1 := by rw [IntKind.wrap_i64]; omega
  by_cases h1 : ah = bh
  · by_cases h2 : ap = bp
    · by_cases h3 : ao = bo
      · subst h1 h2 h3
        by_cases hs : shr ah
        · have hd : decide (shr ah) = true := by simpa using hs
          have H : Hid (nxt ⟨ah, ap, ao, ax⟩ ⟨ah, ap, ao, bx⟩ = (bx == ax + 1)) := by
            show _ = _
            unfold nxt
            rw [Bool.eq_iff_iff]; simp [hs]
          go_enter Tryz.func107, Tryz.ntmps107
          go_wp2_with (go_at_call 15; refine (shared_is _ _).mono ?_; rintro e w1 ⟨rfl, rfl⟩; rw [hd])
          go_ret
          exact ⟨ret_bool (by rw [H.out]), HB.out⟩
        · have hd : decide (shr ah) = false := by simpa using hs
          have H : Hid (nxt ⟨ah, ap, ao, ax⟩ ⟨ah, ap, ao, bx⟩ = true) := by
            show _ = _
            unfold nxt
            simp [hs]
          go_enter Tryz.func107, Tryz.ntmps107
          go_wp2_with (go_at_call 15; refine (shared_is _ _).mono ?_; rintro e w1 ⟨rfl, rfl⟩; rw [hd])
          go_ret
          exact ⟨ret_bool (by rw [H.out]), HB.out⟩
      · have H : Hid (nxt ⟨ah, ap, ao, ax⟩ ⟨bh, bp, bo, bx⟩ = false) := by
          show _ = _
          unfold nxt
          rw [decide_eq_false_iff_not]; exact fun h => h3 h.2.2.1
        subst h1 h2
        go_enter Tryz.func107, Tryz.ntmps107
        go_wp2
        go_ret
        exact ⟨ret_bool H.out.symm, HB.out⟩
    · have H : Hid (nxt ⟨ah, ap, ao, ax⟩ ⟨bh, bp, bo, bx⟩ = false) := by
        show _ = _
        unfold nxt
        rw [decide_eq_false_iff_not]; exact fun h => h2 h.2.1
      subst h1
      go_enter Tryz.func107, Tryz.ntmps107
      go_wp2
      go_ret
      exact ⟨ret_bool H.out.symm, HB.out⟩
  · have H : Hid (nxt ⟨ah, ap, ao, ax⟩ ⟨bh, bp, bo, bx⟩ = false) := by
      show _ = _
      unfold nxt
      rw [decide_eq_false_iff_not]; exact fun h => h1 h.1
    go_enter Tryz.func107, Tryz.ntmps107
    go_wp2
    go_ret
    exact ⟨ret_bool H.out.symm, HB.out⟩
end Go.Proofs.YtnppnoabhpkmkaaGreat
/- Areas put down one behind another, without the program: what is told of a stretch, what is laid in its place. -/
namespace Go.Proofs.YtnppnoabhpkmkaaGreat

/-- Areas that rise. -/
def Rs : Int → List Ar → Prop
  | _, [] => True
  | lo, a :: r => lo ≤ a.f ∧ ArOk a ∧ Rs a.t r
theorem Jd.rs {lo : Int} {L : List Ar} (h : Jd lo L) : Rs lo L := by
  induction L generalizing lo with
  | nil => trivial
  | cons a r ih => exact ⟨h.1, h.2.1, ih h.2.2.2⟩
theorem Rs.far {lo : Int} {L : List Ar} (h : Rs lo L) {i : Int} (hi : i < lo) : pgs L i = zP := by
  induction L generalizing lo with
  | nil => rfl
  | cons a r ih =>
    obtain ⟨h1, ⟨h2, _⟩, h5⟩ := h
    unfold pgs
    rw [if_neg (by omega)]
    exact ih h5 (by omega)
theorem Jd.past {lo : Int} {L : List Ar} (h : Jd lo L) {i : Int} (hi : lst lo L ≤ i) : pgs L i = zP := by
  induction L generalizing lo with
  | nil => rfl
  | cons a r ih =>
    obtain ⟨_, h2, _, h4⟩ := h
    have := (jd_lst h4).1
    have hi : lst a.t r ≤ i := hi
    unfold pgs
    rw [if_neg (by omega)]
    exact ih h4 hi
/-- One more: the last ends later, if they join. -/
def jput (T : List Ar) (y : Ar) : List Ar :=
  match T.getLast? with
  | some a => if jn a y then setTo T y.t else T ++ [y]
  | none => [y]
theorem jput_nil (y : Ar) : jput [] y = [y] := rfl
theorem jput_snoc (M : List Ar) (a y : Ar) : jput (M ++ [a]) y = if jn a y then M ++ [{ a with t := y.t }] else M ++ [a] ++ [y] := by
  unfold jput
  rw [List.getLast?_concat]
  dsimp only
  rw [setTo_snoc]
theorem jput_jd {lo : Int} {T : List Ar} {y : Ar} (h : Jd lo T) (hl : lst lo T ≤ y.f) (hy : ArOk y) :
    Jd lo (jput T y) ∧ lst lo (jput T y) = y.t ∧ ∀ i, pgs (jput T y) i = if y.f ≤ i ∧ i < y.t then y.pg i else pgs T i := by
  rcases List.eq_nil_or_concat T with rfl | ⟨M, a, e⟩
  · rw [jput_nil]
    exact ⟨⟨hl, hy, (fun b (h : b ∈ (none : Option Ar)) => by cases h), trivial⟩, rfl, fun i => rfl⟩
  · rw [List.concat_eq_append] at e
    subst e
    rw [jput_snoc]
    by_cases hj : jn a y
    · rw [if_pos hj]
      obtain ⟨j1, j2, j3, j4⟩ := jd_snoc.1 h
      obtain ⟨b, hb⟩ : ∃ b : Ar, b = { a with t := y.t } := ⟨_, rfl⟩
      have bf : b.f = a.f := by rw [hb]
      have bt : b.t = y.t := by rw [hb]
      have hjf := hj.1
      have hb1 := j3.1
      have hy1 := hy.1
      have bo : ArOk b := ⟨by omega, by rw [hb]; exact j3.2.1, by rw [hb]; exact j3.2.2⟩
      have bpg : ∀ i, b.pg i = a.pg i := fun i => by rw [hb]; rfl
      rw [← hb]
      refine ⟨jd_snoc.2 ⟨j1, by rw [bf]; exact j2, bo, fun c hc hjn => j4 c hc (by rw [hb] at hjn; exact hjn)⟩, by rw [lst_snoc, bt], fun i => ?_⟩
      have hm := (jd_lst j1).1
      rw [pgs_snoc j1 (by rw [bf]; exact j2), pgs_snoc j1 j2, bf, bt]
      by_cases hi : y.f ≤ i ∧ i < y.t
      · rw [if_pos (by omega), if_pos hi, bpg]
        obtain ⟨q1, q2, q3, q4, q5⟩ := hj
        show (⟨a.h, a.p, a.o, if shr a.h then a.x + (i - a.f) else 0⟩ : Pg) = ⟨y.h, y.p, y.o, if shr y.h then y.x + (i - y.f) else 0⟩
        rw [← q2, ← q3, ← q4]
        by_cases hs : shr a.h
        · rw [if_pos hs, if_pos hs, q5 hs, q1, show a.x + (i - a.f) = a.x + (a.t - a.f) + (i - a.t) by omega]
        · rw [if_neg hs, if_neg hs]
      · rw [if_neg hi]
        by_cases h2 : a.f ≤ i ∧ i < a.t
        · rw [if_pos (by omega), if_pos h2, bpg]
        · rw [if_neg (by omega), if_neg h2]
    · rw [if_neg hj]
      refine ⟨jd_snoc.2 ⟨h, hl, hy, fun c hc => ?_⟩, lst_snoc _ _ _, fun i => pgs_snoc h hl i⟩
      rw [List.getLast?_concat] at hc
      injection hc with hc
      rw [← hc]; exact hj
/-- What an area has of the pages from one on, ahead of another. -/
def cutA (u t : Int) (x : Ar) : Ar := ⟨max u x.f, min t x.t, x.h, x.p, x.o, if shr x.h then x.x + (max u x.f - x.f) else x.x⟩
theorem cutA_pg (u t : Int) (x : Ar) (i : Int) : (cutA u t x).pg i = x.pg i := by
  show (⟨x.h, x.p, x.o, if shr x.h then (if shr x.h then x.x + (max u x.f - x.f) else x.x) + (i - max u x.f) else 0⟩ : Pg) = ⟨x.h, x.p, x.o, if shr x.h then x.x + (i - x.f) else 0⟩
  by_cases hs : shr x.h
  · rw [if_pos hs, if_pos hs, if_pos hs, show x.x + (max u x.f - x.f) + (i - max u x.f) = x.x + (i - x.f) by omega]
  · rw [if_neg hs, if_neg hs]
theorem cutA_ok {u t : Int} {x : Ar} (h : ArOk x) (h1 : u < t) (h2 : u < x.t) (h3 : x.f < t) : ArOk (cutA u t x) :=
  ⟨by show max u x.f < min t x.t; have := h.1; omega, h.2.1, fun hs => by show (if shr x.h then _ else x.x) = 0; rw [if_neg (show ¬ shr x.h from hs)]; exact h.2.2 hs⟩
def putL (u t : Int) : List Ar → List Ar → List Ar
  | T, [] => T
  | T, x :: r => if t ≤ x.f then T else if x.t ≤ u then putL u t T r else putL u t (jput T (cutA u t x)) r
/-- What putting says. -/
structure Put (lo u t m : Int) (T l R : List Ar) : Prop where
  jd : Jd lo R
  le : lst lo R ≤ max (lst lo T) t
  pg : ∀ i, pgs R i = if max u m ≤ i ∧ i < t then pgs l i else pgs T i
theorem putL_is (lo u t : Int) : ∀ (l : List Ar) (m : Int) (T : List Ar), Rs m l → (∀ x ∈ l, x.t ≤ 4096) → u < t ∨ t = 4096 → Jd lo T → lst lo T ≤ max u m → Put lo u t m T l (putL u t T l)
  | [], m, T, _, _, _, hT, hl => ⟨hT, by show lst lo T ≤ _; omega, fun i => by
      show pgs T i = if _ then zP else _
      by_cases hi : max u m ≤ i ∧ i < t
      · rw [if_pos hi]; exact hT.past (by omega)
      · rw [if_neg hi]⟩
  | x :: r, m, T, hR, h4, hut, hT, hl => by
    obtain ⟨r1, r2, r3⟩ := hR
    have hx4 := h4 x (List.mem_cons_self ..)
    have hr4 : ∀ y ∈ r, y.t ≤ 4096 := fun y hy => h4 y (List.mem_cons_of_mem _ hy)
    have r21 := r2.1
    have hp : ∀ i, pgs (x :: r) i = if x.f ≤ i ∧ i < x.t then x.pg i else pgs r i := fun i => rfl
    unfold putL
    by_cases c1 : t ≤ x.f
    · rw [if_pos c1]
      refine ⟨hT, by omega, fun i => ?_⟩
      by_cases hi : max u m ≤ i ∧ i < t
      · rw [if_pos hi, hT.past (by omega), hp, if_neg (by omega), r3.far (by omega)]
      · rw [if_neg hi]
    · rw [if_neg c1]
      by_cases c2 : x.t ≤ u
      · rw [if_pos c2]
        have ih := putL_is lo u t r x.t T r3 hr4 hut hT (by omega)
        refine ⟨ih.jd, ih.le, fun i => ?_⟩
        rw [ih.pg, hp]
        by_cases hi : max u m ≤ i ∧ i < t
        · by_cases h2 : max u x.t ≤ i ∧ i < t
          · rw [if_pos h2, if_pos hi, if_neg (by omega)]
          · exfalso; omega
        · rw [if_neg hi, if_neg (by omega)]
      · rw [if_neg c2]
        obtain ⟨y, hy⟩ : ∃ y, y = cutA u t x := ⟨_, rfl⟩
        have yf : y.f = max u x.f := by rw [hy]; rfl
        have yt : y.t = min t x.t := by rw [hy]; rfl
        have hut' : u < t := by omega
        have hyo : ArOk y := by rw [hy]; exact cutA_ok r2 hut' (by omega) (by omega)
        rw [← hy]
        obtain ⟨p1, p2, p3⟩ := jput_jd hT (y := y) (by omega) hyo
        have ih := putL_is lo u t r x.t (jput T y) r3 hr4 hut p1 (by rw [p2]; omega)
        refine ⟨ih.jd, by have := ih.le; rw [p2] at this; omega, fun i => ?_⟩
        rw [ih.pg, p3, hp]
        by_cases hi : max u m ≤ i ∧ i < t
        · rw [if_pos hi]
          by_cases h2 : max u x.t ≤ i ∧ i < t
          · rw [if_pos h2, if_neg (by omega)]
          · rw [if_neg h2]
            by_cases h3 : y.f ≤ i ∧ i < y.t
            · rw [if_pos h3, if_pos (by omega), hy, cutA_pg]
            · rw [if_neg h3, if_neg (by omega), hT.past (by omega), r3.far (by omega)]
        · rw [if_neg hi, if_neg (by omega), if_neg (by omega)]
theorem putL_of {lo u t m : Int} {l T : List Ar} (hR : Rs m l) (h4 : ∀ x ∈ l, x.t ≤ 4096) (hut : u < t ∨ t = 4096) (hT : Jd lo T) (hl : lst lo T ≤ u) :
    Jd lo (putL u t T l) ∧ lst lo (putL u t T l) ≤ max u t ∧ ∀ i, pgs (putL u t T l) i = if u ≤ i ∧ i < t then pgs l i else pgs T i := by
  have h := putL_is lo u t l m T hR h4 hut hT (by omega)
  refine ⟨h.jd, by have := h.le; omega, fun i => ?_⟩
  rw [h.pg]
  by_cases h1 : max u m ≤ i ∧ i < t
  · rw [if_pos h1, if_pos (by omega)]
  · rw [if_neg h1]
    by_cases h2 : u ≤ i ∧ i < t
    · rw [if_pos h2, hT.past (by omega), hR.far (by omega)]
    · rw [if_neg h2]
/-- What is told of a stretch. -/
def pieL (l : List Ar) (a n : Int) : List Ar := putL a (a + n) [] l
/-- A list with others in the place of a stretch. -/
def laiL (l : List Ar) (a n : Int) (o : List Ar) : List Ar := putL (a + n) 4096 (putL a (a + n) (putL 0 a [] l) o) l
/-- A list of all areas: it is that of some pages. -/
structure Whole (P : Int → Pg) (l : List Ar) : Prop where
  jd : Jd 0 l
  pg : ∀ i, pgs l i = P i
  ok : PsOk P
section
variable {P : Int → Pg} {l : List Ar}
theorem mem_pg {lo : Int} {L : List Ar} (h : Rs lo L) {a : Ar} (ha : a ∈ L) {i : Int} (h1 : a.f ≤ i) (h2 : i < a.t) : pgs L i = a.pg i := by
  induction L generalizing lo with
  | nil => cases ha
  | cons b r ih =>
    obtain ⟨r1, r2, r3⟩ := h
    rcases List.mem_cons.1 ha with rfl | hr
    · unfold pgs; rw [if_pos ⟨h1, h2⟩]
    · have : ∀ {lo : Int} {L : List Ar}, Rs lo L → ∀ a ∈ L, lo ≤ a.f := by
        intro lo L h
        induction L generalizing lo with
        | nil => intro a h; cases h
        | cons c s ih2 =>
          intro a h5
          rcases List.mem_cons.1 h5 with rfl | h5
          · exact h.1
          · have := ih2 h.2.2 a h5; have := h.2.1.1; have := h.1; omega
      have hb := this r3 a hr
      unfold pgs
      rw [if_neg (by omega)]
      exact ih r3 hr
theorem mem_ok {lo : Int} {L : List Ar} (h : Rs lo L) {a : Ar} (ha : a ∈ L) : ArOk a := by
  induction L generalizing lo with
  | nil => cases ha
  | cons b r ih =>
    rcases List.mem_cons.1 ha with rfl | hr
    · exact h.2.1
    · exact ih h.2.2 hr
/-- Whose page it is. -/
theorem pg_mem {L : List Ar} {i : Int} (h : pgs L i ≠ zP) : ∃ a ∈ L, a.f ≤ i ∧ i < a.t ∧ pgs L i = a.pg i := by
  induction L with
  | nil => exact absurd rfl h
  | cons b r ih =>
    unfold pgs at h ⊢
    by_cases c : b.f ≤ i ∧ i < b.t
    · rw [if_pos c] at h ⊢
      exact ⟨b, List.mem_cons_self .., c.1, c.2, rfl⟩
    · rw [if_neg c] at h ⊢
      obtain ⟨a, h1, h2⟩ := ih h
      exact ⟨a, List.mem_cons_of_mem _ h1, h2⟩
theorem nz {p : Pg} (h : p.h ≠ 0) : p ≠ zP := fun e => h (by rw [e]; rfl)
theorem nh {p : Pg} (hp : PgOk p) (h : p ≠ zP) : p.h ≠ 0 := fun e => h (hp.1 e)
theorem Whole.all (h : Whole P l) : l = allA P := by
  refine jd_pcs h.ok.ok h.jd fun i => ?_
  rw [h.pg]
  by_cases c : (0 : Int) ≤ i ∧ i < 0 + ((4096 : Nat) : Int)
  · rw [if_pos c]
  · rw [if_neg c, h.ok.far i (by omega)]
theorem whole_all (h : PsOk P) : Whole P (allA P) := by
  have c := pcs_is h.ok 0 4096
  refine ⟨c.jd, fun i => ?_, h⟩
  unfold allA
  rw [c.pg]
  by_cases c : (0 : Int) ≤ i ∧ i < 0 + ((4096 : Nat) : Int)
  · rw [if_pos c]
  · rw [if_neg c, h.far i (by omega)]
/-- An area's bounds. -/
structure ArS (a : Ar) : Prop where
  f0 : 0 ≤ a.f
  ft : a.f < a.t
  t4 : a.t ≤ 4096
  x0 : 0 ≤ a.x
  x4 : a.x ≤ 4096
theorem bound_of {lo : Int} {L : List Ar} (h : Rs lo L) (hp : ∀ i, pgs L i = zP ∨ pgs L i = P i) (ok : PsOk P) {a : Ar} (ha : a ∈ L) : ArS a := by
  have hk := mem_ok h ha
  have hk1 := hk.1
  have e1 := mem_pg h ha (i := a.f) (by omega) (by omega)
  have e2 := mem_pg h ha (i := a.t - 1) (by omega) (by omega)
  have q1 : P a.f = a.pg a.f := by
    rcases hp a.f with q | q
    · rw [e1] at q; exact absurd q (pg_ne hk _)
    · rw [← q, e1]
  have q2 : P (a.t - 1) = a.pg (a.t - 1) := by
    rcases hp (a.t - 1) with q | q
    · rw [e2] at q; exact absurd q (pg_ne hk _)
    · rw [← q, e2]
  have n1 : 0 ≤ a.f ∧ a.f < 4096 := by
    by_cases c : 0 ≤ a.f ∧ a.f < 4096
    · exact c
    · have := ok.far _ c; rw [q1] at this; exact absurd this (pg_ne hk _)
  have n2 : 0 ≤ a.t - 1 ∧ a.t - 1 < 4096 := by
    by_cases c : 0 ≤ a.t - 1 ∧ a.t - 1 < 4096
    · exact c
    · have := ok.far _ c; rw [q2] at this; exact absurd this (pg_ne hk _)
  have hx : a.x = (P a.f).x := by
    rw [q1]
    show a.x = if shr a.h then a.x + (a.f - a.f) else 0
    by_cases hs : shr a.h
    · rw [if_pos hs]; omega
    · rw [if_neg hs]; exact hk.2.2 hs
  have := ok.sm a.f
  exact ⟨n1.1, hk1, by omega, by omega, by omega⟩
theorem Whole.bound (h : Whole P l) {a : Ar} (ha : a ∈ l) : ArS a := bound_of h.jd.rs (fun i => Or.inr (h.pg i)) h.ok ha
theorem pcs_bound (h : PsOk P) (a : Int) (n : Nat) {x : Ar} (hx : x ∈ pcs P a n) : ArS x ∧ a ≤ x.f ∧ x.t ≤ a + n := by
  have c := pcs_is h.ok a n
  refine ⟨bound_of c.jd.rs (fun i => ?_) h hx, ((jd_lst c.jd).2 x hx).1, Int.le_trans ((jd_lst c.jd).2 x hx).2 c.le⟩
  rw [c.pg]
  by_cases q : a ≤ i ∧ i < a + n
  · rw [if_pos q]; exact Or.inr rfl
  · rw [if_neg q]; exact Or.inl rfl
theorem Whole.pieces (h : Whole P l) {a : Int} {n : Nat} (hn : 1 ≤ n) : pieL l a n = pcs P a n := by
  obtain ⟨p1, _, p3⟩ := putL_of (lo := a) (u := a) (t := a + n) (T := []) (m := 0) h.jd.rs (fun x hx => (h.bound hx).t4) (by omega) trivial (Int.le_refl _)
  refine jd_pcs h.ok.ok p1 fun i => ?_
  show pgs (putL a (a + n) [] l) i = _
  rw [p3, h.pg]; rfl
/-- What is laid says what it should. -/
theorem Whole.laid (h : Whole P l) {a n m : Int} {o : List Ar} {Q : Int → Pg} (ha : 1 ≤ a) (hn : 1 ≤ n) (ho : Rs m o) (ho4 : ∀ x ∈ o, x.t ≤ 4096) (hQ : PsOk Q)
    (e : ∀ i, Q i = if inS a n i then pgs o i else P i) : laiL l a n o = allA Q := by
  have hb : ∀ x ∈ l, x.t ≤ 4096 := fun x hx => (h.bound hx).t4
  obtain ⟨p1, p2, p3⟩ := putL_of (lo := 0) (u := 0) (t := a) (T := []) (m := 0) h.jd.rs hb (by omega) trivial (Int.le_refl _)
  obtain ⟨q1, q2, q3⟩ := putL_of (lo := 0) (u := a) (t := a + n) (T := putL 0 a [] l) (m := m) ho ho4 (by omega) p1 (by omega)
  obtain ⟨r1, r2, r3⟩ := putL_of (lo := 0) (u := a + n) (t := 4096) (T := putL a (a + n) (putL 0 a [] l) o) (m := 0) h.jd.rs hb (by omega) q1 (by omega)
  refine Whole.all (P := Q) ⟨r1, fun i => ?_, hQ⟩
  show pgs (putL (a + n) 4096 (putL a (a + n) (putL 0 a [] l) o) l) i = _
  rw [r3, q3, p3, e, h.pg]
  by_cases c1 : a + n ≤ i ∧ i < 4096
  · rw [if_pos c1, if_neg (show ¬ inS a n i by unfold inS; omega)]
  · rw [if_neg c1]
    by_cases c2 : a ≤ i ∧ i < a + n
    · rw [if_pos c2, if_pos (show inS a n i from c2)]
    · rw [if_neg c2, if_neg (show ¬ inS a n i from c2)]
      by_cases c3 : 0 ≤ i ∧ i < a
      · rw [if_pos c3]
      · rw [if_neg c3, h.ok.far i (by omega)]; rfl
theorem Whole.un (h : Whole P l) {a n : Int} (ha : 1 ≤ a) (hn : 1 ≤ n) : laiL l a n [] = allA (unP P a n) :=
  h.laid (m := 0) ha hn trivial (fun x hx => by cases hx) (h.ok.un a n) fun i => rfl
theorem Whole.map (h : Whole P l) {a n how p o : Int} (hh : how ≠ 0) (ha : 1 ≤ a) (hn : 1 ≤ n) (h4 : a + n ≤ 4096) : laiL l a n [⟨a, a + n, how, p, o, 0⟩] = allA (mapP P a n how p o) := by
  refine h.laid (m := a) ha hn ⟨Int.le_refl _, ⟨by show a < a + n; omega, hh, fun _ => rfl⟩, trivial⟩ (fun x hx => ?_) (h.ok.map hh (by omega) h4) fun i => ?_
  · rw [List.mem_singleton] at hx; rw [hx]; exact h4
  · unfold mapP
    by_cases c : inS a n i
    · rw [if_pos c, if_pos c]
      show _ = if a ≤ i ∧ i < a + n then _ else _
      rw [if_pos (show a ≤ i ∧ i < a + n from c)]
      show _ = (⟨how, p, o, if shr how then 0 + (i - a) else 0⟩ : Pg)
      rw [show (0 : Int) + (i - a) = i - a by omega]
    · rw [if_neg c, if_neg c]
theorem rs_map {f : Ar → Ar} {d : Int} (hf : ∀ a, (f a).f = a.f + d ∧ (f a).t = a.t + d ∧ (f a).h = a.h ∧ (f a).x = a.x) {lo : Int} {L : List Ar} (h : Rs lo L) : Rs (lo + d) (L.map f) := by
  induction L generalizing lo with
  | nil => trivial
  | cons a r ih =>
    obtain ⟨h1, h2, h3⟩ := h
    obtain ⟨f1, f2, f3, f4⟩ := hf a
    refine ⟨by rw [f1]; omega, ⟨by rw [f1, f2]; have := h2.1; omega, by rw [f3]; exact h2.2.1, by rw [f3, f4]; exact h2.2.2⟩, ?_⟩
    rw [f2]; exact ih h3
theorem Whole.pr (h : Whole P l) {a p : Int} {n : Nat} (ha : 1 ≤ a) (hn : 1 ≤ n) (hc : covB P a n = true) : laiL l a n ((pcs P a n).map fun x => { x with p := p }) = allA (prP P a n p) := by
  have c := pcs_is h.ok.ok a n
  have hci : ∀ i, inS a n i → (P i).h ≠ 0 := fun i hi => cov_in (n := n) (by rw [Int.toNat_natCast]; exact hc) i hi
  have hpm : ∀ (L : List Ar) (i : Int), (pgs L i).h ≠ 0 → pgs (L.map fun x => { x with p := p }) i = { pgs L i with p := p } := by
    intro L i
    induction L with
    | nil => intro h; exact absurd rfl h
    | cons b r ih =>
      intro h
      rw [List.map_cons]
      unfold pgs at h ⊢
      by_cases q : b.f ≤ i ∧ i < b.t
      · rw [if_pos q] at h ⊢; rw [if_pos q]; rfl
      · rw [if_neg q] at h ⊢; rw [if_neg q]; exact ih h
  refine h.laid (m := a + 0) ha (by omega) (rs_map (f := fun x => { x with p := p }) (d := 0) (fun x => ⟨(Int.add_zero _).symm, (Int.add_zero _).symm, rfl, rfl⟩) c.jd.rs) (fun x hx => ?_) (h.ok.pr hci) fun i => ?_
  · obtain ⟨y, hy, e⟩ := List.mem_map.1 hx
    rw [← e]; exact (pcs_bound h.ok a n hy).1.t4
  · unfold prP
    by_cases q : inS a n i
    · rw [if_pos q, if_pos q]
      have e1 : pgs (pcs P a n) i = P i := by rw [c.pg, if_pos (show a ≤ i ∧ i < a + n from q)]
      rw [hpm _ _ (by rw [e1]; exact hci i q), e1]
    · rw [if_neg q, if_neg q]
theorem Whole.mv (h : Whole P l) {a t : Int} {n : Nat} (ha : 1 ≤ a) (hn : 1 ≤ n) (ht : 1 ≤ t) (ht4 : t + n ≤ 4096) : laiL (laiL l a n []) t n ((pcs P a n).map fun x => { x with f := x.f + (t - a), t := x.t + (t - a) }) = allA (mvP P a n t) := by
  have c := pcs_is h.ok.ok a n
  have h' : Whole (unP P a n) (laiL l a n []) := by rw [h.un ha (by omega)]; exact whole_all (h.ok.un a n)
  have hpm : ∀ (L : List Ar) (i : Int), pgs (L.map fun x => { x with f := x.f + (t - a), t := x.t + (t - a) }) i = pgs L (i - t + a) := by
    intro L i
    induction L with
    | nil => rfl
    | cons b r ih =>
      rw [List.map_cons]
      unfold pgs
      dsimp only
      by_cases q : b.f ≤ i - t + a ∧ i - t + a < b.t
      · rw [if_pos q, if_pos (by omega)]
        show (⟨b.h, b.p, b.o, if shr b.h then b.x + (i - (b.f + (t - a))) else 0⟩ : Pg) = ⟨b.h, b.p, b.o, if shr b.h then b.x + (i - t + a - b.f) else 0⟩
        rw [show i - (b.f + (t - a)) = i - t + a - b.f by omega]
      · rw [if_neg q, if_neg (by omega), ih]
  refine h'.laid (m := a + (t - a)) ht (by omega) (rs_map (f := fun x => { x with f := x.f + (t - a), t := x.t + (t - a) }) (d := t - a) (fun x => ⟨rfl, rfl, rfl, rfl⟩) c.jd.rs) (fun x hx => ?_) (h.ok.mv (by omega) ht4) fun i => ?_
  · obtain ⟨y, hy, e⟩ := List.mem_map.1 hx
    have := (pcs_bound h.ok a n hy).2.2
    rw [← e]; show y.t + (t - a) ≤ 4096; omega
  · unfold mvP
    by_cases q : inS t n i
    · rw [if_pos q, if_pos q, hpm, c.pg, if_pos (by unfold inS at q; omega)]
    · rw [if_neg q, if_neg q]; rfl
/-! What is asked of pieces. -/
theorem pcs_none (h : PsOk P) (a : Int) (n : Nat) : decide (0 < (pcs P a n).length) = usedB P a n := by
  have c := pcs_is h.ok a n
  rw [Bool.eq_iff_iff, decide_eq_true_eq]
  unfold usedB
  rw [anyB_true]
  constructor
  · intro hl
    obtain ⟨x, r, e⟩ : ∃ x r, pcs P a n = x :: r := by cases hq : pcs P a n with
      | nil => rw [hq] at hl; cases hl
      | cons x r => exact ⟨x, r, rfl⟩
    have hx : x ∈ pcs P a n := by rw [e]; exact List.mem_cons_self ..
    have hk := mem_ok c.jd.rs hx
    have hb := pcs_bound h a n hx
    have hk1 := hk.1
    have e1 := mem_pg c.jd.rs hx (i := x.f) (by omega) (by omega)
    rw [c.pg, if_pos (by omega)] at e1
    refine ⟨(x.f - a).toNat, by omega, ?_⟩
    rw [show a + (((x.f - a).toNat : Nat) : Int) = x.f by omega, e1]
    exact decide_eq_true (show (x.pg x.f).h ≠ 0 from hk.2.1)
  · rintro ⟨k, hk, q⟩
    have q : (P (a + k)).h ≠ 0 := by simpa using q
    have e1 : pgs (pcs P a n) (a + k) = P (a + k) := by rw [c.pg, if_pos (by omega)]
    obtain ⟨x, hx, _⟩ := pg_mem (L := pcs P a n) (i := a + k) (by rw [e1]; exact nz q)
    exact List.length_pos_of_mem hx
theorem pcs_huge (h : PsOk P) (a : Int) (n : Nat) : ((pcs P a n).any fun x => decide (1 < szO x.h)) = hugeB P a n := by
  have c := pcs_is h.ok a n
  rw [Bool.eq_iff_iff, List.any_eq_true]
  unfold hugeB
  rw [anyB_true]
  constructor
  · rintro ⟨x, hx, q⟩
    have hk := mem_ok c.jd.rs hx
    have hb := pcs_bound h a n hx
    have hk1 := hk.1
    have e1 := mem_pg c.jd.rs hx (i := x.f) (by omega) (by omega)
    rw [c.pg, if_pos (by omega)] at e1
    refine ⟨(x.f - a).toNat, by omega, ?_⟩
    rw [show a + (((x.f - a).toNat : Nat) : Int) = x.f by omega, e1]
    exact q
  · rintro ⟨k, hk, q⟩
    have e1 : pgs (pcs P a n) (a + k) = P (a + k) := by rw [c.pg, if_pos (by omega)]
    have q0 : (P (a + k)).h ≠ 0 := fun e => by rw [e] at q; exact absurd q (by decide)
    obtain ⟨x, hx, x1, x2, x3⟩ := pg_mem (L := pcs P a n) (i := a + k) (by rw [e1]; exact nz q0)
    refine ⟨x, hx, ?_⟩
    rw [e1] at x3
    rw [x3] at q
    exact q
/-- How many pages areas have. -/
def sumL : List Ar → Int
  | [] => 0
  | a :: r => (a.t - a.f) + sumL r
theorem sumL_append (L M : List Ar) : sumL (L ++ M) = sumL L + sumL M := by
  induction L with
  | nil => show _ = 0 + _; rw [List.nil_append]; omega
  | cons a r ih => rw [List.cons_append]; show a.t - a.f + sumL (r ++ M) = a.t - a.f + sumL r + sumL M; rw [ih]; omega
theorem sum_pcs (h : PsOk P) (a : Int) : ∀ k : Nat, sumL (pcs P a (k + 1)) = sumL (pcs P a k) + if (P (a + k)).h = 0 then 0 else 1 := fun k => by
  have c := pcs_is h.ok a k
  conv => lhs; unfold pcs
  by_cases h0 : (P (a + k)).h = 0
  · rw [if_pos h0, if_pos h0]; omega
  · rw [if_neg h0, if_neg h0]
    by_cases hj : 0 < k ∧ (P (a + k - 1)).h ≠ 0 ∧ nxt (P (a + k - 1)) (P (a + k)) = true
    · rw [if_pos hj]
      obtain ⟨M, x, e, ht, hpg⟩ := c.las hj.1 hj.2.1
      rw [e, setTo_snoc, sumL_append, sumL_append]
      show sumL M + (a + k + 1 - x.f + 0) = sumL M + (x.t - x.f + 0) + 1
      omega
    · rw [if_neg hj, sumL_append]
      show sumL (pcs P a k) + (a + k + 1 - (a + k) + 0) = _
      omega
theorem sum_cov (h : PsOk P) (a : Int) : ∀ k : Nat, sumL (pcs P a k) ≤ k ∧ 0 ≤ sumL (pcs P a k) ∧ (sumL (pcs P a k) = k ↔ covB P a k = true)
  | 0 => ⟨Int.le_refl _, Int.le_refl _, by simp [covB, anyB_zero, pcs, sumL]⟩
  | k + 1 => by
    obtain ⟨h1, h2, h3⟩ := sum_cov h a k
    rw [sum_pcs h a k]
    unfold covB at h3 ⊢
    rw [anyB_succ]
    by_cases h0 : (P (a + k)).h = 0
    · rw [if_pos h0]
      refine ⟨by omega, by omega, ⟨fun e => by omega, fun e => by simp [h0] at e⟩⟩
    · rw [if_neg h0]
      refine ⟨by omega, by omega, ?_⟩
      rw [show decide ((P (a + k)).h = 0) = false from decide_eq_false h0, Bool.or_false, ← h3]
      omega
theorem cov_sum (h : PsOk P) (a : Int) (n : Nat) : decide ((n : Int) - sumL (pcs P a n) = 0) = covB P a n := by
  obtain ⟨_, _, h3⟩ := sum_cov h a n
  rw [Bool.eq_iff_iff, decide_eq_true_eq, ← h3]
  omega
end
end Go.Proofs.YtnppnoabhpkmkaaGreat
