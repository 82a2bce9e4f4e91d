/- Both sides; the calls as a list; what must come at any rate. -/
import Derived.Test.YtodepfgfgphkbaaY3
import Derived.Test.YtodepfgfgphkbaaY4
import Derived.Test.YtodepfgfgphkbaaW2
namespace Go.Proofs.Ytodepfgfgphkbaa
open Go.RowKit
/-- The program's object and the reference, both over the pages P. -/
structure St (B : Nat) (w : World) (s x : Nat) (P : Int → Pg) : Prop where
  t : ∃ A c l, AtX B w s A c l P
  r : ∃ v, Px B w x v P
section
variable {w w' : World} {B s x : Nat} {P Q : Int → Pg}
theorem St.call (h : St B w s x P) (hb : Below w.heap.size w w') : St B w' s x P := by
  obtain ⟨⟨A, c, l, h1⟩, v, h2⟩ := h
  exact ⟨⟨A, c, l, h1.call hb⟩, v, h2.call hb⟩
theorem St.ok (h : St B w s x P) : PsOk P := h.r.choose_spec.ok
theorem St.lw (h : St B w s x P) : B ≤ w.heap.size := h.r.choose_spec.lw
/-- The program has made its call. -/
theorem St.half (h : St B w s x P) (d : DidA B w s Q w') : (∃ A c l, AtX B w' s A c l Q) ∧ (∃ v, Px B w' x v P) ∧ Below B w w' ∧ ∀ {g : Nat} {t : TypeId} {vs : List Value}, Lrow w g t vs → t ≠ 60 → Lrow w' g t vs := by
  obtain ⟨⟨A, c, l, h1⟩, v, h2⟩ := h
  obtain ⟨d1, d2⟩ := d
  refine ⟨d1, ⟨v, h2.keep d2.size fun k hk hl => d2.keep k hl ?_⟩, d2.below h1.lw (fun b hb => by rw [hb]; exact h1.lo), fun r hne => d2.row r (fun e => r.apart h1.top hne e)⟩
  rcases hk with rfl | e
  · exact h2.top.apart h1.top (by decide)
  · obtain ⟨L, _, ho, _⟩ := h2.own
    obtain ⟨vs, r, _⟩ := ho.block e
    exact r.apart h1.top (by decide)
theorem AtX.keep {A : Option Addr} {c : Nat} {l : List Ar} (h : AtX B w s A c l P) (hs : w.heap.size ≤ w'.heap.size) (hk : ∀ k, (k = s ∨ (Value.slice A l.length c).ownBlock = some k) → k < w.heap.size → w'.heap[k]? = w.heap[k]?) : AtX B w' s A c l P :=
  ⟨(hk s (Or.inl rfl) h.top.lt).trans h.top, h.own.heap (fun g e => hk g (Or.inr e) (by obtain ⟨vs, r, _⟩ := h.own.block e; exact r.lt)), h.wh, h.lo, Nat.le_trans h.lw hs⟩
/-- The reference has made its call. -/
theorem St.whole (hT : ∃ A c l, AtX B w s A c l Q) (hR : ∃ v, Px B w x v P) (d : DidP B w x Q w') : St B w' s x Q ∧ Below B w w' ∧ ∀ {g : Nat} {t : TypeId} {vs : List Value}, Lrow w g t vs → t ≠ 43 → Lrow w' g t vs := by
  obtain ⟨A, c, l, h1⟩ := hT
  obtain ⟨v, h2⟩ := hR
  obtain ⟨v', d1, d2⟩ := d
  refine ⟨⟨⟨A, c, l, h1.keep d2.size fun k hk hl => d2.keep k hl ?_⟩, v', d1⟩, d2.below h2.lw (fun b hb => by rw [hb]; exact h2.lo), fun r hne => d2.row r (fun e => r.apart h2.top hne e)⟩
  rcases hk with rfl | e
  · exact h1.top.apart h2.top (by decide)
  · obtain ⟨vs, r, _⟩ := h1.own.block e
    exact r.apart h2.top (by decide)
/-- A list stays behind a call of the reference. -/
theorem own_ref {D : Nat} {v : Value} {R : List Ar} {vx : Value} (ho : EAr.Own D w v R) (hx : Px B w x vx P) (d : DidP B w x Q w') : EAr.Own D w' v R := ho.heap fun g e => by
  obtain ⟨vs, r, _⟩ := ho.block e
  exact d.choose_spec.2.keep g r.lt (r.apart hx.top (by decide))
theorem own_prog {D : Nat} {v : Value} {R : List Ar} (ho : EAr.Own D w v R) (h : ∃ A c l, AtX B w s A c l P) (d : DidA B w s Q w') : EAr.Own D w' v R := ho.heap fun g e => by
  obtain ⟨vs, r, _⟩ := ho.block e
  obtain ⟨A, c, l, h⟩ := h
  exact d.2.keep g r.lt (r.apart h.top (by decide))
end
/-- What a call makes of the pages. -/
def doP (P : Int → Pg) (l : Ac) : Int → Pg :=
  if l.k = 0 ∨ l.k = 1 ∨ l.k = 2 then (if mapE P l.a l.n l.g l.p l.o = 0 then mapP P l.a l.n l.g l.p l.o else P)
  else if l.k = 3 then (if unE P l.a l.n = 0 then unP P l.a l.n else P)
  else if l.k = 4 then (if prE P l.a l.n l.p = 0 then prP P l.a l.n l.p else P)
  else (if mvE P l.a l.n l.t = 0 then mvP P l.a l.n l.t else P)
theorem unE_rt {P : Int → Pg} {a n : Int} (h : unE P a n = 0) : rtI a n 0 = 0 := by
  unfold unE at h
  by_cases c : rtI a n 0 = 0
  · exact c
  · rw [if_pos c] at h; exact h
theorem prE_rt {P : Int → Pg} {a n p : Int} (h : prE P a n p = 0) : rtI a n 0 = 0 := by
  unfold prE at h
  by_cases c : rtI a n 0 = 0
  · exact c
  · rw [if_pos c] at h; exact h
theorem mvE_rt {P : Int → Pg} {a n t : Int} (h : mvE P a n t = 0) : rtI a n 0 = 0 := by
  unfold mvE at h
  by_cases c : rtI a n 0 = 0
  · exact c
  · rw [if_pos c] at h; exact h
theorem told_len {P : Int → Pg} (ok : PsOk P) {a n er : Int} (h : er = 0 → rtI a n 0 = 0) : (if er = 0 then pcs P a n.toNat else []).length ≤ 5000 := by
  by_cases c : er = 0
  · rw [if_pos c]
    have := (pcs_is ok.ok a n.toNat).len
    obtain ⟨_, _, h3⟩ := rt_in (h c)
    have : n.toNat ≤ 4096 := by omega
    omega
  · rw [if_neg c]; simp
/-- What calls make. -/
def mdP (M : List Ac) : Int → Pg := M.foldl doP (fun _ => zP)
theorem mdP_snoc (M : List Ac) (l : Ac) : mdP (M ++ [l]) = doP (mdP M) l := by unfold mdP; rw [List.foldl_append]; rfl
theorem mdP_next (M : List Ac) {j : Nat} (h : j < M.length) : mdP (M.take (j + 1)) = doP (mdP (M.take j)) M[j] := by
  rw [List.take_succ_eq_append_getElem h, mdP_snoc]
/-- What the laws' calls make. -/
def mdE (M : List Ac) : Int → Pg := mdP (M.take 40)
/-- Calls as they lie. -/
def Lsa (w : World) (b : Nat) (A : Option Addr) (M : List Ac) : Prop := 0 < M.length → ∃ a, A = some a ∧ ∀ i (h : i < M.length), IsAc M[i] ∧ (a.add (i * 7)).block < b ∧ AcAt w (a.add (i * 7)) M[i]
theorem Lsa.below {w w' : World} {b : Nat} {A : Option Addr} {M : List Ac} (h : Lsa w b A M) (hb : Below b w w') : Lsa w' b A M := fun h0 => by
  obtain ⟨a, e, hc⟩ := h h0
  exact ⟨a, e, fun i hi => ⟨(hc i hi).1, (hc i hi).2.1, (hc i hi).2.2.below hb (hc i hi).2.1⟩⟩
theorem Acs.list {w : World} {b n : Nat} {A : Option Addr} (h : Acs w b A n) : ∃ M : List Ac, M.length = n ∧ Lsa w b A M := by
  rcases Nat.eq_zero_or_pos n with rfl | hn
  · exact ⟨[], rfl, fun h0 => absurd h0 (by simp)⟩
  · obtain ⟨a, e, hlt, hc⟩ := h hn
    refine ⟨List.ofFn fun i : Fin n => Classical.choose (hc i i.2), List.length_ofFn, fun _ => ⟨a, e, fun i hi => ?_⟩⟩
    rw [List.getElem_ofFn]
    have := Classical.choose_spec (hc i (by simpa using hi))
    exact ⟨this.1, by rw [add_blk]; exact hlt, this.2⟩
/-! What must come at any rate. -/
theorem used_none (a : Int) (n : Nat) : usedB (fun _ => zP) a n = false := by
  unfold usedB; rw [anyB_false]; intro k _; rfl
def P1 : Int → Pg := mapP (fun _ => zP) 8 8 1 3 0
def P2 : Int → Pg := unP P1 10 2
def P3 : Int → Pg := mapP P2 10 2 1 3 0
theorem notShr1 : ¬ shr 1 := by unfold shr; omega
theorem p1_pg (i : Int) : P1 i = if 8 ≤ i ∧ i < 16 then ⟨1, 3, 0, 0⟩ else zP := by
  unfold P1 mapP
  by_cases c : 8 ≤ i ∧ i < 16
  · rw [if_pos (show inS 8 8 i from c), if_pos c, if_neg notShr1]
  · rw [if_neg (show ¬ inS 8 8 i from c), if_neg c]
theorem p2_pg (i : Int) : P2 i = if 8 ≤ i ∧ i < 16 ∧ ¬ (10 ≤ i ∧ i < 12) then ⟨1, 3, 0, 0⟩ else zP := by
  unfold P2 unP
  by_cases c : 10 ≤ i ∧ i < 12
  · rw [if_pos (show inS 10 2 i from c), if_neg (by omega)]
  · rw [if_neg (show ¬ inS 10 2 i from c), p1_pg]
    by_cases d : 8 ≤ i ∧ i < 16
    · rw [if_pos d, if_pos (by omega)]
    · rw [if_neg d, if_neg (by omega)]
theorem p3_pg (i : Int) : P3 i = if 8 ≤ i ∧ i < 16 then ⟨1, 3, 0, 0⟩ else zP := by
  unfold P3 mapP
  by_cases c : 10 ≤ i ∧ i < 12
  · rw [if_pos (show inS 10 2 i from c), if_neg notShr1, if_pos (by omega)]
  · rw [if_neg (show ¬ inS 10 2 i from c), p2_pg]
    by_cases d : 8 ≤ i ∧ i < 16
    · rw [if_pos (by omega), if_pos d]
    · rw [if_neg (by omega), if_neg d]
theorem p31 : P3 = P1 := by funext i; rw [p3_pg, p1_pg]
theorem p1_ok : PsOk P1 := nil_whole.ok.map (by decide) (by decide) (by decide)
theorem p2_ok : PsOk P2 := p1_ok.un 10 2
theorem a1_ok (f t : Int) (h : f < t) : ArOk ⟨f, t, 1, 3, 0, 0⟩ := ⟨h, by show (1 : Int) ≠ 0; decide, fun _ => rfl⟩
theorem a1_pg (f t i : Int) : (⟨f, t, 1, 3, 0, 0⟩ : Ar).pg i = ⟨1, 3, 0, 0⟩ := by
  show (⟨1, 3, 0, if shr 1 then _ else 0⟩ : Pg) = _
  rw [if_neg notShr1]
theorem wh1 : Whole P1 [⟨8, 16, 1, 3, 0, 0⟩] := by
  refine ⟨⟨by decide, a1_ok 8 16 (by decide), (fun b (hb : b ∈ (none : Option Ar)) => by cases hb), trivial⟩, fun i => ?_, p1_ok⟩
  rw [p1_pg]
  show (if 8 ≤ i ∧ i < 16 then _ else zP) = _
  rw [a1_pg]
theorem wh2 : Whole P2 [⟨8, 10, 1, 3, 0, 0⟩, ⟨12, 16, 1, 3, 0, 0⟩] := by
  refine ⟨⟨by decide, a1_ok 8 10 (by decide), fun b hb => ?_, by decide, a1_ok 12 16 (by decide), (fun b (hb : b ∈ (none : Option Ar)) => by cases hb), trivial⟩, fun i => ?_, p2_ok⟩
  · injection hb with hb
    subst hb
    intro hj
    exact absurd hj.1 (by decide)
  · rw [p2_pg]
    show (if 8 ≤ i ∧ i < 10 then _ else if 12 ≤ i ∧ i < 16 then _ else zP) = _
    rw [a1_pg, a1_pg]
    by_cases c : 8 ≤ i ∧ i < 10
    · rw [if_pos c, if_pos (by omega)]
    · rw [if_neg c]
      by_cases d : 12 ≤ i ∧ i < 16
      · rw [if_pos d, if_pos (by omega)]
      · rw [if_neg d, if_neg (by omega)]
theorem map1 : mapE (fun _ => zP) 8 8 1 3 0 = 0 := by
  unfold mapE
  rw [if_neg (by decide), if_neg (by decide), if_neg (by rw [show ((8 : Int).toNat) = 8 from rfl, used_none]; decide), if_neg]
  show ¬ fullB P1 = true
  unfold fullB
  rw [← wh1.all]
  decide
theorem un2 : unE P1 10 2 = 0 := by
  unfold unE
  rw [if_neg (by decide), if_neg, if_neg]
  · show ¬ fullB P2 = true
    unfold fullB
    rw [← wh2.all]
    decide
  · unfold cutsB
    rw [p1_pg, p1_pg, if_pos (by decide), if_pos (by decide)]
    decide
theorem map3 : mapE P2 10 2 1 3 0 = 0 := by
  unfold mapE
  rw [if_neg (by decide), if_neg (by decide), if_neg, if_neg]
  · show ¬ fullB P3 = true
    rw [p31]
    unfold fullB
    rw [← wh1.all]
    decide
  · intro h
    unfold usedB at h
    obtain ⟨k, hk, q⟩ := anyB_true.1 h
    have hk : k < 2 := hk
    rw [p2_pg, if_neg (by omega)] at q
    exact absurd q (by decide)
theorem pcs1 : (pcs P1 10 2).length = 1 := by
  have : [⟨10, 12, 1, 3, 0, 0⟩] = pcs P1 10 2 := jd_pcs p1_ok.ok (L := [⟨10, 12, 1, 3, 0, 0⟩]) ⟨by decide, a1_ok 10 12 (by decide), (fun b (hb : b ∈ (none : Option Ar)) => by cases hb), trivial⟩ fun i => by
    show (if 10 ≤ i ∧ i < 12 then _ else zP) = if 10 ≤ i ∧ i < 10 + ((2 : Nat) : Int) then _ else zP
    rw [a1_pg]
    by_cases c : 10 ≤ i ∧ i < 12
    · rw [if_pos c, if_pos (by omega), p1_pg, if_pos (by omega)]
    · rw [if_neg c, if_neg (by omega)]
  rw [← this]; rfl
theorem cov3 : covB P3 8 8 = true := by
  unfold covB
  rw [Bool.not_eq_true', anyB_false]
  intro k hk
  rw [p3_pg, if_pos (by omega)]
  rfl
theorem did_below {B s : Nat} {w w' : World} {P Q : Int → Pg} {A : Option Addr} {c : Nat} {l : List Ar} (h : AtX B w s A c l P) (d : DidA B w s Q w') : Below B w w' := d.2.below h.lw (fun b hb => by rw [hb]; exact h.lo)
set_option maxRecDepth 100000 in
set_option maxHeartbeats 2000000 in
theorem awake_any (w : World) : Calls Try.prog 9 #[] w fun e w' => e = .returned (.bool true) ∧ Below w.heap.size w w' := by
  have hnew := new_pr w
  go_enter Try.func9, Try.ntmps9
  go_wp2_with fail
  refine hnew.mono ?_
  rintro e w1 ⟨s, rfl, hx1, hb1⟩
  have h1 := map_pr hx1 (a := 8) (n := 8) (how := 1) (p := 3) (o := 0) (by unfold Fits; omega) (by unfold Fits; omega)
  rw [map1] at h1
  have HB1 := Lib.hid hb1
  have HX1 := Lib.hid hx1
  clear hnew hb1 hx1
  go_wp2_with fail
  refine h1.mono ?_
  rintro e w2 ⟨rfl, hd2⟩
  rw [if_pos rfl] at hd2
  have HB2 := Lib.hid (HB1.out.trans (did_below HX1.out hd2))
  obtain ⟨⟨A2, c2, l2, hx2⟩, -⟩ := hd2
  have h2 := unmap_pr hx2 (a := 10) (n := 2) (by unfold Fits; omega) (by unfold Fits; omega)
  rw [show unE (mapP (fun _ => zP) 8 8 1 3 0) 10 2 = 0 from un2] at h2
  unfold ToldQ at h2
  rw [if_pos rfl, if_pos rfl, show (pcs (mapP (fun _ => zP) 8 8 1 3 0) 10 (Int.toNat 2)).length = 1 from pcs1] at h2
  have HX2 := Lib.hid hx2
  clear h1 hx2
  go_wp2_with fail
  refine h2.mono ?_
  rintro e w3 ⟨A3, c3, rfl, -, hd3⟩
  have HB3 := Lib.hid (HB2.out.trans (did_below HX2.out hd3))
  obtain ⟨⟨A3', c3', l3, hx3⟩, -⟩ := hd3
  have h3 := all_pr hx3
  unfold ToldL at h3
  rw [show l3 = [⟨8, 10, 1, 3, 0, 0⟩, ⟨12, 16, 1, 3, 0, 0⟩] from hx3.wh.all.trans wh2.all.symm] at h3
  have HX3 := Lib.hid hx3
  clear h2 hx3
  go_wp2_with fail
  refine h3.mono ?_
  rintro e w4 ⟨A4, c4, rfl, -, hb4⟩
  have HB4 := Lib.hid (HB3.out.trans (hb4.mono HB3.out.size))
  have HX4 := Lib.hid (HX3.out.call hb4)
  have h4 := map_pr HX4.out (a := 10) (n := 2) (how := 1) (p := 3) (o := 0) (by unfold Fits; omega) (by unfold Fits; omega)
  rw [show mapE (unP (mapP (fun _ => zP) 8 8 1 3 0) 10 2) 10 2 1 3 0 = 0 from map3] at h4
  clear h3 hb4
  go_wp2_with fail
  refine h4.mono ?_
  rintro e w5 ⟨rfl, hd5⟩
  rw [if_pos rfl] at hd5
  have HB5 := Lib.hid (HB4.out.trans (did_below HX4.out hd5))
  obtain ⟨⟨A5, c5, l5, hx5⟩, -⟩ := hd5
  have h5 := all_pr hx5
  unfold ToldL at h5
  rw [show l5 = [⟨8, 16, 1, 3, 0, 0⟩] from hx5.wh.all.trans ((congrArg allA p31).trans wh1.all.symm)] at h5
  have HX5 := Lib.hid hx5
  clear h4 hx5
  go_wp2_with fail
  refine h5.mono ?_
  rintro e w6 ⟨A6, c6, rfl, -, hb6⟩
  have HB6 := Lib.hid (HB5.out.trans (hb6.mono HB5.out.size))
  have h6 := covers_ok (HX5.out.call hb6) (a := 8) (n := 8) (by decide)
  rw [show covB (mapP (unP (mapP (fun _ => zP) 8 8 1 3 0) 10 2) 10 2 1 3 0) ((8 : Nat) : Int) 8 = true from cov3] at h6
  clear h5 hb6
  go_wp2_with fail
  refine h6.mono ?_
  rintro e w7 ⟨rfl, hb7⟩
  have HB7 := Lib.hid (HB6.out.trans (hb7.mono HB6.out.size))
  clear h6 hb7
  go_wp2_with fail
  go_ret
  exact ⟨rfl, HB7.out⟩
end Go.Proofs.Ytodepfgfgphkbaa
