/- Spaces whose pages are just there, without the program: each operation; what holds of the spaces, and that each operation keeps it. -/
import Derived.Test.YtnppnoabhpkmkaaGreatMg10
namespace Go.Proofs.YtnppnoabhpkmkaaGreat

/-- A space more. -/
def addF (F : Fl) (S : Sp) : Int × Int × Fl := if 15 < F.L.length then (13, 0, F) else (0, (F.L.length : Int), { F with L := F.L ++ [S] })
def noF (F : Fl) (e : Int) : Int × Int × Fl := (e, 0, F)
def objI (F : Fl) (h : Int) : Int := if shr h then (F.O.length : Int) else 0
def objF (F : Fl) (h : Int) : Fl := if shr h then { F with O := F.O ++ [fun _ => 0] } else F
/-- A mapping at a page. -/
def mapAt (F : Fl) (r : Rq) (a v : Int) : Int × Int × Fl :=
  if mapE (sp F r.s).P a r.n r.h r.p (objI F r.h) ≠ 0 then noF F (mapE (sp F r.s).P a r.n r.h r.p (objI F r.h))
  else (0, v, put (objF F r.h) r.s { sp F r.s with P := mapP (sp F r.s).P a r.n r.h r.p (objI F r.h) })
def mapR (F : Fl) (r : Rq) : Int × Int × Fl :=
  if r.a = 0 then
    if mapE (fun _ => zP) (szO r.h) r.n r.h r.p (objI F r.h) ≠ 0 then noF F (mapE (fun _ => zP) (szO r.h) r.n r.h r.p (objI F r.h))
    else if roomP (sp F r.s).P r.n (szO r.h) = 0 then noF F 13
    else mapAt F r (roomP (sp F r.s).P r.n (szO r.h)) (roomP (sp F r.s).P r.n (szO r.h))
  else mapAt F r r.a 0
def zapE (P : Int → Pg) (a n : Int) : Int := if rtI a n 0 ≠ 0 then rtI a n 0 else if covB P a n.toNat = false then 6 else if cutsB P a n = true then 2 else 0
/-- What changes areas. -/
def chgE (S : Sp) (r : Rq) : Int :=
  if r.k = 3 then unE S.P r.a r.n else if r.k = 4 then prE S.P r.a r.n r.p else if r.k = 5 then zapE S.P r.a r.n else if r.k = 6 then mvE S.P r.a r.n r.t else 0
def chgS (S : Sp) (r : Rq) : Sp :=
  if r.k = 3 then { S with P := unP S.P r.a r.n, W := clr S.W r.a r.n } else if r.k = 4 then { S with P := prP S.P r.a r.n r.p } else if r.k = 5 then { S with W := clr S.W r.a r.n } else if r.k = 6 then { S with P := mvP S.P r.a r.n r.t, W := mvW S.W r.a r.n r.t } else { S with g := true }
def accR (F : Fl) (r : Rq) : Int × Int × Fl :=
  if celE 10 4 (sp F r.s) r.a ≠ 0 then noF F (celE 10 4 (sp F r.s) r.a)
  else if ((sp F r.s).P (r.a / 64)).p = 0 ∨ (r.k = 10 ∧ ((sp F r.s).P (r.a / 64)).p ≠ 3) then noF F 10
  else if r.k = 10 then (0, 0, celS F r.s r.a r.v) else (0, celV F (sp F r.s) r.a, F)
/-- What is copied: all but huge pages that are not shared. -/
def cpP (P : Int → Pg) : Int → Pg := fun i => if 1 < szO (P i).h ∧ ¬ shr (P i).h then zP else P i
def cpS (S : Sp) : Sp := ⟨cpP S.P, cpW (cpP S.P) S.W, false⟩
/-- An operation: its error, its value, what becomes of the spaces. -/
def stF (F : Fl) (r : Rq) : Int × Int × Fl :=
  if r.k < 1 ∨ 10 < r.k then noF F 2
  else if r.k = 1 then addF F zSp
  else if isS F r.s = false then noF F 11
  else if r.k = 7 then addF F (cpS (sp F r.s))
  else if r.k = 9 ∨ r.k = 10 then accR F r
  else if r.k = 2 then mapR F r
  else if chgE (sp F r.s) r ≠ 0 then noF F (chgE (sp F r.s) r)
  else (0, 0, put F r.s (chgS (sp F r.s) r))
/-- A space as it may be, of m objects. -/
structure SpOk (m : Nat) (S : Sp) : Prop where
  ps : PsOk S.P
  own : ∀ i, S.W i ≠ 0 → 0 ≤ i ∧ i < 32768 ∧ (S.P (i / 8)).h ≠ 0 ∧ ¬ shr (S.P (i / 8)).h
  obj : ∀ i, shr (S.P i).h → 0 ≤ (S.P i).o ∧ (S.P i).o < m ∧ 0 ≤ (S.P i).x ∧ (S.P i).x < 4096
structure FlOk (F : Fl) : Prop where
  all : ∀ S ∈ F.L, SpOk F.O.length S
  few : F.L.length ≤ 16
section
variable {F : Fl} {S : Sp} {m : Nat}
theorem not_shr0 : ¬ shr 0 := by unfold shr; omega
theorem zP_ps : PsOk fun _ => zP := ⟨fun _ => zP_ok, fun _ _ => rfl, fun _ => ⟨by show (0 : Int) ≤ 0; omega, by show (0 : Int) ≤ 4096; omega⟩⟩
theorem SpOk.zero (m : Nat) : SpOk m zSp := ⟨zP_ps, fun _ h => absurd rfl h, fun _ h => absurd h not_shr0⟩
theorem SpOk.mono {m' : Nat} (h : SpOk m S) (hm : m ≤ m') : SpOk m' S := ⟨h.ps, h.own, fun i hi => by have := h.obj i hi; exact ⟨this.1, by omega, this.2.2⟩⟩
theorem FlOk.sp (h : FlOk F) (i : Int) : SpOk F.O.length (sp F i) := by
  unfold Go.Proofs.YtnppnoabhpkmkaaGreat.sp
  rw [List.getD_eq_getElem?_getD]
  cases e : F.L[i.toNat]? with
  | none => exact SpOk.zero _
  | some S => exact h.all S (List.mem_of_getElem? e)
theorem FlOk.put (h : FlOk F) {i : Int} (hS : SpOk F.O.length S) : FlOk (put F i S) := ⟨fun T hT => by
  rcases List.mem_or_eq_of_mem_set hT with e | rfl
  · exact h.all T e
  · exact hS, by show (F.L.set _ _).length ≤ 16; rw [List.length_set]; exact h.few⟩
theorem FlOk.addF (h : FlOk F) (hS : SpOk F.O.length S) : FlOk (addF F S).2.2 := by
  unfold Go.Proofs.YtnppnoabhpkmkaaGreat.addF
  split
  · exact h
  · refine ⟨fun T hT => ?_, by show (F.L ++ [S]).length ≤ 16; rw [List.length_append, List.length_singleton]; omega⟩
    have hT : T ∈ F.L ++ [S] := hT
    rw [List.mem_append, List.mem_singleton] at hT
    rcases hT with e | rfl
    · exact h.all T e
    · exact hS
theorem cpP_or (P : Int → Pg) (i : Int) : cpP P i = P i ∨ cpP P i = zP := by
  unfold cpP
  split
  · exact Or.inr rfl
  · exact Or.inl rfl
theorem SpOk.copy (h : SpOk m S) : SpOk m (cpS S) := by
  refine ⟨⟨fun i => ?_, fun i hi => ?_, fun i => ?_⟩, fun i hi => ?_, fun i hi => ?_⟩
  · show PgOk (cpP S.P i)
    rcases cpP_or S.P i with e | e <;> rw [e]
    · exact h.ps.ok i
    · exact zP_ok
  · show cpP S.P i = zP
    rcases cpP_or S.P i with e | e <;> rw [e]
    exact h.ps.far i hi
  · show 0 ≤ (cpP S.P i).x ∧ (cpP S.P i).x ≤ 4096
    rcases cpP_or S.P i with e | e <;> rw [e]
    · exact h.ps.sm i
    · exact ⟨by show (0 : Int) ≤ 0; omega, by show (0 : Int) ≤ 4096; omega⟩
  · have hi : cpW (cpP S.P) S.W i ≠ 0 := hi
    unfold cpW at hi
    by_cases c : 0 ≤ i ∧ i < 32768 ∧ (cpP S.P (i / 8)).h = 0
    · rw [if_pos c] at hi; exact absurd rfl hi
    · rw [if_neg c] at hi
      have := h.own i hi
      show _ ∧ _ ∧ (cpP S.P (i / 8)).h ≠ 0 ∧ ¬ shr (cpP S.P (i / 8)).h
      rcases cpP_or S.P (i / 8) with e | e
      · rw [e]; exact this
      · exact absurd ⟨this.1, this.2.1, by rw [e]; rfl⟩ c
  · have hi : shr (cpP S.P i).h := hi
    show 0 ≤ (cpP S.P i).o ∧ (cpP S.P i).o < _ ∧ 0 ≤ (cpP S.P i).x ∧ (cpP S.P i).x < _
    rcases cpP_or S.P i with e | e
    · rw [e] at hi ⊢; exact h.obj i hi
    · rw [e] at hi; exact absurd hi not_shr0
theorem clr_ne {W : Int → Int} {a n i : Int} (h : clr W a n i ≠ 0) : W i ≠ 0 ∧ ¬ (a ≤ i / 8 ∧ i / 8 < a + n) := by
  unfold clr at h
  by_cases c : a * 8 ≤ i ∧ i < (a + n) * 8
  · rw [if_pos c] at h; exact absurd rfl h
  · rw [if_neg c] at h; exact ⟨h, fun e => c (by omega)⟩
theorem SpOk.clr (h : SpOk m S) (a n : Int) : SpOk m { S with W := clr S.W a n } := ⟨h.ps, fun i hi => h.own i (clr_ne hi).1, h.obj⟩
theorem SpOk.un (h : SpOk m S) (a n : Int) : SpOk m { S with P := unP S.P a n, W := Go.Proofs.YtnppnoabhpkmkaaGreat.clr S.W a n } := by
  refine ⟨h.ps.un a n, fun i hi => ?_, fun i hi => ?_⟩
  · obtain ⟨h1, h2⟩ := clr_ne hi
    have e : unP S.P a n (i / 8) = S.P (i / 8) := if_neg h2
    have := h.own i h1
    show _ ∧ _ ∧ (unP S.P a n (i / 8)).h ≠ 0 ∧ ¬ shr (unP S.P a n (i / 8)).h
    rw [e]; exact this
  · have hi : shr (unP S.P a n i).h := hi
    show 0 ≤ (unP S.P a n i).o ∧ (unP S.P a n i).o < _ ∧ 0 ≤ (unP S.P a n i).x ∧ (unP S.P a n i).x < _
    unfold unP at hi ⊢
    by_cases c : inS a n i
    · rw [if_pos c] at hi; exact absurd hi not_shr0
    · rw [if_neg c] at hi ⊢; exact h.obj i hi
theorem prP_eq (P : Int → Pg) (a n p i : Int) : (prP P a n p i).h = (P i).h ∧ (prP P a n p i).o = (P i).o ∧ (prP P a n p i).x = (P i).x := by
  unfold prP
  split <;> exact ⟨rfl, rfl, rfl⟩
theorem SpOk.pr (h : SpOk m S) {a n p : Int} (hc : ∀ i, inS a n i → (S.P i).h ≠ 0) : SpOk m { S with P := prP S.P a n p } := by
  refine ⟨h.ps.pr hc, fun i hi => ?_, fun i hi => ?_⟩
  · show _ ∧ _ ∧ (prP S.P a n p (i / 8)).h ≠ 0 ∧ ¬ shr (prP S.P a n p (i / 8)).h
    rw [(prP_eq S.P a n p (i / 8)).1]; exact h.own i hi
  · have hi : shr (prP S.P a n p i).h := hi
    show 0 ≤ (prP S.P a n p i).o ∧ (prP S.P a n p i).o < _ ∧ 0 ≤ (prP S.P a n p i).x ∧ (prP S.P a n p i).x < _
    obtain ⟨e1, e2, e3⟩ := prP_eq S.P a n p i
    rw [e1] at hi
    rw [e2, e3]; exact h.obj i hi
theorem SpOk.mv (h : SpOk m S) {a n t : Int} (ht : 0 ≤ t) (hn : t + n ≤ 4096) : SpOk m { S with P := mvP S.P a n t, W := mvW S.W a n t } := by
  refine ⟨h.ps.mv ht hn, fun i hi => ?_, fun i hi => ?_⟩
  · have hi : mvW S.W a n t i ≠ 0 := hi
    show _ ∧ _ ∧ (mvP S.P a n t (i / 8)).h ≠ 0 ∧ ¬ shr (mvP S.P a n t (i / 8)).h
    unfold mvW at hi
    by_cases c : t * 8 ≤ i ∧ i < (t + n) * 8
    · rw [if_pos c] at hi
      have := h.own _ hi
      have e : mvP S.P a n t (i / 8) = S.P ((i - t * 8 + a * 8) / 8) := by
        unfold mvP
        rw [if_pos (show inS t n (i / 8) from ⟨by omega, by omega⟩)]
        congr 1; omega
      rw [e]; exact ⟨by omega, by omega, this.2.2⟩
    · rw [if_neg c] at hi
      by_cases d : a * 8 ≤ i ∧ i < (a + n) * 8
      · rw [if_pos d] at hi; exact absurd rfl hi
      · rw [if_neg d] at hi
        have e : mvP S.P a n t (i / 8) = S.P (i / 8) := by
          unfold mvP
          rw [if_neg (show ¬ inS t n (i / 8) from fun q => c (by unfold inS at q; omega)), if_neg (show ¬ inS a n (i / 8) from fun q => d (by unfold inS at q; omega))]
        rw [e]; exact h.own i hi
  · have hi : shr (mvP S.P a n t i).h := hi
    show 0 ≤ (mvP S.P a n t i).o ∧ (mvP S.P a n t i).o < _ ∧ 0 ≤ (mvP S.P a n t i).x ∧ (mvP S.P a n t i).x < _
    unfold mvP at hi ⊢
    by_cases c : inS t n i
    · rw [if_pos c] at hi ⊢; exact h.obj _ hi
    · rw [if_neg c] at hi ⊢
      by_cases d : inS a n i
      · rw [if_pos d] at hi; exact absurd hi not_shr0
      · rw [if_neg d] at hi ⊢; exact h.obj _ hi
theorem mapE_ok {P : Int → Pg} {a n h p o : Int} (e : mapE P a n h p o = 0) : mapA h p o = false ∧ rtI a n (ordO h) = 0 ∧ usedB P a n.toNat = false ∧ fullB (mapP P a n h p o) = false := by
  unfold mapE at e
  split at e
  · cases e
  · rename_i h1
    split at e
    · rename_i h2; exact absurd e h2
    · rename_i h2
      split at e
      · cases e
      · rename_i h3
        split at e
        · cases e
        · rename_i h4
          exact ⟨by simpa using h1, Classical.byContradiction h2, by simpa using h3, by simpa using h4⟩
theorem used_no {P : Int → Pg} {a n : Int} (h : usedB P a n.toNat = false) {i : Int} (hi : inS a n i) : (P i).h = 0 := by
  have := anyB_false.1 h (i - a).toNat (by unfold inS at hi; omega)
  simp only [decide_eq_false_iff_not, ne_eq, Classical.not_not] at this
  rwa [show a + ((i - a).toNat : Int) = i by unfold inS at hi; omega] at this
theorem mapA_h {h p o : Int} (e : mapA h p o = false) : 1 ≤ h := by
  unfold mapA at e
  simp only [Bool.or_eq_false_iff, decide_eq_false_iff_not] at e
  omega
theorem SpOk.map (h : SpOk m S) {a n how p o : Int} (e : mapE S.P a n how p o = 0) (ho : shr how → 0 ≤ o ∧ o < m) : SpOk m { S with P := mapP S.P a n how p o } := by
  obtain ⟨e1, e2, e3, _⟩ := mapE_ok e
  obtain ⟨r1, r2, r3⟩ := rt_in e2
  have hh := mapA_h e1
  refine ⟨h.ps.map (by omega) (by omega) r3, fun i hi => ?_, fun i hi => ?_⟩
  · have := h.own i hi
    have e : mapP S.P a n how p o (i / 8) = S.P (i / 8) := by
      unfold mapP
      rw [if_neg fun q => this.2.2.1 (used_no e3 q)]
    show _ ∧ _ ∧ (mapP S.P a n how p o (i / 8)).h ≠ 0 ∧ ¬ shr (mapP S.P a n how p o (i / 8)).h
    rw [e]; exact this
  · have hi : shr (mapP S.P a n how p o i).h := hi
    show 0 ≤ (mapP S.P a n how p o i).o ∧ (mapP S.P a n how p o i).o < _ ∧ 0 ≤ (mapP S.P a n how p o i).x ∧ (mapP S.P a n how p o i).x < _
    unfold mapP at hi ⊢
    by_cases c : inS a n i
    · rw [if_pos c] at hi ⊢
      have hs : shr how := hi
      have := ho hs
      unfold inS at c
      rw [if_pos hs]
      exact ⟨this.1, this.2, by show 0 ≤ i - a; omega, by show i - a < 4096; omega⟩
    · rw [if_neg c] at hi ⊢; exact h.obj _ hi
theorem prE_ok {P : Int → Pg} {a n p : Int} (e : prE P a n p = 0) : covB P a n.toNat = true := by
  unfold prE at e
  by_cases c1 : rtI a n 0 ≠ 0
  · rw [if_pos c1] at e; exact absurd e c1
  · rw [if_neg c1] at e
    by_cases c2 : prB p = false
    · rw [if_pos c2] at e; cases e
    · rw [if_neg c2] at e
      by_cases c3 : covB P a n.toNat = false
      · rw [if_pos c3] at e; cases e
      · simpa using c3
theorem mvE_ok {P : Int → Pg} {a n t : Int} (e : mvE P a n t = 0) : rtI a n 0 = 0 ∧ rtI t n 0 = 0 := by
  unfold mvE at e
  by_cases c1 : rtI a n 0 ≠ 0
  · rw [if_pos c1] at e; exact absurd e c1
  · rw [if_neg c1] at e
    by_cases c2 : rtI t n 0 ≠ 0
    · rw [if_pos c2] at e; exact absurd e c2
    · exact ⟨Classical.byContradiction c1, Classical.byContradiction c2⟩
theorem SpOk.chg (h : SpOk m S) {r : Rq} (e : chgE S r = 0) : SpOk m (chgS S r) := by
  unfold chgE at e
  unfold chgS
  by_cases c3 : r.k = 3
  · rw [if_pos c3]; exact h.un _ _
  · rw [if_neg c3] at e ⊢
    by_cases c4 : r.k = 4
    · rw [if_pos c4] at e ⊢; exact h.pr fun i hi => cov_in (prE_ok e) i hi
    · rw [if_neg c4] at e ⊢
      by_cases c5 : r.k = 5
      · rw [if_pos c5]; exact h.clr _ _
      · rw [if_neg c5] at e ⊢
        by_cases c6 : r.k = 6
        · rw [if_pos c6] at e ⊢
          obtain ⟨_, e2⟩ := mvE_ok e
          have := rt_in e2
          exact h.mv (by omega) this.2.2
        · rw [if_neg c6]; exact ⟨h.ps, h.own, h.obj⟩
theorem objF_len (F : Fl) (h : Int) : F.O.length ≤ (objF F h).O.length ∧ (shr h → 0 ≤ objI F h ∧ objI F h < (objF F h).O.length) := by
  unfold objF objI
  by_cases c : shr h
  · rw [if_pos c, if_pos c]
    show F.O.length ≤ (F.O ++ [_]).length ∧ (_ → _ ∧ (F.O.length : Int) < ((F.O ++ [_]).length : Nat))
    rw [List.length_append, List.length_singleton]
    exact ⟨by omega, fun _ => ⟨by omega, by omega⟩⟩
  · rw [if_neg c]
    exact ⟨Nat.le_refl _, fun e => absurd e c⟩
theorem objF_L (F : Fl) (h : Int) : (objF F h).L = F.L := by unfold objF; split <;> rfl
theorem FlOk.obj (h : FlOk F) (how : Int) : FlOk (objF F how) := ⟨fun T hT => by
  rw [objF_L] at hT
  exact (h.all T hT).mono (objF_len F how).1, by rw [objF_L]; exact h.few⟩
theorem FlOk.mapAt (h : FlOk F) (r : Rq) (a v : Int) : FlOk (mapAt F r a v).2.2 := by
  unfold Go.Proofs.YtnppnoabhpkmkaaGreat.mapAt
  split
  · exact h
  · rename_i e
    refine (h.obj r.h).put ?_
    exact ((h.sp r.s).mono (objF_len F r.h).1).map (Classical.byContradiction e) (objF_len F r.h).2
theorem FlOk.mapR (h : FlOk F) (r : Rq) : FlOk (mapR F r).2.2 := by
  unfold Go.Proofs.YtnppnoabhpkmkaaGreat.mapR
  split
  · split
    · exact h
    · split
      · exact h
      · exact h.mapAt r _ _
  · exact h.mapAt r _ _
theorem celE_ok {a : Int} (e : celE 10 4 S a = 0) : 0 ≤ a ∧ a ≤ 262143 ∧ a % 8 = 0 ∧ (S.P (a / 64)).h ≠ 0 := by
  unfold celE at e
  by_cases c1 : a < 0 ∨ 262143 < a
  · rw [if_pos c1] at e; cases e
  · rw [if_neg c1] at e
    by_cases c2 : a % 8 ≠ 0
    · rw [if_pos c2] at e; cases e
    · rw [if_neg c2] at e
      by_cases c3 : (S.P (a / 64)).h = 0
      · rw [if_pos c3] at e; cases e
      · exact ⟨by omega, by omega, by omega, c3⟩
theorem FlOk.store (h : FlOk F) {i a : Int} (v : Int) (e : celE 10 4 (Go.Proofs.YtnppnoabhpkmkaaGreat.sp F i) a = 0) : FlOk (celS F i a v) := by
  obtain ⟨e1, e2, e3, e4⟩ := celE_ok e
  unfold celS
  dsimp only
  split
  · exact ⟨fun T hT => (h.all T hT).mono (by show _ ≤ (F.O.modify _ _).length; rw [List.length_modify]; exact Nat.le_refl _), h.few⟩
  · rename_i c
    have hs := h.sp i
    refine h.put ⟨hs.ps, fun j hj => ?_, hs.obj⟩
    have hj : (if j = a / 8 then v else (Go.Proofs.YtnppnoabhpkmkaaGreat.sp F i).W j) ≠ 0 := hj
    by_cases d : j = a / 8
    · subst d
      have e5 : a / 8 / 8 = a / 64 := by omega
      show _ ∧ _ ∧ ((Go.Proofs.YtnppnoabhpkmkaaGreat.sp F i).P (a / 8 / 8)).h ≠ 0 ∧ ¬ shr ((Go.Proofs.YtnppnoabhpkmkaaGreat.sp F i).P (a / 8 / 8)).h
      rw [e5]
      exact ⟨by omega, by omega, e4, c⟩
    · rw [if_neg d] at hj; exact hs.own j hj
theorem FlOk.acc (h : FlOk F) (r : Rq) : FlOk (accR F r).2.2 := by
  unfold accR
  split
  · exact h
  · rename_i e
    split
    · exact h
    · split
      · exact h.store r.v (Classical.byContradiction e)
      · exact h
/-- Each operation keeps it. -/
theorem FlOk.step (h : FlOk F) (r : Rq) : FlOk (stF F r).2.2 := by
  unfold stF
  split
  · exact h
  · split
    · exact h.addF (SpOk.zero _)
    · split
      · exact h
      · split
        · exact h.addF (h.sp r.s).copy
        · split
          · exact h.acc r
          · split
            · exact h.mapR r
            · split
              · exact h
              · rename_i e
                exact h.put ((h.sp r.s).chg (Classical.byContradiction e))
theorem FlOk.none : FlOk ⟨[], []⟩ := ⟨fun S h => (by cases h), (by show (0 : Nat) ≤ 16; omega)⟩
end
end Go.Proofs.YtnppnoabhpkmkaaGreat
/- Spaces whose pages are just there, without the program: errors change nothing; which word a store changes. -/
namespace Go.Proofs.YtnppnoabhpkmkaaGreat
section
variable {F : Fl}
theorem mapAt_err {r : Rq} {a v : Int} (h : (mapAt F r a v).1 ≠ 0) : (mapAt F r a v).2 = (0, F) := by
  unfold mapAt at h ⊢
  split
  · rfl
  · rename_i c; rw [if_neg c] at h; exact absurd rfl h
theorem addF_err {S : Sp} (h : (addF F S).1 ≠ 0) : (addF F S).2 = (0, F) := by
  unfold addF at h ⊢
  split
  · rfl
  · rename_i c; rw [if_neg c] at h; exact absurd rfl h
/-- With an error nothing has changed, and the value is 0. -/
theorem stF_err {r : Rq} (h : (stF F r).1 ≠ 0) : (stF F r).2 = (0, F) := by
  unfold stF at h ⊢
  by_cases c1 : r.k < 1 ∨ 10 < r.k
  · rw [if_pos c1]; rfl
  · rw [if_neg c1] at h ⊢
    by_cases c2 : r.k = 1
    · rw [if_pos c2] at h ⊢; exact addF_err h
    · rw [if_neg c2] at h ⊢
      by_cases c3 : isS F r.s = false
      · rw [if_pos c3]; rfl
      · rw [if_neg c3] at h ⊢
        by_cases c4 : r.k = 7
        · rw [if_pos c4] at h ⊢; exact addF_err h
        · rw [if_neg c4] at h ⊢
          by_cases c5 : r.k = 9 ∨ r.k = 10
          · rw [if_pos c5] at h ⊢
            unfold accR at h ⊢
            split
            · rfl
            · rename_i d; rw [if_neg d] at h
              split
              · rfl
              · rename_i d2; rw [if_neg d2] at h
                split
                · rename_i d3; rw [if_pos d3] at h; exact absurd rfl h
                · rename_i d3; rw [if_neg d3] at h; exact absurd rfl h
          · rw [if_neg c5] at h ⊢
            by_cases c6 : r.k = 2
            · rw [if_pos c6] at h ⊢
              unfold mapR at h ⊢
              by_cases d1 : r.a = 0
              · rw [if_pos d1] at h ⊢
                split
                · rfl
                · rename_i d2; rw [if_neg d2] at h
                  split
                  · rfl
                  · rename_i d3; rw [if_neg d3] at h; exact mapAt_err h
              · rw [if_neg d1] at h ⊢; exact mapAt_err h
            · rw [if_neg c6] at h ⊢
              split
              · rfl
              · rename_i d; rw [if_neg d] at h; exact absurd rfl h
theorem isS_get {i : Int} (h : isS F i = true) : 0 ≤ i ∧ i < F.L.length ∧ (sp F i).g = false := by
  unfold isS at h
  simp only [Bool.and_eq_true, decide_eq_true_eq, Bool.not_eq_true'] at h
  exact ⟨h.1.1, h.1.2, h.2⟩
theorem sp_put {i j : Int} {S : Sp} (hi : 0 ≤ i) (hl : i < F.L.length) (hj : 0 ≤ j) : sp (put F i S) j = if j = i then S else sp F j := by
  unfold sp put
  dsimp only
  rw [List.getD_eq_getElem?_getD, List.getD_eq_getElem?_getD]
  by_cases e : j = i
  · subst e; rw [if_pos rfl, List.getElem?_set_self (by omega)]; rfl
  · rw [if_neg e, List.getElem?_set_ne (by omega)]
/-- Do two addresses show one word? -/
def sameC (F : Fl) (i a j b : Int) : Prop :=
  (shr ((sp F i).P (a / 64)).h ∧ shr ((sp F j).P (b / 64)).h ∧ ((sp F i).P (a / 64)).o = ((sp F j).P (b / 64)).o ∧ ((sp F i).P (a / 64)).x * 8 + a / 8 % 8 = ((sp F j).P (b / 64)).x * 8 + b / 8 % 8) ∨
  (¬ shr ((sp F i).P (a / 64)).h ∧ ¬ shr ((sp F j).P (b / 64)).h ∧ j = i ∧ b / 8 = a / 8)
/-- A store changes no page, and no space's being there. -/
theorem celS_P {i j a v : Int} (hi : 0 ≤ i) (hl : i < F.L.length) (hj : 0 ≤ j) : (sp (celS F i a v) j).P = (sp F j).P ∧ (sp (celS F i a v) j).g = (sp F j).g ∧ (celS F i a v).L.length = F.L.length := by
  unfold celS
  dsimp only
  split
  · exact ⟨rfl, rfl, rfl⟩
  · rw [sp_put hi hl hj]
    refine ⟨?_, ?_, by show (F.L.set _ _).length = _; rw [List.length_set]⟩
    · split
      · rename_i e; rw [e]
      · rfl
    · split
      · rename_i e; rw [e]
      · rfl
/-- What a word is behind a store: what was stored where it is the same word, else what it was. -/
theorem celV_store (h : FlOk F) {i j a b : Int} (v : Int) (hi : 0 ≤ i) (hl : i < F.L.length) (hj : 0 ≤ j) :
    (sameC F i a j b → celV (celS F i a v) (sp (celS F i a v) j) b = v) ∧ (¬ sameC F i a j b → celV (celS F i a v) (sp (celS F i a v) j) b = celV F (sp F j) b) := by
  have hP := (celS_P (a := a) (v := v) hi hl hj).1
  unfold celV
  rw [hP]
  by_cases c : shr ((sp F i).P (a / 64)).h
  · have hO : (celS F i a v).O = F.O.modify ((sp F i).P (a / 64)).o.toNat fun w k => if k = ((sp F i).P (a / 64)).x * 8 + a / 8 % 8 then v else w k := by
      unfold celS; dsimp only; rw [if_pos c]
    have hL : (celS F i a v).L = F.L := by unfold celS; dsimp only; rw [if_pos c]
    have hS : sp (celS F i a v) j = sp F j := by unfold sp; rw [hL]
    rw [hO, hS]
    have o1 := (h.sp i).obj _ c
    by_cases d : shr ((sp F j).P (b / 64)).h
    · rw [if_pos d, if_pos d, List.getD_eq_getElem?_getD, List.getD_eq_getElem?_getD, List.getElem?_modify]
      have o2 := (h.sp j).obj _ d
      have hlt : ((sp F j).P (b / 64)).o.toNat < F.O.length := by omega
      rw [List.getElem?_eq_getElem hlt]
      by_cases e : ((sp F i).P (a / 64)).o = ((sp F j).P (b / 64)).o
      · rw [e]
        by_cases e2 : ((sp F i).P (a / 64)).x * 8 + a / 8 % 8 = ((sp F j).P (b / 64)).x * 8 + b / 8 % 8
        · refine ⟨fun _ => ?_, fun q => absurd (Or.inl ⟨c, d, e, e2⟩) q⟩
          simp [e2]
        · refine ⟨fun q => ?_, fun _ => ?_⟩
          · rcases q with ⟨_, _, _, q⟩ | ⟨q, _⟩
            · exact absurd q e2
            · exact absurd c q
          · simp [show ¬ ((sp F j).P (b / 64)).x * 8 + b / 8 % 8 = ((sp F i).P (a / 64)).x * 8 + a / 8 % 8 from fun q => e2 q.symm]
      · refine ⟨fun q => ?_, fun _ => ?_⟩
        · rcases q with ⟨_, _, q, _⟩ | ⟨q, _⟩
          · exact absurd q e
          · exact absurd c q
        · have hne : ¬ ((sp F i).P (a / 64)).o.toNat = ((sp F j).P (b / 64)).o.toNat := by omega
          simp [hne]
    · rw [if_neg d, if_neg d]
      refine ⟨fun q => ?_, fun _ => rfl⟩
      rcases q with ⟨_, q, _⟩ | ⟨q, _⟩
      · exact absurd q d
      · exact absurd c q
  · have hC : celS F i a v = put F i { sp F i with W := fun k => if k = a / 8 then v else (sp F i).W k } := by unfold celS; dsimp only; rw [if_neg c]
    rw [hC, sp_put hi hl hj]
    by_cases d : shr ((sp F j).P (b / 64)).h
    · rw [if_pos d, if_pos d]
      refine ⟨fun q => ?_, fun _ => rfl⟩
      rcases q with ⟨q, _⟩ | ⟨_, q, _⟩
      · exact absurd q c
      · exact absurd d q
    · rw [if_neg d, if_neg d]
      by_cases e : j = i
      · subst e
        rw [if_pos rfl]
        by_cases e2 : b / 8 = a / 8
        · refine ⟨fun _ => ?_, fun q => absurd (Or.inr ⟨c, d, rfl, e2⟩) q⟩
          show (if b / 8 = a / 8 then v else _) = v
          rw [if_pos e2]
        · refine ⟨fun q => ?_, fun _ => ?_⟩
          · rcases q with ⟨q, _⟩ | ⟨_, _, _, q⟩
            · exact absurd q c
            · exact absurd q e2
          · show (if b / 8 = a / 8 then v else _) = _
            rw [if_neg e2]
      · rw [if_neg e]
        refine ⟨fun q => ?_, fun _ => rfl⟩
        rcases q with ⟨q, _⟩ | ⟨_, _, q, _⟩
        · exact absurd q c
        · exact absurd q e
end
end Go.Proofs.YtnppnoabhpkmkaaGreat
