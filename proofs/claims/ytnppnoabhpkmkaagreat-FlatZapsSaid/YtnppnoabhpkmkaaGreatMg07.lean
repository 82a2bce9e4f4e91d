/- Areas: the object as it lies; the search for a page's area. -/
import Derived.Test.YtnppnoabhpkmkaaGreatMg06
namespace Go.Proofs.YtnppnoabhpkmkaaGreat
open Go.RowKit
/-- How many areas end ahead of a page, or at it. -/
def ct (i : Int) : List Ar → Nat
  | [] => 0
  | a :: r => if a.t ≤ i then ct i r + 1 else 0
theorem ct_le (i : Int) (l : List Ar) : ct i l ≤ l.length := by
  induction l with
  | nil => exact Nat.le_refl _
  | cons a r ih => unfold ct; split <;> simp <;> omega
theorem ct_lt {i : Int} {l : List Ar} {m : Nat} (h : m < ct i l) (hm : m < l.length) : l[m].t ≤ i := by
  induction l generalizing m with
  | nil => cases hm
  | cons a r ih =>
    unfold ct at h
    by_cases c : a.t ≤ i
    · rw [if_pos c] at h
      cases m with
      | zero => exact c
      | succ m => exact ih (m := m) (by omega) (by simp at hm; omega)
    · rw [if_neg c] at h; omega
theorem rs_ge {lo : Int} {l : List Ar} (h : Rs lo l) {a : Ar} (ha : a ∈ l) : lo ≤ a.f ∧ a.f < a.t := by
  induction l generalizing lo with
  | nil => cases ha
  | cons b r ih =>
    rcases List.mem_cons.1 ha with rfl | hr
    · exact ⟨h.1, h.2.1.1⟩
    · have := ih h.2.2 hr; have := h.1; have := h.2.1.1; omega
theorem ct_ge {lo i : Int} {l : List Ar} (h : Rs lo l) {m : Nat} (hc : ct i l ≤ m) (hm : m < l.length) : ¬ l[m].t ≤ i := by
  induction l generalizing lo m with
  | nil => cases hm
  | cons a r ih =>
    unfold ct at hc
    by_cases c : a.t ≤ i
    · rw [if_pos c] at hc
      cases m with
      | zero => omega
      | succ m => exact ih h.2.2 (m := m) (by omega) (by simp at hm; omega)
    · cases m with
      | zero => exact c
      | succ m =>
        have hm' : m < r.length := by simp at hm; omega
        have := rs_ge h.2.2 (List.getElem_mem hm')
        show ¬ r[m].t ≤ i
        omega
theorem rs_mono {lo : Int} {l : List Ar} (h : Rs lo l) {j m : Nat} (hj : j < m) (hm : m < l.length) : l[j].t ≤ l[m].f := by
  induction l generalizing lo j m with
  | nil => cases hm
  | cons a r ih =>
    cases m with
    | zero => omega
    | succ m =>
      have hm' : m < r.length := by simp at hm; omega
      cases j with
      | zero => exact (rs_ge h.2.2 (List.getElem_mem hm')).1
      | succ j => exact ih h.2.2 (by omega) hm'
/-- Whose page it is. -/
theorem ct_pg {lo i : Int} {l : List Ar} (h : Rs lo l) : pgs l i = if hc : ct i l < l.length then (if l[ct i l].f ≤ i then l[ct i l].pg i else zP) else zP := by
  by_cases hc : ct i l < l.length
  · rw [dif_pos hc]
    have hg := ct_ge h (Nat.le_refl _) hc
    by_cases c : l[ct i l].f ≤ i
    · rw [if_pos c]
      exact mem_pg h (List.getElem_mem hc) c (by omega)
    · rw [if_neg c]
      by_cases hz : pgs l i = zP
      · exact hz
      · exfalso
        obtain ⟨a, ha, a1, a2, _⟩ := pg_mem hz
        obtain ⟨m, hm, rfl⟩ := List.getElem_of_mem ha
        rcases Nat.lt_trichotomy m (ct i l) with h1 | h1 | h1
        · have := ct_lt h1 hm; omega
        · subst h1; omega
        · have := rs_mono h h1 hm; omega
  · rw [dif_neg hc]
    by_cases hz : pgs l i = zP
    · exact hz
    · exfalso
      obtain ⟨a, ha, a1, a2, _⟩ := pg_mem hz
      obtain ⟨m, hm, rfl⟩ := List.getElem_of_mem ha
      have := ct_lt (i := i) (m := m) (by omega) hm
      omega
/-- The object: its struct, its list. -/
structure AtX (B : Nat) (w : World) (xa : Nat) (A : Option Addr) (c : Nat) (l : List Ar) (P : Int → Pg) : Prop where
  top : Lrow w xa 106 [.slice A l.length c]
  own : EAr.Own B w (.slice A l.length c) l
  wh : Whole P l
  lo : B ≤ xa
  lw : B ≤ w.heap.size
section
variable {B c xa : Nat} {w w' : World} {A : Option Addr} {l : List Ar} {P Q : Int → Pg}
theorem AtX.call (h : AtX B w xa A c l P) (hb : Below w.heap.size w w') : AtX B w' xa A c l P := ⟨h.top.call hb, h.own.call hb, h.wh, h.lo, Nat.le_trans h.lw hb.size⟩
theorem AtX.drewN (h : AtX B w xa A c l P) (k : Nat) : AtX B (w.drewN k) xa A c l P := h.call (below_dN (Below.refl _ _) k)
theorem AtX.c0 (h : AtX B w xa A c l P) : w.cell? ⟨xa, 0, none⟩ = some (.slice A l.length c) := h.top.cell 0
theorem AtX.len (h : AtX B w xa A c l P) : l.length ≤ 4096 := by rw [h.wh.all]; exact (pcs_is h.wh.ok.ok 0 4096).len
/-- What the search comes to. -/
def Searched (i : Int) (l : List Ar) (w : World) (e : Ending) (w' : World) : Prop := e = .returned (.tuple #[.int .i64 (ct i l : Nat), .bool (if hc : ct i l < l.length then decide (l[ct i l].f ≤ i) else false)]) ∧ Below w.heap.size w w'
set_option maxRecDepth 100000 in
set_option maxHeartbeats 2000000 in
theorem search_is (h : AtX B w xa A c l P) (i : Int) :
    Calls Tryz.prog 78 #[.slice A l.length c, .int .i64 i, .func (.func 79) #[] #[]] w (Searched i l w) := by
  obtain ⟨n, hn⟩ : ∃ n, n = l.length := ⟨_, rfl⟩
  obtain ⟨k, hk⟩ : ∃ k, k = ct i l := ⟨_, rfl⟩
  have hkn : k ≤ n := by rw [hk, hn]; exact ct_le _ _
  have hn4 : n ≤ 4096 := by rw [hn]; exact h.len
  have HS := Lib.hid (LsD.of h.own (Nat.le_refl _))
  have HR := Lib.hid h.wh.jd.rs
  have HN := Lib.hid hn
  have HK := Lib.hid hk
  rw [← hn]
  clear h hn hk
  go_enter Tryz.func78, Tryz.ntmps78
  go_wp2
  go_loopw [9, 10] (fun i j wr => ∃ a b : Nat, a ≤ k ∧ k ≤ b ∧ b ≤ n ∧ i = .int .i64 a ∧ j = .int .i64 b ∧ Below w.heap.size w wr) (fun i j _ => (RowKit.intOf j - RowKit.intOf i).toNat)
  case atStart => exact ⟨0, n, Nat.zero_le _, hkn, Nat.le_refl _, rfl, rfl, Below.refl _ _⟩
  case round =>
    obtain ⟨a, b, hak, hkb, hbn, rfl, rfl, hwr⟩ := hrel
    by_cases hlt : a < b
    · obtain ⟨m, hm, h1, h2⟩ : ∃ m : Nat, ((a : Int) + (b : Int)) / 2 = (m : Int) ∧ a ≤ m ∧ m < b := ⟨(a + b) / 2, by omega, by omega, by omega⟩
      have hml : m < l.length := by have := HN.out; omega
      obtain ⟨g, hA, hg, hat⟩ := HS.out.below hwr (by omega)
      subst hA
      have hc := ar_at (hat m hml)
      have m0 : (0 : Int) ≤ m := by omega
      have m1 : (m : Int) < n := by omega
      obtain ⟨x, hx⟩ : ∃ x, x = l[m] := ⟨_, rfl⟩
      rw [← hx] at hc
      have hsd := fun w => side_is x i w
      have HX := Lib.hid hx
      obtain ⟨f, t, hh, p, o, z⟩ := x
      dsimp only at hc
      obtain ⟨d0, d1, d2, d3, d4, d5⟩ := hc
      change ∀ w, Calls Tryz.prog _ #[.agg #[.int .i64 f, .int .i64 t, .int .i64 hh, .int .i64 p, .int .i64 o, .int .i64 z], .int .i64 i] w (fun e w' => e = .returned (.int .i64 (if t ≤ i then -1 else if i < f then 1 else 0)) ∧ Below w.heap.size w w') at hsd
      have hwb : ∀ w1, Below wr.heap.size wr w1 → Below w.heap.size w w1 := fun w1 h => hwr.trans (h.mono hwr.size)
      clear hx hat hg
      by_cases hneg : t ≤ i
      · have hmk : m < k := Nat.lt_of_not_le fun hh => ct_ge HR.out (i := i) (m := m) (by rw [← HK.out]; exact hh) hml (by rw [← HX.out]; exact hneg)
        simp only [if_pos hneg] at hsd
        go_wp2_with (go_at_call 79; refine (hsd _).mono ?_; rintro e w1 ⟨rfl, hb1⟩)
        go_roundw
        case rel => exact ⟨m + 1, b, by omega, by omega, by omega, by go_num, rfl, hwb _ hb1⟩
        case measure => simp [RowKit.intOf]; omega
      · have hmk : k ≤ m := Nat.le_of_not_lt fun hh => hneg (by have := ct_lt (i := i) (l := l) (m := m) (by rw [← HK.out]; exact hh) hml; rw [← HX.out] at this; exact this)
        simp only [if_neg hneg] at hsd
        obtain ⟨r, hr⟩ : ∃ r : Int, r = if i < f then 1 else 0 := ⟨_, rfl⟩
        rw [← hr] at hsd
        have hr0 : ¬ r < 0 := by rw [hr]; split <;> omega
        clear hr
        go_wp2_with (go_at_call 79; refine (hsd _).mono ?_; rintro e w1 ⟨rfl, hb1⟩)
        go_roundw
        case rel => exact ⟨a, m, by omega, by omega, by omega, rfl, rfl, hwb _ hb1⟩
        case measure => simp [RowKit.intOf]; omega
    · obtain rfl : a = k := by omega
      obtain rfl : b = a := by omega
      by_cases hn2 : b < n
      · have hml : b < l.length := by have := HN.out; omega
        obtain ⟨g, hA, hg, hat⟩ := HS.out.below hwr (by omega)
        subst hA
        have hc := ar_at (hat b hml)
        have m0 : (0 : Int) ≤ b := by omega
        have m1 : (b : Int) < n := by omega
        obtain ⟨x, hx⟩ : ∃ x, x = l[b] := ⟨_, rfl⟩
        rw [← hx] at hc
        have hsd := fun w => side_is x i w
        have hnt := ct_ge HR.out (i := i) (m := b) (by rw [← HK.out]; exact Nat.le_refl _) hml
        rw [← hx] at hnt
        have HZ : Hid ((if hc : ct i l < l.length then decide (l[ct i l].f ≤ i) else false) = decide (x.f ≤ i)) := by
          show _ = _
          have e : ct i l = b := HK.out.symm
          simp only [e]
          rw [dif_pos hml, hx]
        obtain ⟨f, t, hh, p, o, z⟩ := x
        dsimp only at hc
        obtain ⟨d0, d1, d2, d3, d4, d5⟩ := hc
        change ∀ w, Calls Tryz.prog _ #[.agg #[.int .i64 f, .int .i64 t, .int .i64 hh, .int .i64 p, .int .i64 o, .int .i64 z], .int .i64 i] w (fun e w' => e = .returned (.int .i64 (if t ≤ i then -1 else if i < f then 1 else 0)) ∧ Below w.heap.size w w') at hsd
        simp only [if_neg (show ¬ t ≤ i from hnt)] at hsd
        have HD : Hid (∀ w1, Below wr.heap.size wr w1 → Below w.heap.size w w1) := fun w1 h => hwr.trans (h.mono hwr.size)
        clear hx hat hg hwr hnt hak hkb hbn hlt
        by_cases hf : f ≤ i
        · simp only [if_neg (show ¬ i < f by omega)] at hsd
          go_wp2_with (go_at_call 79; refine (hsd _).mono ?_; rintro e w1 ⟨rfl, hb1⟩)
          go_ret2
          exact ⟨by rw [HZ.out, ← HK.out, decide_eq_true (show (⟨f, t, hh, p, o, z⟩ : Ar).f ≤ i from hf)]; rfl, HD.out _ hb1⟩
        · simp only [if_pos (show i < f by omega)] at hsd
          go_wp2_with (go_at_call 79; refine (hsd _).mono ?_; rintro e w1 ⟨rfl, hb1⟩)
          go_ret2
          exact ⟨by rw [HZ.out, ← HK.out, decide_eq_false (show ¬ (⟨f, t, hh, p, o, z⟩ : Ar).f ≤ i by show ¬ f ≤ i; omega)]; rfl, HD.out _ hb1⟩
      · have HZ : Hid ((if hc : ct i l < l.length then decide (l[ct i l].f ≤ i) else false) = false) := by
          show _ = _
          rw [dif_neg (by rw [← HK.out, ← HN.out]; exact hn2)]
        have hwr' := Lib.hid hwr
        clear hwr
        go_wp2
        go_ret2
        exact ⟨by rw [HZ.out, ← HK.out]; rfl, hwr'.out⟩
end
end Go.Proofs.YtnppnoabhpkmkaaGreat
/- Areas: the object's looks. -/
namespace Go.Proofs.YtnppnoabhpkmkaaGreat
open Go.RowKit
section
variable {B c xa : Nat} {w w' : World} {A : Option Addr} {l : List Ar} {P Q : Int → Pg}
def zA : Ar := ⟨0, 0, 0, 0, 0, 0⟩
/-- What Find comes to. -/
def Found (i : Int) (l : List Ar) (w : World) (e : Ending) (w' : World) : Prop := ∃ (f t h p o z : Int) (b : Bool), e = .returned (.tuple #[.agg #[.int .i64 f, .int .i64 t, .int .i64 h, .int .i64 p, .int .i64 o, .int .i64 z], .bool b]) ∧ Below w.heap.size w w' ∧ (b = true → (⟨f, t, h, p, o, z⟩ : Ar) ∈ l ∧ f ≤ i ∧ i < t) ∧ (b = false → (⟨f, t, h, p, o, z⟩ : Ar) = zA ∧ pgs l i = zP)
set_option maxRecDepth 100000 in
set_option maxHeartbeats 1000000 in
theorem find_pr (h : AtX B w xa A c l P) (i : Int) : Calls Tryz.prog 51 #[.pointer (some ⟨xa, 0, none⟩), .int .i64 i] w (Found i l w) := by
  obtain ⟨W1, hW1⟩ : ∃ W1, W1 = w.alloc (.cells #[.int .i64 0, .int .i64 0, .int .i64 0, .int .i64 0, .int .i64 0, .int .i64 0] 93) := ⟨_, rfl⟩
  obtain ⟨q, hq⟩ : ∃ q, q = w.heap.size := ⟨_, rfl⟩
  have hb1 : Below w.heap.size w W1 := by rw [hW1]; exact below_new _ _
  have hr1 : Lrow W1 q 93 [.int .i64 0, .int .i64 0, .int .i64 0, .int .i64 0, .int .i64 0, .int .i64 0] := by rw [hW1, hq]; exact Lrow.new w _ _
  have hx1 := h.call hb1
  have hse := search_is hx1 i
  have c0 := hx1.c0
  have HX := Lib.hid hx1
  have HB := Lib.hid hb1
  have HR := Lib.hid hr1
  have HW := Lib.hid (And.intro hW1 hq)
  have HRS := Lib.hid h.wh.jd.rs
  obtain ⟨n, hn⟩ : ∃ n, n = l.length := ⟨_, rfl⟩
  rw [← hn] at hse c0
  have HN := Lib.hid hn
  have n4 : n ≤ 4096 := by rw [hn]; exact h.len
  clear h hx1 hb1 hr1 hW1 hq hn
  by_cases hc : ct i l < l.length
  · unfold Searched at hse
    rw [dif_pos hc] at hse
    obtain ⟨k, hk⟩ : ∃ k, k = ct i l := ⟨_, rfl⟩
    have hkl : k < l.length := by rw [hk]; exact hc
    by_cases hf : l[ct i l].f ≤ i
    · rw [decide_eq_true hf, ← hk] at hse
      have hf' : l[k].f ≤ i := by simp only [hk]; exact hf
      have ht' : ¬ l[k].t ≤ i := ct_ge HRS.out (by rw [hk]; exact Nat.le_refl _) hkl
      have hmem : l[k] ∈ l := List.getElem_mem hkl
      obtain ⟨g, eA, hg, hat⟩ := (LsD.of HX.out.own (Nat.le_refl _)) (by omega)
      subst eA
      have HAT : Hid (∀ w2, Below W1.heap.size W1 w2 → EAr.At w2 g (k * 6) l[k]) := fun w2 hb2 => (hat k hkl).heap (hb2.block g hg)
      obtain ⟨x, hx⟩ : ∃ x, x = l[k] := ⟨_, rfl⟩
      rw [← hx] at hf' ht' hmem HAT
      obtain ⟨f, t, hh, p, o, z⟩ := x
      dsimp only at hf' ht'
      have k0 : (0 : Int) ≤ k := by omega
      have k1 : (k : Int) < n := by have := HN.out; omega
      have HM := Lib.hid (And.intro hmem (And.intro hf' (show i < t by omega)))
      clear hc hf hf' ht' hmem hat hg hx hk hkl HRS
      go_enter Tryz.func51, Tryz.ntmps51
      go_upto_region 1 with (fail)
      rw [← HW.out.1, ← HW.out.2]
      go_wp2_with fail
      refine hse.mono ?_
      rintro e w2 ⟨rfl, hb2⟩
      have c2 : w2.cell? ⟨xa, 0, none⟩ = some (.slice (some ⟨g, 0, none⟩) n c) := by rw [HN.out]; exact (HX.out.call hb2).c0
      obtain ⟨d0, d1, d2, d3, d4, d5⟩ := ar_at (HAT.out w2 hb2)
      have hq2 := HR.out.call hb2
      obtain ⟨⟨s0, m0⟩, f0, ⟨s1, m1⟩, f1, ⟨s2, m2⟩, f2, ⟨s3, m3⟩, f3, ⟨s4, m4⟩, f4, ⟨s5, m5⟩, f5, hr2, hbb2⟩ := six_is hq2 (show w.heap.size ≤ q by have := HW.out.2; omega) (.int .i64 f) (.int .i64 t) (.int .i64 hh) (.int .i64 p) (.int .i64 o) (.int .i64 z)
      have HB2 := Lib.hid ((HB.out.trans (hb2.mono HB.out.size)).trans hbb2)
      have HR2 := Lib.hid hr2
      clear hse hb2 hq2 hr2 hbb2 c0
      dsimp only at d0 d1 d2 d3 d4 d5
      go_wp2_with fail
      obtain ⟨w5, hw5⟩ : ∃ w5, w5 = ((((((w2.setCell ⟨q, 0, none⟩ (.int .i64 f)).setCell ⟨q, 1, none⟩ (.int .i64 t)).setCell ⟨q, 2, none⟩ (.int .i64 hh)).setCell ⟨q, 3, none⟩ (.int .i64 p)).setCell ⟨q, 4, none⟩ (.int .i64 o)).setCell ⟨q, 5, none⟩ (.int .i64 z)) := ⟨_, rfl⟩
      rw [← hw5] at HB2 HR2 ⊢
      have z0 : w5.cell? ⟨q, 0, none⟩ = some (.int .i64 f) := HR2.out.cell 0
      have z1 : w5.cell? ⟨q, 1, none⟩ = some (.int .i64 t) := HR2.out.cell 1
      have z2 : w5.cell? ⟨q, 2, none⟩ = some (.int .i64 hh) := HR2.out.cell 2
      have z3 : w5.cell? ⟨q, 3, none⟩ = some (.int .i64 p) := HR2.out.cell 3
      have z4 : w5.cell? ⟨q, 4, none⟩ = some (.int .i64 o) := HR2.out.cell 4
      have z5 : w5.cell? ⟨q, 5, none⟩ = some (.int .i64 z) := HR2.out.cell 5
      exact bodyPost_ret (v := .tuple #[.agg #[.int .i64 f, .int .i64 t, .int .i64 hh, .int .i64 p, .int .i64 o, .int .i64 z], .bool true]) (by simp [results, Tryz.results51, go_sem, *]) rfl ⟨f, t, hh, p, o, z, true, rfl, HB2.out, fun _ => HM.out, fun e => by cases e⟩
    · rw [decide_eq_false hf, ← hk] at hse
      have HZ : Hid (pgs l i = zP) := by show _ = _; rw [ct_pg HRS.out, dif_pos hc, if_neg hf]
      clear hc hf hk hkl HRS
      go_enter Tryz.func51, Tryz.ntmps51
      go_upto_region 1 with (fail)
      rw [← HW.out.1, ← HW.out.2]
      go_wp2_with fail
      refine hse.mono ?_
      rintro e w2 ⟨rfl, hb2⟩
      have hq2 := HR.out.call hb2
      obtain ⟨⟨s0, m0⟩, f0, ⟨s1, m1⟩, f1, ⟨s2, m2⟩, f2, ⟨s3, m3⟩, f3, ⟨s4, m4⟩, f4, ⟨s5, m5⟩, f5, hr2, hbb2⟩ := six_is hq2 (show w.heap.size ≤ q by have := HW.out.2; omega) (.int .i64 0) (.int .i64 0) (.int .i64 0) (.int .i64 0) (.int .i64 0) (.int .i64 0)
      have HB2 := Lib.hid ((HB.out.trans (hb2.mono HB.out.size)).trans hbb2)
      have HR2 := Lib.hid hr2
      clear hse hb2 hq2 hr2 hbb2 c0
      go_wp2_with fail
      obtain ⟨w5, hw5⟩ : ∃ w5, w5 = ((((((w2.setCell ⟨q, 0, none⟩ (.int .i64 0)).setCell ⟨q, 1, none⟩ (.int .i64 0)).setCell ⟨q, 2, none⟩ (.int .i64 0)).setCell ⟨q, 3, none⟩ (.int .i64 0)).setCell ⟨q, 4, none⟩ (.int .i64 0)).setCell ⟨q, 5, none⟩ (.int .i64 0)) := ⟨_, rfl⟩
      rw [← hw5] at HB2 HR2 ⊢
      have z0 : w5.cell? ⟨q, 0, none⟩ = some (.int .i64 0) := HR2.out.cell 0
      have z1 : w5.cell? ⟨q, 1, none⟩ = some (.int .i64 0) := HR2.out.cell 1
      have z2 : w5.cell? ⟨q, 2, none⟩ = some (.int .i64 0) := HR2.out.cell 2
      have z3 : w5.cell? ⟨q, 3, none⟩ = some (.int .i64 0) := HR2.out.cell 3
      have z4 : w5.cell? ⟨q, 4, none⟩ = some (.int .i64 0) := HR2.out.cell 4
      have z5 : w5.cell? ⟨q, 5, none⟩ = some (.int .i64 0) := HR2.out.cell 5
      exact bodyPost_ret (v := .tuple #[.agg #[.int .i64 0, .int .i64 0, .int .i64 0, .int .i64 0, .int .i64 0, .int .i64 0], .bool false]) (by simp [results, Tryz.results51, go_sem, *]) rfl ⟨0, 0, 0, 0, 0, 0, false, rfl, HB2.out, (fun e => by cases e), fun _ => ⟨rfl, HZ.out⟩⟩
  · unfold Searched at hse
    rw [dif_neg hc] at hse
    have HZ : Hid (pgs l i = zP) := by show _ = _; rw [ct_pg HRS.out, dif_neg hc]
    clear hc HRS
    go_enter Tryz.func51, Tryz.ntmps51
    go_upto_region 1 with (fail)
    rw [← HW.out.1, ← HW.out.2]
    go_wp2_with fail
    refine hse.mono ?_
    rintro e w2 ⟨rfl, hb2⟩
    have hq2 := HR.out.call hb2
    obtain ⟨⟨s0, m0⟩, f0, ⟨s1, m1⟩, f1, ⟨s2, m2⟩, f2, ⟨s3, m3⟩, f3, ⟨s4, m4⟩, f4, ⟨s5, m5⟩, f5, hr2, hbb2⟩ := six_is hq2 (show w.heap.size ≤ q by have := HW.out.2; omega) (.int .i64 0) (.int .i64 0) (.int .i64 0) (.int .i64 0) (.int .i64 0) (.int .i64 0)
    have HB2 := Lib.hid ((HB.out.trans (hb2.mono HB.out.size)).trans hbb2)
    have HR2 := Lib.hid hr2
    clear hse hb2 hq2 hr2 hbb2 c0
    go_wp2_with fail
    obtain ⟨w5, hw5⟩ : ∃ w5, w5 = ((((((w2.setCell ⟨q, 0, none⟩ (.int .i64 0)).setCell ⟨q, 1, none⟩ (.int .i64 0)).setCell ⟨q, 2, none⟩ (.int .i64 0)).setCell ⟨q, 3, none⟩ (.int .i64 0)).setCell ⟨q, 4, none⟩ (.int .i64 0)).setCell ⟨q, 5, none⟩ (.int .i64 0)) := ⟨_, rfl⟩
    rw [← hw5] at HB2 HR2 ⊢
    have z0 : w5.cell? ⟨q, 0, none⟩ = some (.int .i64 0) := HR2.out.cell 0
    have z1 : w5.cell? ⟨q, 1, none⟩ = some (.int .i64 0) := HR2.out.cell 1
    have z2 : w5.cell? ⟨q, 2, none⟩ = some (.int .i64 0) := HR2.out.cell 2
    have z3 : w5.cell? ⟨q, 3, none⟩ = some (.int .i64 0) := HR2.out.cell 3
    have z4 : w5.cell? ⟨q, 4, none⟩ = some (.int .i64 0) := HR2.out.cell 4
    have z5 : w5.cell? ⟨q, 5, none⟩ = some (.int .i64 0) := HR2.out.cell 5
    exact bodyPost_ret (v := .tuple #[.agg #[.int .i64 0, .int .i64 0, .int .i64 0, .int .i64 0, .int .i64 0, .int .i64 0], .bool false]) (by simp [results, Tryz.results51, go_sem, *]) rfl ⟨0, 0, 0, 0, 0, 0, false, rfl, HB2.out, (fun e => by cases e), fun _ => ⟨rfl, HZ.out⟩⟩
/-- Is a page within a huge page? -/
def witB (P : Int → Pg) (i : Int) : Bool := decide (i % szO (P i).h ≠ 0)
theorem ev_sz (i h : Int) : evB i (ordO h) = decide (i % szO h = 0) := by
  unfold evB ordB ordO szO
  by_cases c1 : h = 3 ∨ h = 5 ∨ h = 6
  · rw [if_pos c1, if_pos c1]; simp
  · rw [if_neg c1, if_neg c1]
    by_cases c2 : h = 4
    · rw [if_pos c2, if_pos c2]; simp
    · rw [if_neg c2, if_neg c2]; simp
theorem Whole.found (h : Whole P l) {f t k p o z i : Int} (hm : (⟨f, t, k, p, o, z⟩ : Ar) ∈ l) (h1 : f ≤ i) (h2 : i < t) : P i = (⟨f, t, k, p, o, z⟩ : Ar).pg i := by
  rw [← h.pg]; exact mem_pg h.jd.rs hm h1 h2
set_option maxRecDepth 100000 in
theorem within_pr (h : AtX B w xa A c l P) {i : Int} (hi : 0 ≤ i) (hi4 : i ≤ 4096) : Calls Tryz.prog 102 #[.pointer (some ⟨xa, 0, none⟩), .int .i64 i] w fun e w' => e = .returned (.bool (witB P i)) ∧ Below w.heap.size w w' := by
  have hfi := find_pr h i
  have HW := Lib.hid h.wh
  clear h
  go_enter Tryz.func102, Tryz.ntmps102
  go_wp2_with fail
  refine hfi.mono ?_
  rintro e w1 ⟨f, t, k, p, o, z, b, rfl, hb1, ht, hf⟩
  have hor := fun w => order_is k w
  obtain ⟨ko, hko⟩ : ∃ ko, ko = ordO k := ⟨_, rfl⟩
  rw [← hko] at hor
  have hev := fun w => even_any (o := ko) i (by omega) (by omega) w
  obtain ⟨eb, heb⟩ : ∃ eb, eb = evB i ko := ⟨_, rfl⟩
  rw [← heb] at hev
  have HB := Lib.hid (hb1.trans ((below_new w1 (.cells #[.int .i64 f, .int .i64 t, .int .i64 k, .int .i64 p, .int .i64 o, .int .i64 z] 93)).mono hb1.size))
  cases b
  · have HZ : Hid (witB P i = false) := by
      obtain ⟨_, hz⟩ := hf rfl
      rw [HW.out.pg] at hz
      show _ = _
      unfold witB
      rw [hz]
      show decide (i % 1 ≠ 0) = false
      simp
    clear ht hf hfi hb1 heb hko
    go_wp2_with fail
    go_ret
    exact ⟨ret_bool HZ.out.symm, HB.out⟩
  · have HZ : Hid (witB P i = !eb) := by
      obtain ⟨hm, h1, h2⟩ := ht rfl
      show _ = _
      unfold witB
      rw [HW.out.found hm h1 h2, heb, hko, ev_sz]
      show decide (i % szO k ≠ 0) = _
      simp
    clear ht hf hfi hb1 heb hko
    go_wp2_with (first | (go_at_call 87; (with_reducible refine (hor _).mono ?_); rintro e w1 ⟨rfl, rfl⟩) | (go_at_call 100; (with_reducible refine (hev _).mono ?_); rintro e w1 ⟨rfl, rfl⟩))
    go_ret
    exact ⟨ret_bool HZ.out.symm, HB.out⟩
theorem wrong_pr (xa : Nat) {a n : Int} (ha : Fits a) (hn : Fits n) (w : World) : Calls Tryz.prog 101 #[.pointer (some ⟨xa, 0, none⟩), .int .i64 a, .int .i64 n] w fun e w' => e = .returned (.int .i64 (rtI a n 0)) ∧ w = w' := by
  have hri := fun w => right_any a n 0 ha.1 ha.2 hn.1 hn.2 w
  go_enter Tryz.func101, Tryz.ntmps101
  go_wp2_with (go_at_call 71; (with_reducible refine (hri _).mono ?_); rintro e w1 ⟨rfl, rfl⟩)
  go_ret
  exact ⟨rfl, rfl⟩
theorem cuts_wit (ok : PsOk P) {a n : Int} (h : a + n ≤ 4096) : cutsB P a n = (witB P a || witB P (a + n)) := by
  unfold cutsB witB
  by_cases c : a + n < 4096
  · rw [decide_eq_true c, Bool.true_and]
  · rw [decide_eq_false c, ok.far (a + n) (by omega)]
    show _ = (_ || decide ((a + n) % 1 ≠ 0))
    simp
set_option maxRecDepth 100000 in
theorem cuts_pr (h : AtX B w xa A c l P) {a n : Nat} (hr : rtI a n 0 = 0) : Calls Tryz.prog 73 #[.pointer (some ⟨xa, 0, none⟩), .int .i64 a, .int .i64 n] w fun e w' => e = .returned (.bool (cutsB P a n)) ∧ Below w.heap.size w w' := by
  obtain ⟨h1, h2, h3⟩ := rt_in hr
  have hwr := fun w => wrong_pr xa (a := a) (n := n) ⟨by omega, by omega⟩ ⟨by omega, by omega⟩ w
  rw [hr] at hwr
  have hw1 := within_pr h (i := a) (by omega) (by omega)
  obtain ⟨b1, hb1⟩ : ∃ b, b = witB P a := ⟨_, rfl⟩
  obtain ⟨b2, hb2⟩ : ∃ b, b = witB P ((a : Int) + n) := ⟨_, rfl⟩
  have H : Hid (cutsB P a n = (b1 || b2)) := by show _ = _; rw [cuts_wit h.wh.ok h3, hb1, hb2]
  rw [← hb1] at hw1
  have hs : IntKind.i64.wrap ((a : Int) + n) = (a : Int) + n := IntWalk.i64_in _ (by omega)
  have H2 : Hid (∀ w1, Below w.heap.size w w1 → Calls Tryz.prog 102 #[.pointer (some ⟨xa, 0, none⟩), .int .i64 ((a : Int) + n)] w1 fun e w' => e = .returned (.bool b2) ∧ Below w1.heap.size w1 w') := fun w1 hb => by
    rw [hb2]; exact within_pr (h.call hb) (by omega) (by omega)
  clear h hr h1 h2 h3 hb1 hb2
  cases b1
  · go_enter Tryz.func73, Tryz.ntmps73
    go_wp2_with (go_at_call 101; (with_reducible refine (hwr _).mono ?_); rintro e w1 ⟨rfl, rfl⟩)
    refine hw1.mono ?_
    rintro e w1 ⟨rfl, hb1⟩
    have h2 := H2.out w1 hb1
    clear hw1 hwr
    go_wp2_with fail
    refine h2.mono ?_
    rintro e w2 ⟨rfl, hb2⟩
    have HB := Lib.hid (hb1.trans (hb2.mono hb1.size))
    clear h2 hb1 hb2
    go_wp2_with fail
    go_ret
    exact ⟨ret_bool (by rw [H.out]; rfl), HB.out⟩
  · go_enter Tryz.func73, Tryz.ntmps73
    go_wp2_with (go_at_call 101; (with_reducible refine (hwr _).mono ?_); rintro e w1 ⟨rfl, rfl⟩)
    refine hw1.mono ?_
    rintro e w1 ⟨rfl, hb1⟩
    clear hw1 hwr
    go_wp2_with fail
    go_ret
    exact ⟨ret_bool (by rw [H.out]; rfl), hb1⟩
theorem all_pr (h : AtX B w xa A c l P) : Calls Tryz.prog 38 #[.pointer (some ⟨xa, 0, none⟩)] w (ToldL l w) := by
  have hcl := clone_is h.own (by have := h.len; omega)
  have c0 := h.c0
  generalize hn : l.length = n at hcl c0
  clear h
  go_enter Tryz.func38, Tryz.ntmps38
  go_wp2_with fail
  refine hcl.mono ?_
  rintro e w1 ⟨A', c', rfl, ho, hb⟩
  have HO := Lib.hid ho
  have HB := Lib.hid hb
  clear hcl ho hb
  rw [hn]
  go_wp2_with fail
  go_ret
  exact ⟨A', c', by rw [hn]; rfl, HO.out, HB.out⟩
end
end Go.Proofs.YtnppnoabhpkmkaaGreat
