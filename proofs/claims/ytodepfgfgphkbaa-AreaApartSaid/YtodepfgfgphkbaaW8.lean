/- Areas: the object as it lies; the search for a page's area. -/
import Derived.Test.YtodepfgfgphkbaaW7
namespace Go.Proofs.Ytodepfgfgphkbaa
open Go.RowKit
/-- How many areas end ahead of a page, or at it. -/
def ct (i : Int) : List Ar → Nat
  | [] => 0
  | a :: r => if a.t ≤ i then ct i r + 1 else 0
theorem ct_le (i : Int) (l : List Ar) : ct i l ≤ l.length := by
  induction l with
  | nil => exact Nat.le_refl _
  | cons a r ih => unfold ct; split <;> simp <;> omega
theorem ct_lt {i : Int} {l : List Ar} {m : Nat} (h : m < ct i l) (hm : m < l.length) : l[m].t ≤ i := by
  induction l generalizing m with
  | nil => cases hm
  | cons a r ih =>
    unfold ct at h
    by_cases c : a.t ≤ i
    · rw [if_pos c] at h
      cases m with
      | zero => exact c
      | succ m => exact ih (m := m) (by omega) (by simp at hm; omega)
    · rw [if_neg c] at h; omega
theorem rs_ge {lo : Int} {l : List Ar} (h : Rs lo l) {a : Ar} (ha : a ∈ l) : lo ≤ a.f ∧ a.f < a.t := by
  induction l generalizing lo with
  | nil => cases ha
  | cons b r ih =>
    rcases List.mem_cons.1 ha with rfl | hr
    · exact ⟨h.1, h.2.1.1⟩
    · have := ih h.2.2 hr; have := h.1; have := h.2.1.1; omega
theorem ct_ge {lo i : Int} {l : List Ar} (h : Rs lo l) {m : Nat} (hc : ct i l ≤ m) (hm : m < l.length) : ¬ l[m].t ≤ i := by
  induction l generalizing lo m with
  | nil => cases hm
  | cons a r ih =>
    unfold ct at hc
    by_cases c : a.t ≤ i
    · rw [if_pos c] at hc
      cases m with
      | zero => omega
      | succ m => exact ih h.2.2 (m := m) (by omega) (by simp at hm; omega)
    · cases m with
      | zero => exact c
      | succ m =>
        have hm' : m < r.length := by simp at hm; omega
        have := rs_ge h.2.2 (List.getElem_mem hm')
        show ¬ r[m].t ≤ i
        omega
theorem rs_mono {lo : Int} {l : List Ar} (h : Rs lo l) {j m : Nat} (hj : j < m) (hm : m < l.length) : l[j].t ≤ l[m].f := by
  induction l generalizing lo j m with
  | nil => cases hm
  | cons a r ih =>
    cases m with
    | zero => omega
    | succ m =>
      have hm' : m < r.length := by simp at hm; omega
      cases j with
      | zero => exact (rs_ge h.2.2 (List.getElem_mem hm')).1
      | succ j => exact ih h.2.2 (by omega) hm'
/-- Whose page it is. -/
theorem ct_pg {lo i : Int} {l : List Ar} (h : Rs lo l) : pgs l i = if hc : ct i l < l.length then (if l[ct i l].f ≤ i then l[ct i l].pg i else zP) else zP := by
  by_cases hc : ct i l < l.length
  · rw [dif_pos hc]
    have hg := ct_ge h (Nat.le_refl _) hc
    by_cases c : l[ct i l].f ≤ i
    · rw [if_pos c]
      exact mem_pg h (List.getElem_mem hc) c (by omega)
    · rw [if_neg c]
      by_cases hz : pgs l i = zP
      · exact hz
      · exfalso
        obtain ⟨a, ha, a1, a2, _⟩ := pg_mem hz
        obtain ⟨m, hm, rfl⟩ := List.getElem_of_mem ha
        rcases Nat.lt_trichotomy m (ct i l) with h1 | h1 | h1
        · have := ct_lt h1 hm; omega
        · subst h1; omega
        · have := rs_mono h h1 hm; omega
  · rw [dif_neg hc]
    by_cases hz : pgs l i = zP
    · exact hz
    · exfalso
      obtain ⟨a, ha, a1, a2, _⟩ := pg_mem hz
      obtain ⟨m, hm, rfl⟩ := List.getElem_of_mem ha
      have := ct_lt (i := i) (m := m) (by omega) hm
      omega
/-- The object: its struct, its list. -/
structure AtX (B : Nat) (w : World) (xa : Nat) (A : Option Addr) (c : Nat) (l : List Ar) (P : Int → Pg) : Prop where
  top : Lrow w xa 60 [.slice A l.length c]
  own : EAr.Own B w (.slice A l.length c) l
  wh : Whole P l
  lo : B ≤ xa
  lw : B ≤ w.heap.size
section
variable {B c xa : Nat} {w w' : World} {A : Option Addr} {l : List Ar} {P Q : Int → Pg}
theorem AtX.call (h : AtX B w xa A c l P) (hb : Below w.heap.size w w') : AtX B w' xa A c l P := ⟨h.top.call hb, h.own.call hb, h.wh, h.lo, Nat.le_trans h.lw hb.size⟩
theorem AtX.drewN (h : AtX B w xa A c l P) (k : Nat) : AtX B (w.drewN k) xa A c l P := h.call (below_dN (Below.refl _ _) k)
theorem AtX.c0 (h : AtX B w xa A c l P) : w.cell? ⟨xa, 0, none⟩ = some (.slice A l.length c) := h.top.cell 0
theorem AtX.len (h : AtX B w xa A c l P) : l.length ≤ 4096 := by rw [h.wh.all]; exact (pcs_is h.wh.ok.ok 0 4096).len
/-- What the search comes to. -/
def Searched (i : Int) (l : List Ar) (w : World) (e : Ending) (w' : World) : Prop := e = .returned (.tuple #[.int .i64 (ct i l : Nat), .bool (if hc : ct i l < l.length then decide (l[ct i l].f ≤ i) else false)]) ∧ Below w.heap.size w w'
set_option maxRecDepth 100000 in
set_option maxHeartbeats 2000000 in
theorem search_is (h : AtX B w xa A c l P) (i : Int) :
    Calls Try.prog 26 #[.slice A l.length c, .int .i64 i, .func (.func 27) #[] #[]] w (Searched i l w) := by
  obtain ⟨n, hn⟩ : ∃ n, n = l.length := ⟨_, rfl⟩
  obtain ⟨k, hk⟩ : ∃ k, k = ct i l := ⟨_, rfl⟩
  have hkn : k ≤ n := by rw [hk, hn]; exact ct_le _ _
  have hn4 : n ≤ 4096 := by rw [hn]; exact h.len
  have HS := Lib.hid (LsD.of h.own (Nat.le_refl _))
  have HR := Lib.hid h.wh.jd.rs
  have HN := Lib.hid hn
  have HK := Lib.hid hk
  rw [← hn]
  clear h hn hk
  go_enter Try.func26, Try.ntmps26
  go_wp2
  go_loopw [9, 10] (fun i j wr => ∃ a b : Nat, a ≤ k ∧ k ≤ b ∧ b ≤ n ∧ i = .int .i64 a ∧ j = .int .i64 b ∧ Below w.heap.size w wr) (fun i j _ => (RowKit.intOf j - RowKit.intOf i).toNat)
  case atStart => exact ⟨0, n, Nat.zero_le _, hkn, Nat.le_refl _, rfl, rfl, Below.refl _ _⟩
  case round =>
    obtain ⟨a, b, hak, hkb, hbn, rfl, rfl, hwr⟩ := hrel
    by_cases hlt : a < b
    · obtain ⟨m, hm, h1, h2⟩ : ∃ m : Nat, ((a : Int) + (b : Int)) / 2 = (m : Int) ∧ a ≤ m ∧ m < b := ⟨(a + b) / 2, by omega, by omega, by omega⟩
      have hml : m < l.length := by have := HN.out; omega
      obtain ⟨g, hA, hg, hat⟩ := HS.out.below hwr (by omega)
      subst hA
      have hc := ar_at (hat m hml)
      have m0 : (0 : Int) ≤ m := by omega
      have m1 : (m : Int) < n := by omega
      obtain ⟨x, hx⟩ : ∃ x, x = l[m] := ⟨_, rfl⟩
      rw [← hx] at hc
      have hsd := fun w => side_is x i w
      have HX := Lib.hid hx
      obtain ⟨f, t, hh, p, o, z⟩ := x
      dsimp only at hc
      obtain ⟨d0, d1, d2, d3, d4, d5⟩ := hc
      change ∀ w, Calls Try.prog _ #[.agg #[.int .i64 f, .int .i64 t, .int .i64 hh, .int .i64 p, .int .i64 o, .int .i64 z], .int .i64 i] w (fun e w' => e = .returned (.int .i64 (if t ≤ i then -1 else if i < f then 1 else 0)) ∧ Below w.heap.size w w') at hsd
      have hwb : ∀ w1, Below wr.heap.size wr w1 → Below w.heap.size w w1 := fun w1 h => hwr.trans (h.mono hwr.size)
      clear hx hat hg
      by_cases hneg : t ≤ i
      · have hmk : m < k := Nat.lt_of_not_le fun hh => ct_ge HR.out (i := i) (m := m) (by rw [← HK.out]; exact hh) hml (by rw [← HX.out]; exact hneg)
        simp only [if_pos hneg] at hsd
        go_wp2_with (go_at_call 27; refine (hsd _).mono ?_; rintro e w1 ⟨rfl, hb1⟩)
        go_roundw
        case rel => exact ⟨m + 1, b, by omega, by omega, by omega, by go_num, rfl, hwb _ hb1⟩
        case measure => simp [RowKit.intOf]; omega
      · have hmk : k ≤ m := Nat.le_of_not_lt fun hh => hneg (by have := ct_lt (i := i) (l := l) (m := m) (by rw [← HK.out]; exact hh) hml; rw [← HX.out] at this; exact this)
        simp only [if_neg hneg] at hsd
        obtain ⟨r, hr⟩ : ∃ r : Int, r = if i < f then 1 else 0 := ⟨_, rfl⟩
        rw [← hr] at hsd
        have hr0 : ¬ r < 0 := by rw [hr]; split <;> omega
        clear hr
        go_wp2_with (go_at_call 27; refine (hsd _).mono ?_; rintro e w1 ⟨rfl, hb1⟩)
        go_roundw
        case rel => exact ⟨a, m, by omega, by omega, by omega, rfl, rfl, hwb _ hb1⟩
        case measure => simp [RowKit.intOf]; omega
    · obtain rfl : a = k := by omega
      obtain rfl : b = a := by omega
      by_cases hn2 : b < n
      · have hml : b < l.length := by have := HN.out; omega
        obtain ⟨g, hA, hg, hat⟩ := HS.out.below hwr (by omega)
        subst hA
        have hc := ar_at (hat b hml)
        have m0 : (0 : Int) ≤ b := by omega
        have m1 : (b : Int) < n := by omega
        obtain ⟨x, hx⟩ : ∃ x, x = l[b] := ⟨_, rfl⟩
        rw [← hx] at hc
        have hsd := fun w => side_is x i w
        have hnt := ct_ge HR.out (i := i) (m := b) (by rw [← HK.out]; exact Nat.le_refl _) hml
        rw [← hx] at hnt
        have HZ : Hid ((if hc : ct i l < l.length then decide (l[ct i l].f ≤ i) else false) = decide (x.f ≤ i)) := by
          show _ = _
          have e : ct i l = b := HK.out.symm
          simp only [e]
          rw [dif_pos hml, hx]
        obtain ⟨f, t, hh, p, o, z⟩ := x
        dsimp only at hc
        obtain ⟨d0, d1, d2, d3, d4, d5⟩ := hc
        change ∀ w, Calls Try.prog _ #[.agg #[.int .i64 f, .int .i64 t, .int .i64 hh, .int .i64 p, .int .i64 o, .int .i64 z], .int .i64 i] w (fun e w' => e = .returned (.int .i64 (if t ≤ i then -1 else if i < f then 1 else 0)) ∧ Below w.heap.size w w') at hsd
        simp only [if_neg (show ¬ t ≤ i from hnt)] at hsd
        have HD : Hid (∀ w1, Below wr.heap.size wr w1 → Below w.heap.size w w1) := fun w1 h => hwr.trans (h.mono hwr.size)
        clear hx hat hg hwr hnt hak hkb hbn hlt
        by_cases hf : f ≤ i
        · simp only [if_neg (show ¬ i < f by omega)] at hsd
          go_wp2_with (go_at_call 27; refine (hsd _).mono ?_; rintro e w1 ⟨rfl, hb1⟩)
          go_ret2
          exact ⟨by rw [HZ.out, ← HK.out, decide_eq_true (show (⟨f, t, hh, p, o, z⟩ : Ar).f ≤ i from hf)]; rfl, HD.out _ hb1⟩
        · simp only [if_pos (show i < f by omega)] at hsd
          go_wp2_with (go_at_call 27; refine (hsd _).mono ?_; rintro e w1 ⟨rfl, hb1⟩)
          go_ret2
          exact ⟨by rw [HZ.out, ← HK.out, decide_eq_false (show ¬ (⟨f, t, hh, p, o, z⟩ : Ar).f ≤ i by show ¬ f ≤ i; omega)]; rfl, HD.out _ hb1⟩
      · have HZ : Hid ((if hc : ct i l < l.length then decide (l[ct i l].f ≤ i) else false) = false) := by
          show _ = _
          rw [dif_neg (by rw [← HK.out, ← HN.out]; exact hn2)]
        have hwr' := Lib.hid hwr
        clear hwr
        go_wp2
        go_ret2
        exact ⟨by rw [HZ.out, ← HK.out]; rfl, hwr'.out⟩
end
end Go.Proofs.Ytodepfgfgphkbaa
