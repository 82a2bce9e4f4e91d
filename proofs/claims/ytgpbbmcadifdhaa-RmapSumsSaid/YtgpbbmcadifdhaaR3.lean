/- slices.BinarySearchFunc over spots that rise. -/
import Derived.Test.YtgpbbmcadifdhaaR2
namespace Go.Proofs.Ytgpbbmcadifdhaa
open Go.RowKit

/-- Spots in a slice of one's own. -/
abbrev Sp (B : Nat) (w : World) (v : Value) (l : List It) : Prop := w.ownsRow B 27 2 v l.length (pcells l)
theorem Sp.items {w : World} {B n c : Nat} {A : Option Addr} {l : List It} (h : Sp B w (.slice A n c) l) (hn : 0 < l.length) : n = l.length ∧ ∃ g, A = some ⟨g, 0, none⟩ ∧ g < w.heap.size ∧ ∀ (j : Nat) (hj : j < l.length), w.cell? ⟨g, j * 2, none⟩ = some (.int .i64 (l[j]).1) ∧ w.cell? ⟨g, j * 2 + 1, none⟩ = some (.int .i64 (l[j]).2) := by
  rcases h.2 with ⟨e, h0⟩ | ⟨g, cap, cur, e, hB, hg, hnc, hc, hs, ht⟩
  · omega
  · injection e with e1 e2 e3
    refine ⟨e2, g, e1, (Array.getElem?_eq_some_iff.1 hg).1, fun j hj => ?_⟩
    have hc : ∀ i, i < l.length * 2 → w.cell? ⟨g, i, none⟩ = (pcells l)[i]? := fun i hi => by
      rw [cell_of_row w g i cur _ (0, 0) hg, ← ht, List.getElem?_take_of_lt hi, Array.getElem?_toList]
    rw [hc _ (by omega), hc _ (by omega)]
    exact pcells_get l j hj
theorem Sp.call {w w' : World} {B : Nat} {v : Value} {l : List It} (h : Sp B w v l) (hb : Below w.heap.size w w') : Sp B w' v l := own_heap h fun g e => by
  obtain ⟨vs, r, _⟩ := own_block h e
  exact hb.block g r.lt
def Searched (s : It) (l : List It) (w : World) (e : Ending) (w' : World) : Prop := e = .returned (.tuple #[.int .i64 (cutS s l : Nat), .bool (decide (s ∈ l))]) ∧ Below w.heap.size w w'
set_option maxHeartbeats 2000000 in
theorem search_any {B : Nat} {w : World} {v : Value} {l : List It} {x y : Int} (h : Sp B w v l) (hl : l.length ≤ 1000) (hu : Up l) :
    Calls Try.prog 33 #[v, .agg #[.int .i64 x, .int .i64 y], .func (.func 34) #[] #[]] w (Searched (x, y) l w) := by
  obtain ⟨A, c, rfl⟩ := own_form h
  obtain ⟨n, hn⟩ : ∃ n, n = l.length := ⟨_, rfl⟩
  obtain ⟨k, hk⟩ : ∃ k, k = cutS (x, y) l := ⟨_, rfl⟩
  have hkn : k ≤ n := by rw [hk, hn]; exact cut_le _ _
  obtain ⟨W, hW⟩ : ∃ W, W = w.alloc (.cells #[.int .i64 x, .int .i64 y] 27) := ⟨_, rfl⟩
  have hb : Lrow W w.heap.size 27 [.int .i64 x, .int .i64 y] := by rw [hW]; exact Lrow.new w _ _
  have hWB : Below w.heap.size w W := by rw [hW]; exact (Below.refl _ _).alloc (Nat.le_refl _) _
  have hs := h.call hWB
  have HS := Lib.hid hs
  have HB := Lib.hid hb
  have HWB := Lib.hid hWB
  have HN := Lib.hid hn
  have HK := Lib.hid hk
  have HU := Lib.hid hu
  have HW := Lib.hid hW
  rw [← hn] at hl ⊢
  clear h hs hb hWB hu hk
  go_enter Try.func33, Try.ntmps33
  go_upto_region 1 with (fail)
  rw [← HW.out]
  clear hW hn
  go_wp2_with fail
  go_loopw [9, 10] (fun i j wr => ∃ a b : Nat, a ≤ k ∧ k ≤ b ∧ b ≤ n ∧ i = .int .i64 a ∧ j = .int .i64 b ∧ Below W.heap.size W wr) (fun i j _ => (RowKit.intOf j - RowKit.intOf i).toNat)
  case atStart => exact ⟨0, n, Nat.zero_le _, hkn, Nat.le_refl _, rfl, rfl, Below.refl _ _⟩
  case round =>
    obtain ⟨a, b, hak, hkb, hbn, rfl, rfl, hwr⟩ := hrel
    by_cases hlt : a < b
    · go_wp2_with fail
      obtain ⟨m, hm, h1, h2⟩ : ∃ m : Nat, ((a : Int) + (b : Int)) / 2 = (m : Int) ∧ a ≤ m ∧ m < b := ⟨(a + b) / 2, by omega, by omega, by omega⟩
      rw [hm]
      have hml : m < l.length := by have := HN.out; omega
      obtain ⟨_, g, hA, hg, hc⟩ := (HS.out.call hwr).items (by omega)
      subst hA
      obtain ⟨c1, c2⟩ := hc m hml
      have m0 : (0 : Int) ≤ m := by omega
      have m1 : (m : Int) < n := by omega
      obtain ⟨p, hp⟩ : ∃ p, p = l[m].1 := ⟨_, rfl⟩
      obtain ⟨q, hq⟩ : ∃ q, q = l[m].2 := ⟨_, rfl⟩
      rw [← hp] at c1
      rw [← hq] at c2
      have hbx := HB.out.call hwr
      have hs : wr.drew.cell? ⟨g, m * 2, none⟩ = some (.int .i64 p) ∧ wr.drew.cell? ⟨g, m * 2 + 1, none⟩ = some (.int .i64 q) ∧ wr.drew.cell? ⟨w.heap.size, 0, none⟩ = some (.int .i64 x) ∧ wr.drew.cell? ⟨w.heap.size, 1, none⟩ = some (.int .i64 y) := ⟨c1, c2, hbx.cell 0, hbx.cell 1⟩
      have HPQ : Hid (l[m] = (p, q)) := by rw [hp, hq]; trivial
      have hblt := (hbx.drewN 1).lt
      have hglt : g < (wr.drewN 1).heap.size := hg
      clear hm hc c1 c2 hp hq hbx hg
      have hwb : ∀ w1, Below (wr.drewN 1).heap.size (wr.drewN 1) w1 → Below W.heap.size W w1 := fun w1 h => (below_dN hwr 1).trans (h.mono hwr.size)
      obtain ⟨r, hr⟩ : ∃ r, r = byS (p, q) (x, y) := ⟨_, rfl⟩
      by_cases hneg : r < 0
      · have hmk : m < k := by rw [HK.out]; exact (cut_below HU.out (x, y) hml).1 (by rw [HPQ.out]; exact (byS_lt _ _).1 (by rw [← hr]; exact hneg))
        have HR := Lib.hid hr
        clear hr
        go_region_held3 (fun v => v.cell? ⟨g, m * 2, none⟩ = some (.int .i64 p) ∧ v.cell? ⟨g, m * 2 + 1, none⟩ = some (.int .i64 q) ∧ v.cell? ⟨w.heap.size, 0, none⟩ = some (.int .i64 x) ∧ v.cell? ⟨w.heap.size, 1, none⟩ = some (.int .i64 y))
          (first | exact hs | exact ⟨(hb1.cell hglt).trans hs.1, (hb1.cell hglt).trans hs.2.1, (hb1.cell hblt).trans hs.2.2.1, (hb1.cell hblt).trans hs.2.2.2⟩)
          (first | (go_at_call 34; refine (byspace_any _ _ _ _ _).mono ?_; rintro e w1 ⟨rfl, hb1⟩; rw [← HR.out]))
        all_goals
          go_wp2_with fail
          go_roundw
          case rel => exact ⟨m + 1, b, by omega, by omega, by omega, by go_num, rfl, hwb _ (by first | exact hb1 | exact below_dN hb1 _)⟩
          case measure => simp [RowKit.intOf]; omega
      · have hmk : k ≤ m := Nat.le_of_not_lt fun hh => hneg (by rw [hr]; exact (byS_lt _ _).2 (by rw [← HPQ.out]; exact (cut_below HU.out (x, y) hml).2 (by rw [← HK.out]; exact hh)))
        have HR := Lib.hid hr
        clear hr
        go_region_held3 (fun v => v.cell? ⟨g, m * 2, none⟩ = some (.int .i64 p) ∧ v.cell? ⟨g, m * 2 + 1, none⟩ = some (.int .i64 q) ∧ v.cell? ⟨w.heap.size, 0, none⟩ = some (.int .i64 x) ∧ v.cell? ⟨w.heap.size, 1, none⟩ = some (.int .i64 y))
          (first | exact hs | exact ⟨(hb1.cell hglt).trans hs.1, (hb1.cell hglt).trans hs.2.1, (hb1.cell hblt).trans hs.2.2.1, (hb1.cell hblt).trans hs.2.2.2⟩)
          (first | (go_at_call 34; refine (byspace_any _ _ _ _ _).mono ?_; rintro e w1 ⟨rfl, hb1⟩; rw [← HR.out]))
        all_goals
          go_wp2_with fail
          go_roundw
          case rel => exact ⟨a, m, by omega, by omega, by omega, rfl, rfl, hwb _ (by first | exact hb1 | exact below_dN hb1 _)⟩
          case measure => simp [RowKit.intOf]; omega
    · obtain rfl : a = k := by omega
      obtain rfl : b = a := by omega
      by_cases hn2 : b < n
      · have hml : b < l.length := by have := HN.out; omega
        obtain ⟨_, g, hA, hg, hc⟩ := (HS.out.call hwr).items (by omega)
        subst hA
        obtain ⟨m, hm⟩ : ∃ m, m = b := ⟨_, rfl⟩
        subst hm
        obtain ⟨c1, c2⟩ := hc m hml
        have m0 : (0 : Int) ≤ m := by omega
        have m1 : (m : Int) < n := by omega
        obtain ⟨p, hp⟩ : ∃ p, p = l[m].1 := ⟨_, rfl⟩
        obtain ⟨q, hq⟩ : ∃ q, q = l[m].2 := ⟨_, rfl⟩
        rw [← hp] at c1
        rw [← hq] at c2
        have hbx := HB.out.call hwr
        have hs : wr.drew.cell? ⟨g, m * 2, none⟩ = some (.int .i64 p) ∧ wr.drew.cell? ⟨g, m * 2 + 1, none⟩ = some (.int .i64 q) ∧ wr.drew.cell? ⟨w.heap.size, 0, none⟩ = some (.int .i64 x) ∧ wr.drew.cell? ⟨w.heap.size, 1, none⟩ = some (.int .i64 y) := ⟨c1, c2, hbx.cell 0, hbx.cell 1⟩
        have HPQ : Hid (l[m] = (p, q)) := by rw [hp, hq]; trivial
        have hblt := (hbx.drewN 1).lt
        have hglt : g < (wr.drewN 1).heap.size := hg
        have hwb : ∀ w1, Below (wr.drewN 1).heap.size (wr.drewN 1) w1 → Below w.heap.size w w1 := fun w1 h => HWB.out.trans (((below_dN hwr 1).trans (h.mono hwr.size)).mono HWB.out.size)
        obtain ⟨r, hr⟩ : ∃ r, r = byS (p, q) (x, y) := ⟨_, rfl⟩
        have HZ : Hid (decide (r = 0) = decide ((x, y) ∈ l)) := by
          show decide _ = decide _
          rw [decide_eq_decide, hr, byS_eq, ← HPQ.out, cut_there HU.out (x, y)]
          have hmm : m = cutS (x, y) l := HK.out
          constructor
          · intro e; exact ⟨by rw [← hmm]; exact hml, by simp only [← hmm]; exact e⟩
          · rintro ⟨_, e⟩; simp only [← hmm] at e; exact e
        have HR := Lib.hid hr
        clear hc c1 c2 hp hq hbx hg hr hlt hak hkb hbn
        go_wp2_with fail
        go_region_held3 (fun v => v.cell? ⟨g, m * 2, none⟩ = some (.int .i64 p) ∧ v.cell? ⟨g, m * 2 + 1, none⟩ = some (.int .i64 q) ∧ v.cell? ⟨w.heap.size, 0, none⟩ = some (.int .i64 x) ∧ v.cell? ⟨w.heap.size, 1, none⟩ = some (.int .i64 y))
          (first | exact hs | exact ⟨(hb1.cell hglt).trans hs.1, (hb1.cell hglt).trans hs.2.1, (hb1.cell hblt).trans hs.2.2.1, (hb1.cell hblt).trans hs.2.2.2⟩)
          (first | (go_at_call 34; refine (byspace_any _ _ _ _ _).mono ?_; rintro e w1 ⟨rfl, hb1⟩; rw [← HR.out]))
        all_goals
          go_wp2_with fail
          go_ret2
          exact ⟨by rw [← HK.out, ← HZ.out]; rfl, hwb _ (by first | exact hb1 | exact below_dN hb1 _)⟩
      · have HZ : Hid (false = decide ((x, y) ∈ l)) := by
          refine (decide_eq_false fun hm => ?_).symm
          have := cut_lt HU.out hm
          rw [← HK.out, ← HN.out] at this
          omega
        go_wp2_with fail
        go_quiet (fail)
        go_wp2_with fail
        go_ret2
        exact ⟨by rw [← HK.out, ← HZ.out]; rfl, below_dN (HWB.out.trans (hwr.mono HWB.out.size)) _⟩
end Go.Proofs.Ytgpbbmcadifdhaa
