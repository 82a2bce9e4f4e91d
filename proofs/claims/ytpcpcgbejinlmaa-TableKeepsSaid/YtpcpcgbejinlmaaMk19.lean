/- The contracts of package table on ways, on leaves that stand, on empty tables. -/
import Derived.Test.YtpcpcgbejinlmaaMk18
namespace Go.Proofs.Ytpcpcgbejinlmaa
open Go.RowKit
def wyE (r : Fd) (o : Int) : Int := if r.er = 0 ∨ (r.er = 6 ∧ tto o < (r.ts.length : Int)) then 7 else if r.er = 6 then 0 else r.er
def Fresh (w : World) (A : Option Addr) : Prop := ∀ g, A = some g → w.heap.size ≤ g.block
theorem fresh_none (w : World) : Fresh w none := fun g e => by cases e
def Way (w : World) (r : Fd) (o : Int) (e : Ending) (w' : World) : Prop :=
  ∃ A m c l, e = .returned (.tuple #[.slice A m c, .int .i64 (wyE r o)]) ∧ IntsAt w' w'.heap.size A m l ∧ Below w.heap.size w w' ∧ Fresh w A ∧ (wyE r o = 0 → l = r.ts)
section
variable {w : World} {s : Seat} {v : Value} {ws L R : List Int}
set_option maxHeartbeats 1000000 in
theorem way_any (h : Tab w s v ws L R) (root p o : Int) (ho : o = 0 ∨ o = 3 ∨ o = 6) : Calls Try.prog 40 #[.pointer (some ⟨s.x, 0, none⟩), .int .i64 root, .int .i64 p, .int .i64 o] w (Way w (fol ws root p) o) := by
  obtain ⟨hc, -, -⟩ := h.cells
  have hp := path_new h.ram root p
  have her := fol_er ws root p
  obtain ⟨r, hr⟩ : ∃ r, r = fol ws root p := ⟨_, rfl⟩
  rw [← hr] at hp her ⊢
  clear hr h
  have HO := Lib.hid ho
  clear ho
  unfold Way
  by_cases h0 : r.er = 0
  · have hw : wyE r o = 7 := by simp [wyE, h0]
    rw [hw]
    clear hw her
    go_enter Try.func40, Try.ntmps40
    go_wp2_with fail
    unfold PathNew at hp
    rw [h0] at hp
    refine hp.mono ?_
    rintro e w1 ⟨A, m, c, rfl, -, hb, -⟩
    have HB := Lib.hid hb
    clear hb hp hc
    go_wp2
    go_ret2
    exact ⟨none, 0, 0, [], rfl, IntsAt.nil _ _ _, HB.out, fresh_none w, fun e => by omega⟩
  · by_cases h6 : r.er = 6
    · by_cases hl : tto o < (r.ts.length : Int)
      · have hw : wyE r o = 7 := by simp [wyE, h6, hl]
        rw [hw]
        clear hw her h0
        go_enter Try.func40, Try.ntmps40
        go_wp2_with fail
        unfold PathNew at hp
        rw [h6] at hp
        refine hp.mono ?_
        rintro e w1 ⟨A, m, c, rfl, hi, hb, -⟩
        have hm := hi.len
        rw [hm] at hl
        have hd : decide (tto o < (m : Int)) = true := by simpa using hl
        have HB := Lib.hid hb
        clear hb hp hc hi hm hl
        go_wp2_with (go_at_call 41; refine (tablesTo_any HO.out _).mono ?_; rintro e w' ⟨rfl, rfl⟩)
        go_ret2
        exact ⟨none, 0, 0, [], rfl, IntsAt.nil _ _ _, HB.out, fresh_none w, fun e => by omega⟩
      · have hw : wyE r o = 0 := by simp [wyE, h6, hl]
        rw [hw]
        clear hw her h0
        go_enter Try.func40, Try.ntmps40
        go_wp2_with fail
        unfold PathNew at hp
        rw [h6] at hp
        refine hp.mono ?_
        rintro e w1 ⟨A, m, c, rfl, hi, hb, hn, -⟩
        have hm := hi.len
        rw [hm] at hl
        have hd : decide (tto o < (m : Int)) = false := by simpa using hl
        have HB := Lib.hid hb
        have HI := Lib.hid hi
        have HN := Lib.hid hn
        clear hb hp hc hi hm hl hn
        go_wp2_with (go_at_call 41; refine (tablesTo_any HO.out _).mono ?_; rintro e w' ⟨rfl, rfl⟩)
        go_ret2
        exact ⟨A, m, c, r.ts, rfl, HI.out, HB.out, HN.out, fun _ => rfl⟩
    · have hw : wyE r o = r.er := by simp [wyE, h6, h0]
      rw [hw]
      have n0 : (r.er == 0) = false := by simpa using h0
      have n6 : (r.er == 6) = false := by simpa using h6
      have m6 : (r.er != 6) = true := by simpa using h6
      obtain ⟨z, hz⟩ : ∃ z, z = r.er := ⟨_, rfl⟩
      have HZ := Lib.hid hz
      unfold PathNew at hp
      rw [← hz] at n0 n6 m6 hp ⊢
      have HH := Lib.hid h0
      clear hw her h0 h6 hz
      go_enter Try.func40, Try.ntmps40
      go_wp2_with fail
      refine hp.mono ?_
      rintro e w1 ⟨A, m, c, rfl, -, hb, -⟩
      have HB := Lib.hid hb
      clear hb hp hc
      go_wp2
      go_ret2
      exact ⟨none, 0, 0, [], rfl, IntsAt.nil _ _ _, HB.out, fresh_none w, fun e => absurd (HZ.out.symm.trans e) HH.out⟩
end
def zeroW (x : Int) : Bool := unOK x && noB (unF x) (unB x 0) (unB x 1) (unB x 7) (unB x 9) (unB x 5) (unB x 6)
def emp (ws : List Int) (t : Int) : Bool := (List.range 8).all fun i : Nat => zeroW (wd ws t (i : Int))
theorem emp_yes {ws : List Int} {t : Int} (h : ∀ i : Nat, i < 8 → zeroW (wd ws t (i : Int)) = true) : emp ws t = true := by
  unfold emp
  rw [List.all_eq_true]
  intro i hi
  exact h i (List.mem_range.1 hi)
theorem emp_no {ws : List Int} {t : Int} {i : Nat} (hi : i < 8) (h : zeroW (wd ws t (i : Int)) = false) : emp ws t = false := by
  cases e : emp ws t
  · rfl
  · unfold emp at e
    rw [List.all_eq_true] at e
    have := e i (List.mem_range.2 hi)
    rw [h] at this
    cases this
section
variable {w : World} {s : Seat} {v : Value} {ws L R : List Int}
set_option maxHeartbeats 1000000 in
theorem empty_any (h : Tab w s v ws L R) (t : Int) (ht : inT 4096 t 0 = true) : Calls Try.prog 38 #[.pointer (some ⟨s.x, 0, none⟩), .int .i64 t] w fun e w' => e = .returned (.bool (emp ws t)) ∧ Below w.heap.size w w' := by
  obtain ⟨hx, -, -⟩ := h.cells
  have hxs := h.top.lt
  have H := Lib.hid h
  have HT := Lib.hid ht
  clear h ht
  go_enter Try.func38, Try.ntmps38
  go_wp2
  go_loopw [8] (fun i wr => ∃ j : Nat, j ≤ 8 ∧ i = .int .i64 j ∧ (∀ k : Nat, k < j → zeroW (wd ws t (k : Int)) = true) ∧ Below w.heap.size w wr) (fun i _ => 8 - (intOf i).toNat)
  case atStart => exact ⟨0, by omega, rfl, fun k hk => absurd hk (Nat.not_lt_zero _), Below.refl _ _⟩
  case round =>
    obtain ⟨j, hj, rfl, hz, hb⟩ := hrel
    have HZ := Lib.hid hz
    have HB := Lib.hid hb
    by_cases hj8 : j < 8
    · have H1 := H.out.call hb
      obtain ⟨x0, -, -⟩ := H1.cells
      have hin : inT 4096 t j = true := by
        have := inT_iff.1 HT.out
        exact inT_iff.2 ⟨this.1, this.2.1, by omega, by omega⟩
      have hwd := word_any H1.ram t (j : Int)
      obtain ⟨x, ex⟩ : ∃ x, x = wd ws t (j : Int) := ⟨_, rfl⟩
      rw [← ex, show wdE 4096 x t j = unErr x by simp [wdE, hin]] at hwd
      have HX := Lib.hid ex
      clear hx H1 hz hb hin ex
      by_cases hok : unOK x = true
      · have he : unErr x = 0 := by simp [unErr, hok]
        rw [he] at hwd
        unfold unE at hwd
        clear he
        rcases kinds hok with ⟨k0, k1, k2, k3, k4, k5, k6⟩ | ⟨k1, k2⟩ | ⟨k1, k2, k3, k4⟩
        · -- nothing
          have HZW : Hid (zeroW x = true) := by show _ = _; simp [zeroW, hok, noB, k0, k1, k2, k3, k4, k5, k6]
          rw [k0, k1, k2, k3, k4, k5, k6] at hwd
          clear k0 k1 k2 k3 k4 k5 k6 hok
          go_wp2_with fail
          refine hwd.mono ?_
          rintro e w1 ⟨rfl, hb1⟩
          have HB1 := Lib.hid (HB.out.trans (hb1.mono HB.out.size))
          clear hb1 hwd
          go_wp2_with fail
          go_roundw
          case rel => exact ⟨j + 1, by omega, by go_num, fun k hk => by
            by_cases e : k = j
            · subst e; rw [← HX.out]; exact HZW.out
            · exact HZ.out k (by omega), HB1.out.alloc HB1.out.size _⟩
          case measure => simp [intOf]; omega
        · have HE : Hid (emp ws t = false) := emp_no hj8 (by rw [← HX.out]; simp [zeroW, noB, k1])
          rw [k1, k2] at hwd
          obtain ⟨f, ef⟩ : ∃ f, f = unF x := ⟨_, rfl⟩
          rw [← ef] at hwd
          obtain ⟨y1, ey1⟩ : ∃ y, y = unB x 1 := ⟨_, rfl⟩
          rw [← ey1] at hwd
          clear ey1
          obtain ⟨y7, ey7⟩ : ∃ y, y = unB x 7 := ⟨_, rfl⟩
          rw [← ey7] at hwd
          clear ey7
          obtain ⟨y5, ey5⟩ : ∃ y, y = unB x 5 := ⟨_, rfl⟩
          rw [← ey5] at hwd
          clear ey5
          obtain ⟨y6, ey6⟩ : ∃ y, y = unB x 6 := ⟨_, rfl⟩
          rw [← ey6] at hwd
          clear ey6
          clear k1 k2 hok ef
          go_wp2_with fail
          refine hwd.mono ?_
          rintro e w1 ⟨rfl, hb1⟩
          have HB1 := Lib.hid (HB.out.trans (hb1.mono HB.out.size))
          clear hb1 hwd
          go_wp2_with fail
          go_ret
          exact ⟨ret_bool HE.out.symm, HB1.out.alloc HB1.out.size _⟩
        · have HE : Hid (emp ws t = false) := emp_no hj8 (by rw [← HX.out]; simp [zeroW, noB, k2])
          rw [k1, k2, k3, k4] at hwd
          obtain ⟨f, ef⟩ : ∃ f, f = unF x := ⟨_, rfl⟩
          rw [← ef] at hwd
          obtain ⟨y5, ey5⟩ : ∃ y, y = unB x 5 := ⟨_, rfl⟩
          rw [← ey5] at hwd
          clear ey5
          obtain ⟨y6, ey6⟩ : ∃ y, y = unB x 6 := ⟨_, rfl⟩
          rw [← ey6] at hwd
          clear ey6
          clear k1 k2 k3 k4 hok ef
          go_wp2_with fail
          refine hwd.mono ?_
          rintro e w1 ⟨rfl, hb1⟩
          have HB1 := Lib.hid (HB.out.trans (hb1.mono HB.out.size))
          clear hb1 hwd
          go_wp2_with fail
          go_ret
          exact ⟨ret_bool HE.out.symm, HB1.out.alloc HB1.out.size _⟩
      · simp only [Bool.not_eq_true] at hok
        have HE : Hid (emp ws t = false) := emp_no hj8 (by rw [← HX.out]; simp [zeroW, hok])
        have he : unErr x = 5 := by simp [unErr, hok]
        rw [he] at hwd
        unfold unE at hwd
        obtain ⟨f, ef⟩ : ∃ f, f = unF x := ⟨_, rfl⟩
        rw [← ef] at hwd
        obtain ⟨y0, ey0⟩ : ∃ y, y = unB x 0 := ⟨_, rfl⟩
        rw [← ey0] at hwd
        clear ey0
        obtain ⟨y1, ey1⟩ : ∃ y, y = unB x 1 := ⟨_, rfl⟩
        rw [← ey1] at hwd
        clear ey1
        obtain ⟨y7, ey7⟩ : ∃ y, y = unB x 7 := ⟨_, rfl⟩
        rw [← ey7] at hwd
        clear ey7
        obtain ⟨y9, ey9⟩ : ∃ y, y = unB x 9 := ⟨_, rfl⟩
        rw [← ey9] at hwd
        clear ey9
        obtain ⟨y5, ey5⟩ : ∃ y, y = unB x 5 := ⟨_, rfl⟩
        rw [← ey5] at hwd
        clear ey5
        obtain ⟨y6, ey6⟩ : ∃ y, y = unB x 6 := ⟨_, rfl⟩
        rw [← ey6] at hwd
        clear ey6
        clear he hok ef
        go_wp2_with fail
        refine hwd.mono ?_
        rintro e w1 ⟨rfl, hb1⟩
        have HB1 := Lib.hid (HB.out.trans (hb1.mono HB.out.size))
        clear hb1 hwd
        go_wp2_with fail
        go_ret
        exact ⟨ret_bool HE.out.symm, HB1.out.alloc HB1.out.size _⟩
    · obtain rfl : j = 8 := by omega
      have HE : Hid (emp ws t = true) := emp_yes HZ.out
      clear hz hb
      go_wp2
      go_ret
      exact ⟨ret_bool HE.out.symm, HB.out⟩
end
end Go.Proofs.Ytpcpcgbejinlmaa
/- The contracts of package table on leaves that stand: find, findJust. -/
namespace Go.Proofs.Ytpcpcgbejinlmaa
open Go.RowKit
def zeroSt : Value := .agg #[.int .i64 0, .bool false, .bool false, .bool false, .bool false, .bool false, .bool false, .int .i64 0, .int .i64 0, .slice none 0 0, .slice none 0 0]
def Stand (w : World) (r : Fd) (p : Int) (e : Ending) (w' : World) : Prop :=
  ∃ A m c A' m' c', e = .returned (.tuple #[.agg #[.int .i64 (lfF r), .bool (lfB r 0), .bool (lfB r 1), .bool (lfB r 7), .bool (lfB r 9), .bool (lfB r 5), .bool (lfB r 6), .int .i64 (lfV r), .int .i64 (lfP r p), .slice A m c, .slice A' m' c'], .int .i64 0]) ∧
    IntsAt w' w'.heap.size A m r.ts ∧ IntsAt w' w'.heap.size A' m' (dgL p) ∧ Below w.heap.size w w' ∧ Fresh w A ∧ Fresh w A' ∧ m ≤ c
theorem Fresh.mono {w w' : World} {A : Option Addr} (h : Fresh w' A) (hs : w.heap.size ≤ w'.heap.size) : Fresh w A := fun g e => Nat.le_trans hs (h g e)
theorem Row.eleven {w : World} {g : Nat} {t : TypeId} {x0 x1 x2 x3 x4 x5 x6 x7 x8 x9 x10 : Value} (h : Row w g t [x0, x1, x2, x3, x4, x5, x6, x7, x8, x9, x10]) :
    (w.cell? ⟨g, 0, none⟩ = some x0 ∧ w.cell? ⟨g, 1, none⟩ = some x1 ∧ w.cell? ⟨g, 2, none⟩ = some x2 ∧ w.cell? ⟨g, 3, none⟩ = some x3 ∧ w.cell? ⟨g, 4, none⟩ = some x4 ∧ w.cell? ⟨g, 5, none⟩ = some x5 ∧ w.cell? ⟨g, 6, none⟩ = some x6 ∧ w.cell? ⟨g, 7, none⟩ = some x7 ∧ w.cell? ⟨g, 8, none⟩ = some x8 ∧ w.cell? ⟨g, 9, none⟩ = some x9 ∧ w.cell? ⟨g, 10, none⟩ = some x10) ∧ (∀ o, w.frozen? ⟨g, o, none⟩ = false) :=
  ⟨⟨h.cell 0, h.cell 1, h.cell 2, h.cell 3, h.cell 4, h.cell 5, h.cell 6, h.cell 7, h.cell 8, h.cell 9, h.cell 10⟩, fun o => h.frozen o⟩
theorem Row.nine9 {w : World} {g : Nat} {t : TypeId} {x0 x1 x2 x3 x4 x5 x6 x7 x8 : Value} (h : Row w g t [x0, x1, x2, x3, x4, x5, x6, x7, x8]) :
    w.cell? ⟨g, 0, none⟩ = some x0 ∧ w.cell? ⟨g, 1, none⟩ = some x1 ∧ w.cell? ⟨g, 2, none⟩ = some x2 ∧ w.cell? ⟨g, 3, none⟩ = some x3 ∧ w.cell? ⟨g, 4, none⟩ = some x4 ∧ w.cell? ⟨g, 5, none⟩ = some x5 ∧ w.cell? ⟨g, 6, none⟩ = some x6 ∧ w.cell? ⟨g, 7, none⟩ = some x7 ∧ w.cell? ⟨g, 8, none⟩ = some x8 :=
  ⟨h.cell 0, h.cell 1, h.cell 2, h.cell 3, h.cell 4, h.cell 5, h.cell 6, h.cell 7, h.cell 8⟩
theorem ints_set {w : World} {A : Option Addr} {m g : Nat} {l : List Int} (h : IntsAt w w.heap.size A m l) (hg : ∀ a, A = some a → g ≠ a.block) (i : Nat) (u : Value) : IntsAt (w.setCell ⟨g, i, none⟩ u) (w.setCell ⟨g, i, none⟩ u).heap.size A m l := by
  have hs : (w.setCell ⟨g, i, none⟩ u).heap.size = w.heap.size := by simp [World.setCell]
  refine ⟨h.len, fun h0 => ?_⟩
  obtain ⟨a, rfl, ha, hc⟩ := h.at_ h0
  refine ⟨a, rfl, by rw [hs]; exact ha, fun j hj => ?_⟩
  have hb : (a.add j).block = a.block := by unfold Addr.add; split <;> rfl
  rw [← hc j hj]
  exact World.cell?_of_block (by rw [hb]; exact Below.heap_setCell w _ u a.block (fun e => hg a rfl e.symm))
theorem ints_11 {w : World} {A : Option Addr} {m g : Nat} {l : List Int} {x0 x1 x2 x3 x4 x5 x6 x7 x8 x9 x10 : Value} (h : IntsAt w w.heap.size A m l) (hg : ∀ a, A = some a → g ≠ a.block) :
    IntsAt (((((((((((w.setCell ⟨g, 0, none⟩ x0).setCell ⟨g, 1, none⟩ x1).setCell ⟨g, 2, none⟩ x2).setCell ⟨g, 3, none⟩ x3).setCell ⟨g, 4, none⟩ x4).setCell ⟨g, 5, none⟩ x5).setCell ⟨g, 6, none⟩ x6).setCell ⟨g, 7, none⟩ x7).setCell ⟨g, 8, none⟩ x8).setCell ⟨g, 9, none⟩ x9).setCell ⟨g, 10, none⟩ x10) (((((((((((w.setCell ⟨g, 0, none⟩ x0).setCell ⟨g, 1, none⟩ x1).setCell ⟨g, 2, none⟩ x2).setCell ⟨g, 3, none⟩ x3).setCell ⟨g, 4, none⟩ x4).setCell ⟨g, 5, none⟩ x5).setCell ⟨g, 6, none⟩ x6).setCell ⟨g, 7, none⟩ x7).setCell ⟨g, 8, none⟩ x8).setCell ⟨g, 9, none⟩ x9).setCell ⟨g, 10, none⟩ x10).heap.size A m l :=
  have k : ∀ {w : World}, IntsAt w w.heap.size A m l → ∀ (i : Nat) (u : Value), IntsAt (w.setCell ⟨g, i, none⟩ u) (w.setCell ⟨g, i, none⟩ u).heap.size A m l := fun h i u => ints_set h hg i u
  k (k (k (k (k (k (k (k (k (k (k h 0 _) 1 _) 2 _) 3 _) 4 _) 5 _) 6 _) 7 _) 8 _) 9 _) 10 _
section
variable {w : World} {s : Seat} {v : Value} {ws L R : List Int}
set_option maxRecDepth 100000 in
set_option maxHeartbeats 1600000 in
theorem find_bad (h : Tab w s v ws L R) (root p : Int) (he : (fol ws root p).er ≠ 0) : Calls Try.prog 25 #[.pointer (some ⟨s.x, 0, none⟩), .int .i64 root, .int .i64 p] w fun e w' => e = .returned (.tuple #[zeroSt, .int .i64 (fol ws root p).er]) ∧ Below w.heap.size w w' := by
  obtain ⟨g, hg⟩ : ∃ g, g = w.heap.size := ⟨_, rfl⟩
  obtain ⟨w1, hw1⟩ : ∃ w1, w1 = w.alloc (.cells #[.int .i64 0, .bool false, .bool false, .bool false, .bool false, .bool false, .bool false, .int .i64 0, .int .i64 0, .slice none 0 0, .slice none 0 0] 74) := ⟨_, rfl⟩
  have b1 : Below w.heap.size w w1 := hw1 ▸ below_new w 74 [.int .i64 0, .bool false, .bool false, .bool false, .bool false, .bool false, .bool false, .int .i64 0, .int .i64 0, .slice none 0 0, .slice none 0 0]
  have r1 : Row w1 g 74 [.int .i64 0, .bool false, .bool false, .bool false, .bool false, .bool false, .bool false, .int .i64 0, .int .i64 0, .slice none 0 0, .slice none 0 0] := by rw [hw1, hg]; exact Row.new w _ _
  have H1 := h.call b1
  obtain ⟨x0, -, -⟩ := H1.cells
  have hwk := walk_any H1.ram root p
  unfold WalkAns leafE at hwk
  obtain ⟨r, hr⟩ : ∃ r, r = fol ws root p := ⟨_, rfl⟩
  rw [← hr] at hwk he ⊢
  obtain ⟨z, ez⟩ : ∃ z, z = r.er := ⟨_, rfl⟩
  have hz : (z != 0) = true := by rw [ez]; simpa using he
  rw [← ez] at hwk ⊢
  obtain ⟨f, ef⟩ : ∃ y, y = lfF r := ⟨_, rfl⟩
  rw [← ef] at hwk
  clear ef
  obtain ⟨y0, ey0⟩ : ∃ y, y = lfB r 0 := ⟨_, rfl⟩
  rw [← ey0] at hwk
  clear ey0
  obtain ⟨y1, ey1⟩ : ∃ y, y = lfB r 1 := ⟨_, rfl⟩
  rw [← ey1] at hwk
  clear ey1
  obtain ⟨y7, ey7⟩ : ∃ y, y = lfB r 7 := ⟨_, rfl⟩
  rw [← ey7] at hwk
  clear ey7
  obtain ⟨y9, ey9⟩ : ∃ y, y = lfB r 9 := ⟨_, rfl⟩
  rw [← ey9] at hwk
  clear ey9
  obtain ⟨y5, ey5⟩ : ∃ y, y = lfB r 5 := ⟨_, rfl⟩
  rw [← ey5] at hwk
  clear ey5
  obtain ⟨y6, ey6⟩ : ∃ y, y = lfB r 6 := ⟨_, rfl⟩
  rw [← ey6] at hwk
  clear ey6
  obtain ⟨lv, elv⟩ : ∃ y, y = lfV r := ⟨_, rfl⟩
  rw [← elv] at hwk
  clear elv
  obtain ⟨fr, efr⟩ : ∃ y, y = lfP r p := ⟨_, rfl⟩
  rw [← efr] at hwk
  clear efr
  have HW := Lib.hid hw1
  have HG := Lib.hid hg
  have B1 := Lib.hid b1
  have R1 := Lib.hid r1
  clear hw1 hg b1 r1 H1 h he hr ez
  go_enter Try.func25, Try.ntmps25
  go_upto_region 1 with (fail)
  rw [← HW.out, ← HG.out]
  go_wp2_with fail
  refine hwk.mono ?_
  rintro e w2 ⟨rfl, hb2⟩
  obtain ⟨w3, hw3⟩ : ∃ w3, w3 = w2.alloc (.cells #[.int .i64 f, .bool y0, .bool y1, .bool y7, .bool y9, .bool y5, .bool y6, .int .i64 lv, .int .i64 fr] 30) := ⟨_, rfl⟩
  have b3 : Below w1.heap.size w1 w3 := by rw [hw3]; exact hb2.alloc hb2.size _
  have HW3 := Lib.hid hw3
  have B3 := Lib.hid (B1.out.trans (b3.mono B1.out.size))
  have r3 := R1.out.below b3 R1.out.lt
  obtain ⟨⟨c0, c1, c2, c3, c4, c5, c6, c7, c8, c9, c10⟩, hf⟩ := r3.eleven
  clear hwk hb2 hw3 b3 r3 R1 B1 x0
  go_upto_region 2 with (fail)
  rw [← HW3.out]
  go_wp2_with fail
  exact bodyPost_ret (v := .tuple #[zeroSt, .int .i64 z]) (by simp [results, Try.results25, go_sem, zeroSt, *]) rfl ⟨rfl, below_11 B3.out (by have := HG.out; omega)⟩
set_option maxRecDepth 100000 in
set_option maxHeartbeats 1600000 in
theorem find_ok (h : Tab w s v ws L R) (root p : Int) (he : (fol ws root p).er = 0) : Calls Try.prog 25 #[.pointer (some ⟨s.x, 0, none⟩), .int .i64 root, .int .i64 p] w (Stand w (fol ws root p) p) := by
  obtain ⟨g, hg⟩ : ∃ g, g = w.heap.size := ⟨_, rfl⟩
  obtain ⟨w1, hw1⟩ : ∃ w1, w1 = w.alloc (.cells #[.int .i64 0, .bool false, .bool false, .bool false, .bool false, .bool false, .bool false, .int .i64 0, .int .i64 0, .slice none 0 0, .slice none 0 0] 74) := ⟨_, rfl⟩
  have b1 : Below w.heap.size w w1 := hw1 ▸ below_new w 74 [.int .i64 0, .bool false, .bool false, .bool false, .bool false, .bool false, .bool false, .int .i64 0, .int .i64 0, .slice none 0 0, .slice none 0 0]
  have r1 : Row w1 g 74 [.int .i64 0, .bool false, .bool false, .bool false, .bool false, .bool false, .bool false, .int .i64 0, .int .i64 0, .slice none 0 0, .slice none 0 0] := by rw [hw1, hg]; exact Row.new w _ _
  have H1 := h.call b1
  obtain ⟨x0, -, -⟩ := H1.cells
  have hwk := walk_any H1.ram root p
  unfold WalkAns leafE at hwk
  obtain ⟨r, hr⟩ : ∃ r, r = fol ws root p := ⟨_, rfl⟩
  unfold Stand
  rw [← hr] at hwk he ⊢
  rw [he] at hwk
  have HR := Lib.hid hr
  obtain ⟨f, ef⟩ : ∃ y, y = lfF r := ⟨_, rfl⟩
  rw [← ef] at hwk ⊢
  clear ef
  obtain ⟨y0, ey0⟩ : ∃ y, y = lfB r 0 := ⟨_, rfl⟩
  rw [← ey0] at hwk ⊢
  clear ey0
  obtain ⟨y1, ey1⟩ : ∃ y, y = lfB r 1 := ⟨_, rfl⟩
  rw [← ey1] at hwk ⊢
  clear ey1
  obtain ⟨y7, ey7⟩ : ∃ y, y = lfB r 7 := ⟨_, rfl⟩
  rw [← ey7] at hwk ⊢
  clear ey7
  obtain ⟨y9, ey9⟩ : ∃ y, y = lfB r 9 := ⟨_, rfl⟩
  rw [← ey9] at hwk ⊢
  clear ey9
  obtain ⟨y5, ey5⟩ : ∃ y, y = lfB r 5 := ⟨_, rfl⟩
  rw [← ey5] at hwk ⊢
  clear ey5
  obtain ⟨y6, ey6⟩ : ∃ y, y = lfB r 6 := ⟨_, rfl⟩
  rw [← ey6] at hwk ⊢
  clear ey6
  obtain ⟨lv, elv⟩ : ∃ y, y = lfV r := ⟨_, rfl⟩
  rw [← elv] at hwk ⊢
  clear elv
  obtain ⟨fr, efr⟩ : ∃ y, y = lfP r p := ⟨_, rfl⟩
  rw [← efr] at hwk ⊢
  clear efr
  have HE := Lib.hid he
  have HW := Lib.hid hw1
  have HG := Lib.hid hg
  have B1 := Lib.hid b1
  have R1 := Lib.hid r1
  have HH1 := Lib.hid H1
  clear hw1 hg b1 r1 H1 h he hr
  go_enter Try.func25, Try.ntmps25
  go_upto_region 1 with (fail)
  rw [← HW.out, ← HG.out]
  go_wp2_with fail
  refine hwk.mono ?_
  rintro e w2 ⟨rfl, hb2⟩
  obtain ⟨w3, hw3⟩ : ∃ w3, w3 = w2.alloc (.cells #[.int .i64 f, .bool y0, .bool y1, .bool y7, .bool y9, .bool y5, .bool y6, .int .i64 lv, .int .i64 fr] 30) := ⟨_, rfl⟩
  obtain ⟨q, hq⟩ : ∃ q, q = w2.heap.size := ⟨_, rfl⟩
  have b3 : Below w1.heap.size w1 w3 := by rw [hw3]; exact hb2.alloc hb2.size _
  have l3 : Row w3 q 30 [.int .i64 f, .bool y0, .bool y1, .bool y7, .bool y9, .bool y5, .bool y6, .int .i64 lv, .int .i64 fr] := by rw [hw3, hq]; exact Row.new w2 _ _
  have HW3 := Lib.hid hw3
  have HQ := Lib.hid hq
  have B3 := Lib.hid (B1.out.trans (b3.mono B1.out.size))
  have R3 := Lib.hid (R1.out.below b3 R1.out.lt)
  have L3 := Lib.hid l3
  have H3 := Lib.hid (HH1.out.call b3)
  clear hwk hb2 hw3 b3 l3 R1 B1 x0 hq HH1
  go_upto_region 2 with (fail)
  rw [← HW3.out, ← HQ.out]
  have hpn := path_new H3.out.ram root p
  unfold PathNew at hpn
  rw [← HR.out, HE.out] at hpn
  obtain ⟨x0, -, -⟩ := H3.out.cells
  go_wp2_with fail
  refine hpn.mono ?_
  rintro e w4 ⟨A, m, c, rfl, hi, hb4, hn4, hcap⟩
  have HCAP := Lib.hid hcap
  have B4 := Lib.hid (B3.out.trans (hb4.mono B3.out.size))
  have R4 := Lib.hid (R3.out.below hb4 R3.out.lt)
  have L4 := Lib.hid (L3.out.below hb4 L3.out.lt)
  have HI := Lib.hid hi
  have HX4 : Hid (∀ a, A = some a → g ≠ a.block) := fun a e => by have := hn4 a e; have := R3.out.lt; omega
  have HN4 : Hid (Fresh w A) := Fresh.mono hn4 B3.out.size
  clear hpn hi hb4 hn4 hcap x0 R3 L3 H3 B3
  go_wp2_with fail
  refine (digits_new p _).mono ?_
  rintro e w5 ⟨A', m', c', rfl, hi5, hb5, hn5⟩
  have B5 := Lib.hid (B4.out.trans (hb5.mono B4.out.size))
  have r5 := R4.out.below hb5 R4.out.lt
  have l5 := L4.out.below hb5 L4.out.lt
  have HI4 := Lib.hid (HI.out.call hb5)
  have HI5 := Lib.hid hi5
  have HX5 : Hid (∀ a, A' = some a → g ≠ a.block) := fun a e => by have := hn5 a e; have := R4.out.lt; omega
  have HN5 : Hid (Fresh w A') := Fresh.mono hn5 B4.out.size
  obtain ⟨⟨c0, c1, c2, c3, c4, c5, c6, c7, c8, c9, c10⟩, hf⟩ := r5.eleven
  obtain ⟨d0, d1, d2, d3, d4, d5, d6, d7, d8⟩ := l5.nine9
  have hne : ¬ g = q := r5.apart l5 (by decide)
  have hne2 : ¬ q = g := fun e => hne e.symm
  have HGL := Lib.hid r5.lt
  clear hi5 hb5 hn5 r5 l5 R4 L4 B4 HI
  go_wp2_with fail
  exact bodyPost_ret (v := .tuple #[.agg #[.int .i64 f, .bool y0, .bool y1, .bool y7, .bool y9, .bool y5, .bool y6, .int .i64 lv, .int .i64 fr, .slice A m c, .slice A' m' c'], .int .i64 0]) (by simp [results, Try.results25, go_sem, *]) rfl ⟨A, m, c, A', m', c', rfl, ints_11 HI4.out (fun a e => HX4.out a e), ints_11 HI5.out (fun a e => HX5.out a e), below_11 B5.out (by have := HG.out; omega), HN4.out, HN5.out, HCAP.out⟩
end
end Go.Proofs.Ytpcpcgbejinlmaa
