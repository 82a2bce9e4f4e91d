/- The contracts of package table on ways, on leaves that stand, on empty tables. -/
import Derived.Test.YtnlimecbbockoaaMg22
namespace Go.Proofs.Ytnlimecbbockoaa
open Go.RowKit
/-- What a way to a leaf's place answers. -/
def wyE (r : Fd) (o : Int) : Int := if r.er = 0 ∨ (r.er = 6 ∧ tto o < (r.ts.length : Int)) then 7 else if r.er = 6 then 0 else r.er
def Fresh (w : World) (A : Option Addr) : Prop := ∀ g, A = some g → w.heap.size ≤ g.block
theorem fresh_none (w : World) : Fresh w none := fun g e => by cases e
def Way (w : World) (r : Fd) (o : Int) (e : Ending) (w' : World) : Prop :=
  ∃ A m c l, e = .returned (.tuple #[.slice A m c, .int .i64 (wyE r o)]) ∧ IntsAt w' w'.heap.size A m l ∧ Below w.heap.size w w' ∧ Fresh w A ∧ (wyE r o = 0 → l = r.ts)
section
variable {w : World} {s : Seat} {v : Value} {ws L R : List Int}
set_option maxHeartbeats 1000000 in
theorem way_any (h : Tab w s v ws L R) (root p o : Int) (ho : o = 0 ∨ o = 3 ∨ o = 6) : Calls Try.prog 42 #[.pointer (some ⟨s.x, 0, none⟩), .int .i64 root, .int .i64 p, .int .i64 o] w (Way w (fol ws root p) o) := by
  obtain ⟨hc, -, -⟩ := h.cells
  have hp := path_new h.ram root p
  have her := fol_er ws root p
  obtain ⟨r, hr⟩ : ∃ r, r = fol ws root p := ⟨_, rfl⟩
  rw [← hr] at hp her ⊢
  clear hr h
  have HO := Lib.hid ho
  clear ho
  unfold Way
  by_cases h0 : r.er = 0
  · have hw : wyE r o = 7 := by simp [wyE, h0]
    rw [hw]
    clear hw her
    go_enter Try.func42, Try.ntmps42
    go_wp2_with fail
    unfold PathNew at hp
    rw [h0] at hp
    refine hp.mono ?_
    rintro e w1 ⟨A, m, c, rfl, -, hb, -⟩
    have HB := Lib.hid hb
    clear hb hp hc
    go_wp2
    go_ret2
    exact ⟨none, 0, 0, [], rfl, IntsAt.nil _ _ _, HB.out, fresh_none w, fun e => by omega⟩
  · by_cases h6 : r.er = 6
    · by_cases hl : tto o < (r.ts.length : Int)
      · have hw : wyE r o = 7 := by simp [wyE, h6, hl]
        rw [hw]
        clear hw her h0
        go_enter Try.func42, Try.ntmps42
        go_wp2_with fail
        unfold PathNew at hp
        rw [h6] at hp
        refine hp.mono ?_
        rintro e w1 ⟨A, m, c, rfl, hi, hb, -⟩
        have hm := hi.len
        rw [hm] at hl
        have hd : decide (tto o < (m : Int)) = true := by simpa using hl
        have HB := Lib.hid hb
        clear hb hp hc hi hm hl
        go_wp2_with (go_at_call 43; refine (tablesTo_any HO.out _).mono ?_; rintro e w' ⟨rfl, rfl⟩)
        go_ret2
        exact ⟨none, 0, 0, [], rfl, IntsAt.nil _ _ _, HB.out, fresh_none w, fun e => by omega⟩
      · have hw : wyE r o = 0 := by simp [wyE, h6, hl]
        rw [hw]
        clear hw her h0
        go_enter Try.func42, Try.ntmps42
        go_wp2_with fail
        unfold PathNew at hp
        rw [h6] at hp
        refine hp.mono ?_
        rintro e w1 ⟨A, m, c, rfl, hi, hb, hn, -⟩
        have hm := hi.len
        rw [hm] at hl
        have hd : decide (tto o < (m : Int)) = false := by simpa using hl
        have HB := Lib.hid hb
        have HI := Lib.hid hi
        have HN := Lib.hid hn
        clear hb hp hc hi hm hl hn
        go_wp2_with (go_at_call 43; refine (tablesTo_any HO.out _).mono ?_; rintro e w' ⟨rfl, rfl⟩)
        go_ret2
        exact ⟨A, m, c, r.ts, rfl, HI.out, HB.out, HN.out, fun _ => rfl⟩
    · have hw : wyE r o = r.er := by simp [wyE, h6, h0]
      rw [hw]
      have n0 : (r.er == 0) = false := by simpa using h0
      have n6 : (r.er == 6) = false := by simpa using h6
      have m6 : (r.er != 6) = true := by simpa using h6
      obtain ⟨z, hz⟩ : ∃ z, z = r.er := ⟨_, rfl⟩
      have HZ := Lib.hid hz
      unfold PathNew at hp
      rw [← hz] at n0 n6 m6 hp ⊢
      have HH := Lib.hid h0
      clear hw her h0 h6 hz
      go_enter Try.func42, Try.ntmps42
      go_wp2_with fail
      refine hp.mono ?_
      rintro e w1 ⟨A, m, c, rfl, -, hb, -⟩
      have HB := Lib.hid hb
      clear hb hp hc
      go_wp2
      go_ret2
      exact ⟨none, 0, 0, [], rfl, IntsAt.nil _ _ _, HB.out, fresh_none w, fun e => absurd (HZ.out.symm.trans e) HH.out⟩
end
/-- Is a word nothing? -/
def zeroW (x : Int) : Bool := unOK x && noB (unF x) (unB x 0) (unB x 1) (unB x 7) (unB x 9) (unB x 5) (unB x 6)
def emp (ws : List Int) (t : Int) : Bool := (List.range 8).all fun i : Nat => zeroW (wd ws t (i : Int))
theorem emp_yes {ws : List Int} {t : Int} (h : ∀ i : Nat, i < 8 → zeroW (wd ws t (i : Int)) = true) : emp ws t = true := by
  unfold emp
  rw [List.all_eq_true]
  intro i hi
  exact h i (List.mem_range.1 hi)
theorem emp_no {ws : List Int} {t : Int} {i : Nat} (hi : i < 8) (h : zeroW (wd ws t (i : Int)) = false) : emp ws t = false := by
  cases e : emp ws t
  · rfl
  · unfold emp at e
    rw [List.all_eq_true] at e
    have := e i (List.mem_range.2 hi)
    rw [h] at this
    cases this
section
variable {w : World} {s : Seat} {v : Value} {ws L R : List Int}
set_option maxHeartbeats 1000000 in
theorem empty_any (h : Tab w s v ws L R) (t : Int) (ht : inT 4096 t 0 = true) : Calls Try.prog 40 #[.pointer (some ⟨s.x, 0, none⟩), .int .i64 t] w fun e w' => e = .returned (.bool (emp ws t)) ∧ Below w.heap.size w w' := by
  obtain ⟨hx, -, -⟩ := h.cells
  have hxs := h.top.lt
  have H := Lib.hid h
  have HT := Lib.hid ht
  clear h ht
  go_enter Try.func40, Try.ntmps40
  go_wp2
  go_loopw [8] (fun i wr => ∃ j : Nat, j ≤ 8 ∧ i = .int .i64 j ∧ (∀ k : Nat, k < j → zeroW (wd ws t (k : Int)) = true) ∧ Below w.heap.size w wr) (fun i _ => 8 - (intOf i).toNat)
  case atStart => exact ⟨0, by omega, rfl, fun k hk => absurd hk (Nat.not_lt_zero _), Below.refl _ _⟩
  case round =>
    obtain ⟨j, hj, rfl, hz, hb⟩ := hrel
    have HZ := Lib.hid hz
    have HB := Lib.hid hb
    by_cases hj8 : j < 8
    · have H1 := H.out.call hb
      obtain ⟨x0, -, -⟩ := H1.cells
      have hin : inT 4096 t j = true := by
        have := inT_iff.1 HT.out
        exact inT_iff.2 ⟨this.1, this.2.1, by omega, by omega⟩
      have hwd := word_any H1.ram t (j : Int)
      obtain ⟨x, ex⟩ : ∃ x, x = wd ws t (j : Int) := ⟨_, rfl⟩
      rw [← ex, show wdE 4096 x t j = unErr x by simp [wdE, hin]] at hwd
      have HX := Lib.hid ex
      clear hx H1 hz hb hin ex
      by_cases hok : unOK x = true
      · have he : unErr x = 0 := by simp [unErr, hok]
        rw [he] at hwd
        unfold unE at hwd
        clear he
        rcases kinds hok with ⟨k0, k1, k2, k3, k4, k5, k6⟩ | ⟨k1, k2⟩ | ⟨k1, k2, k3, k4⟩
        · -- nothing
          have HZW : Hid (zeroW x = true) := by show _ = _; simp [zeroW, hok, noB, k0, k1, k2, k3, k4, k5, k6]
          rw [k0, k1, k2, k3, k4, k5, k6] at hwd
          clear k0 k1 k2 k3 k4 k5 k6 hok
          go_wp2_with fail
          refine hwd.mono ?_
          rintro e w1 ⟨rfl, hb1⟩
          have HB1 := Lib.hid (HB.out.trans (hb1.mono HB.out.size))
          clear hb1 hwd
          go_wp2_with fail
          go_roundw
          case rel => exact ⟨j + 1, by omega, by go_num, fun k hk => by
            by_cases e : k = j
            · subst e; rw [← HX.out]; exact HZW.out
            · exact HZ.out k (by omega), HB1.out.alloc HB1.out.size _⟩
          case measure => simp [intOf]; omega
        · have HE : Hid (emp ws t = false) := emp_no hj8 (by rw [← HX.out]; simp [zeroW, noB, k1])
          rw [k1, k2] at hwd
          obtain ⟨f, ef⟩ : ∃ f, f = unF x := ⟨_, rfl⟩
          rw [← ef] at hwd
          obtain ⟨y1, ey1⟩ : ∃ y, y = unB x 1 := ⟨_, rfl⟩
          rw [← ey1] at hwd
          clear ey1
          obtain ⟨y7, ey7⟩ : ∃ y, y = unB x 7 := ⟨_, rfl⟩
          rw [← ey7] at hwd
          clear ey7
          obtain ⟨y5, ey5⟩ : ∃ y, y = unB x 5 := ⟨_, rfl⟩
          rw [← ey5] at hwd
          clear ey5
          obtain ⟨y6, ey6⟩ : ∃ y, y = unB x 6 := ⟨_, rfl⟩
          rw [← ey6] at hwd
          clear ey6
          clear k1 k2 hok ef
          go_wp2_with fail
          refine hwd.mono ?_
          rintro e w1 ⟨rfl, hb1⟩
          have HB1 := Lib.hid (HB.out.trans (hb1.mono HB.out.size))
          clear hb1 hwd
          go_wp2_with fail
          go_ret
          exact ⟨ret_bool HE.out.symm, HB1.out.alloc HB1.out.size _⟩
        · have HE : Hid (emp ws t = false) := emp_no hj8 (by rw [← HX.out]; simp [zeroW, noB, k2])
          rw [k1, k2, k3, k4] at hwd
          obtain ⟨f, ef⟩ : ∃ f, f = unF x := ⟨_, rfl⟩
          rw [← ef] at hwd
          obtain ⟨y5, ey5⟩ : ∃ y, y = unB x 5 := ⟨_, rfl⟩
          rw [← ey5] at hwd
          clear ey5
          obtain ⟨y6, ey6⟩ : ∃ y, y = unB x 6 := ⟨_, rfl⟩
          rw [← ey6] at hwd
          clear ey6
          clear k1 k2 k3 k4 hok ef
          go_wp2_with fail
          refine hwd.mono ?_
          rintro e w1 ⟨rfl, hb1⟩
          have HB1 := Lib.hid (HB.out.trans (hb1.mono HB.out.size))
          clear hb1 hwd
          go_wp2_with fail
          go_ret
          exact ⟨ret_bool HE.out.symm, HB1.out.alloc HB1.out.size _⟩
      · simp only [Bool.not_eq_true] at hok
        have HE : Hid (emp ws t = false) := emp_no hj8 (by rw [← HX.out]; simp [zeroW, hok])
        have he : unErr x = 5 := by simp [unErr, hok]
        rw [he] at hwd
        unfold unE at hwd
        obtain ⟨f, ef⟩ : ∃ f, f = unF x := ⟨_, rfl⟩
        rw [← ef] at hwd
        obtain ⟨y0, ey0⟩ : ∃ y, y = unB x 0 := ⟨_, rfl⟩
        rw [← ey0] at hwd
        clear ey0
        obtain ⟨y1, ey1⟩ : ∃ y, y = unB x 1 := ⟨_, rfl⟩
        rw [← ey1] at hwd
        clear ey1
        obtain ⟨y7, ey7⟩ : ∃ y, y = unB x 7 := ⟨_, rfl⟩
        rw [← ey7] at hwd
        clear ey7
        obtain ⟨y9, ey9⟩ : ∃ y, y = unB x 9 := ⟨_, rfl⟩
        rw [← ey9] at hwd
        clear ey9
        obtain ⟨y5, ey5⟩ : ∃ y, y = unB x 5 := ⟨_, rfl⟩
        rw [← ey5] at hwd
        clear ey5
        obtain ⟨y6, ey6⟩ : ∃ y, y = unB x 6 := ⟨_, rfl⟩
        rw [← ey6] at hwd
        clear ey6
        clear he hok ef
        go_wp2_with fail
        refine hwd.mono ?_
        rintro e w1 ⟨rfl, hb1⟩
        have HB1 := Lib.hid (HB.out.trans (hb1.mono HB.out.size))
        clear hb1 hwd
        go_wp2_with fail
        go_ret
        exact ⟨ret_bool HE.out.symm, HB1.out.alloc HB1.out.size _⟩
    · obtain rfl : j = 8 := by omega
      have HE : Hid (emp ws t = true) := emp_yes HZ.out
      clear hz hb
      go_wp2
      go_ret
      exact ⟨ret_bool HE.out.symm, HB.out⟩
end
end Go.Proofs.Ytnlimecbbockoaa
