/- The contracts of package table on leaves that stand: find, findJust. -/
import Derived.Test.YtnlimecbbockoaaMg23
namespace Go.Proofs.Ytnlimecbbockoaa
open Go.RowKit
def zeroSt : Value := .agg #[.int .i64 0, .bool false, .bool false, .bool false, .bool false, .bool false, .bool false, .int .i64 0, .int .i64 0, .slice none 0 0, .slice none 0 0]
/-- A leaf that stands, as it is told: what a walk comes to, the tables on the way, the numbers. -/
def Stand (w : World) (r : Fd) (p : Int) (e : Ending) (w' : World) : Prop :=
  ∃ A m c A' m' c', e = .returned (.tuple #[.agg #[.int .i64 (lfF r), .bool (lfB r 0), .bool (lfB r 1), .bool (lfB r 7), .bool (lfB r 9), .bool (lfB r 5), .bool (lfB r 6), .int .i64 (lfV r), .int .i64 (lfP r p), .slice A m c, .slice A' m' c'], .int .i64 0]) ∧
    IntsAt w' w'.heap.size A m r.ts ∧ IntsAt w' w'.heap.size A' m' (dgL p) ∧ Below w.heap.size w w' ∧ Fresh w A ∧ Fresh w A' ∧ m ≤ c
theorem Fresh.mono {w w' : World} {A : Option Addr} (h : Fresh w' A) (hs : w.heap.size ≤ w'.heap.size) : Fresh w A := fun g e => Nat.le_trans hs (h g e)
theorem Row.eleven {w : World} {g : Nat} {t : TypeId} {x0 x1 x2 x3 x4 x5 x6 x7 x8 x9 x10 : Value} (h : Row w g t [x0, x1, x2, x3, x4, x5, x6, x7, x8, x9, x10]) :
    (w.cell? ⟨g, 0, none⟩ = some x0 ∧ w.cell? ⟨g, 1, none⟩ = some x1 ∧ w.cell? ⟨g, 2, none⟩ = some x2 ∧ w.cell? ⟨g, 3, none⟩ = some x3 ∧ w.cell? ⟨g, 4, none⟩ = some x4 ∧ w.cell? ⟨g, 5, none⟩ = some x5 ∧ w.cell? ⟨g, 6, none⟩ = some x6 ∧ w.cell? ⟨g, 7, none⟩ = some x7 ∧ w.cell? ⟨g, 8, none⟩ = some x8 ∧ w.cell? ⟨g, 9, none⟩ = some x9 ∧ w.cell? ⟨g, 10, none⟩ = some x10) ∧ (∀ o, w.frozen? ⟨g, o, none⟩ = false) :=
  ⟨⟨h.cell 0, h.cell 1, h.cell 2, h.cell 3, h.cell 4, h.cell 5, h.cell 6, h.cell 7, h.cell 8, h.cell 9, h.cell 10⟩, fun o => h.frozen o⟩
theorem Row.nine9 {w : World} {g : Nat} {t : TypeId} {x0 x1 x2 x3 x4 x5 x6 x7 x8 : Value} (h : Row w g t [x0, x1, x2, x3, x4, x5, x6, x7, x8]) :
    w.cell? ⟨g, 0, none⟩ = some x0 ∧ w.cell? ⟨g, 1, none⟩ = some x1 ∧ w.cell? ⟨g, 2, none⟩ = some x2 ∧ w.cell? ⟨g, 3, none⟩ = some x3 ∧ w.cell? ⟨g, 4, none⟩ = some x4 ∧ w.cell? ⟨g, 5, none⟩ = some x5 ∧ w.cell? ⟨g, 6, none⟩ = some x6 ∧ w.cell? ⟨g, 7, none⟩ = some x7 ∧ w.cell? ⟨g, 8, none⟩ = some x8 :=
  ⟨h.cell 0, h.cell 1, h.cell 2, h.cell 3, h.cell 4, h.cell 5, h.cell 6, h.cell 7, h.cell 8⟩
theorem ints_set {w : World} {A : Option Addr} {m g : Nat} {l : List Int} (h : IntsAt w w.heap.size A m l) (hg : ∀ a, A = some a → g ≠ a.block) (i : Nat) (u : Value) : IntsAt (w.setCell ⟨g, i, none⟩ u) (w.setCell ⟨g, i, none⟩ u).heap.size A m l := by
  have hs : (w.setCell ⟨g, i, none⟩ u).heap.size = w.heap.size := by simp [World.setCell]
  refine ⟨h.len, fun h0 => ?_⟩
  obtain ⟨a, rfl, ha, hc⟩ := h.at_ h0
  refine ⟨a, rfl, by rw [hs]; exact ha, fun j hj => ?_⟩
  have hb : (a.add j).block = a.block := by unfold Addr.add; split <;> rfl
  rw [← hc j hj]
  exact World.cell?_of_block (by rw [hb]; exact Below.heap_setCell w _ u a.block (fun e => hg a rfl e.symm))
theorem ints_11 {w : World} {A : Option Addr} {m g : Nat} {l : List Int} {x0 x1 x2 x3 x4 x5 x6 x7 x8 x9 x10 : Value} (h : IntsAt w w.heap.size A m l) (hg : ∀ a, A = some a → g ≠ a.block) :
    IntsAt (((((((((((w.setCell ⟨g, 0, none⟩ x0).setCell ⟨g, 1, none⟩ x1).setCell ⟨g, 2, none⟩ x2).setCell ⟨g, 3, none⟩ x3).setCell ⟨g, 4, none⟩ x4).setCell ⟨g, 5, none⟩ x5).setCell ⟨g, 6, none⟩ x6).setCell ⟨g, 7, none⟩ x7).setCell ⟨g, 8, none⟩ x8).setCell ⟨g, 9, none⟩ x9).setCell ⟨g, 10, none⟩ x10) (((((((((((w.setCell ⟨g, 0, none⟩ x0).setCell ⟨g, 1, none⟩ x1).setCell ⟨g, 2, none⟩ x2).setCell ⟨g, 3, none⟩ x3).setCell ⟨g, 4, none⟩ x4).setCell ⟨g, 5, none⟩ x5).setCell ⟨g, 6, none⟩ x6).setCell ⟨g, 7, none⟩ x7).setCell ⟨g, 8, none⟩ x8).setCell ⟨g, 9, none⟩ x9).setCell ⟨g, 10, none⟩ x10).heap.size A m l :=
  have k : ∀ {w : World}, IntsAt w w.heap.size A m l → ∀ (i : Nat) (u : Value), IntsAt (w.setCell ⟨g, i, none⟩ u) (w.setCell ⟨g, i, none⟩ u).heap.size A m l := fun h i u => ints_set h hg i u
  k (k (k (k (k (k (k (k (k (k (k h 0 _) 1 _) 2 _) 3 _) 4 _) 5 _) 6 _) 7 _) 8 _) 9 _) 10 _
section
variable {w : World} {s : Seat} {v : Value} {ws L R : List Int}
set_option maxRecDepth 100000 in
set_option maxHeartbeats 1600000 in
theorem find_bad (h : Tab w s v ws L R) (root p : Int) (he : (fol ws root p).er ≠ 0) : Calls Try.prog 27 #[.pointer (some ⟨s.x, 0, none⟩), .int .i64 root, .int .i64 p] w fun e w' => e = .returned (.tuple #[zeroSt, .int .i64 (fol ws root p).er]) ∧ Below w.heap.size w w' := by
  obtain ⟨g, hg⟩ : ∃ g, g = w.heap.size := ⟨_, rfl⟩
  obtain ⟨w1, hw1⟩ : ∃ w1, w1 = w.alloc (.cells #[.int .i64 0, .bool false, .bool false, .bool false, .bool false, .bool false, .bool false, .int .i64 0, .int .i64 0, .slice none 0 0, .slice none 0 0] 75) := ⟨_, rfl⟩
  have b1 : Below w.heap.size w w1 := hw1 ▸ below_new w 75 [.int .i64 0, .bool false, .bool false, .bool false, .bool false, .bool false, .bool false, .int .i64 0, .int .i64 0, .slice none 0 0, .slice none 0 0]
  have r1 : Row w1 g 75 [.int .i64 0, .bool false, .bool false, .bool false, .bool false, .bool false, .bool false, .int .i64 0, .int .i64 0, .slice none 0 0, .slice none 0 0] := by rw [hw1, hg]; exact Row.new w _ _
  have H1 := h.call b1
  obtain ⟨x0, -, -⟩ := H1.cells
  have hwk := walk_any H1.ram root p
  unfold WalkAns leafE at hwk
  obtain ⟨r, hr⟩ : ∃ r, r = fol ws root p := ⟨_, rfl⟩
  rw [← hr] at hwk he ⊢
  obtain ⟨z, ez⟩ : ∃ z, z = r.er := ⟨_, rfl⟩
  have hz : (z != 0) = true := by rw [ez]; simpa using he
  rw [← ez] at hwk ⊢
  obtain ⟨f, ef⟩ : ∃ y, y = lfF r := ⟨_, rfl⟩
  rw [← ef] at hwk
  clear ef
  obtain ⟨y0, ey0⟩ : ∃ y, y = lfB r 0 := ⟨_, rfl⟩
  rw [← ey0] at hwk
  clear ey0
  obtain ⟨y1, ey1⟩ : ∃ y, y = lfB r 1 := ⟨_, rfl⟩
  rw [← ey1] at hwk
  clear ey1
  obtain ⟨y7, ey7⟩ : ∃ y, y = lfB r 7 := ⟨_, rfl⟩
  rw [← ey7] at hwk
  clear ey7
  obtain ⟨y9, ey9⟩ : ∃ y, y = lfB r 9 := ⟨_, rfl⟩
  rw [← ey9] at hwk
  clear ey9
  obtain ⟨y5, ey5⟩ : ∃ y, y = lfB r 5 := ⟨_, rfl⟩
  rw [← ey5] at hwk
  clear ey5
  obtain ⟨y6, ey6⟩ : ∃ y, y = lfB r 6 := ⟨_, rfl⟩
  rw [← ey6] at hwk
  clear ey6
  obtain ⟨lv, elv⟩ : ∃ y, y = lfV r := ⟨_, rfl⟩
  rw [← elv] at hwk
  clear elv
  obtain ⟨fr, efr⟩ : ∃ y, y = lfP r p := ⟨_, rfl⟩
  rw [← efr] at hwk
  clear efr
  have HW := Lib.hid hw1
  have HG := Lib.hid hg
  have B1 := Lib.hid b1
  have R1 := Lib.hid r1
  clear hw1 hg b1 r1 H1 h he hr ez
  go_enter Try.func27, Try.ntmps27
  go_upto_region 1 with (fail)
  rw [← HW.out, ← HG.out]
  go_wp2_with fail
  refine hwk.mono ?_
  rintro e w2 ⟨rfl, hb2⟩
  obtain ⟨w3, hw3⟩ : ∃ w3, w3 = w2.alloc (.cells #[.int .i64 f, .bool y0, .bool y1, .bool y7, .bool y9, .bool y5, .bool y6, .int .i64 lv, .int .i64 fr] 30) := ⟨_, rfl⟩
  have b3 : Below w1.heap.size w1 w3 := by rw [hw3]; exact hb2.alloc hb2.size _
  have HW3 := Lib.hid hw3
  have B3 := Lib.hid (B1.out.trans (b3.mono B1.out.size))
  have r3 := R1.out.below b3 R1.out.lt
  obtain ⟨⟨c0, c1, c2, c3, c4, c5, c6, c7, c8, c9, c10⟩, hf⟩ := r3.eleven
  clear hwk hb2 hw3 b3 r3 R1 B1 x0
  go_upto_region 2 with (fail)
  rw [← HW3.out]
  go_wp2_with fail
  exact bodyPost_ret (v := .tuple #[zeroSt, .int .i64 z]) (by simp [results, Try.results27, go_sem, zeroSt, *]) rfl ⟨rfl, below_11 B3.out (by have := HG.out; omega)⟩
set_option maxRecDepth 100000 in
set_option maxHeartbeats 1600000 in
theorem find_ok (h : Tab w s v ws L R) (root p : Int) (he : (fol ws root p).er = 0) : Calls Try.prog 27 #[.pointer (some ⟨s.x, 0, none⟩), .int .i64 root, .int .i64 p] w (Stand w (fol ws root p) p) := by
  obtain ⟨g, hg⟩ : ∃ g, g = w.heap.size := ⟨_, rfl⟩
  obtain ⟨w1, hw1⟩ : ∃ w1, w1 = w.alloc (.cells #[.int .i64 0, .bool false, .bool false, .bool false, .bool false, .bool false, .bool false, .int .i64 0, .int .i64 0, .slice none 0 0, .slice none 0 0] 75) := ⟨_, rfl⟩
  have b1 : Below w.heap.size w w1 := hw1 ▸ below_new w 75 [.int .i64 0, .bool false, .bool false, .bool false, .bool false, .bool false, .bool false, .int .i64 0, .int .i64 0, .slice none 0 0, .slice none 0 0]
  have r1 : Row w1 g 75 [.int .i64 0, .bool false, .bool false, .bool false, .bool false, .bool false, .bool false, .int .i64 0, .int .i64 0, .slice none 0 0, .slice none 0 0] := by rw [hw1, hg]; exact Row.new w _ _
  have H1 := h.call b1
  obtain ⟨x0, -, -⟩ := H1.cells
  have hwk := walk_any H1.ram root p
  unfold WalkAns leafE at hwk
  obtain ⟨r, hr⟩ : ∃ r, r = fol ws root p := ⟨_, rfl⟩
  unfold Stand
  rw [← hr] at hwk he ⊢
  rw [he] at hwk
  have HR := Lib.hid hr
  obtain ⟨f, ef⟩ : ∃ y, y = lfF r := ⟨_, rfl⟩
  rw [← ef] at hwk ⊢
  clear ef
  obtain ⟨y0, ey0⟩ : ∃ y, y = lfB r 0 := ⟨_, rfl⟩
  rw [← ey0] at hwk ⊢
  clear ey0
  obtain ⟨y1, ey1⟩ : ∃ y, y = lfB r 1 := ⟨_, rfl⟩
  rw [← ey1] at hwk ⊢
  clear ey1
  obtain ⟨y7, ey7⟩ : ∃ y, y = lfB r 7 := ⟨_, rfl⟩
  rw [← ey7] at hwk ⊢
  clear ey7
  obtain ⟨y9, ey9⟩ : ∃ y, y = lfB r 9 := ⟨_, rfl⟩
  rw [← ey9] at hwk ⊢
  clear ey9
  obtain ⟨y5, ey5⟩ : ∃ y, y = lfB r 5 := ⟨_, rfl⟩
  rw [← ey5] at hwk ⊢
  clear ey5
  obtain ⟨y6, ey6⟩ : ∃ y, y = lfB r 6 := ⟨_, rfl⟩
  rw [← ey6] at hwk ⊢
  clear ey6
  obtain ⟨lv, elv⟩ : ∃ y, y = lfV r := ⟨_, rfl⟩
  rw [← elv] at hwk ⊢
  clear elv
  obtain ⟨fr, efr⟩ : ∃ y, y = lfP r p := ⟨_, rfl⟩
  rw [← efr] at hwk ⊢
  clear efr
  have HE := Lib.hid he
  have HW := Lib.hid hw1
  have HG := Lib.hid hg
  have B1 := Lib.hid b1
  have R1 := Lib.hid r1
  have HH1 := Lib.hid H1
  clear hw1 hg b1 r1 H1 h he hr
  go_enter Try.func27, Try.ntmps27
  go_upto_region 1 with (fail)
  rw [← HW.out, ← HG.out]
  go_wp2_with fail
  refine hwk.mono ?_
  rintro e w2 ⟨rfl, hb2⟩
  obtain ⟨w3, hw3⟩ : ∃ w3, w3 = w2.alloc (.cells #[.int .i64 f, .bool y0, .bool y1, .bool y7, .bool y9, .bool y5, .bool y6, .int .i64 lv, .int .i64 fr] 30) := ⟨_, rfl⟩
  obtain ⟨q, hq⟩ : ∃ q, q = w2.heap.size := ⟨_, rfl⟩
  have b3 : Below w1.heap.size w1 w3 := by rw [hw3]; exact hb2.alloc hb2.size _
  have l3 : Row w3 q 30 [.int .i64 f, .bool y0, .bool y1, .bool y7, .bool y9, .bool y5, .bool y6, .int .i64 lv, .int .i64 fr] := by rw [hw3, hq]; exact Row.new w2 _ _
  have HW3 := Lib.hid hw3
  have HQ := Lib.hid hq
  have B3 := Lib.hid (B1.out.trans (b3.mono B1.out.size))
  have R3 := Lib.hid (R1.out.below b3 R1.out.lt)
  have L3 := Lib.hid l3
  have H3 := Lib.hid (HH1.out.call b3)
  clear hwk hb2 hw3 b3 l3 R1 B1 x0 hq HH1
  go_upto_region 2 with (fail)
  rw [← HW3.out, ← HQ.out]
  have hpn := path_new H3.out.ram root p
  unfold PathNew at hpn
  rw [← HR.out, HE.out] at hpn
  obtain ⟨x0, -, -⟩ := H3.out.cells
  go_wp2_with fail
  refine hpn.mono ?_
  rintro e w4 ⟨A, m, c, rfl, hi, hb4, hn4, hcap⟩
  have HCAP := Lib.hid hcap
  have B4 := Lib.hid (B3.out.trans (hb4.mono B3.out.size))
  have R4 := Lib.hid (R3.out.below hb4 R3.out.lt)
  have L4 := Lib.hid (L3.out.below hb4 L3.out.lt)
  have HI := Lib.hid hi
  have HX4 : Hid (∀ a, A = some a → g ≠ a.block) := fun a e => by have := hn4 a e; have := R3.out.lt; omega
  have HN4 : Hid (Fresh w A) := Fresh.mono hn4 B3.out.size
  clear hpn hi hb4 hn4 hcap x0 R3 L3 H3 B3
  go_wp2_with fail
  refine (digits_new p _).mono ?_
  rintro e w5 ⟨A', m', c', rfl, hi5, hb5, hn5⟩
  have B5 := Lib.hid (B4.out.trans (hb5.mono B4.out.size))
  have r5 := R4.out.below hb5 R4.out.lt
  have l5 := L4.out.below hb5 L4.out.lt
  have HI4 := Lib.hid (HI.out.call hb5)
  have HI5 := Lib.hid hi5
  have HX5 : Hid (∀ a, A' = some a → g ≠ a.block) := fun a e => by have := hn5 a e; have := R4.out.lt; omega
  have HN5 : Hid (Fresh w A') := Fresh.mono hn5 B4.out.size
  obtain ⟨⟨c0, c1, c2, c3, c4, c5, c6, c7, c8, c9, c10⟩, hf⟩ := r5.eleven
  obtain ⟨d0, d1, d2, d3, d4, d5, d6, d7, d8⟩ := l5.nine9
  have hne : ¬ g = q := r5.apart l5 (by decide)
  have hne2 : ¬ q = g := fun e => hne e.symm
  have HGL := Lib.hid r5.lt
  clear hi5 hb5 hn5 r5 l5 R4 L4 B4 HI
  go_wp2_with fail
  exact bodyPost_ret (v := .tuple #[.agg #[.int .i64 f, .bool y0, .bool y1, .bool y7, .bool y9, .bool y5, .bool y6, .int .i64 lv, .int .i64 fr, .slice A m c, .slice A' m' c'], .int .i64 0]) (by simp [results, Try.results27, go_sem, *]) rfl ⟨A, m, c, A', m', c', rfl, ints_11 HI4.out (fun a e => HX4.out a e), ints_11 HI5.out (fun a e => HX5.out a e), below_11 B5.out (by have := HG.out; omega), HN4.out, HN5.out, HCAP.out⟩
end
end Go.Proofs.Ytnlimecbbockoaa
