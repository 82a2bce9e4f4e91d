/- Objects: ObjectNone, walked, over the nil calls as one structure. -/
import Derived.Test.YtnpacdbkmpchnaaP9
import Derived.Deep.RegionHeld3
import Derived.BigRegion
namespace Go.Proofs.Ytnpacdbkmpchnaa
open Go.RowKit
/-- What the calls of nil objects answer. -/
structure NilI : Prop where
  make : ∀ w, Calls Try.prog 14 #[.pointer none] w fun e w' => e = .returned (.int .i64 0) ∧ Below w.heap.size w w'
  hold : ∀ (w : World) (i : Int), Calls Try.prog 16 #[.pointer none, .int .i64 i] w fun e w' => e = .returned (.int .i64 1) ∧ Below w.heap.size w w'
  drop : ∀ (w : World) (i : Int), Calls Try.prog 17 #[.pointer none, .int .i64 i] w fun e w' => ∃ A c, e = .returned (.tuple #[.slice A 0 c, .int .i64 1]) ∧ Below w.heap.size w w'
  set : ∀ (w : World) (i p f : Int), Calls Try.prog 15 #[.pointer none, .int .i64 i, .int .i64 p, .int .i64 f] w fun e w' => e = .returned (.int .i64 1) ∧ Below w.heap.size w w'
  change : ∀ (w : World) (a t : Int), Calls Try.prog 20 #[.pointer none, .int .i64 a, .int .i64 t] w fun e w' => e = .returned (.int .i64 1) ∧ Below w.heap.size w w'
  frame : ∀ (w : World) (i p : Int), Calls Try.prog 12 #[.pointer none, .int .i64 i, .int .i64 p] w fun e w' => e = .returned (.tuple #[.int .i64 0, .int .i64 1]) ∧ Below w.heap.size w w'
  owner : ∀ (w : World) (f : Int), Calls Try.prog 11 #[.pointer none, .int .i64 f] w fun e w' => e = .returned (.tuple #[.int .i64 0, .int .i64 0, .int .i64 1]) ∧ Below w.heap.size w w'
  frames : ∀ (w : World) (i : Int), Calls Try.prog 10 #[.pointer none, .int .i64 i] w fun e w' => ∃ A c, e = .returned (.slice A 0 c) ∧ Below w.heap.size w w'
  len : ∀ w, Calls Try.prog 18 #[.pointer none] w fun e w' => e = .returned (.int .i64 0) ∧ Below w.heap.size w w'
set_option maxHeartbeats 16000000 in
set_option maxRecDepth 100000 in
theorem none_walk (I : ObI) (N : NilI) (l : Ac) (w : World) : Calls Try.prog 6 #[.agg #[.int .i64 l.k, .int .i64 l.i, .int .i64 l.p, .int .i64 l.f, .int .i64 l.t]] w fun e w' => e = .returned (.bool true) ∧ Below w.heap.size w w' := by
  obtain ⟨W0, hW0⟩ : ∃ W0, W0 = w.alloc (.cells #[.int .i64 l.k, .int .i64 l.i, .int .i64 l.p, .int .i64 l.f, .int .i64 l.t] 51) := ⟨_, rfl⟩
  obtain ⟨s, hs⟩ : ∃ s, s = w.heap.size := ⟨_, rfl⟩
  have g0 : Below w.heap.size w W0 := by rw [hW0]; exact below_new _ _
  have rs : Lrow W0 s 51 (acCells l) := by rw [hW0, hs]; exact Lrow.new w _ (acCells l)
  have HG0 := Lib.hid g0
  have HRS := Lib.hid rs
  have HW := Lib.hid (And.intro hW0 hs)
  clear hW0 hs g0 rs
  obtain ⟨K, Id, Pg, Fr, To⟩ := l
  dsimp only [acCells] at HRS HW
  have HS : Hid (∀ w', Below W0.heap.size W0 w' → w'.cell? ⟨s, 1, none⟩ = some (.int .i64 Id) ∧ w'.cell? ⟨s, 2, none⟩ = some (.int .i64 Pg) ∧ w'.cell? ⟨s, 3, none⟩ = some (.int .i64 Fr) ∧ w'.cell? ⟨s, 4, none⟩ = some (.int .i64 To)) := fun w' hb => ⟨(HRS.out.call hb).cell 1, (HRS.out.call hb).cell 2, (HRS.out.call hb).cell 3, (HRS.out.call hb).cell 4⟩
  have hs0 := HS.out W0 (Below.refl _ _)
  go_enter Try.func6, Try.ntmps6
  go_upto_region 1 with (fail)
  rw [← HW.out.1, ← HW.out.2]
  go_wp2_with fail
  refine (N.drop _ _).mono ?_
  rintro e w1 ⟨A1, c1, rfl, hb1⟩
  have HB1 := Lib.hid hb1
  have hs1 := HS.out w1 hb1
  clear hs0 hb1
  go_wp2_with fail
  refine (N.frame _ _ _).mono ?_
  rintro e w2 ⟨rfl, hb2⟩
  have HB2 := Lib.hid (HB1.out.trans (hb2.mono HB1.out.size))
  have hs2 := HS.out w2 HB2.out
  clear hs1 hb2
  go_wp2_with fail
  refine (N.owner _ _).mono ?_
  rintro e w3 ⟨rfl, hb3⟩
  have HB3 := Lib.hid (HB2.out.trans (hb3.mono HB2.out.size))
  have hs3 := HS.out w3 HB3.out
  clear hs2 hb3
  go_wp2_with fail
  refine (awake_any I _).mono ?_
  rintro e w4 ⟨rfl, hb⟩
  have HB4 := Lib.hid (HB3.out.trans (hb.mono HB3.out.size))
  have hs4 := HS.out w4 HB4.out
  clear hs3 hb
  go_wp2_with fail
  refine (N.make _).mono ?_
  rintro e w5 ⟨rfl, hb⟩
  have HB5 := Lib.hid (HB4.out.trans (hb.mono HB4.out.size))
  have hs5 := HS.out w5 HB5.out
  clear hs4 hb
  go_wp2_with fail
  refine (N.frames _ _).mono ?_
  rintro e w6 ⟨A6, c6, rfl, hb⟩
  have HB6 := Lib.hid (HB5.out.trans (hb.mono HB5.out.size))
  have hs6 := HS.out w6 HB6.out
  clear hs5 hb
  go_wp2_with fail
  refine (N.len _).mono ?_
  rintro e w7 ⟨rfl, hb⟩
  have HB7 := Lib.hid (HB6.out.trans (hb.mono HB6.out.size))
  have hs7 := HS.out w7 HB7.out
  clear hs6 hb
  go_wp2_with fail
  refine (N.hold _ _).mono ?_
  rintro e w8 ⟨rfl, hb⟩
  have HB8 := Lib.hid (HB7.out.trans (hb.mono HB7.out.size))
  have hs8 := HS.out w8 HB8.out
  clear hs7 hb
  go_wp2_with fail
  refine (N.set _ _ _ _).mono ?_
  rintro e w9 ⟨rfl, hb⟩
  have HB9 := Lib.hid (HB8.out.trans (hb.mono HB8.out.size))
  have hs9 := HS.out w9 HB9.out
  clear hs8 hb
  go_wp2_with fail
  refine (N.change _ _ _).mono ?_
  rintro e w10 ⟨rfl, hb⟩
  have HB10 := Lib.hid (HB9.out.trans (hb.mono HB9.out.size))
  have hs10 := HS.out w10 HB10.out
  clear hs9 hb
  go_wp2_with fail
  go_ret
  exact ⟨rfl, HG0.out.trans (HB10.out.mono HG0.out.size)⟩
end Go.Proofs.Ytnpacdbkmpchnaa
