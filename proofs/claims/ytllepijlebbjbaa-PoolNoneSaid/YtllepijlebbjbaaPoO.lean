/- Pools: PoolNone, walked, over the nil calls as one structure. -/
import Derived.Test.YtllepijlebbjbaaPoM
import Derived.BigRegion
namespace Go.Proofs.Ytllepijlebbjbaa
open Go.RowKit
/-- What the calls of a nil pool answer. -/
structure NilI : Prop where
  shrink : ∀ w, Calls Try.prog 21 #[.pointer none] w fun e w' => e = .returned (.tuple #[.int .i64 0, .int .i64 1]) ∧ Below w.heap.size w w'
  take : ∀ w b, Calls Try.prog 22 #[.pointer none, .bool b] w fun e w' => e = .returned (.tuple #[.int .i64 0, .int .i64 1]) ∧ Below w.heap.size w w'
  give : ∀ w f b, Calls Try.prog 25 #[.pointer none, .int .i64 f, .bool b] w fun e w' => e = .returned (.tuple #[.bool false, .int .i64 1]) ∧ Below w.heap.size w w'
  free : ∀ w, Calls Try.prog 14 #[.pointer none] w fun e w' => ∃ A c, e = .returned (.slice A 0 c) ∧ Below w.heap.size w w'
  total : ∀ w, Calls Try.prog 16 #[.pointer none] w fun e w' => e = .returned (.int .i64 0) ∧ Below w.heap.size w w'
  promised : ∀ w, Calls Try.prog 18 #[.pointer none] w fun e w' => e = .returned (.int .i64 0) ∧ Below w.heap.size w w'
  surplus : ∀ w, Calls Try.prog 19 #[.pointer none] w fun e w' => e = .returned (.int .i64 0) ∧ Below w.heap.size w w'
  grow : ∀ w f, Calls Try.prog 23 #[.pointer none, .int .i64 f] w fun e w' => e = .returned (.int .i64 1) ∧ Below w.heap.size w w'
  extra : ∀ w f, Calls Try.prog 24 #[.pointer none, .int .i64 f] w fun e w' => e = .returned (.int .i64 1) ∧ Below w.heap.size w w'
  promise : ∀ w n, Calls Try.prog 26 #[.pointer none, .int .i64 n] w fun e w' => e = .returned (.int .i64 1) ∧ Below w.heap.size w w'
  unpromise : ∀ w n, Calls Try.prog 27 #[.pointer none, .int .i64 n] w fun e w' => e = .returned (.int .i64 1) ∧ Below w.heap.size w w'
set_option maxHeartbeats 16000000 in
set_option maxRecDepth 100000 in
theorem none_walk (I : PoI) (N : NilI) (l : Ac) (w : World) : Calls Try.prog 7 #[.agg #[.int .i64 l.k, .int .i64 l.f, .int .i64 l.n, .bool l.y]] w fun e w' => e = .returned (.bool true) ∧ Below w.heap.size w w' := by
  obtain ⟨W0, hW0⟩ : ∃ W0, W0 = w.alloc (.cells #[.int .i64 l.k, .int .i64 l.f, .int .i64 l.n, .bool l.y] 33) := ⟨_, rfl⟩
  obtain ⟨s, hs⟩ : ∃ s, s = w.heap.size := ⟨_, rfl⟩
  have g0 : Below w.heap.size w W0 := by rw [hW0]; exact below_new _ _
  have rs : Lrow W0 s 33 (acCells l) := by rw [hW0, hs]; exact Lrow.new w _ (acCells l)
  have HG0 := Lib.hid g0
  have HRS := Lib.hid rs
  have HW := Lib.hid (And.intro hW0 hs)
  clear hW0 hs g0 rs
  obtain ⟨K, Fr, Nn, Ye⟩ := l
  dsimp only [acCells] at HRS HW
  have HS : Hid (∀ w', Below W0.heap.size W0 w' → w'.cell? ⟨s, 1, none⟩ = some (.int .i64 Fr) ∧ w'.cell? ⟨s, 2, none⟩ = some (.int .i64 Nn) ∧ w'.cell? ⟨s, 3, none⟩ = some (.bool Ye)) := fun w' hb => ⟨(HRS.out.call hb).cell 1, (HRS.out.call hb).cell 2, (HRS.out.call hb).cell 3⟩
  have hs0 := HS.out W0 (Below.refl _ _)
  go_enter Try.func7, Try.ntmps7
  go_upto_region 1 with (fail)
  rw [← HW.out.1, ← HW.out.2]
  go_wp2_with fail
  refine (N.shrink _).mono ?_
  rintro e w1 ⟨rfl, hb⟩
  have HB1 := Lib.hid hb
  have hs1 := HS.out w1 HB1.out
  clear hs0 hb
  go_wp2_with fail
  refine (N.take _ _).mono ?_
  rintro e w2 ⟨rfl, hb⟩
  have HB2 := Lib.hid (HB1.out.trans (hb.mono HB1.out.size))
  have hs2 := HS.out w2 HB2.out
  clear hs1 hb
  go_wp2_with fail
  refine (N.give _ _ _).mono ?_
  rintro e w3 ⟨rfl, hb⟩
  have HB3 := Lib.hid (HB2.out.trans (hb.mono HB2.out.size))
  have hs3 := HS.out w3 HB3.out
  clear hs2 hb
  go_wp2_with fail
  refine (awake_any I _).mono ?_
  rintro e w4 ⟨rfl, hb⟩
  have HB4 := Lib.hid (HB3.out.trans (hb.mono HB3.out.size))
  have hs4 := HS.out w4 HB4.out
  clear hs3 hb
  go_wp2_with fail
  refine (N.free _).mono ?_
  rintro e w5 ⟨A5, c5, rfl, hb⟩
  have HB5 := Lib.hid (HB4.out.trans (hb.mono HB4.out.size))
  have hs5 := HS.out w5 HB5.out
  clear hs4 hb
  go_wp2_with fail
  refine (N.total _).mono ?_
  rintro e w6 ⟨rfl, hb⟩
  have HB6 := Lib.hid (HB5.out.trans (hb.mono HB5.out.size))
  have hs6 := HS.out w6 HB6.out
  clear hs5 hb
  go_wp2_with fail
  refine (N.promised _).mono ?_
  rintro e w7 ⟨rfl, hb⟩
  have HB7 := Lib.hid (HB6.out.trans (hb.mono HB6.out.size))
  have hs7 := HS.out w7 HB7.out
  clear hs6 hb
  go_wp2_with fail
  refine (N.surplus _).mono ?_
  rintro e w8 ⟨rfl, hb⟩
  have HB8 := Lib.hid (HB7.out.trans (hb.mono HB7.out.size))
  have hs8 := HS.out w8 HB8.out
  clear hs7 hb
  go_wp2_with fail
  refine (N.grow _ _).mono ?_
  rintro e w9 ⟨rfl, hb⟩
  have HB9 := Lib.hid (HB8.out.trans (hb.mono HB8.out.size))
  have hs9 := HS.out w9 HB9.out
  clear hs8 hb
  go_wp2_with fail
  refine (N.extra _ _).mono ?_
  rintro e w10 ⟨rfl, hb⟩
  have HB10 := Lib.hid (HB9.out.trans (hb.mono HB9.out.size))
  have hs10 := HS.out w10 HB10.out
  clear hs9 hb
  go_wp2_with fail
  refine (N.promise _ _).mono ?_
  rintro e w11 ⟨rfl, hb⟩
  have HB11 := Lib.hid (HB10.out.trans (hb.mono HB10.out.size))
  have hs11 := HS.out w11 HB11.out
  clear hs10 hb
  go_wp2_with fail
  refine (N.unpromise _ _).mono ?_
  rintro e w12 ⟨rfl, hb⟩
  have HB12 := Lib.hid (HB11.out.trans (hb.mono HB11.out.size))
  have hs12 := HS.out w12 HB12.out
  clear hs11 hb
  go_wp2_with fail
  go_ret
  exact ⟨rfl, HG0.out.trans (HB12.out.mono HG0.out.size)⟩
end Go.Proofs.Ytllepijlebbjbaa
