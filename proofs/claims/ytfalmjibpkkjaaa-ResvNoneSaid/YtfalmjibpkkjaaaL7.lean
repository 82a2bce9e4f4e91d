/- Reservations: ResvNone, walked. -/
import Derived.Test.YtfalmjibpkkjaaaL6
namespace Go.Proofs.Ytfalmjibpkkjaaa
open Go.RowKit
set_option maxHeartbeats 16000000 in
set_option maxRecDepth 100000 in
theorem none_walk {l : Ac} (hl : IsAc l) (w : World) : Calls Try.prog 6 #[.agg #[.int .i64 l.k, .int .i64 l.s, .int .i64 l.p, .int .i64 l.f]] w fun e w' => e = .returned (.bool true) ∧ Below w.heap.size w w' := by
  obtain ⟨W0, hW0⟩ : ∃ W0, W0 = w.alloc (.cells #[.int .i64 l.k, .int .i64 l.s, .int .i64 l.p, .int .i64 l.f] 56) := ⟨_, rfl⟩
  obtain ⟨s, hs⟩ : ∃ s, s = w.heap.size := ⟨_, rfl⟩
  have g0 : Below w.heap.size w W0 := by rw [hW0]; exact below_new _ _
  have rs : Lrow W0 s 56 (acCells l) := by rw [hW0, hs]; exact Lrow.new w _ (acCells l)
  have HG0 := Lib.hid g0
  have HRS := Lib.hid rs
  have HW := Lib.hid (And.intro hW0 hs)
  have HF := Lib.hid hl
  clear hW0 hs g0 rs hl
  obtain ⟨K, Sp, Pg, Fr⟩ := l
  dsimp only [acCells] at HRS HW HF
  have HS : Hid (∀ w', Below W0.heap.size W0 w' → w'.cell? ⟨s, 1, none⟩ = some (.int .i64 Sp) ∧ w'.cell? ⟨s, 2, none⟩ = some (.int .i64 Pg) ∧ w'.cell? ⟨s, 3, none⟩ = some (.int .i64 Fr)) := fun w' hb => ⟨(HRS.out.call hb).cell 1, (HRS.out.call hb).cell 2, (HRS.out.call hb).cell 3⟩
  have hs0 := HS.out W0 (Below.refl _ _)
  have hc := nil_fill (s := Sp) HF.out.p W0
  go_enter Try.func6, Try.ntmps6
  go_upto_region 1 with (fail)
  rw [← HW.out.1, ← HW.out.2]
  go_wp2_with fail
  refine hc.mono ?_
  rintro e w1 ⟨rfl, hb⟩
  have HB1 := Lib.hid hb
  have hs1 := HS.out w1 HB1.out
  have hc := nil_break Sp Pg w1
  clear hs0 hb
  go_wp2_with fail
  refine hc.mono ?_
  rintro e w2 ⟨rfl, hb⟩
  have HB2 := Lib.hid (HB1.out.trans (hb.mono HB1.out.size))
  have hs2 := HS.out w2 HB2.out
  have hc := nil_find Sp Pg w2
  unfold zR at hc
  clear hs1 hb
  go_wp2_with fail
  refine hc.mono ?_
  rintro e w3 ⟨rfl, hb⟩
  have HB3 := Lib.hid (HB2.out.trans (hb.mono HB2.out.size))
  obtain ⟨x, hx⟩ : ∃ x, x = w3.heap.size := ⟨_, rfl⟩
  obtain ⟨W3, hW3⟩ : ∃ W3, W3 = w3.alloc (.cells #[.int .i64 0, .int .i64 0, .int .i64 0, .int .u8 0] 31) := ⟨_, rfl⟩
  have HX : Hid (Lrow W3 x 31 [.int .i64 0, .int .i64 0, .int .i64 0, .int .u8 0]) := by rw [hW3, hx]; exact Lrow.new w3 _ _
  have HB3' : Hid (Below W0.heap.size W0 W3) := by rw [hW3]; exact HB3.out.alloc HB3.out.size _
  have HW3 := Lib.hid (And.intro hW3 hx)
  have hs3 := HS.out W3 HB3'.out
  have hc := nil_owner Fr W3
  unfold zR at hc
  clear hs2 hb hW3 hx
  go_upto_region 5 with fail
  rw [← HW3.out.1, ← HW3.out.2]
  go_wp2_with fail
  refine hc.mono ?_
  rintro e w4 ⟨rfl, hb⟩
  have HX4 := Lib.hid (HX.out.call hb)
  have HB4 := Lib.hid (HB3'.out.trans (hb.mono HB3'.out.size))
  obtain ⟨y, hy⟩ : ∃ y, y = w4.heap.size := ⟨_, rfl⟩
  obtain ⟨W4, hW4⟩ : ∃ W4, W4 = w4.alloc (.cells #[.int .i64 0, .int .i64 0, .int .i64 0, .int .u8 0] 31) := ⟨_, rfl⟩
  have HY : Hid (Lrow W4 y 31 [.int .i64 0, .int .i64 0, .int .i64 0, .int .u8 0]) := by rw [hW4, hy]; exact Lrow.new w4 _ _
  have HX4' : Hid (Lrow W4 x 31 [.int .i64 0, .int .i64 0, .int .i64 0, .int .u8 0]) := by rw [hW4]; exact HX4.out.call (below_new _ _)
  have HB4' : Hid (Below W0.heap.size W0 W4) := by rw [hW4]; exact HB4.out.alloc HB4.out.size _
  have HW4 := Lib.hid (And.intro hW4 hy)
  have hc := nil_oldest W4
  unfold zR at hc
  clear hs3 hb hW4 hy
  go_upto_region 6 with fail
  rw [← HW4.out.1, ← HW4.out.2]
  go_wp2_with fail
  refine hc.mono ?_
  rintro e w5 ⟨rfl, hb⟩
  have HX5 := Lib.hid (HX4'.out.call hb)
  have HY5 := Lib.hid (HY.out.call hb)
  have HB5 := Lib.hid (HB4'.out.trans (hb.mono HB4'.out.size))
  obtain ⟨z, hz⟩ : ∃ z, z = w5.heap.size := ⟨_, rfl⟩
  obtain ⟨W5, hW5⟩ : ∃ W5, W5 = w5.alloc (.cells #[.int .i64 0, .int .i64 0, .int .i64 0, .int .u8 0] 31) := ⟨_, rfl⟩
  have HZ : Hid (Lrow W5 z 31 [.int .i64 0, .int .i64 0, .int .i64 0, .int .u8 0]) := by rw [hW5, hz]; exact Lrow.new w5 _ _
  have HX5' : Hid (Lrow W5 x 31 [.int .i64 0, .int .i64 0, .int .i64 0, .int .u8 0]) := by rw [hW5]; exact HX5.out.call (below_new _ _)
  have HY5' : Hid (Lrow W5 y 31 [.int .i64 0, .int .i64 0, .int .i64 0, .int .u8 0]) := by rw [hW5]; exact HY5.out.call (below_new _ _)
  have HB5' : Hid (Below W0.heap.size W0 W5) := by rw [hW5]; exact HB5.out.alloc HB5.out.size _
  have HW5 := Lib.hid (And.intro hW5 hz)
  clear hb hW5 hz
  have hak := awake_any W5
  go_wp2_with fail
  rw [← HW5.out.1, ← HW5.out.2]
  refine hak.mono ?_
  rintro e w6 ⟨rfl, hb⟩
  have HB6 := Lib.hid (hb)
  have hc := nil_held w6
  clear hb hak
  go_wp2_with fail
  refine hc.mono ?_
  rintro e w7 ⟨rfl, hb⟩
  have HB7 := Lib.hid (HB6.out.trans (hb.mono HB6.out.size))
  have hc := nil_all w7
  have hs7 := HS.out w7 (HB5'.out.trans (HB7.out.mono HB5'.out.size))
  clear hb
  go_wp2_with fail
  refine hc.mono ?_
  rintro e w8 ⟨rfl, rfl⟩
  have hc := nil_make Sp Pg Fr w7
  go_wp2_with fail
  refine hc.mono ?_
  rintro e w8 ⟨rfl, hb⟩
  have HB8 := Lib.hid (HB7.out.trans (hb.mono HB7.out.size))
  have hs8 := HS.out w8 (HB5'.out.trans (HB8.out.mono HB5'.out.size))
  have hc := nil_clear (s := Sp) HF.out.p w8
  clear hb hs7
  go_wp2_with fail
  refine hc.mono ?_
  rintro e w9 ⟨rfl, hb⟩
  have HB9 := Lib.hid (HB8.out.trans (hb.mono HB8.out.size))
  have x9 := HX5'.out.call HB9.out
  have y9 := HY5'.out.call HB9.out
  have z9 := HZ.out.call HB9.out
  have a0 := x9.cell 0
  have a1 := x9.cell 1
  have a2 := x9.cell 2
  have a3 := x9.cell 3
  have b0 := y9.cell 0
  have b1 := y9.cell 1
  have b2 := y9.cell 2
  have b3 := y9.cell 3
  have d0 := z9.cell 0
  have d1 := z9.cell 1
  have d2 := z9.cell 2
  have d3 := z9.cell 3
  clear hb hs8 x9 y9 z9
  go_wp2_with fail
  go_ret
  exact ⟨ret_bool (by simp), HG0.out.trans ((HB5'.out.trans (HB9.out.mono HB5'.out.size)).mono HG0.out.size)⟩
end Go.Proofs.Ytfalmjibpkkjaaa
