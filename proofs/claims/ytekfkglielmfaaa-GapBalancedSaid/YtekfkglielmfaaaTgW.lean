/- GapNone, GapRooms, walked. -/
import Derived.Test.YtekfkglielmfaaaTgV
namespace Go.Proofs.Ytekfkglielmfaaa
open Go.RowKit
set_option maxHeartbeats 8000000 in
set_option maxRecDepth 100000 in
theorem none_walk (a : Ac) (k : Ak) (w : World) : Calls Try.prog 9 #[.agg #[.int .i64 a.k, .int .i64 a.f, .int .i64 a.t, .int .i64 a.n], .agg #[.int .i64 k.u, .int .i64 k.n, .int .i64 k.o]] w fun e w' => e = .returned (.bool true) ∧ Below w.heap.size w w' := by
  obtain ⟨w0, hw0⟩ : ∃ w0, w0 = w.alloc (.cells #[.int .i64 a.k, .int .i64 a.f, .int .i64 a.t, .int .i64 a.n] 54) := ⟨_, rfl⟩
  obtain ⟨W0, hW0⟩ : ∃ W0, W0 = w0.alloc (.cells #[.int .i64 k.u, .int .i64 k.n, .int .i64 k.o] 40) := ⟨_, rfl⟩
  obtain ⟨q, hq⟩ : ∃ q, q = w.heap.size := ⟨_, rfl⟩
  have s0 : w0.heap.size = q + 1 := by rw [hw0, hq]; simp
  have b0 : Below w.heap.size w w0 := by rw [hw0]; exact below_new _ _
  have b1 : Below w0.heap.size w0 W0 := by rw [hW0]; exact below_new _ _
  have r0 : Lrow w0 q 54 [.int .i64 a.k, .int .i64 a.f, .int .i64 a.t, .int .i64 a.n] := by rw [hw0, hq]; exact Lrow.new w _ _
  have r1 : Lrow W0 (q + 1) 40 [.int .i64 k.u, .int .i64 k.n, .int .i64 k.o] := by rw [hW0, ← s0]; exact Lrow.new w0 _ _
  have rs := r0.call b1
  obtain ⟨ak, af, at_, an⟩ := a
  obtain ⟨ku, kn, ko⟩ := k
  dsimp only at *
  have HR := Lib.hid (And.intro rs r1)
  have HB := Lib.hid (b0.trans (b1.mono b0.size))
  have HW := Lib.hid (And.intro hw0 (And.intro hW0 hq))
  have q1 := rs.cell 1
  have q2 := rs.cell 2
  have z0 := r1.cell 0
  have z1 := r1.cell 1
  have z2 := r1.cell 2
  have hF := find_n af W0
  have hR := room_nil ku kn ko W0
  have zz : IntKind.i64.wrap 0 = 0 := rfl
  clear hw0 hW0 hq s0 b0 b1 r0 r1 rs
  go_enter Try.func9, Try.ntmps9
  go_upto_region 1 with (fail)
  rw [← HW.out.1, ← HW.out.2.1, ← HW.out.2.2]
  go_upto_region 4 with (first | (go_at_call 12; (with_reducible refine hF.mono ?_); rintro e w1 ⟨rfl, rfl⟩) | (go_at_call 19; (with_reducible refine hR.mono ?_); rintro e w2 ⟨rfl, b2⟩) | fail)
  have HB2 := Lib.hid b2
  have hA := awake_any w2
  clear hF hR b2 q1 q2 z0 z1 z2
  go_wp2_with fail
  refine hA.mono ?_
  rintro e w3 ⟨rfl, b3⟩
  have HB3 := Lib.hid (HB2.out.trans (b3.mono HB2.out.size))
  have rs3 := HR.out.1.call HB3.out
  have q1 := rs3.cell 1
  have q2 := rs3.cell 2
  have hG := greatest_n w3
  have hL := len_n w3
  clear hA b3 rs3
  go_wp2_with (first | (go_at_call 17; (with_reducible refine hG.mono ?_); rintro e w4 ⟨rfl, rfl⟩) | fail)
  refine hL.mono ?_
  rintro e w5 ⟨rfl, b5⟩
  have HB5 := Lib.hid (HB3.out.trans (b5.mono HB3.out.size))
  have hH := height_n w5
  have hA := all_n w5
  clear hL b5 q1 q2 hG
  go_wp2_with (first | (go_at_call 24; (with_reducible refine hH.mono ?_); rintro e w4 ⟨rfl, rfl⟩) | fail)
  refine hA.mono ?_
  rintro e w6 ⟨A, c, rfl, b6⟩
  have HB6 := Lib.hid (HB5.out.trans (b6.mono HB5.out.size))
  have rs6 := HR.out.1.call HB6.out
  have q1 := rs6.cell 1
  have q2 := rs6.cell 2
  have h1 := put_n af at_ w6
  have h2 := del_n af at_ w6
  have h3 := cut_n af at_ w6
  clear hA b6 rs6 hH
  go_wp2_with (first | (go_at_call 23; (with_reducible refine h1.mono ?_); rintro e w7 ⟨rfl, rfl⟩) | (go_at_call 26; (with_reducible refine h2.mono ?_); rintro e w7 ⟨rfl, rfl⟩) | (go_at_call 27; (with_reducible refine h3.mono ?_); rintro e w7 ⟨rfl, rfl⟩) | fail)
  go_ret
  exact ⟨rfl, HB.out.trans (HB6.out.mono HB.out.size)⟩
set_option maxHeartbeats 8000000 in
set_option maxRecDepth 100000 in
theorem rooms_walk (A : Option Addr) (n c : Nat) (k : Ak) (w : World) (hA : Acs w w.heap.size A n) : Calls Try.prog 4 #[.slice A n c, .agg #[.int .i64 k.u, .int .i64 k.n, .int .i64 k.o]] w fun e w' => e = .returned (.bool true) ∧ Below w.heap.size w w' := by
  obtain ⟨M, hM, hA⟩ := hA.list
  obtain ⟨W0, hW0⟩ : ∃ W0, W0 = w.alloc (.cells #[.int .i64 k.u, .int .i64 k.n, .int .i64 k.o] 40) := ⟨_, rfl⟩
  obtain ⟨q, hq⟩ : ∃ q, q = w.heap.size := ⟨_, rfl⟩
  have b0 : Below w.heap.size w W0 := by rw [hW0]; exact below_new _ _
  have rs : Lrow W0 q 40 [.int .i64 k.u, .int .i64 k.n, .int .i64 k.o] := by rw [hW0, hq]; exact Lrow.new w _ _
  obtain ⟨ku, kn, ko⟩ := k
  dsimp only at *
  have hmade := made_any A n c w.heap.size M W0 hM (hA.below b0) b0.size
  have HR := Lib.hid rs
  have HB := Lib.hid b0
  have HW := Lib.hid (And.intro hW0 hq)
  clear hW0 hq b0 rs hA hM
  go_enter Try.func4, Try.ntmps4
  go_upto_region 1 with (fail)
  rw [← HW.out.1, ← HW.out.2]
  go_wp2_with fail
  refine hmade.mono ?_
  rintro e w1 ⟨t, x, rfl, L, hlen, hst, b1⟩
  have HS1 := Lib.hid (And.intro hst (And.intro hlen b1))
  have h2 := awake_any w1
  clear hmade hst hlen b1
  go_wp2_with fail
  refine h2.mono ?_
  rintro e w2 ⟨rfl, b2⟩
  have HB2 := Lib.hid (HS1.out.2.2.trans (b2.mono HS1.out.2.2.size))
  have hst := HS1.out.1.call b2
  have hR := room_t hst.1 ku kn ko
  have rs2 := HR.out.call HB2.out
  have z0 := rs2.cell 0
  have z1 := rs2.cell 1
  have z2 := rs2.cell 2
  have HS2 := Lib.hid hst
  clear h2 b2 hst rs2
  go_wp2_with fail
  refine hR.mono ?_
  rintro e w3 ⟨p, er, rfl, hr, b3⟩
  have HB3 := Lib.hid (HB2.out.trans (b3.mono HB2.out.size))
  have hst := HS2.out.call b3
  obtain ⟨v, hv⟩ := hst.2.1
  have hR2 := rroom hv (by have := HS1.out.2.1; omega) hst.ok ku kn ko
  have rs3 := HR.out.call HB3.out
  have z0 := rs3.cell 0
  have z1 := rs3.cell 1
  have z2 := rs3.cell 2
  have HRM := Lib.hid hr
  clear hR b3 hst rs3 hv hr
  go_wp2_with fail
  refine hR2.mono ?_
  rintro e w4 ⟨p', er', rfl, hr', b4⟩
  obtain ⟨e1, e2⟩ := HRM.out.one hr'
  subst e1
  subst e2
  have HB4 := Lib.hid (HB3.out.trans (b4.mono HB3.out.size))
  clear hR2 b4 hr' z0 z1 z2
  go_wp2_with fail
  go_ret
  exact ⟨rfl, HB.out.trans (HB4.out.mono HB.out.size)⟩
end Go.Proofs.Ytekfkglielmfaaa
