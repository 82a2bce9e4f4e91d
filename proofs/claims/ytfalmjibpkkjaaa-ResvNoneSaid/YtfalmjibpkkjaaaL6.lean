/- Reservations: what nil ones answer; ResvNone, walked. -/
import Derived.Test.YtfalmjibpkkjaaaL4
import Derived.Test.YtfalmjibpkkjaaaL0
import Derived.BigRegion
namespace Go.Proofs.Ytfalmjibpkkjaaa
open Go.RowKit
theorem nil_fill {s p : Int} (hp : Fits p) (w : World) : Calls Try.prog 14 #[.pointer none, .int .i64 s, .int .i64 p] w fun e w' => e = .returned (.tuple #[.int .i64 0, .int .i64 1]) ∧ Below w.heap.size w w' := by
  have hf := find_nil s p w
  have hpl := place_r hp w
  have HB := Lib.hid (Below.refl w.heap.size w)
  go_enter Try.func14, Try.ntmps14
  go_wp2_with (first | (go_at_call 32; (with_reducible refine hf.mono ?_); rintro e w1 ⟨rfl, rfl⟩) | (go_at_call 33; (with_reducible refine hpl.mono ?_); rintro e w2 ⟨rfl, rfl⟩))
  go_ret2
  exact ⟨rfl, HB.out⟩
theorem nil_clear {s p : Int} (hp : Fits p) (w : World) : Calls Try.prog 15 #[.pointer none, .int .i64 s, .int .i64 p] w fun e w' => e = .returned (.int .i64 1) ∧ Below w.heap.size w w' := by
  have hf := find_nil s p w
  have hpl := place_r hp w
  have HB := Lib.hid (Below.refl w.heap.size w)
  go_enter Try.func15, Try.ntmps15
  go_wp2_with (first | (go_at_call 32; (with_reducible refine hf.mono ?_); rintro e w1 ⟨rfl, rfl⟩) | (go_at_call 33; (with_reducible refine hpl.mono ?_); rintro e w2 ⟨rfl, rfl⟩))
  go_ret
  exact ⟨rfl, HB.out⟩
theorem nil_break (s p : Int) (w : World) : Calls Try.prog 16 #[.pointer none, .int .i64 s, .int .i64 p] w fun e w' => e = .returned (.tuple #[.slice none 0 0, .int .i64 1]) ∧ Below w.heap.size w w' := by
  have hf := find_nil s p w
  have HB := Lib.hid (Below.refl w.heap.size w)
  go_enter Try.func16, Try.ntmps16
  go_wp2_with (go_at_call 32; (with_reducible refine hf.mono ?_); rintro e w1 ⟨rfl, rfl⟩)
  go_ret2
  exact ⟨rfl, HB.out⟩
theorem nil_make (s p f : Int) (w : World) : Calls Try.prog 13 #[.pointer none, .int .i64 s, .int .i64 p, .int .i64 f] w fun e w' => e = .returned (.int .i64 1) ∧ Below w.heap.size w w' := by
  have HB := Lib.hid (Below.refl w.heap.size w)
  go_enter Try.func13, Try.ntmps13
  go_wp2_with fail
  go_ret
  exact ⟨rfl, HB.out⟩
theorem nil_keys (w : World) : Calls Try.prog 26 #[.pointer none] w fun e w' => e = .returned (.slice none 0 0) ∧ w = w' := by
  go_enter Try.func26, Try.ntmps26
  go_wp2_with fail
  go_ret
  exact ⟨rfl, rfl⟩
theorem nil_all (w : World) : Calls Try.prog 10 #[.pointer none] w fun e w' => e = .returned (.slice none 0 0) ∧ w = w' := by
  have hk := nil_keys w
  go_enter Try.func10, Try.ntmps10
  go_wp2_with (go_at_call 26; (with_reducible refine hk.mono ?_); rintro e w1 ⟨rfl, rfl⟩)
  go_loopw [3, 9] (fun l i wr => l = .slice none 0 0 ∧ i = .int .i64 0 ∧ w = wr) (fun _ _ _ => 0)
  case atStart => exact ⟨rfl, rfl, rfl⟩
  case round =>
    obtain ⟨rfl, rfl, rfl⟩ := hrel
    go_wp2_with fail
    go_ret
    exact ⟨rfl, rfl⟩
theorem nil_held (w : World) : Calls Try.prog 11 #[.pointer none] w fun e w' => e = .returned (.int .i64 0) ∧ Below w.heap.size w w' := by
  have hk := nil_all w
  have HB := Lib.hid (Below.refl w.heap.size w)
  go_enter Try.func11, Try.ntmps11
  go_wp2_with (go_at_call 10; (with_reducible refine hk.mono ?_); rintro e w1 ⟨rfl, rfl⟩)
  go_loopw [3, 9] (fun l i wr => l = .int .i64 0 ∧ i = .int .i64 0 ∧ w = wr) (fun _ _ _ => 0)
  case atStart => exact ⟨rfl, rfl, rfl⟩
  case round =>
    obtain ⟨rfl, rfl, rfl⟩ := hrel
    go_wp2_with fail
    go_ret
    exact ⟨rfl, HB.out⟩
def zR : Value := .agg #[.int .i64 0, .int .i64 0, .int .i64 0, .int .u8 0]
theorem nil_find (s p : Int) (w : World) : Calls Try.prog 22 #[.pointer none, .int .i64 s, .int .i64 p] w fun e w' => e = .returned (.tuple #[zR, .bool false]) ∧ Below w.heap.size w w' := by
  obtain ⟨W0, hW0⟩ : ∃ W0, W0 = w.alloc (.cells #[.int .i64 0, .int .i64 0, .int .i64 0, .int .u8 0] 31) := ⟨_, rfl⟩
  obtain ⟨z, hz⟩ : ∃ z, z = w.heap.size := ⟨_, rfl⟩
  have g0 : Below w.heap.size w W0 := by rw [hW0]; exact below_new _ _
  have r0 : Lrow W0 z 31 [.int .i64 0, .int .i64 0, .int .i64 0, .int .u8 0] := by rw [hW0, hz]; exact Lrow.new w _ _
  have HB : Hid (∀ (v0 v1 v2 v3 : Value), Below w.heap.size w ((((W0.setCell ⟨z, 0, none⟩ v0).setCell ⟨z, 1, none⟩ v1).setCell ⟨z, 2, none⟩ v2).setCell ⟨z, 3, none⟩ v3)) := fun v0 v1 v2 v3 =>
    ((((g0.setCell (by show w.heap.size ≤ z; omega) v0).setCell (by show w.heap.size ≤ z; omega) v1).setCell (by show w.heap.size ≤ z; omega) v2).setCell (by show w.heap.size ≤ z; omega) v3)
  have HW := Lib.hid (And.intro hW0 hz)
  have hf := find_nil s p W0
  have r1 := r0.set_ 0 (.int .i64 0)
  have r2 := r1.set_ 1 (.int .i64 0)
  have r3 := r2.set_ 2 (.int .i64 0)
  have r4 := r3.set_ 3 (.int .u8 0)
  have x0 := r0.cell 0
  have x1 := r1.cell 1
  have x2 := r2.cell 2
  have x3 := r3.cell 3
  have y0 := r0.frozen 0
  have y1 := r1.frozen 1
  have y2 := r2.frozen 2
  have y3 := r3.frozen 3
  have z0 := r4.cell 0
  have z1 := r4.cell 1
  have z2 := r4.cell 2
  have z3 := r4.cell 3
  clear r0 r1 r2 r3 r4 hW0 hz g0
  go_enter Try.func22, Try.ntmps22
  go_upto_region 1 with (fail)
  rw [← HW.out.1, ← HW.out.2]
  go_wp2_with (go_at_call 32; (with_reducible refine hf.mono ?_); rintro e w1 ⟨rfl, rfl⟩)
  exact bodyPost_ret (v := .tuple #[.agg #[.int .i64 0, .int .i64 0, .int .i64 0, .int .u8 0], .bool false]) (by simp [results, Try.results22, go_sem, *]) rfl ⟨rfl, HB.out _ _ _ _⟩
theorem nil_owner (f : Int) (w : World) : Calls Try.prog 23 #[.pointer none, .int .i64 f] w fun e w' => e = .returned (.tuple #[zR, .bool false]) ∧ Below w.heap.size w w' := by
  obtain ⟨W0, hW0⟩ : ∃ W0, W0 = w.alloc (.cells #[.int .i64 0, .int .i64 0, .int .i64 0, .int .u8 0] 31) := ⟨_, rfl⟩
  obtain ⟨z, hz⟩ : ∃ z, z = w.heap.size := ⟨_, rfl⟩
  have g0 : Below w.heap.size w W0 := by rw [hW0]; exact below_new _ _
  have r0 : Lrow W0 z 31 [.int .i64 0, .int .i64 0, .int .i64 0, .int .u8 0] := by rw [hW0, hz]; exact Lrow.new w _ _
  have HB : Hid (∀ (v0 v1 v2 v3 : Value), Below w.heap.size w ((((W0.setCell ⟨z, 0, none⟩ v0).setCell ⟨z, 1, none⟩ v1).setCell ⟨z, 2, none⟩ v2).setCell ⟨z, 3, none⟩ v3)) := fun v0 v1 v2 v3 =>
    ((((g0.setCell (by show w.heap.size ≤ z; omega) v0).setCell (by show w.heap.size ≤ z; omega) v1).setCell (by show w.heap.size ≤ z; omega) v2).setCell (by show w.heap.size ≤ z; omega) v3)
  have HW := Lib.hid (And.intro hW0 hz)
  have r1 := r0.set_ 0 (.int .i64 0)
  have r2 := r1.set_ 1 (.int .i64 0)
  have r3 := r2.set_ 2 (.int .i64 0)
  have r4 := r3.set_ 3 (.int .u8 0)
  have x0 := r0.cell 0
  have x1 := r1.cell 1
  have x2 := r2.cell 2
  have x3 := r3.cell 3
  have y0 := r0.frozen 0
  have y1 := r1.frozen 1
  have y2 := r2.frozen 2
  have y3 := r3.frozen 3
  have z0 := r4.cell 0
  have z1 := r4.cell 1
  have z2 := r4.cell 2
  have z3 := r4.cell 3
  clear r0 r1 r2 r3 r4 hW0 hz g0
  go_enter Try.func23, Try.ntmps23
  go_upto_region 1 with (fail)
  rw [← HW.out.1, ← HW.out.2]
  go_wp2_with fail
  exact bodyPost_ret (v := .tuple #[.agg #[.int .i64 0, .int .i64 0, .int .i64 0, .int .u8 0], .bool false]) (by simp [results, Try.results23, go_sem, *]) rfl ⟨rfl, HB.out _ _ _ _⟩
theorem nil_oldest (w : World) : Calls Try.prog 17 #[.pointer none] w fun e w' => e = .returned (.tuple #[zR, .bool false]) ∧ Below w.heap.size w w' := by
  obtain ⟨W0, hW0⟩ : ∃ W0, W0 = w.alloc (.cells #[.int .i64 0, .int .i64 0, .int .i64 0, .int .u8 0] 31) := ⟨_, rfl⟩
  obtain ⟨z, hz⟩ : ∃ z, z = w.heap.size := ⟨_, rfl⟩
  have g0 : Below w.heap.size w W0 := by rw [hW0]; exact below_new _ _
  have r0 : Lrow W0 z 31 [.int .i64 0, .int .i64 0, .int .i64 0, .int .u8 0] := by rw [hW0, hz]; exact Lrow.new w _ _
  have HB : Hid (∀ (v0 v1 v2 v3 : Value), Below w.heap.size w ((((W0.setCell ⟨z, 0, none⟩ v0).setCell ⟨z, 1, none⟩ v1).setCell ⟨z, 2, none⟩ v2).setCell ⟨z, 3, none⟩ v3)) := fun v0 v1 v2 v3 =>
    ((((g0.setCell (by show w.heap.size ≤ z; omega) v0).setCell (by show w.heap.size ≤ z; omega) v1).setCell (by show w.heap.size ≤ z; omega) v2).setCell (by show w.heap.size ≤ z; omega) v3)
  have HW := Lib.hid (And.intro hW0 hz)
  have hk := nil_keys W0
  have r1 := r0.set_ 0 (.int .i64 0)
  have r2 := r1.set_ 1 (.int .i64 0)
  have r3 := r2.set_ 2 (.int .i64 0)
  have r4 := r3.set_ 3 (.int .u8 0)
  have x0 := r0.cell 0
  have x1 := r1.cell 1
  have x2 := r2.cell 2
  have x3 := r3.cell 3
  have y0 := r0.frozen 0
  have y1 := r1.frozen 1
  have y2 := r2.frozen 2
  have y3 := r3.frozen 3
  have z0 := r4.cell 0
  have z1 := r4.cell 1
  have z2 := r4.cell 2
  have z3 := r4.cell 3
  clear r0 r1 r2 r3 r4 hW0 hz g0
  go_enter Try.func17, Try.ntmps17
  go_upto_region 1 with (fail)
  rw [← HW.out.1, ← HW.out.2]
  go_wp2_with (go_at_call 26; (with_reducible refine hk.mono ?_); rintro e w1 ⟨rfl, rfl⟩)
  exact bodyPost_ret (v := .tuple #[.agg #[.int .i64 0, .int .i64 0, .int .i64 0, .int .u8 0], .bool false]) (by simp [results, Try.results17, go_sem, *]) rfl ⟨rfl, HB.out _ _ _ _⟩
end Go.Proofs.Ytfalmjibpkkjaaa
