/- What nil tables answer; a root that there is not. -/
import Derived.Test.YtnlimecbbockoaaMg37
import Derived.Test.YtnlimecbbockoaaMg40
namespace Go.Proofs.Ytnlimecbbockoaa
open Go.RowKit
theorem need_nil (r p o : Int) (w : World) : Calls Try.prog 22 #[.pointer none, .int .i64 r, .int .i64 p, .int .i64 o] w fun e w' => e = .returned (.tuple #[.int .i64 0, .int .i64 1]) ∧ w = w' := by
  go_enter Try.func22, Try.ntmps22
  go_wp2_with (go_at_call 38; refine (checkPlace_nil _ _ _ _).mono ?_; rintro e w' ⟨rfl, rfl⟩)
  go_ret2
  exact ⟨rfl, rfl⟩
theorem unmap_nil (r p o : Int) (w : World) : Calls Try.prog 16 #[.pointer none, .int .i64 r, .int .i64 p, .int .i64 o] w fun e w' => e = .returned (.tuple #[.agg #[.int .i64 0, .bool false, .bool false, .bool false, .bool false, .bool false, .bool false], .int .i64 1]) ∧ Below w.heap.size w w' := by
  obtain ⟨g, hg⟩ : ∃ g, g = w.heap.size := ⟨_, rfl⟩
  obtain ⟨w1, hw1⟩ : ∃ w1, w1 = w.alloc (.cells #[.int .i64 0, .bool false, .bool false, .bool false, .bool false, .bool false, .bool false] 28) := ⟨_, rfl⟩
  have b1 : Below w.heap.size w w1 := hw1 ▸ below_new w _ _
  have r1 : Row w1 g 28 [.int .i64 0, .bool false, .bool false, .bool false, .bool false, .bool false, .bool false] := by rw [hw1, hg]; exact Row.new w _ _
  obtain ⟨⟨c0, c1, c2, c3, c4, c5, c6⟩, af⟩ := r1.seven
  have HW := Lib.hid hw1
  have HG := Lib.hid hg
  have HB := Lib.hid b1
  clear hw1 hg b1 r1
  go_enter Try.func16, Try.ntmps16
  go_upto_region 1 with (fail)
  rw [← HW.out, ← HG.out]
  go_wp2_with (go_at_call 38; refine (checkPlace_nil _ _ _ _).mono ?_; rintro e w' ⟨rfl, rfl⟩)
  exact bodyPost_ret (v := .tuple #[.agg #[.int .i64 0, .bool false, .bool false, .bool false, .bool false, .bool false, .bool false], .int .i64 1]) (by simp [results, Try.results16, go_sem, *]) rfl ⟨rfl, below_7 HB.out (by have := HG.out; omega)⟩
theorem drop_nil (r : Int) (w : World) : Calls Try.prog 13 #[.pointer none, .int .i64 r] w fun e w' => e = .returned (.int .i64 1) ∧ w = w' := by
  go_enter Try.func13, Try.ntmps13
  go_wp2_with (go_at_call 26; refine (checkRoot_nil _ _).mono ?_; rintro e w' ⟨rfl, rfl⟩)
  go_ret
  exact ⟨rfl, rfl⟩
section
variable {w : World} {s : Seat} {v : Value} {ws L R : List Int}
theorem drop_no (h : Tab w s v ws L R) (r : Int) (hr : Fits r) (hin : r ∉ R) : Calls Try.prog 13 #[.pointer (some ⟨s.x, 0, none⟩), .int .i64 r] w fun e w' => e = .returned (.int .i64 3) ∧ Below w.heap.size w w' := by
  have hcr := checkRoot_any h r hr
  rw [show rtE R r = 3 from if_neg hin] at hcr
  clear h
  go_enter Try.func13, Try.ntmps13
  go_wp2_with fail
  refine hcr.mono ?_
  rintro e w1 ⟨rfl, hb⟩
  have HB := Lib.hid hb
  clear hcr hb
  go_wp2_with fail
  go_ret
  exact ⟨rfl, HB.out⟩
end
end Go.Proofs.Ytnlimecbbockoaa
