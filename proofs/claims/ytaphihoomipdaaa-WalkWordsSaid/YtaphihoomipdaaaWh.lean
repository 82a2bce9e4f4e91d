/- The law's own first calls come as the document says. -/
import Derived.Test.YtaphihoomipdaaaWg
namespace Go.Proofs.Ytaphihoomipdaaa
open Go.RowKit
def aW0 : List Int := List.replicate 192 0
def aW1 : List Int := ptL aW0 0 0 0 4097
def aW2 : List Int := ptL aW1 1 0 0 8193
def aW3 : List Int := ptL aW2 2 1 0 32897
def aWr : Fd := ⟨0, 1, 32897, [0, 1, 2], 1⟩
theorem aW_fol : fol aW3 0 11 = aWr := by kernel_rfl
theorem new_24 (w : World) : Calls Try.prog 15 #[.int .i64 24] w (Made w 75 192) := made_new 24 w (by omega) (by omega)
section
variable {w : World} {a b : Nat} {T : TypeId}
theorem aw_put1 (h : RamAt w a b T 192 aW0) : Calls Try.prog 13 #[.pointer (some ⟨a, 0, none⟩), .int .i64 0, .int .i64 0, .agg #[.int .i64 1, .bool true, .bool false, .bool false, .bool false, .bool false, .bool false]] w fun e w' => e = .returned (.int .i64 0) ∧ RamAt w' a b T 192 aW1 ∧ w.grownBy w' (some b) := by
  have k := put_entry h 0 0 1 true false false false false false
  rwa [show chkI 1 true false false false false false = 0 from by decide, show packI 1 true false false false false false = 4097 from by decide, show ptE 192 0 0 0 = 0 from by decide] at k
theorem aw_put2 (h : RamAt w a b T 192 aW1) : Calls Try.prog 13 #[.pointer (some ⟨a, 0, none⟩), .int .i64 1, .int .i64 0, .agg #[.int .i64 2, .bool true, .bool false, .bool false, .bool false, .bool false, .bool false]] w fun e w' => e = .returned (.int .i64 0) ∧ RamAt w' a b T 192 aW2 ∧ w.grownBy w' (some b) := by
  have k := put_entry h 1 0 2 true false false false false false
  rwa [show chkI 2 true false false false false false = 0 from by decide, show packI 2 true false false false false false = 8193 from by decide, show ptE 192 0 1 0 = 0 from by decide] at k
theorem aw_put3 (h : RamAt w a b T 192 aW2) : Calls Try.prog 13 #[.pointer (some ⟨a, 0, none⟩), .int .i64 2, .int .i64 1, .agg #[.int .i64 8, .bool true, .bool false, .bool true, .bool false, .bool false, .bool false]] w fun e w' => e = .returned (.int .i64 0) ∧ RamAt w' a b T 192 aW3 ∧ w.grownBy w' (some b) := by
  have k := put_entry h 2 1 8 true false true false false false
  rwa [show chkI 8 true false true false false false = 0 from by decide, show packI 8 true false true false false false = 32897 from by decide, show ptE 192 0 2 1 = 0 from by decide] at k
theorem aw_walk (h : RamAt w a b T 192 aW3) : Calls Try.prog 11 #[.pointer (some ⟨a, 0, none⟩), .int .i64 0, .int .i64 11] w fun e w' => e = .returned (.tuple #[.agg #[.int .i64 8, .bool true, .bool false, .bool true, .bool false, .bool false, .bool false, .int .i64 1, .int .i64 11], .int .i64 0]) ∧ Below w.heap.size w w' := by
  have k := walk_any h 0 11
  rw [aW_fol] at k
  unfold WalkAns at k
  rwa [show leafE aWr 11 = .agg #[.int .i64 8, .bool true, .bool false, .bool true, .bool false, .bool false, .bool false, .int .i64 1, .int .i64 11] from by kernel_rfl] at k
theorem aw_path (h : RamAt w a b T 192 aW3) : Calls Try.prog 12 #[.pointer (some ⟨a, 0, none⟩), .int .i64 0, .int .i64 11] w (PathAns w aWr) := by
  have k := path_any h 0 11
  rwa [aW_fol] at k
end
set_option maxRecDepth 100000 in
set_option maxHeartbeats 1000000 in
theorem awake_any (W : World) : Calls Try.prog 8 #[] W fun e W' => e = .returned (.bool true) ∧ Below W.heap.size W W' := by
  go_enter Try.func8, Try.ntmps8
  go_wp2_with fail
  refine (new_24 _).mono ?_
  rintro e w1 ⟨a, b, rfl, h1, b1, lb⟩
  have h1' : RamAt w1 a b 75 192 aW0 := h1
  clear h1
  go_wp2_with fail
  refine (aw_put1 h1').mono ?_
  rintro e w2 ⟨rfl, h2, g2⟩
  have b2 := below_grown b1 g2 b1.size lb
  clear g2 b1 h1'
  go_wp2_with fail
  refine (aw_put2 h2).mono ?_
  rintro e w3 ⟨rfl, h3, g3⟩
  have b3 := below_grown b2 g3 b2.size lb
  clear g3 b2 h2
  go_wp2_with fail
  refine (aw_put3 h3).mono ?_
  rintro e w4 ⟨rfl, h4, g4⟩
  have b4 := below_grown b3 g4 b3.size lb
  clear g4 b3 h3
  go_wp2_with fail
  refine (aw_walk h4).mono ?_
  rintro e w5 ⟨rfl, c5⟩
  have h5 := (h4.below c5 h4.top.lt h4.row.lt).alloc (.cells #[.int .i64 8, .bool true, .bool false, .bool true, .bool false, .bool false, .bool false, .int .i64 1, .int .i64 11] 41)
  have b5 := (b4.trans (c5.mono b4.size)).alloc (Nat.le_trans b4.size c5.size) (.cells #[.int .i64 8, .bool true, .bool false, .bool true, .bool false, .bool false, .bool false, .int .i64 1, .int .i64 11] 41)
  have r5 := Row.new w5 41 [.int .i64 8, .bool true, .bool false, .bool true, .bool false, .bool false, .bool false, .int .i64 1, .int .i64 11]
  clear c5 b4 h4
  go_wp2_with fail
  refine (aw_path h5).mono ?_
  rintro e w6 ⟨A, m, c, rfl, hi, c6⟩
  have b6 := b5.trans (c6.mono b5.size)
  have r6 := r5.below c6 r5.lt
  have q7 : w6.cell? ⟨w5.heap.size, 7, none⟩ = some (.int .i64 1) := r6.cell 7
  have q8 : w6.cell? ⟨w5.heap.size, 8, none⟩ = some (.int .i64 11) := r6.cell 8
  have hl : w5.heap.size < w6.heap.size := r6.lt
  obtain rfl : m = 3 := by have := hi.len; rw [← this]; rfl
  have HI : Hid (IntsAt w6 w6.heap.size A 3 [0, 1, 2]) := hi
  have HB := Lib.hid b6
  have HN := Lib.hid ((RowA.new w6 3 #[.int .i64 0, .int .i64 1, .int .i64 2]).ints [0, 1, 2] 3 rfl (fun j hj => by
    have : j = 0 ∨ j = 1 ∨ j = 2 := by omega
    rcases this with rfl | rfl | rfl <;> rfl))
  clear b5 c6 r5 r6 hi b6 h5
  go_wp2_with fail
  refine (numbers_same (HI.out.call ((Below.refl _ _).alloc (Nat.le_refl _) _)) HN.out (by unfold maxLen; omega)).mono ?_
  rintro e w7 ⟨rfl, k, rfl⟩
  go_wp2_with fail
  go_ret
  exact ⟨rfl, drewN_below (HB.out.alloc HB.out.size _) _⟩
end Go.Proofs.Ytaphihoomipdaaa
