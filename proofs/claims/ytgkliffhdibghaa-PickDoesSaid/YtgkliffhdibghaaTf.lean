/- Calls on a nil one; what must come at any rate; the law on a nil one, walked. -/
import Derived.Test.YtgkliffhdibghaaTe
namespace Go.Proofs.Ytgkliffhdibghaa
open Go.RowKit

section
variable {w : World} {f v : Int}
theorem putNil (w : World) (f v : Int) : Calls Try.prog 11 #[.pointer none, .int .i64 f, .int .i64 v] w fun e w' => e = .returned (.int .i64 1) ∧ w = w' := by
  go_enter Try.func11, Try.ntmps11
  go_wp2_with (go_at_call 22; refine (lower_nil w).mono ?_; rintro e w' ⟨rfl, rfl⟩)
  go_ret
  exact ⟨rfl, rfl⟩
theorem dropNil (w : World) (f : Int) : Calls Try.prog 13 #[.pointer none, .int .i64 f] w fun e w' => e = .returned (.int .i64 1) ∧ w = w' := by
  go_enter Try.func13, Try.ntmps13
  go_wp2_with (first | (go_at_call 22; refine (lower_nil w).mono ?_; rintro e w' ⟨rfl, rfl⟩) | (go_at_call 24; refine (find_nil w f).mono ?_; rintro e w' ⟨rfl, rfl⟩))
  go_ret
  exact ⟨rfl, rfl⟩
theorem worthNil (w : World) (f : Int) : Calls Try.prog 18 #[.pointer none, .int .i64 f] w fun e w' => e = .returned (.tuple #[.int .i64 0, .int .i64 1]) ∧ w = w' := by
  go_enter Try.func18, Try.ntmps18
  go_wp2_with (first | (go_at_call 22; refine (lower_nil w).mono ?_; rintro e w' ⟨rfl, rfl⟩) | (go_at_call 24; refine (find_nil w f).mono ?_; rintro e w' ⟨rfl, rfl⟩))
  go_ret2
  exact ⟨rfl, rfl⟩
theorem lenNil (w : World) : Calls Try.prog 20 #[.pointer none] w fun e w' => e = .returned (.int .i64 0) ∧ w = w' := by
  go_enter Try.func20, Try.ntmps20
  go_wp2_with (first | (go_at_call 22; refine (lower_nil w).mono ?_; rintro e w' ⟨rfl, rfl⟩) | (go_at_call 29; refine (len_nil w).mono ?_; rintro e w' ⟨rfl, rfl⟩))
  go_ret
  exact ⟨rfl, rfl⟩
theorem firstNil (w : World) : Calls Try.prog 17 #[.pointer none] w fun e w' => e = .returned (.tuple #[.int .i64 0, .int .i64 0, .int .i64 1]) ∧ w = w' := by
  go_enter Try.func17, Try.ntmps17
  go_wp2_with (first | (go_at_call 22; refine (lower_nil w).mono ?_; rintro e w' ⟨rfl, rfl⟩) | (go_at_call 26; refine (tell_nil w _).mono ?_; rintro e w' ⟨rfl, rfl⟩))
  go_ret3
  exact ⟨rfl, rfl⟩
theorem popNil (w : World) : Calls Try.prog 15 #[.pointer none] w fun e w' => e = .returned (.tuple #[.int .i64 0, .int .i64 0, .int .i64 1]) ∧ w = w' := by
  go_enter Try.func15, Try.ntmps15
  go_wp2_with (first | (go_at_call 22; refine (lower_nil w).mono ?_; rintro e w' ⟨rfl, rfl⟩) | (go_at_call 26; refine (tell_nil w _).mono ?_; rintro e w' ⟨rfl, rfl⟩))
  go_ret3
  exact ⟨rfl, rfl⟩
end
/-- It is true, and nothing that was there has turned. -/
def Awake (w : World) (e : Ending) (w' : World) : Prop := e = .returned (.bool true) ∧ Below w.heap.size w w'
theorem PickAt.below {B : Nat} {w w' : World} {p q m : Nat} {iv iv' : Value} {N : List It} (h : PickAt B w p q m iv N) (g : Grew w w' q m iv iv') : Below B w w' := g.below h.qs h.lo
set_option maxHeartbeats 4000000 in
theorem awake_any (w : World) : Calls Try.prog 10 #[] w (Awake w) := by
  go_enter Try.func10, Try.ntmps10
  go_wp2_with fail
  refine (new_any w).mono ?_
  rintro e w0 ⟨p, q, m, iv0, rfl, h0, b0⟩
  go_wp2_with fail
  refine (pickPut_any h0 (f := 5) (v := 9) (by unfold Fits; omega) (by simp)).mono ?_
  rintro e w1 ⟨rfl, iv1, h1, g1⟩
  have b1 := b0.trans (h0.below g1)
  clear g1 h0 b0
  change PickAt _ w1 p q m iv1 [(5, 9)] at h1
  go_wp2_with fail
  refine (pickPut_any h1 (f := 3) (v := 9) (by unfold Fits; omega) (by simp)).mono ?_
  rintro e w2 ⟨rfl, iv2, h2, g2⟩
  have b2 := b1.trans (h1.below g2)
  clear g2 h1 b1
  change PickAt _ w2 p q m iv2 [(5, 9), (3, 9)] at h2
  go_wp2_with fail
  refine (pickPut_any h2 (f := 7) (v := 1) (by unfold Fits; omega) (by simp)).mono ?_
  rintro e w3 ⟨rfl, iv3, h3, g3⟩
  have b3 := b2.trans (h2.below g3)
  clear g3 h2 b2
  change PickAt _ w3 p q m iv3 [(5, 9), (3, 9), (7, 1)] at h3
  go_wp2_with fail
  refine (pickPop_any h3).mono ?_
  rintro e w4 ⟨rfl, iv4, h4, g4⟩
  have b4 := b3.trans (h3.below g4)
  clear g4 h3 b3
  change PickAt _ w4 p q m iv4 [(5, 9), (3, 9)] at h4
  go_wp2_with fail
  refine (pickFirst_any h4).mono ?_
  rintro e w5 ⟨rfl, b5⟩
  have h5 := h4.call b5
  have b6 := b4.trans (b5.mono h4.lo)
  clear h4 b4 b5
  go_wp2_with fail
  refine (pickLen_any h5).mono ?_
  rintro e w6 ⟨rfl, rfl⟩
  go_wp2
  go_ret
  exact ⟨rfl, b6⟩
set_option maxHeartbeats 4000000 in
theorem pickNone_true (A0 A1 A2 : Int) (w : World) :
    Calls Try.prog 7 #[.agg #[.int .i64 A0, .int .i64 A1, .int .i64 A2]] w fun e w' => e = .returned (.bool true) ∧ Below w.heap.size w w' := by
  have HX := Lib.hid (Lrow.new w 31 [.int .i64 A0, .int .i64 A1, .int .i64 A2])
  have HB := Lib.hid ((Below.refl w.heap.size w).alloc (Nat.le_refl _) (.cells #[.int .i64 A0, .int .i64 A1, .int .i64 A2] 31))
  go_enter Try.func7, Try.ntmps7
  go_wp2_with (first | (go_at_call 17; refine (firstNil _).mono ?_; rintro e w' ⟨rfl, rfl⟩) | (go_at_call 15; refine (popNil _).mono ?_; rintro e w' ⟨rfl, rfl⟩) | (go_at_call 18; refine (worthNil _ _).mono ?_; rintro e w' ⟨rfl, rfl⟩) | (go_at_call 20; refine (lenNil _).mono ?_; rintro e w' ⟨rfl, rfl⟩) | (go_at_call 11; refine (putNil _ _ _).mono ?_; rintro e w' ⟨rfl, rfl⟩) | (go_at_call 13; refine (dropNil _ _).mono ?_; rintro e w' ⟨rfl, rfl⟩) | (go_at_call 10; refine (awake_any _).mono ?_; rintro e w1 ⟨rfl, hb⟩; have hc1 : w1.cell? ⟨w.heap.size, 1, none⟩ = some (.int .i64 A1) := (HX.out.call hb).cell 1; have hc2 : w1.cell? ⟨w.heap.size, 2, none⟩ = some (.int .i64 A2) := (HX.out.call hb).cell 2))
  go_ret
  exact ⟨rfl, HB.out.trans (hb.mono (by simp))⟩
end Go.Proofs.Ytgkliffhdibghaa
