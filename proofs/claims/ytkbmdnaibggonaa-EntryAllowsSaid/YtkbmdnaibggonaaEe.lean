/- The law's own first calls come as the document says. -/
import Derived.Test.YtkbmdnaibggonaaEc
import Derived.Test.YtkbmdnaibggonaaEd
namespace Go.Proofs.Ytkbmdnaibggonaa
open Go.RowKit

theorem pack_5 (W : World) :
    Calls Try.prog 9 #[.agg #[.int .i64 5, .bool true, .bool true, .bool false, .bool false, .bool false, .bool false]] W fun e W' => e = .returned (.tuple #[.int .u64 20483, .int .i64 0]) ∧ Below W.heap.size W W' := by
  have h := pack_any 5 true true false false false false W
  rwa [show packI 5 true true false false false false = 20483 from by decide, show chkI 5 true true false false false false = 0 from by decide] at h
theorem unpack_2 (W : World) :
    Calls Try.prog 14 #[.int .u64 2] W fun e W' => e = .returned (.tuple #[.agg #[.int .i64 0, .bool false, .bool false, .bool false, .bool false, .bool false, .bool false], .int .i64 5]) ∧ Below W.heap.size W W' := by
  have h := unpack_any 2 W (by omega) (by omega)
  have ho : unOK 2 = false := by decide
  rwa [unE_bad ho, show unErr 2 = 5 from by decide] at h
theorem allow_5 (W : World) :
    Calls Try.prog 16 #[.agg #[.int .i64 5, .bool false, .bool false, .bool false, .bool true, .bool false, .bool false], .int .i64 1] W fun e W' => e = .returned (.tuple #[.agg #[.int .i64 5, .bool true, .bool false, .bool false, .bool false, .bool false, .bool false], .int .i64 0]) ∧ Below W.heap.size W W' := by
  have h := allow_any 5 false false false true false false 1 W
  rwa [show alE 5 false false false true false false 1 = .agg #[.int .i64 5, .bool true, .bool false, .bool false, .bool false, .bool false, .bool false] from by rfl, show alErr 5 false false false true false false 1 = 0 from by decide] at h

set_option maxHeartbeats 400000 in
theorem awake_any (W : World) :
    Calls Try.prog 11 #[] W fun e W' => e = .returned (.bool true) ∧ Below W.heap.size W W' := by
  go_enter Try.func11, Try.ntmps11
  go_wp2_with fail
  refine (pack_5 _).mono ?_
  rintro e w1 ⟨rfl, hb1⟩
  go_wp2_with fail
  refine (unpack_2 _).mono ?_
  rintro e w2 ⟨rfl, hb2⟩
  go_wp2_with fail
  refine (allow_5 _).mono ?_
  rintro e w3 ⟨rfl, hb3⟩
  go_wp2_with fail
  go_ret
  have z1 := hb1.size
  have z2 := hb2.size
  have z3 := hb3.size
  simp at z3
  exact ⟨rfl, ((((hb1.trans (hb2.mono (by omega))).alloc (by omega) _).trans (hb3.mono (by simp; omega))).alloc (by omega) _)⟩
end Go.Proofs.Ytkbmdnaibggonaa
