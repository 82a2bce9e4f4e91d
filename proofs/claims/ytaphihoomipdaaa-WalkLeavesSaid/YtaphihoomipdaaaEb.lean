/- The contracts of Pack, of package entry and of its reference. -/
import Derived.Test.YtaphihoomipdaaaEa
namespace Go.Proofs.Ytaphihoomipdaaa
open Go.RowKit

set_option maxHeartbeats 800000 in
theorem pack_ok (f : Int) (p w h k u d : Bool) (W : World) (h1 : 0 ≤ f) (h2 : f < 1048576) (h3 : (chkI f p w h k u d != 0) = false) :
    Calls Try.prog 28 #[.agg #[.int .i64 f, .bool p, .bool w, .bool h, .bool k, .bool u, .bool d]] W fun e W' => e = .returned (.tuple #[.int .u64 (wordI f p w h k u d), .int .i64 0]) ∧ Below W.heap.size W W' := by
  have bp := bit_bd p 1 (by omega)
  have bw := bit_bd w 2 (by omega)
  have bu := bit_bd u 32 (by omega)
  have bd := bit_bd d 64 (by omega)
  have bh := bit_bd h 128 (by omega)
  have g0 := bit_free f (0) 0 h1 h2 (by omega) (by omega) (by omega)
  have g1 := bit_free f (bitI p 1) 1 h1 h2 (by omega) (by omega) (by omega)
  have g2 := bit_free f (bitI p 1 + bitI w 2) 5 h1 h2 (by omega) (by omega) (by omega)
  have g3 := bit_free f (bitI p 1 + bitI w 2 + bitI u 32) 6 h1 h2 (by omega) (by omega) (by omega)
  have g4 := bit_free f (bitI p 1 + bitI w 2 + bitI u 32 + bitI d 64) 7 h1 h2 (by omega) (by omega) (by omega)
  have g5 := bit_free f (bitI p 1 + bitI w 2 + bitI u 32 + bitI d 64 + bitI h 128) 9 h1 h2 (by omega) (by omega) (by omega)
  have G0 := Lib.hid g0
  have G1 := Lib.hid g1
  have G2 := Lib.hid g2
  have G3 := Lib.hid g3
  have G4 := Lib.hid g4
  have G5 := Lib.hid g5
  clear g0 g1 g2 g3 g4 g5
  go_enter Try.func28, Try.ntmps28
  go_wp2_with fail
  refine (check_any _ _ _ _ _ _ _ _).mono ?_
  rintro e w1 ⟨rfl, hb⟩
  obtain ⟨hc, hf⟩ := bcell hb
  have hz : W.heap.size < w1.heap.size := by have := hb.size; simp at this; omega
  go_wp2_with fail
  refine (putter_any _ _).mono ?_
  rintro e w' ⟨rfl, rfl⟩
  go_wp2_with fail
  refine (put_any 0 1 (f * 4096) p ⟨w1.heap.size + 1, 0, none⟩ ⟨w1.heap.size, 0, none⟩ _ (by simp) (by simp) (by simp) (by omega) (by omega) (by have := G0.out; omega) (by have := G0.out; omega) rfl (by have := G0.out.2.2; simpa [Int.add_assoc] using this)).mono ?_
  rintro e w' ⟨rfl, rfl⟩
  go_wp2_with fail
  refine (put_any 1 2 (f * 4096 + bitI p 1) w ⟨w1.heap.size + 1, 0, none⟩ ⟨w1.heap.size, 0, none⟩ _ (by simp) (by simp) (by simp) (by omega) (by omega) (by have := G1.out; omega) (by have := G1.out; omega) rfl (by have := G1.out.2.2; simpa [Int.add_assoc] using this)).mono ?_
  rintro e w' ⟨rfl, rfl⟩
  go_wp2_with fail
  refine (put_any 5 32 (f * 4096 + bitI p 1 + bitI w 2) u ⟨w1.heap.size + 1, 0, none⟩ ⟨w1.heap.size, 0, none⟩ _ (by simp) (by simp) (by simp) (by omega) (by omega) (by have := G2.out; omega) (by have := G2.out; omega) rfl (by have := G2.out.2.2; simpa [Int.add_assoc] using this)).mono ?_
  rintro e w' ⟨rfl, rfl⟩
  go_wp2_with fail
  refine (put_any 6 64 (f * 4096 + bitI p 1 + bitI w 2 + bitI u 32) d ⟨w1.heap.size + 1, 0, none⟩ ⟨w1.heap.size, 0, none⟩ _ (by simp) (by simp) (by simp) (by omega) (by omega) (by have := G3.out; omega) (by have := G3.out; omega) rfl (by have := G3.out.2.2; simpa [Int.add_assoc] using this)).mono ?_
  rintro e w' ⟨rfl, rfl⟩
  go_wp2_with fail
  refine (put_any 7 128 (f * 4096 + bitI p 1 + bitI w 2 + bitI u 32 + bitI d 64) h ⟨w1.heap.size + 1, 0, none⟩ ⟨w1.heap.size, 0, none⟩ _ (by simp) (by simp) (by simp) (by omega) (by omega) (by have := G4.out; omega) (by have := G4.out; omega) rfl (by have := G4.out.2.2; simpa [Int.add_assoc] using this)).mono ?_
  rintro e w' ⟨rfl, rfl⟩
  go_wp2_with fail
  refine (put_any 9 512 (f * 4096 + bitI p 1 + bitI w 2 + bitI u 32 + bitI d 64 + bitI h 128) k ⟨w1.heap.size + 1, 0, none⟩ ⟨w1.heap.size, 0, none⟩ _ (by simp) (by simp) (by simp) (by omega) (by omega) (by have := G5.out; omega) (by have := G5.out; omega) rfl (by have := G5.out.2.2; simpa [Int.add_assoc] using this)).mono ?_
  rintro e w' ⟨rfl, rfl⟩
  go_wp2_with fail
  go_ret2
  refine ⟨?_, ?_⟩
  · exact ret2_int (by unfold wordI; omega) rfl
  · exact ((((Below.refl _ _).alloc (Nat.le_refl _) _).trans (hb.mono (by simp))).alloc (by omega) _).alloc (by simp; omega) _

set_option maxHeartbeats 400000 in
theorem pack_bad (f : Int) (p w h k u d : Bool) (W : World) (h3 : (chkI f p w h k u d != 0) = true) :
    Calls Try.prog 28 #[.agg #[.int .i64 f, .bool p, .bool w, .bool h, .bool k, .bool u, .bool d]] W fun e W' => e = .returned (.tuple #[.int .u64 0, .int .i64 (chkI f p w h k u d)]) ∧ Below W.heap.size W W' := by
  go_enter Try.func28, Try.ntmps28
  go_wp2_with fail
  refine (check_any _ _ _ _ _ _ _ _).mono ?_
  rintro e w1 ⟨rfl, hb⟩
  go_wp2_with fail
  go_ret2
  exact ⟨rfl, ((Below.refl _ _).alloc (Nat.le_refl _) _).trans (hb.mono (by simp))⟩

theorem pack_any (f : Int) (p w h k u d : Bool) (W : World) :
    Calls Try.prog 28 #[.agg #[.int .i64 f, .bool p, .bool w, .bool h, .bool k, .bool u, .bool d]] W fun e W' => e = .returned (.tuple #[.int .u64 (packI f p w h k u d), .int .i64 (chkI f p w h k u d)]) ∧ Below W.heap.size W W' := by
  by_cases h : (chkI f p w h k u d != 0) = true
  · have := pack_bad f p w _ k u d W h
    rwa [packI_bad h]
  · simp only [Bool.not_eq_true] at h
    have hz := chk_zero h
    have := pack_ok f p w _ k u d W (chk_range hz).1 (chk_range hz).2 h
    rw [packI_ok h, hz]
    exact this

set_option maxHeartbeats 400000 in
theorem rmay_any (f : Int) (p w h k u d : Bool) (W : World) :
    Calls Try.prog 50 #[.agg #[.int .i64 f, .bool p, .bool w, .bool h, .bool k, .bool u, .bool d]] W fun e W' => e = .returned (.bool (mayB f p w h k u d)) ∧ Below W.heap.size W W' := by
  cases p
  · cases k
    · by_cases hf : (f == 0) = true
      · cases w
        · cases h
          · cases u
            all_goals
              go_enter Try.func50, Try.ntmps50
              go_wp2
              go_ret
              exact ⟨ret_bool (by simp [mayB, hf]), (Below.refl _ _).alloc (Nat.le_refl _) _⟩
          · go_enter Try.func50, Try.ntmps50
            go_wp2
            go_ret
            exact ⟨ret_bool (by simp [mayB]), (Below.refl _ _).alloc (Nat.le_refl _) _⟩
        · go_enter Try.func50, Try.ntmps50
          go_wp2
          go_ret
          exact ⟨ret_bool (by simp [mayB]), (Below.refl _ _).alloc (Nat.le_refl _) _⟩
      · simp only [Bool.not_eq_true] at hf
        go_enter Try.func50, Try.ntmps50
        go_wp2
        go_ret
        exact ⟨ret_bool (by simp [mayB, hf]), (Below.refl _ _).alloc (Nat.le_refl _) _⟩
    · cases h
      all_goals
        go_enter Try.func50, Try.ntmps50
        go_wp2
        go_ret
        exact ⟨ret_bool (by simp [mayB]), (Below.refl _ _).alloc (Nat.le_refl _) _⟩
  · go_enter Try.func50, Try.ntmps50
    go_wp2
    go_ret
    exact ⟨ret_bool (by simp [mayB]), (Below.refl _ _).alloc (Nat.le_refl _) _⟩

set_option maxHeartbeats 400000 in
theorem rcheck_any (f : Int) (p w h k u d : Bool) (W : World) :
    Calls Try.prog 41 #[.agg #[.int .i64 f, .bool p, .bool w, .bool h, .bool k, .bool u, .bool d]] W fun e W' => e = .returned (.int .i64 (chkI f p w h k u d)) ∧ Below W.heap.size W W' := by
  by_cases h1 : f < 0
  · go_enter Try.func41, Try.ntmps41
    go_wp2
    go_ret
    exact ⟨ret_int (chk_lo h1), (Below.refl _ _).alloc (Nat.le_refl _) _⟩
  · by_cases h2 : 1048575 < f
    · go_enter Try.func41, Try.ntmps41
      go_wp2
      go_ret
      exact ⟨ret_int (chk_hi (by omega)), (Below.refl _ _).alloc (Nat.le_refl _) _⟩
    · go_enter Try.func41, Try.ntmps41
      go_wp2_with (go_at_call 50; refine (rmay_any _ _ _ _ _ _ _ _).mono ?_; rintro e w' ⟨rfl, hb⟩)
      all_goals
        go_ret
        exact ⟨ret_int (by first | exact chk_bad (by omega) (by omega) ‹_› | exact chk_ok (by omega) (by omega) ‹_›), ((Below.refl _ _).alloc (Nat.le_refl _) _).trans (Below.mono (by assumption) (by simp))⟩

theorem bit_q (b : Bool) (n : Int) (W : World) :
    Calls Try.prog 42 #[.bool b, .int .u64 n] W fun e W' => e = .returned (.int .u64 (bitI b n)) ∧ W' = W := (bit_any b n W).mono fun _ _ ⟨he, hw⟩ => ⟨he, hw.symm⟩

set_option maxHeartbeats 800000 in
theorem rpack_ok (f : Int) (p w h k u d : Bool) (W : World) (h1 : 0 ≤ f) (h2 : f < 1048576) (h3 : (chkI f p w h k u d != 0) = false) :
    Calls Try.prog 32 #[.agg #[.int .i64 f, .bool p, .bool w, .bool h, .bool k, .bool u, .bool d]] W fun e W' => e = .returned (.tuple #[.int .u64 (wordI f p w h k u d), .int .i64 0]) ∧ Below W.heap.size W W' := by
  have bp := bit_bd p 1 (by omega)
  have bw := bit_bd w 2 (by omega)
  have bu := bit_bd u 32 (by omega)
  have bd := bit_bd d 64 (by omega)
  have bh := bit_bd h 128 (by omega)
  have bk := bit_bd k 512 (by omega)
  go_enter Try.func32, Try.ntmps32
  go_wp2_with fail
  refine (rcheck_any _ _ _ _ _ _ _ _).mono ?_
  rintro e w1 ⟨rfl, hb⟩
  obtain ⟨hc, hf⟩ := bcell hb
  have hz : W.heap.size < w1.heap.size := by have := hb.size; simp at this; omega
  go_wp2_with fail
  go_quiet ((go_at_call 42; exact Calls.quiet_of_same (bit_q _ _ _)))
  go_wp2
  go_ret2
  refine ⟨ret2_int (by unfold wordI; omega) rfl, ?_⟩
  exact below_dn (((Below.refl _ _).alloc (Nat.le_refl _) _).trans (hb.mono (by simp))) _

set_option maxHeartbeats 400000 in
theorem rpack_bad (f : Int) (p w h k u d : Bool) (W : World) (h3 : (chkI f p w h k u d != 0) = true) :
    Calls Try.prog 32 #[.agg #[.int .i64 f, .bool p, .bool w, .bool h, .bool k, .bool u, .bool d]] W fun e W' => e = .returned (.tuple #[.int .u64 0, .int .i64 (chkI f p w h k u d)]) ∧ Below W.heap.size W W' := by
  go_enter Try.func32, Try.ntmps32
  go_wp2_with fail
  refine (rcheck_any _ _ _ _ _ _ _ _).mono ?_
  rintro e w1 ⟨rfl, hb⟩
  go_wp2_with fail
  go_ret2
  exact ⟨rfl, ((Below.refl _ _).alloc (Nat.le_refl _) _).trans (hb.mono (by simp))⟩

theorem rpack_any (f : Int) (p w h k u d : Bool) (W : World) :
    Calls Try.prog 32 #[.agg #[.int .i64 f, .bool p, .bool w, .bool h, .bool k, .bool u, .bool d]] W fun e W' => e = .returned (.tuple #[.int .u64 (packI f p w h k u d), .int .i64 (chkI f p w h k u d)]) ∧ Below W.heap.size W W' := by
  by_cases h : (chkI f p w h k u d != 0) = true
  · have := rpack_bad f p w _ k u d W h
    rwa [packI_bad h]
  · simp only [Bool.not_eq_true] at h
    have hz := chk_zero h
    have := rpack_ok f p w _ k u d W (chk_range hz).1 (chk_range hz).2 h
    rw [packI_ok h, hz]
    exact this
end Go.Proofs.Ytaphihoomipdaaa
