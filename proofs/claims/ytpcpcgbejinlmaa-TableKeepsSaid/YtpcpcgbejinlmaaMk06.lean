/- The contracts of Pack, of package entry and of its reference. -/
import Derived.Test.YtpcpcgbejinlmaaMk05
namespace Go.Proofs.Ytpcpcgbejinlmaa
open Go.RowKit
set_option maxHeartbeats 800000 in
theorem pack_ok (f : Int) (p w h k u d : Bool) (W : World) (h1 : 0 ≤ f) (h2 : f < 1048576) (h3 : (chkI f p w h k u d != 0) = false) :
    Calls Try.prog 70 #[.agg #[.int .i64 f, .bool p, .bool w, .bool h, .bool k, .bool u, .bool d]] W fun e W' => e = .returned (.tuple #[.int .u64 (wordI f p w h k u d), .int .i64 0]) ∧ Below W.heap.size W W' := by
  have bp := bit_bd p 1 (by omega)
  have bw := bit_bd w 2 (by omega)
  have bu := bit_bd u 32 (by omega)
  have bd := bit_bd d 64 (by omega)
  have bh := bit_bd h 128 (by omega)
  have g0 := bit_free f (0) 0 h1 h2 (by omega) (by omega) (by omega)
  have g1 := bit_free f (bitI p 1) 1 h1 h2 (by omega) (by omega) (by omega)
  have g2 := bit_free f (bitI p 1 + bitI w 2) 5 h1 h2 (by omega) (by omega) (by omega)
  have g3 := bit_free f (bitI p 1 + bitI w 2 + bitI u 32) 6 h1 h2 (by omega) (by omega) (by omega)
  have g4 := bit_free f (bitI p 1 + bitI w 2 + bitI u 32 + bitI d 64) 7 h1 h2 (by omega) (by omega) (by omega)
  have g5 := bit_free f (bitI p 1 + bitI w 2 + bitI u 32 + bitI d 64 + bitI h 128) 9 h1 h2 (by omega) (by omega) (by omega)
  have G0 := Lib.hid g0
  have G1 := Lib.hid g1
  have G2 := Lib.hid g2
  have G3 := Lib.hid g3
  have G4 := Lib.hid g4
  have G5 := Lib.hid g5
  clear g0 g1 g2 g3 g4 g5
  go_enter Try.func70, Try.ntmps70
  go_wp2_with fail
  refine (check_any _ _ _ _ _ _ _ _).mono ?_
  rintro e w1 ⟨rfl, hb⟩
  obtain ⟨hc, hf⟩ := bcell hb
  have hz : W.heap.size < w1.heap.size := by have := hb.size; simp at this; omega
  go_wp2_with fail
  refine (putter_any _ _).mono ?_
  rintro e w' ⟨rfl, rfl⟩
  go_wp2_with fail
  refine (put_any 0 1 (f * 4096) p ⟨w1.heap.size + 1, 0, none⟩ ⟨w1.heap.size, 0, none⟩ _ (by simp) (by simp) (by simp) (by omega) (by omega) (by have := G0.out; omega) (by have := G0.out; omega) rfl (by have := G0.out.2.2; simpa [Int.add_assoc] using this)).mono ?_
  rintro e w' ⟨rfl, rfl⟩
  go_wp2_with fail
  refine (put_any 1 2 (f * 4096 + bitI p 1) w ⟨w1.heap.size + 1, 0, none⟩ ⟨w1.heap.size, 0, none⟩ _ (by simp) (by simp) (by simp) (by omega) (by omega) (by have := G1.out; omega) (by have := G1.out; omega) rfl (by have := G1.out.2.2; simpa [Int.add_assoc] using this)).mono ?_
  rintro e w' ⟨rfl, rfl⟩
  go_wp2_with fail
  refine (put_any 5 32 (f * 4096 + bitI p 1 + bitI w 2) u ⟨w1.heap.size + 1, 0, none⟩ ⟨w1.heap.size, 0, none⟩ _ (by simp) (by simp) (by simp) (by omega) (by omega) (by have := G2.out; omega) (by have := G2.out; omega) rfl (by have := G2.out.2.2; simpa [Int.add_assoc] using this)).mono ?_
  rintro e w' ⟨rfl, rfl⟩
  go_wp2_with fail
  refine (put_any 6 64 (f * 4096 + bitI p 1 + bitI w 2 + bitI u 32) d ⟨w1.heap.size + 1, 0, none⟩ ⟨w1.heap.size, 0, none⟩ _ (by simp) (by simp) (by simp) (by omega) (by omega) (by have := G3.out; omega) (by have := G3.out; omega) rfl (by have := G3.out.2.2; simpa [Int.add_assoc] using this)).mono ?_
  rintro e w' ⟨rfl, rfl⟩
  go_wp2_with fail
  refine (put_any 7 128 (f * 4096 + bitI p 1 + bitI w 2 + bitI u 32 + bitI d 64) h ⟨w1.heap.size + 1, 0, none⟩ ⟨w1.heap.size, 0, none⟩ _ (by simp) (by simp) (by simp) (by omega) (by omega) (by have := G4.out; omega) (by have := G4.out; omega) rfl (by have := G4.out.2.2; simpa [Int.add_assoc] using this)).mono ?_
  rintro e w' ⟨rfl, rfl⟩
  go_wp2_with fail
  refine (put_any 9 512 (f * 4096 + bitI p 1 + bitI w 2 + bitI u 32 + bitI d 64 + bitI h 128) k ⟨w1.heap.size + 1, 0, none⟩ ⟨w1.heap.size, 0, none⟩ _ (by simp) (by simp) (by simp) (by omega) (by omega) (by have := G5.out; omega) (by have := G5.out; omega) rfl (by have := G5.out.2.2; simpa [Int.add_assoc] using this)).mono ?_
  rintro e w' ⟨rfl, rfl⟩
  go_wp2_with fail
  go_ret2
  refine ⟨?_, ?_⟩
  · exact ret2_int (by unfold wordI; omega) rfl
  · exact ((((Below.refl _ _).alloc (Nat.le_refl _) _).trans (hb.mono (by simp))).alloc (by omega) _).alloc (by simp; omega) _
set_option maxHeartbeats 400000 in
theorem pack_bad (f : Int) (p w h k u d : Bool) (W : World) (h3 : (chkI f p w h k u d != 0) = true) :
    Calls Try.prog 70 #[.agg #[.int .i64 f, .bool p, .bool w, .bool h, .bool k, .bool u, .bool d]] W fun e W' => e = .returned (.tuple #[.int .u64 0, .int .i64 (chkI f p w h k u d)]) ∧ Below W.heap.size W W' := by
  go_enter Try.func70, Try.ntmps70
  go_wp2_with fail
  refine (check_any _ _ _ _ _ _ _ _).mono ?_
  rintro e w1 ⟨rfl, hb⟩
  go_wp2_with fail
  go_ret2
  exact ⟨rfl, ((Below.refl _ _).alloc (Nat.le_refl _) _).trans (hb.mono (by simp))⟩
theorem pack_any (f : Int) (p w h k u d : Bool) (W : World) :
    Calls Try.prog 70 #[.agg #[.int .i64 f, .bool p, .bool w, .bool h, .bool k, .bool u, .bool d]] W fun e W' => e = .returned (.tuple #[.int .u64 (packI f p w h k u d), .int .i64 (chkI f p w h k u d)]) ∧ Below W.heap.size W W' := by
  by_cases h : (chkI f p w h k u d != 0) = true
  · have := pack_bad f p w _ k u d W h
    rwa [packI_bad h]
  · simp only [Bool.not_eq_true] at h
    have hz := chk_zero h
    have := pack_ok f p w _ k u d W (chk_range hz).1 (chk_range hz).2 h
    rw [packI_ok h, hz]
    exact this
set_option maxHeartbeats 400000 in
theorem rmay_any (f : Int) (p w h k u d : Bool) (W : World) :
    Calls Try.prog 91 #[.agg #[.int .i64 f, .bool p, .bool w, .bool h, .bool k, .bool u, .bool d]] W fun e W' => e = .returned (.bool (mayB f p w h k u d)) ∧ Below W.heap.size W W' := by
  cases p
  · cases k
    · by_cases hf : (f == 0) = true
      · cases w
        · cases h
          · cases u
            all_goals
              go_enter Try.func91, Try.ntmps91
              go_wp2
              go_ret
              exact ⟨ret_bool (by simp [mayB, hf]), (Below.refl _ _).alloc (Nat.le_refl _) _⟩
          · go_enter Try.func91, Try.ntmps91
            go_wp2
            go_ret
            exact ⟨ret_bool (by simp [mayB]), (Below.refl _ _).alloc (Nat.le_refl _) _⟩
        · go_enter Try.func91, Try.ntmps91
          go_wp2
          go_ret
          exact ⟨ret_bool (by simp [mayB]), (Below.refl _ _).alloc (Nat.le_refl _) _⟩
      · simp only [Bool.not_eq_true] at hf
        go_enter Try.func91, Try.ntmps91
        go_wp2
        go_ret
        exact ⟨ret_bool (by simp [mayB, hf]), (Below.refl _ _).alloc (Nat.le_refl _) _⟩
    · cases h
      all_goals
        go_enter Try.func91, Try.ntmps91
        go_wp2
        go_ret
        exact ⟨ret_bool (by simp [mayB]), (Below.refl _ _).alloc (Nat.le_refl _) _⟩
  · go_enter Try.func91, Try.ntmps91
    go_wp2
    go_ret
    exact ⟨ret_bool (by simp [mayB]), (Below.refl _ _).alloc (Nat.le_refl _) _⟩
set_option maxHeartbeats 400000 in
theorem rcheck_any (f : Int) (p w h k u d : Bool) (W : World) :
    Calls Try.prog 80 #[.agg #[.int .i64 f, .bool p, .bool w, .bool h, .bool k, .bool u, .bool d]] W fun e W' => e = .returned (.int .i64 (chkI f p w h k u d)) ∧ Below W.heap.size W W' := by
  by_cases h1 : f < 0
  · go_enter Try.func80, Try.ntmps80
    go_wp2
    go_ret
    exact ⟨ret_int (chk_lo h1), (Below.refl _ _).alloc (Nat.le_refl _) _⟩
  · by_cases h2 : 1048575 < f
    · go_enter Try.func80, Try.ntmps80
      go_wp2
      go_ret
      exact ⟨ret_int (chk_hi (by omega)), (Below.refl _ _).alloc (Nat.le_refl _) _⟩
    · go_enter Try.func80, Try.ntmps80
      go_wp2_with (go_at_call 91; refine (rmay_any _ _ _ _ _ _ _ _).mono ?_; rintro e w' ⟨rfl, hb⟩)
      all_goals
        go_ret
        exact ⟨ret_int (by first | exact chk_bad (by omega) (by omega) ‹_› | exact chk_ok (by omega) (by omega) ‹_›), ((Below.refl _ _).alloc (Nat.le_refl _) _).trans (Below.mono (by assumption) (by simp))⟩
end Go.Proofs.Ytpcpcgbejinlmaa
/- The contracts of Unpack, of package entry and of its reference. -/
namespace Go.Proofs.Ytpcpcgbejinlmaa
open Go.RowKit
set_option maxHeartbeats 800000 in
theorem unpack_chk (n : Int) (W : World) (h0 : 0 ≤ n) (h1 : n < 18446744073709551616) (hk : (unChk n != 0) = true) :
    Calls Try.prog 75 #[.int .u64 n] W fun e W' => e = .returned (.tuple #[agg0, .int .i64 5]) ∧ Below W.heap.size W W' := by
  unfold unChk at hk
  go_enter Try.func75, Try.ntmps75
  go_wp2_with fail
  refine (asker_any _ _).mono ?_
  rintro e w' ⟨rfl, rfl⟩
  go_wp2_with fail
  refine (has_any 0 n ⟨W.heap.size + 1, 0, none⟩ _ (by simp) (by omega) (by omega) h0 h1).mono ?_
  rintro e w' ⟨rfl, rfl⟩
  go_wp2_with fail
  refine (has_any 1 n ⟨W.heap.size + 1, 0, none⟩ _ (by simp) (by omega) (by omega) h0 h1).mono ?_
  rintro e w' ⟨rfl, rfl⟩
  go_wp2_with fail
  refine (has_any 5 n ⟨W.heap.size + 1, 0, none⟩ _ (by simp) (by omega) (by omega) h0 h1).mono ?_
  rintro e w' ⟨rfl, rfl⟩
  go_wp2_with fail
  refine (has_any 6 n ⟨W.heap.size + 1, 0, none⟩ _ (by simp) (by omega) (by omega) h0 h1).mono ?_
  rintro e w' ⟨rfl, rfl⟩
  go_wp2_with fail
  refine (has_any 7 n ⟨W.heap.size + 1, 0, none⟩ _ (by simp) (by omega) (by omega) h0 h1).mono ?_
  rintro e w' ⟨rfl, rfl⟩
  go_wp2_with fail
  refine (has_any 9 n ⟨W.heap.size + 1, 0, none⟩ _ (by simp) (by omega) (by omega) h0 h1).mono ?_
  rintro e w' ⟨rfl, rfl⟩
  go_wp2_with fail
  refine (pack_any _ _ _ _ _ _ _ _).mono ?_
  rintro e w1 ⟨rfl, hb⟩
  obtain ⟨hc, hf⟩ := bcell hb
  have hz : W.heap.size < w1.heap.size := by have := hb.size; simp at this; omega
  have hz1 : W.heap.size + 1 < w1.heap.size := by have := hb.size; simp at this; omega
  have hz2 : W.heap.size + 1 + 1 < w1.heap.size := by have := hb.size; simp at this; omega
  have c0 : w1.cell? ⟨W.heap.size, 0, none⟩ = some (.int .i64 0) := by rw [hc _ _ (by simp; omega)]; simp [go_sem]
  have c1 : w1.cell? ⟨W.heap.size, 1, none⟩ = some (.bool false) := by rw [hc _ _ (by simp; omega)]; simp [go_sem]
  have c2 : w1.cell? ⟨W.heap.size, 2, none⟩ = some (.bool false) := by rw [hc _ _ (by simp; omega)]; simp [go_sem]
  have c3 : w1.cell? ⟨W.heap.size, 3, none⟩ = some (.bool false) := by rw [hc _ _ (by simp; omega)]; simp [go_sem]
  have c4 : w1.cell? ⟨W.heap.size, 4, none⟩ = some (.bool false) := by rw [hc _ _ (by simp; omega)]; simp [go_sem]
  have c5 : w1.cell? ⟨W.heap.size, 5, none⟩ = some (.bool false) := by rw [hc _ _ (by simp; omega)]; simp [go_sem]
  have c6 : w1.cell? ⟨W.heap.size, 6, none⟩ = some (.bool false) := by rw [hc _ _ (by simp; omega)]; simp [go_sem]
  have d0 : w1.cell? ⟨W.heap.size + 1 + 1, 0, none⟩ = some (.int .i64 (n / 4096)) := by rw [hc _ _ (by simp)]; simp [go_sem]
  have d1 : w1.cell? ⟨W.heap.size + 1 + 1, 1, none⟩ = some (.bool (onB n 0)) := by rw [hc _ _ (by simp)]; simp [go_sem]
  have d2 : w1.cell? ⟨W.heap.size + 1 + 1, 2, none⟩ = some (.bool (onB n 1)) := by rw [hc _ _ (by simp)]; simp [go_sem]
  have d3 : w1.cell? ⟨W.heap.size + 1 + 1, 3, none⟩ = some (.bool (onB n 7)) := by rw [hc _ _ (by simp)]; simp [go_sem]
  have d4 : w1.cell? ⟨W.heap.size + 1 + 1, 4, none⟩ = some (.bool (onB n 9)) := by rw [hc _ _ (by simp)]; simp [go_sem]
  have d5 : w1.cell? ⟨W.heap.size + 1 + 1, 5, none⟩ = some (.bool (onB n 5)) := by rw [hc _ _ (by simp)]; simp [go_sem]
  have d6 : w1.cell? ⟨W.heap.size + 1 + 1, 6, none⟩ = some (.bool (onB n 6)) := by rw [hc _ _ (by simp)]; simp [go_sem]
  clear hc
  go_wp2_with fail
  exact bodyPost_ret (v := .tuple #[.agg #[.int .i64 0, .bool false, .bool false, .bool false, .bool false, .bool false, .bool false], .int .i64 5]) (by simp [results, Try.results75, go_sem, *]) rfl ⟨rfl, ((((((((((((Below.refl _ _).alloc (Nat.le_refl _) _).alloc (by simp) _).alloc (by simp; omega) _).trans (hb.mono (by simp; omega))).setCell (Nat.le_refl _) _).setCell (Nat.le_refl _) _).setCell (Nat.le_refl _) _).setCell (Nat.le_refl _) _).setCell (Nat.le_refl _) _).setCell (Nat.le_refl _) _).setCell (Nat.le_refl _) _)⟩
set_option maxHeartbeats 800000 in
theorem unpack_not (n : Int) (W : World) (h0 : 0 ≤ n) (h1 : n < 18446744073709551616) (hk : (unChk n != 0) = false) (hp : (unPack n != n) = true) :
    Calls Try.prog 75 #[.int .u64 n] W fun e W' => e = .returned (.tuple #[agg0, .int .i64 5]) ∧ Below W.heap.size W W' := by
  unfold unChk at hk
  unfold unPack at hp
  go_enter Try.func75, Try.ntmps75
  go_wp2_with fail
  refine (asker_any _ _).mono ?_
  rintro e w' ⟨rfl, rfl⟩
  go_wp2_with fail
  refine (has_any 0 n ⟨W.heap.size + 1, 0, none⟩ _ (by simp) (by omega) (by omega) h0 h1).mono ?_
  rintro e w' ⟨rfl, rfl⟩
  go_wp2_with fail
  refine (has_any 1 n ⟨W.heap.size + 1, 0, none⟩ _ (by simp) (by omega) (by omega) h0 h1).mono ?_
  rintro e w' ⟨rfl, rfl⟩
  go_wp2_with fail
  refine (has_any 5 n ⟨W.heap.size + 1, 0, none⟩ _ (by simp) (by omega) (by omega) h0 h1).mono ?_
  rintro e w' ⟨rfl, rfl⟩
  go_wp2_with fail
  refine (has_any 6 n ⟨W.heap.size + 1, 0, none⟩ _ (by simp) (by omega) (by omega) h0 h1).mono ?_
  rintro e w' ⟨rfl, rfl⟩
  go_wp2_with fail
  refine (has_any 7 n ⟨W.heap.size + 1, 0, none⟩ _ (by simp) (by omega) (by omega) h0 h1).mono ?_
  rintro e w' ⟨rfl, rfl⟩
  go_wp2_with fail
  refine (has_any 9 n ⟨W.heap.size + 1, 0, none⟩ _ (by simp) (by omega) (by omega) h0 h1).mono ?_
  rintro e w' ⟨rfl, rfl⟩
  go_wp2_with fail
  refine (pack_any _ _ _ _ _ _ _ _).mono ?_
  rintro e w1 ⟨rfl, hb⟩
  obtain ⟨hc, hf⟩ := bcell hb
  have hz : W.heap.size < w1.heap.size := by have := hb.size; simp at this; omega
  have hz1 : W.heap.size + 1 < w1.heap.size := by have := hb.size; simp at this; omega
  have hz2 : W.heap.size + 1 + 1 < w1.heap.size := by have := hb.size; simp at this; omega
  have c0 : w1.cell? ⟨W.heap.size, 0, none⟩ = some (.int .i64 0) := by rw [hc _ _ (by simp; omega)]; simp [go_sem]
  have c1 : w1.cell? ⟨W.heap.size, 1, none⟩ = some (.bool false) := by rw [hc _ _ (by simp; omega)]; simp [go_sem]
  have c2 : w1.cell? ⟨W.heap.size, 2, none⟩ = some (.bool false) := by rw [hc _ _ (by simp; omega)]; simp [go_sem]
  have c3 : w1.cell? ⟨W.heap.size, 3, none⟩ = some (.bool false) := by rw [hc _ _ (by simp; omega)]; simp [go_sem]
  have c4 : w1.cell? ⟨W.heap.size, 4, none⟩ = some (.bool false) := by rw [hc _ _ (by simp; omega)]; simp [go_sem]
  have c5 : w1.cell? ⟨W.heap.size, 5, none⟩ = some (.bool false) := by rw [hc _ _ (by simp; omega)]; simp [go_sem]
  have c6 : w1.cell? ⟨W.heap.size, 6, none⟩ = some (.bool false) := by rw [hc _ _ (by simp; omega)]; simp [go_sem]
  have d0 : w1.cell? ⟨W.heap.size + 1 + 1, 0, none⟩ = some (.int .i64 (n / 4096)) := by rw [hc _ _ (by simp)]; simp [go_sem]
  have d1 : w1.cell? ⟨W.heap.size + 1 + 1, 1, none⟩ = some (.bool (onB n 0)) := by rw [hc _ _ (by simp)]; simp [go_sem]
  have d2 : w1.cell? ⟨W.heap.size + 1 + 1, 2, none⟩ = some (.bool (onB n 1)) := by rw [hc _ _ (by simp)]; simp [go_sem]
  have d3 : w1.cell? ⟨W.heap.size + 1 + 1, 3, none⟩ = some (.bool (onB n 7)) := by rw [hc _ _ (by simp)]; simp [go_sem]
  have d4 : w1.cell? ⟨W.heap.size + 1 + 1, 4, none⟩ = some (.bool (onB n 9)) := by rw [hc _ _ (by simp)]; simp [go_sem]
  have d5 : w1.cell? ⟨W.heap.size + 1 + 1, 5, none⟩ = some (.bool (onB n 5)) := by rw [hc _ _ (by simp)]; simp [go_sem]
  have d6 : w1.cell? ⟨W.heap.size + 1 + 1, 6, none⟩ = some (.bool (onB n 6)) := by rw [hc _ _ (by simp)]; simp [go_sem]
  clear hc
  go_wp2_with fail
  exact bodyPost_ret (v := .tuple #[.agg #[.int .i64 0, .bool false, .bool false, .bool false, .bool false, .bool false, .bool false], .int .i64 5]) (by simp [results, Try.results75, go_sem, *]) rfl ⟨rfl, ((((((((((((Below.refl _ _).alloc (Nat.le_refl _) _).alloc (by simp) _).alloc (by simp; omega) _).trans (hb.mono (by simp; omega))).setCell (Nat.le_refl _) _).setCell (Nat.le_refl _) _).setCell (Nat.le_refl _) _).setCell (Nat.le_refl _) _).setCell (Nat.le_refl _) _).setCell (Nat.le_refl _) _).setCell (Nat.le_refl _) _)⟩
set_option maxHeartbeats 800000 in
theorem unpack_yes (n : Int) (W : World) (h0 : 0 ≤ n) (h1 : n < 18446744073709551616) (hk : (unChk n != 0) = false) (hp : (unPack n != n) = false) :
    Calls Try.prog 75 #[.int .u64 n] W fun e W' => e = .returned (.tuple #[.agg #[.int .i64 (n / 4096), .bool (onB n 0), .bool (onB n 1), .bool (onB n 7), .bool (onB n 9), .bool (onB n 5), .bool (onB n 6)], .int .i64 0]) ∧ Below W.heap.size W W' := by
  unfold unChk at hk
  unfold unPack at hp
  go_enter Try.func75, Try.ntmps75
  go_wp2_with fail
  refine (asker_any _ _).mono ?_
  rintro e w' ⟨rfl, rfl⟩
  go_wp2_with fail
  refine (has_any 0 n ⟨W.heap.size + 1, 0, none⟩ _ (by simp) (by omega) (by omega) h0 h1).mono ?_
  rintro e w' ⟨rfl, rfl⟩
  go_wp2_with fail
  refine (has_any 1 n ⟨W.heap.size + 1, 0, none⟩ _ (by simp) (by omega) (by omega) h0 h1).mono ?_
  rintro e w' ⟨rfl, rfl⟩
  go_wp2_with fail
  refine (has_any 5 n ⟨W.heap.size + 1, 0, none⟩ _ (by simp) (by omega) (by omega) h0 h1).mono ?_
  rintro e w' ⟨rfl, rfl⟩
  go_wp2_with fail
  refine (has_any 6 n ⟨W.heap.size + 1, 0, none⟩ _ (by simp) (by omega) (by omega) h0 h1).mono ?_
  rintro e w' ⟨rfl, rfl⟩
  go_wp2_with fail
  refine (has_any 7 n ⟨W.heap.size + 1, 0, none⟩ _ (by simp) (by omega) (by omega) h0 h1).mono ?_
  rintro e w' ⟨rfl, rfl⟩
  go_wp2_with fail
  refine (has_any 9 n ⟨W.heap.size + 1, 0, none⟩ _ (by simp) (by omega) (by omega) h0 h1).mono ?_
  rintro e w' ⟨rfl, rfl⟩
  go_wp2_with fail
  refine (pack_any _ _ _ _ _ _ _ _).mono ?_
  rintro e w1 ⟨rfl, hb⟩
  obtain ⟨hc, hf⟩ := bcell hb
  have hz : W.heap.size < w1.heap.size := by have := hb.size; simp at this; omega
  have hz1 : W.heap.size + 1 < w1.heap.size := by have := hb.size; simp at this; omega
  have hz2 : W.heap.size + 1 + 1 < w1.heap.size := by have := hb.size; simp at this; omega
  have c0 : w1.cell? ⟨W.heap.size, 0, none⟩ = some (.int .i64 0) := by rw [hc _ _ (by simp; omega)]; simp [go_sem]
  have c1 : w1.cell? ⟨W.heap.size, 1, none⟩ = some (.bool false) := by rw [hc _ _ (by simp; omega)]; simp [go_sem]
  have c2 : w1.cell? ⟨W.heap.size, 2, none⟩ = some (.bool false) := by rw [hc _ _ (by simp; omega)]; simp [go_sem]
  have c3 : w1.cell? ⟨W.heap.size, 3, none⟩ = some (.bool false) := by rw [hc _ _ (by simp; omega)]; simp [go_sem]
  have c4 : w1.cell? ⟨W.heap.size, 4, none⟩ = some (.bool false) := by rw [hc _ _ (by simp; omega)]; simp [go_sem]
  have c5 : w1.cell? ⟨W.heap.size, 5, none⟩ = some (.bool false) := by rw [hc _ _ (by simp; omega)]; simp [go_sem]
  have c6 : w1.cell? ⟨W.heap.size, 6, none⟩ = some (.bool false) := by rw [hc _ _ (by simp; omega)]; simp [go_sem]
  have d0 : w1.cell? ⟨W.heap.size + 1 + 1, 0, none⟩ = some (.int .i64 (n / 4096)) := by rw [hc _ _ (by simp)]; simp [go_sem]
  have d1 : w1.cell? ⟨W.heap.size + 1 + 1, 1, none⟩ = some (.bool (onB n 0)) := by rw [hc _ _ (by simp)]; simp [go_sem]
  have d2 : w1.cell? ⟨W.heap.size + 1 + 1, 2, none⟩ = some (.bool (onB n 1)) := by rw [hc _ _ (by simp)]; simp [go_sem]
  have d3 : w1.cell? ⟨W.heap.size + 1 + 1, 3, none⟩ = some (.bool (onB n 7)) := by rw [hc _ _ (by simp)]; simp [go_sem]
  have d4 : w1.cell? ⟨W.heap.size + 1 + 1, 4, none⟩ = some (.bool (onB n 9)) := by rw [hc _ _ (by simp)]; simp [go_sem]
  have d5 : w1.cell? ⟨W.heap.size + 1 + 1, 5, none⟩ = some (.bool (onB n 5)) := by rw [hc _ _ (by simp)]; simp [go_sem]
  have d6 : w1.cell? ⟨W.heap.size + 1 + 1, 6, none⟩ = some (.bool (onB n 6)) := by rw [hc _ _ (by simp)]; simp [go_sem]
  clear hc
  go_wp2_with fail
  exact bodyPost_ret (v := .tuple #[.agg #[.int .i64 (n / 4096), .bool (onB n 0), .bool (onB n 1), .bool (onB n 7), .bool (onB n 9), .bool (onB n 5), .bool (onB n 6)], .int .i64 0]) (by simp [results, Try.results75, go_sem, *]) rfl ⟨rfl, ((((((((((((Below.refl _ _).alloc (Nat.le_refl _) _).alloc (by simp) _).alloc (by simp; omega) _).trans (hb.mono (by simp; omega))).setCell (Nat.le_refl _) _).setCell (Nat.le_refl _) _).setCell (Nat.le_refl _) _).setCell (Nat.le_refl _) _).setCell (Nat.le_refl _) _).setCell (Nat.le_refl _) _).setCell (Nat.le_refl _) _)⟩
theorem unpack_any (n : Int) (W : World) (h0 : 0 ≤ n) (h1 : n < 18446744073709551616) :
    Calls Try.prog 75 #[.int .u64 n] W fun e W' => e = .returned (.tuple #[unE n, .int .i64 (unErr n)]) ∧ Below W.heap.size W W' := by
  by_cases hk : (unChk n != 0) = true
  · have ho : unOK n = false := by simp at hk; simp [unOK, hk]
    rw [unE_bad ho, unErr, ho]
    exact unpack_chk n W h0 h1 hk
  · simp only [Bool.not_eq_true] at hk
    by_cases hp : (unPack n != n) = true
    · have ho : unOK n = false := by simp at hp; simp [unOK, hp]
      rw [unE_bad ho, unErr, ho]
      exact unpack_not n W h0 h1 hk hp
    · simp only [Bool.not_eq_true] at hp
      have ho : unOK n = true := by simp at hp hk; simp [unOK, hp, hk]
      rw [unE_ok ho, unErr, ho]
      exact unpack_yes n W h0 h1 hk hp
end Go.Proofs.Ytpcpcgbejinlmaa
