/- The contracts of Unpack, of package entry and of its reference. -/
import Derived.Test.YtaphihoomipdaaaEb
namespace Go.Proofs.Ytaphihoomipdaaa
open Go.RowKit

set_option maxHeartbeats 800000 in
theorem unpack_chk (n : Int) (W : World) (h0 : 0 ≤ n) (h1 : n < 18446744073709551616) (hk : (unChk n != 0) = true) :
    Calls Try.prog 24 #[.int .u64 n] W fun e W' => e = .returned (.tuple #[agg0, .int .i64 5]) ∧ Below W.heap.size W W' := by
  unfold unChk at hk
  go_enter Try.func24, Try.ntmps24
  go_wp2_with fail
  refine (asker_any _ _).mono ?_
  rintro e w' ⟨rfl, rfl⟩
  go_wp2_with fail
  refine (has_any 0 n ⟨W.heap.size + 1, 0, none⟩ _ (by simp) (by omega) (by omega) h0 h1).mono ?_
  rintro e w' ⟨rfl, rfl⟩
  go_wp2_with fail
  refine (has_any 1 n ⟨W.heap.size + 1, 0, none⟩ _ (by simp) (by omega) (by omega) h0 h1).mono ?_
  rintro e w' ⟨rfl, rfl⟩
  go_wp2_with fail
  refine (has_any 5 n ⟨W.heap.size + 1, 0, none⟩ _ (by simp) (by omega) (by omega) h0 h1).mono ?_
  rintro e w' ⟨rfl, rfl⟩
  go_wp2_with fail
  refine (has_any 6 n ⟨W.heap.size + 1, 0, none⟩ _ (by simp) (by omega) (by omega) h0 h1).mono ?_
  rintro e w' ⟨rfl, rfl⟩
  go_wp2_with fail
  refine (has_any 7 n ⟨W.heap.size + 1, 0, none⟩ _ (by simp) (by omega) (by omega) h0 h1).mono ?_
  rintro e w' ⟨rfl, rfl⟩
  go_wp2_with fail
  refine (has_any 9 n ⟨W.heap.size + 1, 0, none⟩ _ (by simp) (by omega) (by omega) h0 h1).mono ?_
  rintro e w' ⟨rfl, rfl⟩
  go_wp2_with fail
  refine (pack_any _ _ _ _ _ _ _ _).mono ?_
  rintro e w1 ⟨rfl, hb⟩
  obtain ⟨hc, hf⟩ := bcell hb
  have hz : W.heap.size < w1.heap.size := by have := hb.size; simp at this; omega
  have hz1 : W.heap.size + 1 < w1.heap.size := by have := hb.size; simp at this; omega
  have hz2 : W.heap.size + 1 + 1 < w1.heap.size := by have := hb.size; simp at this; omega
  have c0 : w1.cell? ⟨W.heap.size, 0, none⟩ = some (.int .i64 0) := by rw [hc _ _ (by simp; omega)]; simp [go_sem]
  have c1 : w1.cell? ⟨W.heap.size, 1, none⟩ = some (.bool false) := by rw [hc _ _ (by simp; omega)]; simp [go_sem]
  have c2 : w1.cell? ⟨W.heap.size, 2, none⟩ = some (.bool false) := by rw [hc _ _ (by simp; omega)]; simp [go_sem]
  have c3 : w1.cell? ⟨W.heap.size, 3, none⟩ = some (.bool false) := by rw [hc _ _ (by simp; omega)]; simp [go_sem]
  have c4 : w1.cell? ⟨W.heap.size, 4, none⟩ = some (.bool false) := by rw [hc _ _ (by simp; omega)]; simp [go_sem]
  have c5 : w1.cell? ⟨W.heap.size, 5, none⟩ = some (.bool false) := by rw [hc _ _ (by simp; omega)]; simp [go_sem]
  have c6 : w1.cell? ⟨W.heap.size, 6, none⟩ = some (.bool false) := by rw [hc _ _ (by simp; omega)]; simp [go_sem]
  have d0 : w1.cell? ⟨W.heap.size + 1 + 1, 0, none⟩ = some (.int .i64 (n / 4096)) := by rw [hc _ _ (by simp)]; simp [go_sem]
  have d1 : w1.cell? ⟨W.heap.size + 1 + 1, 1, none⟩ = some (.bool (onB n 0)) := by rw [hc _ _ (by simp)]; simp [go_sem]
  have d2 : w1.cell? ⟨W.heap.size + 1 + 1, 2, none⟩ = some (.bool (onB n 1)) := by rw [hc _ _ (by simp)]; simp [go_sem]
  have d3 : w1.cell? ⟨W.heap.size + 1 + 1, 3, none⟩ = some (.bool (onB n 7)) := by rw [hc _ _ (by simp)]; simp [go_sem]
  have d4 : w1.cell? ⟨W.heap.size + 1 + 1, 4, none⟩ = some (.bool (onB n 9)) := by rw [hc _ _ (by simp)]; simp [go_sem]
  have d5 : w1.cell? ⟨W.heap.size + 1 + 1, 5, none⟩ = some (.bool (onB n 5)) := by rw [hc _ _ (by simp)]; simp [go_sem]
  have d6 : w1.cell? ⟨W.heap.size + 1 + 1, 6, none⟩ = some (.bool (onB n 6)) := by rw [hc _ _ (by simp)]; simp [go_sem]
  clear hc
  go_wp2_with fail
  exact bodyPost_ret (v := .tuple #[.agg #[.int .i64 0, .bool false, .bool false, .bool false, .bool false, .bool false, .bool false], .int .i64 5]) (by simp [results, Try.results24, go_sem, *]) rfl ⟨rfl, ((((((((((((Below.refl _ _).alloc (Nat.le_refl _) _).alloc (by simp) _).alloc (by simp; omega) _).trans (hb.mono (by simp; omega))).setCell (Nat.le_refl _) _).setCell (Nat.le_refl _) _).setCell (Nat.le_refl _) _).setCell (Nat.le_refl _) _).setCell (Nat.le_refl _) _).setCell (Nat.le_refl _) _).setCell (Nat.le_refl _) _)⟩

set_option maxHeartbeats 800000 in
theorem unpack_not (n : Int) (W : World) (h0 : 0 ≤ n) (h1 : n < 18446744073709551616) (hk : (unChk n != 0) = false) (hp : (unPack n != n) = true) :
    Calls Try.prog 24 #[.int .u64 n] W fun e W' => e = .returned (.tuple #[agg0, .int .i64 5]) ∧ Below W.heap.size W W' := by
  unfold unChk at hk
  unfold unPack at hp
  go_enter Try.func24, Try.ntmps24
  go_wp2_with fail
  refine (asker_any _ _).mono ?_
  rintro e w' ⟨rfl, rfl⟩
  go_wp2_with fail
  refine (has_any 0 n ⟨W.heap.size + 1, 0, none⟩ _ (by simp) (by omega) (by omega) h0 h1).mono ?_
  rintro e w' ⟨rfl, rfl⟩
  go_wp2_with fail
  refine (has_any 1 n ⟨W.heap.size + 1, 0, none⟩ _ (by simp) (by omega) (by omega) h0 h1).mono ?_
  rintro e w' ⟨rfl, rfl⟩
  go_wp2_with fail
  refine (has_any 5 n ⟨W.heap.size + 1, 0, none⟩ _ (by simp) (by omega) (by omega) h0 h1).mono ?_
  rintro e w' ⟨rfl, rfl⟩
  go_wp2_with fail
  refine (has_any 6 n ⟨W.heap.size + 1, 0, none⟩ _ (by simp) (by omega) (by omega) h0 h1).mono ?_
  rintro e w' ⟨rfl, rfl⟩
  go_wp2_with fail
  refine (has_any 7 n ⟨W.heap.size + 1, 0, none⟩ _ (by simp) (by omega) (by omega) h0 h1).mono ?_
  rintro e w' ⟨rfl, rfl⟩
  go_wp2_with fail
  refine (has_any 9 n ⟨W.heap.size + 1, 0, none⟩ _ (by simp) (by omega) (by omega) h0 h1).mono ?_
  rintro e w' ⟨rfl, rfl⟩
  go_wp2_with fail
  refine (pack_any _ _ _ _ _ _ _ _).mono ?_
  rintro e w1 ⟨rfl, hb⟩
  obtain ⟨hc, hf⟩ := bcell hb
  have hz : W.heap.size < w1.heap.size := by have := hb.size; simp at this; omega
  have hz1 : W.heap.size + 1 < w1.heap.size := by have := hb.size; simp at this; omega
  have hz2 : W.heap.size + 1 + 1 < w1.heap.size := by have := hb.size; simp at this; omega
  have c0 : w1.cell? ⟨W.heap.size, 0, none⟩ = some (.int .i64 0) := by rw [hc _ _ (by simp; omega)]; simp [go_sem]
  have c1 : w1.cell? ⟨W.heap.size, 1, none⟩ = some (.bool false) := by rw [hc _ _ (by simp; omega)]; simp [go_sem]
  have c2 : w1.cell? ⟨W.heap.size, 2, none⟩ = some (.bool false) := by rw [hc _ _ (by simp; omega)]; simp [go_sem]
  have c3 : w1.cell? ⟨W.heap.size, 3, none⟩ = some (.bool false) := by rw [hc _ _ (by simp; omega)]; simp [go_sem]
  have c4 : w1.cell? ⟨W.heap.size, 4, none⟩ = some (.bool false) := by rw [hc _ _ (by simp; omega)]; simp [go_sem]
  have c5 : w1.cell? ⟨W.heap.size, 5, none⟩ = some (.bool false) := by rw [hc _ _ (by simp; omega)]; simp [go_sem]
  have c6 : w1.cell? ⟨W.heap.size, 6, none⟩ = some (.bool false) := by rw [hc _ _ (by simp; omega)]; simp [go_sem]
  have d0 : w1.cell? ⟨W.heap.size + 1 + 1, 0, none⟩ = some (.int .i64 (n / 4096)) := by rw [hc _ _ (by simp)]; simp [go_sem]
  have d1 : w1.cell? ⟨W.heap.size + 1 + 1, 1, none⟩ = some (.bool (onB n 0)) := by rw [hc _ _ (by simp)]; simp [go_sem]
  have d2 : w1.cell? ⟨W.heap.size + 1 + 1, 2, none⟩ = some (.bool (onB n 1)) := by rw [hc _ _ (by simp)]; simp [go_sem]
  have d3 : w1.cell? ⟨W.heap.size + 1 + 1, 3, none⟩ = some (.bool (onB n 7)) := by rw [hc _ _ (by simp)]; simp [go_sem]
  have d4 : w1.cell? ⟨W.heap.size + 1 + 1, 4, none⟩ = some (.bool (onB n 9)) := by rw [hc _ _ (by simp)]; simp [go_sem]
  have d5 : w1.cell? ⟨W.heap.size + 1 + 1, 5, none⟩ = some (.bool (onB n 5)) := by rw [hc _ _ (by simp)]; simp [go_sem]
  have d6 : w1.cell? ⟨W.heap.size + 1 + 1, 6, none⟩ = some (.bool (onB n 6)) := by rw [hc _ _ (by simp)]; simp [go_sem]
  clear hc
  go_wp2_with fail
  exact bodyPost_ret (v := .tuple #[.agg #[.int .i64 0, .bool false, .bool false, .bool false, .bool false, .bool false, .bool false], .int .i64 5]) (by simp [results, Try.results24, go_sem, *]) rfl ⟨rfl, ((((((((((((Below.refl _ _).alloc (Nat.le_refl _) _).alloc (by simp) _).alloc (by simp; omega) _).trans (hb.mono (by simp; omega))).setCell (Nat.le_refl _) _).setCell (Nat.le_refl _) _).setCell (Nat.le_refl _) _).setCell (Nat.le_refl _) _).setCell (Nat.le_refl _) _).setCell (Nat.le_refl _) _).setCell (Nat.le_refl _) _)⟩

set_option maxHeartbeats 800000 in
theorem unpack_yes (n : Int) (W : World) (h0 : 0 ≤ n) (h1 : n < 18446744073709551616) (hk : (unChk n != 0) = false) (hp : (unPack n != n) = false) :
    Calls Try.prog 24 #[.int .u64 n] W fun e W' => e = .returned (.tuple #[.agg #[.int .i64 (n / 4096), .bool (onB n 0), .bool (onB n 1), .bool (onB n 7), .bool (onB n 9), .bool (onB n 5), .bool (onB n 6)], .int .i64 0]) ∧ Below W.heap.size W W' := by
  unfold unChk at hk
  unfold unPack at hp
  go_enter Try.func24, Try.ntmps24
  go_wp2_with fail
  refine (asker_any _ _).mono ?_
  rintro e w' ⟨rfl, rfl⟩
  go_wp2_with fail
  refine (has_any 0 n ⟨W.heap.size + 1, 0, none⟩ _ (by simp) (by omega) (by omega) h0 h1).mono ?_
  rintro e w' ⟨rfl, rfl⟩
  go_wp2_with fail
  refine (has_any 1 n ⟨W.heap.size + 1, 0, none⟩ _ (by simp) (by omega) (by omega) h0 h1).mono ?_
  rintro e w' ⟨rfl, rfl⟩
  go_wp2_with fail
  refine (has_any 5 n ⟨W.heap.size + 1, 0, none⟩ _ (by simp) (by omega) (by omega) h0 h1).mono ?_
  rintro e w' ⟨rfl, rfl⟩
  go_wp2_with fail
  refine (has_any 6 n ⟨W.heap.size + 1, 0, none⟩ _ (by simp) (by omega) (by omega) h0 h1).mono ?_
  rintro e w' ⟨rfl, rfl⟩
  go_wp2_with fail
  refine (has_any 7 n ⟨W.heap.size + 1, 0, none⟩ _ (by simp) (by omega) (by omega) h0 h1).mono ?_
  rintro e w' ⟨rfl, rfl⟩
  go_wp2_with fail
  refine (has_any 9 n ⟨W.heap.size + 1, 0, none⟩ _ (by simp) (by omega) (by omega) h0 h1).mono ?_
  rintro e w' ⟨rfl, rfl⟩
  go_wp2_with fail
  refine (pack_any _ _ _ _ _ _ _ _).mono ?_
  rintro e w1 ⟨rfl, hb⟩
  obtain ⟨hc, hf⟩ := bcell hb
  have hz : W.heap.size < w1.heap.size := by have := hb.size; simp at this; omega
  have hz1 : W.heap.size + 1 < w1.heap.size := by have := hb.size; simp at this; omega
  have hz2 : W.heap.size + 1 + 1 < w1.heap.size := by have := hb.size; simp at this; omega
  have c0 : w1.cell? ⟨W.heap.size, 0, none⟩ = some (.int .i64 0) := by rw [hc _ _ (by simp; omega)]; simp [go_sem]
  have c1 : w1.cell? ⟨W.heap.size, 1, none⟩ = some (.bool false) := by rw [hc _ _ (by simp; omega)]; simp [go_sem]
  have c2 : w1.cell? ⟨W.heap.size, 2, none⟩ = some (.bool false) := by rw [hc _ _ (by simp; omega)]; simp [go_sem]
  have c3 : w1.cell? ⟨W.heap.size, 3, none⟩ = some (.bool false) := by rw [hc _ _ (by simp; omega)]; simp [go_sem]
  have c4 : w1.cell? ⟨W.heap.size, 4, none⟩ = some (.bool false) := by rw [hc _ _ (by simp; omega)]; simp [go_sem]
  have c5 : w1.cell? ⟨W.heap.size, 5, none⟩ = some (.bool false) := by rw [hc _ _ (by simp; omega)]; simp [go_sem]
  have c6 : w1.cell? ⟨W.heap.size, 6, none⟩ = some (.bool false) := by rw [hc _ _ (by simp; omega)]; simp [go_sem]
  have d0 : w1.cell? ⟨W.heap.size + 1 + 1, 0, none⟩ = some (.int .i64 (n / 4096)) := by rw [hc _ _ (by simp)]; simp [go_sem]
  have d1 : w1.cell? ⟨W.heap.size + 1 + 1, 1, none⟩ = some (.bool (onB n 0)) := by rw [hc _ _ (by simp)]; simp [go_sem]
  have d2 : w1.cell? ⟨W.heap.size + 1 + 1, 2, none⟩ = some (.bool (onB n 1)) := by rw [hc _ _ (by simp)]; simp [go_sem]
  have d3 : w1.cell? ⟨W.heap.size + 1 + 1, 3, none⟩ = some (.bool (onB n 7)) := by rw [hc _ _ (by simp)]; simp [go_sem]
  have d4 : w1.cell? ⟨W.heap.size + 1 + 1, 4, none⟩ = some (.bool (onB n 9)) := by rw [hc _ _ (by simp)]; simp [go_sem]
  have d5 : w1.cell? ⟨W.heap.size + 1 + 1, 5, none⟩ = some (.bool (onB n 5)) := by rw [hc _ _ (by simp)]; simp [go_sem]
  have d6 : w1.cell? ⟨W.heap.size + 1 + 1, 6, none⟩ = some (.bool (onB n 6)) := by rw [hc _ _ (by simp)]; simp [go_sem]
  clear hc
  go_wp2_with fail
  exact bodyPost_ret (v := .tuple #[.agg #[.int .i64 (n / 4096), .bool (onB n 0), .bool (onB n 1), .bool (onB n 7), .bool (onB n 9), .bool (onB n 5), .bool (onB n 6)], .int .i64 0]) (by simp [results, Try.results24, go_sem, *]) rfl ⟨rfl, ((((((((((((Below.refl _ _).alloc (Nat.le_refl _) _).alloc (by simp) _).alloc (by simp; omega) _).trans (hb.mono (by simp; omega))).setCell (Nat.le_refl _) _).setCell (Nat.le_refl _) _).setCell (Nat.le_refl _) _).setCell (Nat.le_refl _) _).setCell (Nat.le_refl _) _).setCell (Nat.le_refl _) _).setCell (Nat.le_refl _) _)⟩

theorem unpack_any (n : Int) (W : World) (h0 : 0 ≤ n) (h1 : n < 18446744073709551616) :
    Calls Try.prog 24 #[.int .u64 n] W fun e W' => e = .returned (.tuple #[unE n, .int .i64 (unErr n)]) ∧ Below W.heap.size W W' := by
  by_cases hk : (unChk n != 0) = true
  · have ho : unOK n = false := by simp at hk; simp [unOK, hk]
    rw [unE_bad ho, unErr, ho]
    exact unpack_chk n W h0 h1 hk
  · simp only [Bool.not_eq_true] at hk
    by_cases hp : (unPack n != n) = true
    · have ho : unOK n = false := by simp at hp; simp [unOK, hp]
      rw [unE_bad ho, unErr, ho]
      exact unpack_not n W h0 h1 hk hp
    · simp only [Bool.not_eq_true] at hp
      have ho : unOK n = true := by simp at hp hk; simp [unOK, hp, hk]
      rw [unE_ok ho, unErr, ho]
      exact unpack_yes n W h0 h1 hk hp

set_option maxHeartbeats 800000 in
theorem runpack_big (n : Int) (W : World) (h0 : 0 ≤ n) (h1 : n < 18446744073709551616) (hb : 1048575 < n / 4096) :
    Calls Try.prog 26 #[.int .u64 n] W fun e W' => e = .returned (.tuple #[agg0, .int .i64 5]) ∧ Below W.heap.size W W' := by
  go_enter Try.func26, Try.ntmps26
  go_wp2_with fail
  exact bodyPost_ret (v := .tuple #[.agg #[.int .i64 0, .bool false, .bool false, .bool false, .bool false, .bool false, .bool false], .int .i64 5]) (by simp [results, Try.results26, go_sem, *]) rfl ⟨rfl, ((Below.refl _ _).alloc (Nat.le_refl _) _)⟩

set_option maxHeartbeats 800000 in
theorem runpack_chk (n : Int) (W : World) (h0 : 0 ≤ n) (h1 : n < 18446744073709551616) (hk : (unChk n != 0) = true) (hr : n / 4096 ≤ 1048575) :
    Calls Try.prog 26 #[.int .u64 n] W fun e W' => e = .returned (.tuple #[agg0, .int .i64 5]) ∧ Below W.heap.size W W' := by
  unfold unChk at hk
  have e9 : (n % 4096 / 512 % 2 == 1) = onB n 9 := onB_9 n
  have e7 : (n % 4096 / 128 % 2 == 1) = onB n 7 := onB_7 n
  have e6 : (n % 4096 / 64 % 2 == 1) = onB n 6 := onB_6 n
  have e5 : (n % 4096 / 32 % 2 == 1) = onB n 5 := onB_5 n
  have e1 : (n % 4096 / 2 % 2 == 1) = onB n 1 := onB_1 n
  have e0 : (n % 2 == 1) = onB n 0 := onB_0 n
  go_enter Try.func26, Try.ntmps26
  go_wp2_with fail
  refine (rpack_any _ _ _ _ _ _ _ _).mono ?_
  rintro e w1 ⟨rfl, hb⟩
  obtain ⟨hc, hf⟩ := bcell hb
  have hz : W.heap.size < w1.heap.size := by have := hb.size; simp at this; omega
  have hz1 : W.heap.size + 1 < w1.heap.size := by have := hb.size; simp at this; omega
  have hz2 : W.heap.size + 1 < w1.heap.size := by have := hb.size; simp at this; omega
  have c0 : w1.cell? ⟨W.heap.size, 0, none⟩ = some (.int .i64 0) := by rw [hc _ _ (by simp; omega)]; simp [go_sem]
  have c1 : w1.cell? ⟨W.heap.size, 1, none⟩ = some (.bool false) := by rw [hc _ _ (by simp; omega)]; simp [go_sem]
  have c2 : w1.cell? ⟨W.heap.size, 2, none⟩ = some (.bool false) := by rw [hc _ _ (by simp; omega)]; simp [go_sem]
  have c3 : w1.cell? ⟨W.heap.size, 3, none⟩ = some (.bool false) := by rw [hc _ _ (by simp; omega)]; simp [go_sem]
  have c4 : w1.cell? ⟨W.heap.size, 4, none⟩ = some (.bool false) := by rw [hc _ _ (by simp; omega)]; simp [go_sem]
  have c5 : w1.cell? ⟨W.heap.size, 5, none⟩ = some (.bool false) := by rw [hc _ _ (by simp; omega)]; simp [go_sem]
  have c6 : w1.cell? ⟨W.heap.size, 6, none⟩ = some (.bool false) := by rw [hc _ _ (by simp; omega)]; simp [go_sem]
  have d0 : w1.cell? ⟨W.heap.size + 1, 0, none⟩ = some (.int .i64 (n / 4096)) := by rw [hc _ _ (by simp)]; simp [go_sem]
  have d1 : w1.cell? ⟨W.heap.size + 1, 1, none⟩ = some (.bool (onB n 0)) := by rw [hc _ _ (by simp)]; simp [go_sem]
  have d2 : w1.cell? ⟨W.heap.size + 1, 2, none⟩ = some (.bool (onB n 1)) := by rw [hc _ _ (by simp)]; simp [go_sem]
  have d3 : w1.cell? ⟨W.heap.size + 1, 3, none⟩ = some (.bool (onB n 7)) := by rw [hc _ _ (by simp)]; simp [go_sem]
  have d4 : w1.cell? ⟨W.heap.size + 1, 4, none⟩ = some (.bool (onB n 9)) := by rw [hc _ _ (by simp)]; simp [go_sem]
  have d5 : w1.cell? ⟨W.heap.size + 1, 5, none⟩ = some (.bool (onB n 5)) := by rw [hc _ _ (by simp)]; simp [go_sem]
  have d6 : w1.cell? ⟨W.heap.size + 1, 6, none⟩ = some (.bool (onB n 6)) := by rw [hc _ _ (by simp)]; simp [go_sem]
  clear hc
  go_wp2_with fail
  exact bodyPost_ret (v := .tuple #[.agg #[.int .i64 0, .bool false, .bool false, .bool false, .bool false, .bool false, .bool false], .int .i64 5]) (by simp [results, Try.results26, go_sem, *]) rfl ⟨rfl, (((((((((((Below.refl _ _).alloc (Nat.le_refl _) _).alloc (by simp) _).trans (hb.mono (by simp; omega))).setCell (Nat.le_refl _) _).setCell (Nat.le_refl _) _).setCell (Nat.le_refl _) _).setCell (Nat.le_refl _) _).setCell (Nat.le_refl _) _).setCell (Nat.le_refl _) _).setCell (Nat.le_refl _) _)⟩

set_option maxHeartbeats 800000 in
theorem runpack_not (n : Int) (W : World) (h0 : 0 ≤ n) (h1 : n < 18446744073709551616) (hk : (unChk n != 0) = false) (hp : (unPack n != n) = true) :
    Calls Try.prog 26 #[.int .u64 n] W fun e W' => e = .returned (.tuple #[agg0, .int .i64 5]) ∧ Below W.heap.size W W' := by
  unfold unChk at hk
  unfold unPack at hp
  have e9 : (n % 4096 / 512 % 2 == 1) = onB n 9 := onB_9 n
  have e7 : (n % 4096 / 128 % 2 == 1) = onB n 7 := onB_7 n
  have e6 : (n % 4096 / 64 % 2 == 1) = onB n 6 := onB_6 n
  have e5 : (n % 4096 / 32 % 2 == 1) = onB n 5 := onB_5 n
  have e1 : (n % 4096 / 2 % 2 == 1) = onB n 1 := onB_1 n
  have e0 : (n % 2 == 1) = onB n 0 := onB_0 n
  have hr : n / 4096 ≤ 1048575 := un_range hk
  go_enter Try.func26, Try.ntmps26
  go_wp2_with fail
  refine (rpack_any _ _ _ _ _ _ _ _).mono ?_
  rintro e w1 ⟨rfl, hb⟩
  obtain ⟨hc, hf⟩ := bcell hb
  have hz : W.heap.size < w1.heap.size := by have := hb.size; simp at this; omega
  have hz1 : W.heap.size + 1 < w1.heap.size := by have := hb.size; simp at this; omega
  have hz2 : W.heap.size + 1 < w1.heap.size := by have := hb.size; simp at this; omega
  have c0 : w1.cell? ⟨W.heap.size, 0, none⟩ = some (.int .i64 0) := by rw [hc _ _ (by simp; omega)]; simp [go_sem]
  have c1 : w1.cell? ⟨W.heap.size, 1, none⟩ = some (.bool false) := by rw [hc _ _ (by simp; omega)]; simp [go_sem]
  have c2 : w1.cell? ⟨W.heap.size, 2, none⟩ = some (.bool false) := by rw [hc _ _ (by simp; omega)]; simp [go_sem]
  have c3 : w1.cell? ⟨W.heap.size, 3, none⟩ = some (.bool false) := by rw [hc _ _ (by simp; omega)]; simp [go_sem]
  have c4 : w1.cell? ⟨W.heap.size, 4, none⟩ = some (.bool false) := by rw [hc _ _ (by simp; omega)]; simp [go_sem]
  have c5 : w1.cell? ⟨W.heap.size, 5, none⟩ = some (.bool false) := by rw [hc _ _ (by simp; omega)]; simp [go_sem]
  have c6 : w1.cell? ⟨W.heap.size, 6, none⟩ = some (.bool false) := by rw [hc _ _ (by simp; omega)]; simp [go_sem]
  have d0 : w1.cell? ⟨W.heap.size + 1, 0, none⟩ = some (.int .i64 (n / 4096)) := by rw [hc _ _ (by simp)]; simp [go_sem]
  have d1 : w1.cell? ⟨W.heap.size + 1, 1, none⟩ = some (.bool (onB n 0)) := by rw [hc _ _ (by simp)]; simp [go_sem]
  have d2 : w1.cell? ⟨W.heap.size + 1, 2, none⟩ = some (.bool (onB n 1)) := by rw [hc _ _ (by simp)]; simp [go_sem]
  have d3 : w1.cell? ⟨W.heap.size + 1, 3, none⟩ = some (.bool (onB n 7)) := by rw [hc _ _ (by simp)]; simp [go_sem]
  have d4 : w1.cell? ⟨W.heap.size + 1, 4, none⟩ = some (.bool (onB n 9)) := by rw [hc _ _ (by simp)]; simp [go_sem]
  have d5 : w1.cell? ⟨W.heap.size + 1, 5, none⟩ = some (.bool (onB n 5)) := by rw [hc _ _ (by simp)]; simp [go_sem]
  have d6 : w1.cell? ⟨W.heap.size + 1, 6, none⟩ = some (.bool (onB n 6)) := by rw [hc _ _ (by simp)]; simp [go_sem]
  clear hc
  go_wp2_with fail
  exact bodyPost_ret (v := .tuple #[.agg #[.int .i64 0, .bool false, .bool false, .bool false, .bool false, .bool false, .bool false], .int .i64 5]) (by simp [results, Try.results26, go_sem, *]) rfl ⟨rfl, (((((((((((Below.refl _ _).alloc (Nat.le_refl _) _).alloc (by simp) _).trans (hb.mono (by simp; omega))).setCell (Nat.le_refl _) _).setCell (Nat.le_refl _) _).setCell (Nat.le_refl _) _).setCell (Nat.le_refl _) _).setCell (Nat.le_refl _) _).setCell (Nat.le_refl _) _).setCell (Nat.le_refl _) _)⟩

set_option maxHeartbeats 800000 in
theorem runpack_yes (n : Int) (W : World) (h0 : 0 ≤ n) (h1 : n < 18446744073709551616) (hk : (unChk n != 0) = false) (hp : (unPack n != n) = false) :
    Calls Try.prog 26 #[.int .u64 n] W fun e W' => e = .returned (.tuple #[.agg #[.int .i64 (n / 4096), .bool (onB n 0), .bool (onB n 1), .bool (onB n 7), .bool (onB n 9), .bool (onB n 5), .bool (onB n 6)], .int .i64 0]) ∧ Below W.heap.size W W' := by
  unfold unChk at hk
  unfold unPack at hp
  have e9 : (n % 4096 / 512 % 2 == 1) = onB n 9 := onB_9 n
  have e7 : (n % 4096 / 128 % 2 == 1) = onB n 7 := onB_7 n
  have e6 : (n % 4096 / 64 % 2 == 1) = onB n 6 := onB_6 n
  have e5 : (n % 4096 / 32 % 2 == 1) = onB n 5 := onB_5 n
  have e1 : (n % 4096 / 2 % 2 == 1) = onB n 1 := onB_1 n
  have e0 : (n % 2 == 1) = onB n 0 := onB_0 n
  have hr : n / 4096 ≤ 1048575 := un_range hk
  go_enter Try.func26, Try.ntmps26
  go_wp2_with fail
  refine (rpack_any _ _ _ _ _ _ _ _).mono ?_
  rintro e w1 ⟨rfl, hb⟩
  obtain ⟨hc, hf⟩ := bcell hb
  have hz : W.heap.size < w1.heap.size := by have := hb.size; simp at this; omega
  have hz1 : W.heap.size + 1 < w1.heap.size := by have := hb.size; simp at this; omega
  have hz2 : W.heap.size + 1 < w1.heap.size := by have := hb.size; simp at this; omega
  have c0 : w1.cell? ⟨W.heap.size, 0, none⟩ = some (.int .i64 0) := by rw [hc _ _ (by simp; omega)]; simp [go_sem]
  have c1 : w1.cell? ⟨W.heap.size, 1, none⟩ = some (.bool false) := by rw [hc _ _ (by simp; omega)]; simp [go_sem]
  have c2 : w1.cell? ⟨W.heap.size, 2, none⟩ = some (.bool false) := by rw [hc _ _ (by simp; omega)]; simp [go_sem]
  have c3 : w1.cell? ⟨W.heap.size, 3, none⟩ = some (.bool false) := by rw [hc _ _ (by simp; omega)]; simp [go_sem]
  have c4 : w1.cell? ⟨W.heap.size, 4, none⟩ = some (.bool false) := by rw [hc _ _ (by simp; omega)]; simp [go_sem]
  have c5 : w1.cell? ⟨W.heap.size, 5, none⟩ = some (.bool false) := by rw [hc _ _ (by simp; omega)]; simp [go_sem]
  have c6 : w1.cell? ⟨W.heap.size, 6, none⟩ = some (.bool false) := by rw [hc _ _ (by simp; omega)]; simp [go_sem]
  have d0 : w1.cell? ⟨W.heap.size + 1, 0, none⟩ = some (.int .i64 (n / 4096)) := by rw [hc _ _ (by simp)]; simp [go_sem]
  have d1 : w1.cell? ⟨W.heap.size + 1, 1, none⟩ = some (.bool (onB n 0)) := by rw [hc _ _ (by simp)]; simp [go_sem]
  have d2 : w1.cell? ⟨W.heap.size + 1, 2, none⟩ = some (.bool (onB n 1)) := by rw [hc _ _ (by simp)]; simp [go_sem]
  have d3 : w1.cell? ⟨W.heap.size + 1, 3, none⟩ = some (.bool (onB n 7)) := by rw [hc _ _ (by simp)]; simp [go_sem]
  have d4 : w1.cell? ⟨W.heap.size + 1, 4, none⟩ = some (.bool (onB n 9)) := by rw [hc _ _ (by simp)]; simp [go_sem]
  have d5 : w1.cell? ⟨W.heap.size + 1, 5, none⟩ = some (.bool (onB n 5)) := by rw [hc _ _ (by simp)]; simp [go_sem]
  have d6 : w1.cell? ⟨W.heap.size + 1, 6, none⟩ = some (.bool (onB n 6)) := by rw [hc _ _ (by simp)]; simp [go_sem]
  clear hc
  go_wp2_with fail
  exact bodyPost_ret (v := .tuple #[.agg #[.int .i64 (n / 4096), .bool (onB n 0), .bool (onB n 1), .bool (onB n 7), .bool (onB n 9), .bool (onB n 5), .bool (onB n 6)], .int .i64 0]) (by simp [results, Try.results26, go_sem, *]) rfl ⟨rfl, (((((((((((Below.refl _ _).alloc (Nat.le_refl _) _).alloc (by simp) _).trans (hb.mono (by simp; omega))).setCell (Nat.le_refl _) _).setCell (Nat.le_refl _) _).setCell (Nat.le_refl _) _).setCell (Nat.le_refl _) _).setCell (Nat.le_refl _) _).setCell (Nat.le_refl _) _).setCell (Nat.le_refl _) _)⟩

theorem runpack_any (n : Int) (W : World) (h0 : 0 ≤ n) (h1 : n < 18446744073709551616) :
    Calls Try.prog 26 #[.int .u64 n] W fun e W' => e = .returned (.tuple #[unE n, .int .i64 (unErr n)]) ∧ Below W.heap.size W W' := by
  by_cases hk : (unChk n != 0) = true
  · have ho : unOK n = false := by simp at hk; simp [unOK, hk]
    rw [unE_bad ho, unErr, ho]
    by_cases hr : n / 4096 ≤ 1048575
    · exact runpack_chk n W h0 h1 hk hr
    · exact runpack_big n W h0 h1 (by omega)
  · simp only [Bool.not_eq_true] at hk
    by_cases hp : (unPack n != n) = true
    · have ho : unOK n = false := by simp at hp; simp [unOK, hp]
      rw [unE_bad ho, unErr, ho]
      exact runpack_not n W h0 h1 hk hp
    · simp only [Bool.not_eq_true] at hp
      have ho : unOK n = true := by simp at hp hk; simp [unOK, hp, hk]
      rw [unE_ok ho, unErr, ho]
      exact runpack_yes n W h0 h1 hk hp

end Go.Proofs.Ytaphihoomipdaaa
