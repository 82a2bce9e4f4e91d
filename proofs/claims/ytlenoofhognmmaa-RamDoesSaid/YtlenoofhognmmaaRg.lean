/- The walk of the law RamWords: what is stored is loaded, and two words do not meet. -/
import Derived.Test.YtlenoofhognmmaaRf
namespace Go.Proofs.Ytlenoofhognmmaa
open Go.RowKit

theorem ldV_stL (ws : List Int) (i j v : Int) (hi : errW ws.length i = 0) (hj : errW ws.length j = 0) : ldV (stL ws i v) j = if i.toNat / 8 = j.toNat / 8 then v else ldV ws j := by
  have hlen : (stL ws i v).length = ws.length := by simp [stL, hi]
  have hb : i.toNat / 8 < ws.length := by
    unfold errW at hi
    split at hi
    · omega
    · omega
  simp only [ldV, hlen, hj, if_pos]
  simp only [stL, hi, if_pos, List.getD_eq_getElem?_getD, List.getElem?_set]
  by_cases h : i.toNat / 8 = j.toNat / 8
  · rw [if_pos h, if_pos hb, if_pos h]; rfl
  · rw [if_neg h, if_neg h]
theorem errW_ok (n : Nat) (i : Int) (h0 : 0 ≤ i) (h1 : i < n * 8) (h2 : i % 8 = 0) : errW n i = 0 := by
  unfold errW
  rw [if_neg (by omega), if_pos h2]
theorem stL_length (ws : List Int) (i v : Int) : (stL ws i v).length = ws.length := by unfold stL; split <;> simp

section
variable {w : World} {a b n : Nat} {T : TypeId} {ws : List Int}
theorem store_ok (h : RamAt w a b T n ws) (i v : Int) (hv0 : 0 ≤ v) (hv1 : v < 18446744073709551616) (he : errW n i = 0) : Calls Try.prog 19 #[.pointer (some ⟨a, 0, none⟩), .int .i64 i, .int .u64 v] w fun e w' => e = .returned (.int .i64 0) ∧ RamAt w' a b T n (stL ws i v) ∧ w.grownBy w' (some b) := by
  have k := store_any h i v hv0 hv1
  rwa [he] at k
theorem load_ok (h : RamAt w a b T n ws) (i : Int) (he : errW n i = 0) : Calls Try.prog 13 #[.pointer (some ⟨a, 0, none⟩), .int .i64 i] w fun e w' => e = .returned (.tuple #[.int .u64 (ldV ws i), .int .i64 0]) ∧ w = w' := by
  have k := load_any h i
  rwa [he] at k
end
theorem drewN_below {B : Nat} {a w : World} (h : Below B a w) (n : Nat) : Below B a (w.drewN n) := ⟨h.os, h.tape, h.output, h.size, h.block⟩
theorem Row.four {w : World} {g : Nat} {t : TypeId} {x0 x1 x2 x3 : Value} (h : Row w g t [x0, x1, x2, x3]) :
    w.cell? ⟨g, 0, none⟩ = some x0 ∧ w.cell? ⟨g, 1, none⟩ = some x1 ∧ w.cell? ⟨g, 2, none⟩ = some x2 ∧ w.cell? ⟨g, 3, none⟩ = some x3 :=
  ⟨h.cell 0, h.cell 1, h.cell 2, h.cell 3⟩

set_option maxHeartbeats 1000000 in
theorem words_walk (A B V X : Int) (W : World) (hA0 : 0 ≤ A) (hA1 : A < 65536) (hB0 : 0 ≤ B) (hB1 : B < 65536) (hV0 : 0 ≤ V) (hV1 : V < 18446744073709551616) (hX0 : 0 ≤ X) (hX1 : X < 18446744073709551616) :
    Calls Try.prog 8 #[.agg #[.int .u16 A, .int .u16 B, .int .u64 V, .int .u64 X]] W fun e W' => e = .returned (.bool true) ∧ Below W.heap.size W W' := by
  have r0 : Row (W.alloc (.cells #[.int .u16 A, .int .u16 B, .int .u64 V, .int .u64 X] 55)) W.heap.size 55 [.int .u16 A, .int .u16 B, .int .u64 V, .int .u64 X] := Row.new W _ _
  obtain ⟨c0, c1, c2, c3⟩ := r0.four
  have B0 := (Below.refl W.heap.size W).alloc (Nat.le_refl _) (.cells #[.int .u16 A, .int .u16 B, .int .u64 V, .int .u64 X] 55)
  have ex : errW 8192 (A % 8192 * 8) = 0 := errW_ok _ _ (by omega) (by omega) (by omega)
  have ey : errW 8192 (B % 8192 * 8) = 0 := errW_ok _ _ (by omega) (by omega) (by omega)
  have l0 : (List.replicate 8192 (0 : Int)).length = 8192 := List.length_replicate
  obtain ⟨ws0, hws0⟩ : ∃ l : List Int, List.replicate 8192 (0 : Int) = l := ⟨_, rfl⟩
  have HW := Lib.hid hws0
  rw [hws0] at l0
  have hq : ldV (stL (stL ws0 (A % 8192 * 8) V) (B % 8192 * 8) X) (B % 8192 * 8) = X := by
    rw [ldV_stL _ _ _ _ (by rw [stL_length, l0]; exact ey) (by rw [stL_length, l0]; exact ey), if_pos rfl]
  have hp : A % 8192 * 8 ≠ B % 8192 * 8 → ldV (stL (stL ws0 (A % 8192 * 8) V) (B % 8192 * 8) X) (A % 8192 * 8) = V := fun hne => by
    rw [ldV_stL _ _ _ _ (by rw [stL_length, l0]; exact ey) (by rw [stL_length, l0]; exact ex), if_neg (by omega), ldV_stL _ _ _ _ (by rw [l0]; exact ex) (by rw [l0]; exact ex), if_pos rfl]
  have hq' : (ldV (stL (stL ws0 (A % 8192 * 8) V) (B % 8192 * 8) X) (B % 8192 * 8) == X) = true := by rw [hq]; simp
  have HP := Lib.hid hp
  have EX := Lib.hid ex
  have EY := Lib.hid ey
  clear hq hp ex ey l0 hws0
  go_enter Try.func8, Try.ntmps8
  go_wp2_with fail
  go_quiet (fail)
  have r1 : W.heap.size < ((W.alloc (.cells #[.int .u16 A, .int .u16 B, .int .u64 V, .int .u64 X] 55)).drewN nq).heap.size := r0.lt
  clear r0
  go_wp2_with fail
  refine (new_1024 _).mono ?_
  rintro e w1 ⟨rfl, h1, b1, z1⟩
  rw [HW.out] at h1
  have B1 := (drewN_below B0 nq).trans (b1.mono (Nat.le_of_lt r1))
  have z : Hid (W.heap.size < w1.heap.size) := Nat.lt_of_lt_of_le r1 b1.size
  have y : Hid (W.heap.size ≤ ((W.alloc (.cells #[.int .u16 A, .int .u16 B, .int .u64 V, .int .u64 X] 55)).drewN nq).heap.size) := Nat.le_of_lt r1
  clear z1 b1 B0 c0 c1 c2 c3 r1
  generalize ((W.alloc (.cells #[.int .u16 A, .int .u16 B, .int .u64 V, .int .u64 X] 55)).drewN nq).heap.size = g at *
  go_wp2_with fail
  refine (awake_any _).mono ?_
  rintro e w2 ⟨rfl, b2⟩
  have h2 := h1.below b2 h1.top.lt h1.row.lt
  have B2 := B1.trans (b2.mono (Nat.le_of_lt z.out))
  have z2 : Hid (W.heap.size < w2.heap.size) := Nat.lt_of_lt_of_le z.out b2.size
  clear b2 h1 B1 z
  go_wp2_with fail
  refine (store_ok h2 _ V hV0 hV1 EX.out).mono ?_
  rintro e w3 ⟨rfl, h3, g3⟩
  go_wp2_with fail
  refine (store_ok h3 _ X hX0 hX1 EY.out).mono ?_
  rintro e w4 ⟨rfl, h4, g4⟩
  have B4 : Hid (Below W.heap.size W w4) := by
    have z3 := z2.out
    have z4 := g3.size
    exact below_grown (below_grown B2 g3 (by omega) y.out) g4 (by omega) y.out
  clear h2 h3 g3 g4 z2 B2
  by_cases hxy : A % 8192 * 8 = B % 8192 * 8
  · have hx : (A % 8192 * 8 == B % 8192 * 8) = true := by simpa using hxy
    clear HP hxy
    go_wp2_with (first | (go_at_call 13; with_reducible refine (load_ok h4 (A % 8192 * 8) EX.out).mono ?_; rintro e w' ⟨rfl, rfl⟩) | (go_at_call 13; with_reducible refine (load_ok h4 (B % 8192 * 8) EY.out).mono ?_; rintro e w' ⟨rfl, rfl⟩))
    go_ret
    exact ⟨rfl, B4.out⟩
  · have hx : (A % 8192 * 8 == B % 8192 * 8) = false := by simpa using hxy
    have hp : (ldV (stL (stL ws0 (A % 8192 * 8) V) (B % 8192 * 8) X) (A % 8192 * 8) == V) = true := by rw [HP.out hxy]; simp
    clear HP hxy
    go_wp2_with (first | (go_at_call 13; with_reducible refine (load_ok h4 (A % 8192 * 8) EX.out).mono ?_; rintro e w' ⟨rfl, rfl⟩) | (go_at_call 13; with_reducible refine (load_ok h4 (B % 8192 * 8) EY.out).mono ?_; rintro e w' ⟨rfl, rfl⟩))
    go_ret
    exact ⟨rfl, B4.out⟩
end Go.Proofs.Ytlenoofhognmmaa
