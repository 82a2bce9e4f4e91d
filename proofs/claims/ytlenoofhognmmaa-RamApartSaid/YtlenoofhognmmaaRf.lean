/- The law's own first calls come as the document says; new memories of a fixed size; the walks of the laws RamNone and RamWords. -/
import Derived.Test.YtlenoofhognmmaaRe
namespace Go.Proofs.Ytlenoofhognmmaa
open Go.RowKit

theorem new_8 (w : World) : Calls Try.prog 9 #[.int .i64 8] w fun e w' => e = .returned (.tuple #[.pointer (some ⟨w.heap.size + 1, 0, none⟩), .int .i64 0]) ∧ RamAt w' (w.heap.size + 1) w.heap.size 58 64 (List.replicate 64 0) ∧ Below w.heap.size w w' ∧ w'.heap.size = w.heap.size + 2 := new_ok 8 w (by omega) (by omega)
theorem new_16 (w : World) : Calls Try.prog 9 #[.int .i64 16] w fun e w' => e = .returned (.tuple #[.pointer (some ⟨w.heap.size + 1, 0, none⟩), .int .i64 0]) ∧ RamAt w' (w.heap.size + 1) w.heap.size 58 128 (List.replicate 128 0) ∧ Below w.heap.size w w' ∧ w'.heap.size = w.heap.size + 2 := new_ok 16 w (by omega) (by omega)
theorem new_1024 (w : World) : Calls Try.prog 9 #[.int .i64 1024] w fun e w' => e = .returned (.tuple #[.pointer (some ⟨w.heap.size + 1, 0, none⟩), .int .i64 0]) ∧ RamAt w' (w.heap.size + 1) w.heap.size 58 8192 (List.replicate 8192 0) ∧ Below w.heap.size w w' ∧ w'.heap.size = w.heap.size + 2 := new_ok 1024 w (by omega) (by omega)
theorem refNew_16 (w : World) : Calls Try.prog 10 #[.int .i64 16] w fun e w' => e = .returned (.tuple #[.pointer (some ⟨w.heap.size + 1, 0, none⟩), .int .i64 0]) ∧ RamAt w' (w.heap.size + 1) w.heap.size 41 128 (List.replicate 128 0) ∧ Below w.heap.size w w' ∧ w'.heap.size = w.heap.size + 2 := refNew_ok 16 w (by omega) (by omega)

section
variable {w : World} {a b : Nat} {T : TypeId}
/-- The memory of awake, behind its two calls. -/
def awL1 : List Int := stL (List.replicate 64 0) 64 258
def awL2 : List Int := cpL awL1 3 1 1
theorem aw_store (h : RamAt w a b T 64 (List.replicate 64 0)) : Calls Try.prog 19 #[.pointer (some ⟨a, 0, none⟩), .int .i64 64, .int .u64 258] w fun e w' => e = .returned (.int .i64 0) ∧ RamAt w' a b T 64 awL1 ∧ w.grownBy w' (some b) := store_any h 64 258 (by omega) (by omega)
theorem aw_copy (h : RamAt w a b T 64 awL1) : Calls Try.prog 21 #[.pointer (some ⟨a, 0, none⟩), .int .i64 3, .int .i64 1, .int .i64 1] w fun e w' => e = .returned (.int .i64 0) ∧ RamAt w' a b T 64 awL2 ∧ w.grownBy w' (some b) := by
  have k := copy_any h 3 1 1 (by omega) (by omega)
  rwa [show errC 64 3 1 1 = 0 from by decide] at k
theorem aw_byte (h : RamAt w a b T 64 awL2) : Calls Try.prog 15 #[.pointer (some ⟨a, 0, none⟩), .int .i64 65] w fun e w' => e = .returned (.tuple #[.int .u8 1, .int .i64 0]) ∧ w = w' := by
  have k := byte_any h 65
  rwa [show byV awL2 65 = 1 from by decide +kernel, show errB 64 65 = 0 from by decide] at k
theorem aw_load (h : RamAt w a b T 64 awL2) : Calls Try.prog 13 #[.pointer (some ⟨a, 0, none⟩), .int .i64 192] w fun e w' => e = .returned (.tuple #[.int .u64 258, .int .i64 0]) ∧ w = w' := by
  have k := load_any h 192
  rwa [show ldV awL2 192 = 258 from by decide +kernel, show errW 64 192 = 0 from by decide] at k
end
theorem below_grown {B g : Nat} {W w w' : World} (h : Below B W w) (hg : w.grownBy w' (some g)) (hB : B ≤ w.heap.size) (hb : B ≤ g) : Below B W w' := h.grown hg hB (fun k e => by injection e with e; omega)

set_option maxHeartbeats 400000 in
theorem awake_any (W : World) : Calls Try.prog 11 #[] W fun e W' => e = .returned (.bool true) ∧ Below W.heap.size W W' := by
  go_enter Try.func11, Try.ntmps11
  go_wp2_with fail
  refine (new_8 _).mono ?_
  rintro e w1 ⟨rfl, h1, b1, z1⟩
  have B1 := Lib.hid b1
  have Z1 := Lib.hid z1
  clear b1 z1
  go_wp2_with fail
  refine (aw_store h1).mono ?_
  rintro e w2 ⟨rfl, h2, g2⟩
  go_wp2_with fail
  refine (aw_copy h2).mono ?_
  rintro e w3 ⟨rfl, h3, g3⟩
  have B3 : Hid (Below W.heap.size W w3) := by
    have z := Z1.out
    have y := g2.size
    exact below_grown (below_grown B1.out g2 (by omega) (by omega)) g3 (by omega) (by omega)
  clear h1 h2 g2 g3 B1 Z1
  go_wp2_with (first | (go_at_call 15; refine (aw_byte h3).mono ?_; rintro e w' ⟨rfl, rfl⟩) | (go_at_call 13; refine (aw_load h3).mono ?_; rintro e w' ⟨rfl, rfl⟩))
  go_ret
  exact ⟨rfl, B3.out⟩

theorem Row.five {w : World} {g : Nat} {t : TypeId} {x0 x1 x2 x3 x4 : Value} (h : Row w g t [x0, x1, x2, x3, x4]) :
    w.cell? ⟨g, 0, none⟩ = some x0 ∧ w.cell? ⟨g, 1, none⟩ = some x1 ∧ w.cell? ⟨g, 2, none⟩ = some x2 ∧ w.cell? ⟨g, 3, none⟩ = some x3 ∧ w.cell? ⟨g, 4, none⟩ = some x4 :=
  ⟨h.cell 0, h.cell 1, h.cell 2, h.cell 3, h.cell 4⟩

set_option maxHeartbeats 1000000 in
theorem none_walk (K A B N V : Int) (W : World) :
    Calls Try.prog 7 #[.agg #[.int .i64 K, .int .i64 A, .int .i64 B, .int .i64 N, .int .u64 V]] W fun e W' => e = .returned (.bool true) ∧ Below W.heap.size W W' := by
  have r0 : Row (W.alloc (.cells #[.int .i64 K, .int .i64 A, .int .i64 B, .int .i64 N, .int .u64 V] 34)) W.heap.size 34 [.int .i64 K, .int .i64 A, .int .i64 B, .int .i64 N, .int .u64 V] := Row.new W _ _
  have B0 := (Below.refl W.heap.size W).alloc (Nat.le_refl _) (.cells #[.int .i64 K, .int .i64 A, .int .i64 B, .int .i64 N, .int .u64 V] 34)
  have hsz : W.heap.size < (W.alloc (.cells #[.int .i64 K, .int .i64 A, .int .i64 B, .int .i64 N, .int .u64 V] 34)).heap.size := r0.lt
  have HSZ := Lib.hid hsz
  clear hsz
  go_enter Try.func7, Try.ntmps7
  go_wp2_with (first | (go_at_call 13; refine (load_nil _ _).mono ?_; rintro e w' ⟨rfl, rfl⟩) | (go_at_call 15; refine (byte_nil _ _).mono ?_; rintro e w' ⟨rfl, rfl⟩))
  refine (awake_any _).mono ?_
  rintro e w1 ⟨rfl, b1⟩
  have r1 := r0.below b1 HSZ.out
  have B1 := B0.trans (b1.mono (Nat.le_of_lt HSZ.out))
  have s1 := b1.size
  have S1 : Hid (W.heap.size < w1.heap.size) := Nat.lt_of_lt_of_le HSZ.out s1
  clear r0 B0 b1 HSZ s1
  obtain ⟨c0, c1, c2, c3, c4⟩ := r1.five
  go_wp2_with (first | (go_at_call 19; refine (store_nil _ _ _).mono ?_; rintro e w' ⟨rfl, rfl⟩))
  refine (zero_nil _ _ _).mono ?_
  rintro e w2 ⟨rfl, b2⟩
  have r2 := r1.below b2 S1.out
  have B2 := B1.trans (b2.mono (Nat.le_of_lt S1.out))
  have s2 := b2.size
  have S2 : Hid (W.heap.size < w2.heap.size) := Nat.lt_of_lt_of_le S1.out s2
  clear r1 B1 b2 S1 s2 c0 c1 c2 c3 c4
  obtain ⟨c0, c1, c2, c3, c4⟩ := r2.five
  go_wp2_with fail
  refine (copy_nil _ _ _ _).mono ?_
  rintro e w3 ⟨rfl, b3⟩
  have B3 := B2.trans (b3.mono (Nat.le_of_lt S2.out))
  clear r2 B2 b3 S2 c0 c1 c2 c3 c4
  go_wp2_with (go_at_call 17; refine (frames_nil _).mono ?_; rintro e w' ⟨rfl, rfl⟩)
  go_ret
  exact ⟨rfl, B3⟩
end Go.Proofs.Ytlenoofhognmmaa
