/- The law's own first calls come as the document says; new memories of a fixed size; the walks of the laws RamNone and RamWords. -/
import Derived.Test.YtnlimecbbockoaaMg09
namespace Go.Proofs.Ytnlimecbbockoaa
open Go.RowKit

theorem new_8 (w : World) : Calls Try.prog 23 #[.int .i64 8] w fun e w' => e = .returned (.tuple #[.pointer (some ⟨w.heap.size + 1, 0, none⟩), .int .i64 0]) ∧ RamAt w' (w.heap.size + 1) w.heap.size 104 64 (List.replicate 64 0) ∧ Below w.heap.size w w' ∧ w'.heap.size = w.heap.size + 2 := new_ok 8 w (by omega) (by omega)
theorem new_16 (w : World) : Calls Try.prog 23 #[.int .i64 16] w fun e w' => e = .returned (.tuple #[.pointer (some ⟨w.heap.size + 1, 0, none⟩), .int .i64 0]) ∧ RamAt w' (w.heap.size + 1) w.heap.size 104 128 (List.replicate 128 0) ∧ Below w.heap.size w w' ∧ w'.heap.size = w.heap.size + 2 := new_ok 16 w (by omega) (by omega)
theorem new_1024 (w : World) : Calls Try.prog 23 #[.int .i64 1024] w fun e w' => e = .returned (.tuple #[.pointer (some ⟨w.heap.size + 1, 0, none⟩), .int .i64 0]) ∧ RamAt w' (w.heap.size + 1) w.heap.size 104 8192 (List.replicate 8192 0) ∧ Below w.heap.size w w' ∧ w'.heap.size = w.heap.size + 2 := new_ok 1024 w (by omega) (by omega)

section
variable {w : World} {a b : Nat} {T : TypeId}
/-- The memory of awake, behind its two calls. -/
def awL1 : List Int := stL (List.replicate 64 0) 64 258
def awL2 : List Int := cpL awL1 3 1 1
theorem aw_store (h : RamAt w a b T 64 (List.replicate 64 0)) : Calls Try.prog 73 #[.pointer (some ⟨a, 0, none⟩), .int .i64 64, .int .u64 258] w fun e w' => e = .returned (.int .i64 0) ∧ RamAt w' a b T 64 awL1 ∧ w.grownBy w' (some b) := store_any h 64 258 (by omega) (by omega)
theorem aw_load (h : RamAt w a b T 64 awL2) : Calls Try.prog 76 #[.pointer (some ⟨a, 0, none⟩), .int .i64 192] w fun e w' => e = .returned (.tuple #[.int .u64 258, .int .i64 0]) ∧ w = w' := by
  have k := load_any h 192
  rwa [show ldV awL2 192 = 258 from by decide +kernel, show errW 64 192 = 0 from by decide] at k
end
theorem below_grown {B g : Nat} {W w w' : World} (h : Below B W w) (hg : w.grownBy w' (some g)) (hB : B ≤ w.heap.size) (hb : B ≤ g) : Below B W w' := h.grown hg hB (fun k e => by injection e with e; omega)


theorem Row.five {w : World} {g : Nat} {t : TypeId} {x0 x1 x2 x3 x4 : Value} (h : Row w g t [x0, x1, x2, x3, x4]) :
    w.cell? ⟨g, 0, none⟩ = some x0 ∧ w.cell? ⟨g, 1, none⟩ = some x1 ∧ w.cell? ⟨g, 2, none⟩ = some x2 ∧ w.cell? ⟨g, 3, none⟩ = some x3 ∧ w.cell? ⟨g, 4, none⟩ = some x4 :=
  ⟨h.cell 0, h.cell 1, h.cell 2, h.cell 3, h.cell 4⟩

end Go.Proofs.Ytnlimecbbockoaa
/- The walk of the law RamWords: what is stored is loaded, and two words do not meet. -/
namespace Go.Proofs.Ytnlimecbbockoaa
open Go.RowKit

theorem ldV_stL (ws : List Int) (i j v : Int) (hi : errW ws.length i = 0) (hj : errW ws.length j = 0) : ldV (stL ws i v) j = if i.toNat / 8 = j.toNat / 8 then v else ldV ws j := by
  have hlen : (stL ws i v).length = ws.length := by simp [stL, hi]
  have hb : i.toNat / 8 < ws.length := by
    unfold errW at hi
    split at hi
    · omega
    · omega
  simp only [ldV, hlen, hj, if_pos]
  simp only [stL, hi, if_pos, List.getD_eq_getElem?_getD, List.getElem?_set]
  by_cases h : i.toNat / 8 = j.toNat / 8
  · rw [if_pos h, if_pos hb, if_pos h]; rfl
  · rw [if_neg h, if_neg h]
theorem errW_ok (n : Nat) (i : Int) (h0 : 0 ≤ i) (h1 : i < n * 8) (h2 : i % 8 = 0) : errW n i = 0 := by
  unfold errW
  rw [if_neg (by omega), if_pos h2]
theorem stL_length (ws : List Int) (i v : Int) : (stL ws i v).length = ws.length := by unfold stL; split <;> simp

section
variable {w : World} {a b n : Nat} {T : TypeId} {ws : List Int}
theorem store_ok (h : RamAt w a b T n ws) (i v : Int) (hv0 : 0 ≤ v) (hv1 : v < 18446744073709551616) (he : errW n i = 0) : Calls Try.prog 73 #[.pointer (some ⟨a, 0, none⟩), .int .i64 i, .int .u64 v] w fun e w' => e = .returned (.int .i64 0) ∧ RamAt w' a b T n (stL ws i v) ∧ w.grownBy w' (some b) := by
  have k := store_any h i v hv0 hv1
  rwa [he] at k
theorem load_ok (h : RamAt w a b T n ws) (i : Int) (he : errW n i = 0) : Calls Try.prog 76 #[.pointer (some ⟨a, 0, none⟩), .int .i64 i] w fun e w' => e = .returned (.tuple #[.int .u64 (ldV ws i), .int .i64 0]) ∧ w = w' := by
  have k := load_any h i
  rwa [he] at k
end
theorem drewN_below {B : Nat} {a w : World} (h : Below B a w) (n : Nat) : Below B a (w.drewN n) := ⟨h.os, h.tape, h.output, h.size, h.block⟩
theorem Row.four {w : World} {g : Nat} {t : TypeId} {x0 x1 x2 x3 : Value} (h : Row w g t [x0, x1, x2, x3]) :
    w.cell? ⟨g, 0, none⟩ = some x0 ∧ w.cell? ⟨g, 1, none⟩ = some x1 ∧ w.cell? ⟨g, 2, none⟩ = some x2 ∧ w.cell? ⟨g, 3, none⟩ = some x3 :=
  ⟨h.cell 0, h.cell 1, h.cell 2, h.cell 3⟩

end Go.Proofs.Ytnlimecbbockoaa
