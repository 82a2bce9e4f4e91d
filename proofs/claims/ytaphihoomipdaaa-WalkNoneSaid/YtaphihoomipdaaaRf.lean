/- The law's own first calls come as the document says; new memories of a fixed size; the walks of the laws RamNone and RamWords. -/
import Derived.Test.YtaphihoomipdaaaRe
namespace Go.Proofs.Ytaphihoomipdaaa
open Go.RowKit

theorem new_8 (w : World) : Calls Try.prog 15 #[.int .i64 8] w fun e w' => e = .returned (.tuple #[.pointer (some ⟨w.heap.size + 1, 0, none⟩), .int .i64 0]) ∧ RamAt w' (w.heap.size + 1) w.heap.size 75 64 (List.replicate 64 0) ∧ Below w.heap.size w w' ∧ w'.heap.size = w.heap.size + 2 := new_ok 8 w (by omega) (by omega)
theorem new_16 (w : World) : Calls Try.prog 15 #[.int .i64 16] w fun e w' => e = .returned (.tuple #[.pointer (some ⟨w.heap.size + 1, 0, none⟩), .int .i64 0]) ∧ RamAt w' (w.heap.size + 1) w.heap.size 75 128 (List.replicate 128 0) ∧ Below w.heap.size w w' ∧ w'.heap.size = w.heap.size + 2 := new_ok 16 w (by omega) (by omega)
theorem new_1024 (w : World) : Calls Try.prog 15 #[.int .i64 1024] w fun e w' => e = .returned (.tuple #[.pointer (some ⟨w.heap.size + 1, 0, none⟩), .int .i64 0]) ∧ RamAt w' (w.heap.size + 1) w.heap.size 75 8192 (List.replicate 8192 0) ∧ Below w.heap.size w w' ∧ w'.heap.size = w.heap.size + 2 := new_ok 1024 w (by omega) (by omega)
theorem refNew_16 (w : World) : Calls Try.prog 16 #[.int .i64 16] w fun e w' => e = .returned (.tuple #[.pointer (some ⟨w.heap.size + 1, 0, none⟩), .int .i64 0]) ∧ RamAt w' (w.heap.size + 1) w.heap.size 67 128 (List.replicate 128 0) ∧ Below w.heap.size w w' ∧ w'.heap.size = w.heap.size + 2 := refNew_ok 16 w (by omega) (by omega)

section
variable {w : World} {a b : Nat} {T : TypeId}
/-- The memory of awake, behind its two calls. -/
def awL1 : List Int := stL (List.replicate 64 0) 64 258
def awL2 : List Int := cpL awL1 3 1 1
theorem aw_store (h : RamAt w a b T 64 (List.replicate 64 0)) : Calls Try.prog 17 #[.pointer (some ⟨a, 0, none⟩), .int .i64 64, .int .u64 258] w fun e w' => e = .returned (.int .i64 0) ∧ RamAt w' a b T 64 awL1 ∧ w.grownBy w' (some b) := store_any h 64 258 (by omega) (by omega)
theorem aw_load (h : RamAt w a b T 64 awL2) : Calls Try.prog 22 #[.pointer (some ⟨a, 0, none⟩), .int .i64 192] w fun e w' => e = .returned (.tuple #[.int .u64 258, .int .i64 0]) ∧ w = w' := by
  have k := load_any h 192
  rwa [show ldV awL2 192 = 258 from by decide +kernel, show errW 64 192 = 0 from by decide] at k
end
theorem below_grown {B g : Nat} {W w w' : World} (h : Below B W w) (hg : w.grownBy w' (some g)) (hB : B ≤ w.heap.size) (hb : B ≤ g) : Below B W w' := h.grown hg hB (fun k e => by injection e with e; omega)


theorem Row.five {w : World} {g : Nat} {t : TypeId} {x0 x1 x2 x3 x4 : Value} (h : Row w g t [x0, x1, x2, x3, x4]) :
    w.cell? ⟨g, 0, none⟩ = some x0 ∧ w.cell? ⟨g, 1, none⟩ = some x1 ∧ w.cell? ⟨g, 2, none⟩ = some x2 ∧ w.cell? ⟨g, 3, none⟩ = some x3 ∧ w.cell? ⟨g, 4, none⟩ = some x4 :=
  ⟨h.cell 0, h.cell 1, h.cell 2, h.cell 3, h.cell 4⟩

end Go.Proofs.Ytaphihoomipdaaa
