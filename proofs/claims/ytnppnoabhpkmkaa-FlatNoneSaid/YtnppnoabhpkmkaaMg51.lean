/- Spaces: both behind some operations. -/
import Derived.Test.YtnppnoabhpkmkaaMg50
import Derived.Deep.RegionHeld3
namespace Go.Proofs.Ytnppnoabhpkmkaa
open Go.RowKit
section
variable {w w' : World} {B : Nat} {T : RfT} {F : Fl}
end
/-- What the laws' operations make. -/
def mdS (M : List Rq) : Fl := M.foldl (fun F r => (stF F r).2.2) ⟨[], []⟩
theorem mdS_next (M : List Rq) {j : Nat} (hj : j < M.length) : mdS (M.take (j + 1)) = (stF (mdS (M.take j)) M[j]).2.2 := by
  unfold mdS
  rw [List.take_succ_eq_append_getElem hj, List.foldl_append]
  rfl
theorem mdS_b (M : List Rq) (j : Nat) (hj : j ≤ M.length) : FlB j (mdS (M.take j)) := by
  induction j with
  | zero => exact FlB.nil
  | succ j ih =>
    rw [mdS_next M (by omega)]
    exact (ih (by omega)).step _
theorem mdE_b (M : List Rq) (j : Nat) : FlB j (mdS (M.take j)) := by
  by_cases h : j ≤ M.length
  · exact mdS_b M j h
  · rw [List.take_of_length_le (by omega)]
    have := mdS_b M M.length (Nat.le_refl _)
    rw [List.take_length] at this
    exact this.mono (by omega)
/-- The nine cells of an operation. -/
def Nine (w : World) (p : Addr) (k s a n h q t c v : Int) : Prop := w.cell? p = some (.int .i64 k) ∧ w.cell? ⟨p.block, p.off + 1, none⟩ = some (.int .i64 s) ∧ w.cell? ⟨p.block, p.off + 2, none⟩ = some (.int .i64 a) ∧ w.cell? ⟨p.block, p.off + 3, none⟩ = some (.int .i64 n) ∧ w.cell? ⟨p.block, p.off + 4, none⟩ = some (.int .i64 h) ∧ w.cell? ⟨p.block, p.off + 5, none⟩ = some (.int .i64 q) ∧ w.cell? ⟨p.block, p.off + 6, none⟩ = some (.int .i64 t) ∧ w.cell? ⟨p.block, p.off + 7, none⟩ = some (.int .i64 c) ∧ w.cell? ⟨p.block, p.off + 8, none⟩ = some (.int .u64 v)
theorem RqAt.nine {w : World} {p : Addr} {l : Rq} (h : RqAt w p l) : Nine w p l.k l.s l.a l.n l.h l.p l.t l.c l.v := ⟨h.c0, h.c1, h.c2, h.c3, h.c4, h.c5, h.c6, h.c7, h.c8⟩
end Go.Proofs.Ytnppnoabhpkmkaa
