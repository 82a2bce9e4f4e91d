/- The contracts of package ram: a new memory, stretches of frames, clearing and copying. -/
import Derived.Test.YtaphihoomipdaaaRa
import Derived.Deep.OwnRows
import Derived.Lib.SliceRun
import Derived.BigFrame
namespace Go.Proofs.Ytaphihoomipdaaa
open Go.RowKit

theorem zero_u64 (w : World) : (zeroValue 25).run Try.prog w = .ok (.int .u64 0) w := by kernel_rfl
theorem info_u64 : (Try.prog.info? 25).map (fun i => (i.zero, i.size, i.bytes)) = some (some (.int .u64 0), 1, 8) := by kernel_rfl
theorem made_words (n : Nat) : madeCells #[.int .u64 0] n = (wcells (List.replicate n 0)).toArray := by
  apply Array.ext
  · simp [madeCells, wcells]
  · intro i h1 h2
    simp [madeCells, wcells, Nat.mod_one]

/-- A new memory of f frames, as it lies. -/
theorem ramAt_new (w : World) (T : TypeId) (f : Nat) (h1 : 8 ≤ f) (h2 : f ≤ 1024) :
    RamAt ((w.alloc (.cells (madeCells #[.int .u64 0] (f * 8)) 25)).alloc (.cells #[.slice (some ⟨w.heap.size, 0, none⟩) (f * 8) (f * 8)] T)) (w.heap.size + 1) w.heap.size T (f * 8) (List.replicate (f * 8) 0) := by
  refine ⟨by simp, by omega, by omega, by omega, Words.zeros _, ?_, ?_, by omega⟩
  · have := Row.new (w.alloc (.cells (madeCells #[.int .u64 0] (f * 8)) 25)) T [.slice (some ⟨w.heap.size, 0, none⟩) (f * 8) (f * 8)]
    simpa using this
  · rw [made_words]
    exact (Row.new w 25 _).alloc _

theorem new_bad (f : Int) (w : World) (h : f < 8 ∨ 1024 < f) : Calls Try.prog 15 #[.int .i64 f] w fun e w' => e = .returned (.tuple #[.pointer none, .int .i64 2]) ∧ w = w' := by
  rcases h with h | h
  · go_enter Try.func15, Try.ntmps15
    go_wp2
    go_ret2
    exact ⟨rfl, rfl⟩
  · have h' : 8 ≤ f := by omega
    go_enter Try.func15, Try.ntmps15
    go_wp2
    go_ret2
    exact ⟨rfl, rfl⟩
theorem new_ok (f : Nat) (w : World) (h1 : 8 ≤ f) (h2 : f ≤ 1024) : Calls Try.prog 15 #[.int .i64 f] w fun e w' => e = .returned (.tuple #[.pointer (some ⟨w.heap.size + 1, 0, none⟩), .int .i64 0]) ∧ RamAt w' (w.heap.size + 1) w.heap.size 75 (f * 8) (List.replicate (f * 8) 0) ∧ Below w.heap.size w w' ∧ w'.heap.size = w.heap.size + 2 := by
  have hmk : ∀ w : World, (Instr.makeSlice 65 (.int .i64 ((f : Int) * 8)) (.int .i64 ((f : Int) * 8))).run Try.prog w = .ok (.slice (some ⟨w.heap.size, 0, none⟩) (f * 8) (f * 8)) (w.alloc (.cells (madeCells #[.int .u64 0] (f * 8)) 25)) := fun w => by
    have := run_make_row' (P := Try.prog) 65 25 (.int .u64 0) 8 Try.underlying65 info_u64 rfl .i64 .i64 (f * 8) (by omega) (by omega) w
    rwa [Int.natCast_mul] at this
  have hr := ramAt_new w 75 f h1 h2
  go_enter Try.func15, Try.ntmps15
  go_wp2
  go_ret2
  refine ⟨rfl, hr, ((Below.refl _ _).alloc (by omega) _).alloc (by simp) _, by simp⟩

section
variable {w : World} {a b n : Nat} {T : TypeId} {ws : List Int}

theorem take_succ_int (fs : List Int) (j : Nat) (h : j < fs.length) : fs.take (j + 1) = fs.take j ++ [fs.getD j 0] := by
  rw [List.take_succ_eq_append_getElem h, List.getD_eq_getElem?_getD, List.getElem?_eq_getElem h]; rfl
theorem take_drop_int (fs : List Int) (j : Nat) (h : j < fs.length) : fs.take j ++ fs.getD j 0 :: fs.drop (j + 1) = fs := by
  rw [List.getD_eq_getElem?_getD, List.getElem?_eq_getElem h]
  simp
theorem words_one (ws : List Int) : ∀ v ∈ wcells ws, v.oneCell' = true := by
  intro v hv
  simp only [wcells, List.mem_map] at hv
  obtain ⟨x, _, rfl⟩ := hv
  rfl
theorem errF_3 {n : Nat} {f k : Int} (h : errF n f k ≠ 0) : errF n f k = 3 := by
  unfold errF at h ⊢
  split
  · rfl
  · rename_i hx; rw [if_neg hx] at h; exact absurd rfl h
theorem info1_u64 : (Try.prog.info? 25).map (·.size) = some 1 := by kernel_rfl
end
end Go.Proofs.Ytaphihoomipdaaa
