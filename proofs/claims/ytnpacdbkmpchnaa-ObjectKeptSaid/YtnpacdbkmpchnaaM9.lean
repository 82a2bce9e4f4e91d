/- The program's objects: its calls as one structure; the calls of nil objects. -/
import Derived.Test.YtnpacdbkmpchnaaM8
import Derived.Test.YtnpacdbkmpchnaaN0
namespace Go.Proofs.Ytnpacdbkmpchnaa
open Go.RowKit
theorem theOb_keep {B : Nat} {w w' : World} {s : Nat} {X : Nat → Prop} {H : List Int} {L : List Og} (h : theOb B w s X H L) (_ : w.heap.size ≤ w'.heap.size) (hk : ∀ k, X k → k < w.heap.size → w'.heap[k]? = w.heap[k]?) : theOb B w' s X H L := by
  obtain ⟨T, rfl, rfl, h⟩ := h
  exact ⟨T, rfl, rfl, h.keep fun k e => hk k e (h.lt k e)⟩
def theI : ObI where
  Ob := theOb
  keep := theOb_keep
  lo h k e := by
    obtain ⟨T, rfl, rfl, h⟩ := h
    exact ⟨h.low k e, h.lt k e⟩
  lw h := by
    obtain ⟨T, rfl, rfl, h⟩ := h
    exact h.lw
  new w := new_o w
  make h hb := by
    obtain ⟨T, rfl, rfl, h⟩ := h
    exact (make_o h hb.good (by have := hb.hl; omega)).mono fun e w' k => ⟨k.1, k.2.is⟩
  hold h hb i hi := by
    obtain ⟨T, rfl, rfl, h⟩ := h
    exact (hold_o h hb hi).mono fun e w' k => ⟨k.1, k.2.is⟩
  drop h hb i hi := by
    obtain ⟨T, rfl, rfl, h⟩ := h
    exact (drop_o h hb hi).mono fun e w' k => by
      obtain ⟨A, c, k1, k2, k3⟩ := k
      exact ⟨A, c, k1, k2, k3.is⟩
  set h hb i p f hi hp hf := by
    obtain ⟨T, rfl, rfl, h⟩ := h
    exact (set_o h hb hi hp hf).mono fun e w' k => ⟨k.1, k.2.is⟩
  change h hb a t ha ht := by
    obtain ⟨T, rfl, rfl, h⟩ := h
    exact (change_o h hb ha ht).mono fun e w' k => ⟨k.1, k.2.is⟩
  frame h hb i p hi hp := by
    obtain ⟨T, rfl, rfl, h⟩ := h
    exact frame_o h hb.good hi hp
  owner h hb f hf := by
    obtain ⟨T, rfl, rfl, h⟩ := h
    exact owner_o h hf
  frames h hb i hi := by
    obtain ⟨T, rfl, rfl, h⟩ := h
    exact frames_o h hb hi
  len h hb := by
    obtain ⟨T, rfl, rfl, h⟩ := h
    exact len_o h (by have := hb.hl; omega)
section
variable (w : World)
theorem make_nil : Calls Try.prog 14 #[.pointer none] w fun e w' => e = .returned (.int .i64 0) ∧ Below w.heap.size w w' := by
  go_enter Try.func14, Try.ntmps14
  go_wp2
  go_ret
  exact ⟨rfl, Below.refl _ _⟩
theorem hold_nil (i : Int) : Calls Try.prog 16 #[.pointer none, .int .i64 i] w fun e w' => e = .returned (.int .i64 1) ∧ Below w.heap.size w w' := by
  go_enter Try.func16, Try.ntmps16
  go_wp2_with (go_at_call 25; (with_reducible refine (find_nil _ _).mono ?_); rintro e w1 ⟨rfl, rfl⟩)
  go_ret
  exact ⟨rfl, Below.refl _ _⟩
theorem drop_nil (i : Int) : Calls Try.prog 17 #[.pointer none, .int .i64 i] w fun e w' => ∃ A c, e = .returned (.tuple #[.slice A 0 c, .int .i64 1]) ∧ Below w.heap.size w w' := by
  go_enter Try.func17, Try.ntmps17
  go_wp2_with (go_at_call 25; (with_reducible refine (find_nil _ _).mono ?_); rintro e w1 ⟨rfl, rfl⟩)
  go_ret2
  exact ⟨none, 0, rfl, Below.refl _ _⟩
theorem set_nil (i p f : Int) : Calls Try.prog 15 #[.pointer none, .int .i64 i, .int .i64 p, .int .i64 f] w fun e w' => e = .returned (.int .i64 1) ∧ Below w.heap.size w w' := by
  go_enter Try.func15, Try.ntmps15
  go_wp2_with (go_at_call 25; (with_reducible refine (find_nil _ _).mono ?_); rintro e w1 ⟨rfl, rfl⟩)
  go_ret
  exact ⟨rfl, Below.refl _ _⟩
theorem change_nil (a t : Int) : Calls Try.prog 20 #[.pointer none, .int .i64 a, .int .i64 t] w fun e w' => e = .returned (.int .i64 1) ∧ Below w.heap.size w w' := by
  go_enter Try.func20, Try.ntmps20
  go_wp2
  go_ret
  exact ⟨rfl, Below.refl _ _⟩
theorem frame_nil (i p : Int) : Calls Try.prog 12 #[.pointer none, .int .i64 i, .int .i64 p] w fun e w' => e = .returned (.tuple #[.int .i64 0, .int .i64 1]) ∧ Below w.heap.size w w' := by
  go_enter Try.func12, Try.ntmps12
  go_wp2_with (go_at_call 25; (with_reducible refine (find_nil _ _).mono ?_); rintro e w1 ⟨rfl, rfl⟩)
  go_ret2
  exact ⟨rfl, Below.refl _ _⟩
theorem owner_nil (f : Int) : Calls Try.prog 11 #[.pointer none, .int .i64 f] w fun e w' => e = .returned (.tuple #[.int .i64 0, .int .i64 0, .int .i64 1]) ∧ Below w.heap.size w w' := by
  go_enter Try.func11, Try.ntmps11
  go_wp2
  go_ret3
  exact ⟨rfl, Below.refl _ _⟩
theorem frames_nil (i : Int) : Calls Try.prog 10 #[.pointer none, .int .i64 i] w fun e w' => ∃ A c, e = .returned (.slice A 0 c) ∧ Below w.heap.size w w' := by
  go_enter Try.func10, Try.ntmps10
  go_wp2_with (go_at_call 25; (with_reducible refine (find_nil _ _).mono ?_); rintro e w1 ⟨rfl, rfl⟩)
  go_ret
  exact ⟨none, 0, rfl, Below.refl _ _⟩
theorem len_nil : Calls Try.prog 18 #[.pointer none] w fun e w' => e = .returned (.int .i64 0) ∧ Below w.heap.size w w' := by
  go_enter Try.func18, Try.ntmps18
  go_wp2
  go_ret
  exact ⟨rfl, Below.refl _ _⟩
end
theorem theN : NilI := ⟨make_nil, hold_nil, drop_nil, set_nil, change_nil, frame_nil, owner_nil, frames_nil, len_nil⟩
end Go.Proofs.Ytnpacdbkmpchnaa
