/- The contracts of the reference of package ram: it answers as the program does, over the same list of words. -/
import Derived.Test.YtaphihoomipdaaaRb
import Derived.Maps.AppendAt
import Derived.Deep.AppendLies
import Derived.OwnWalk
namespace Go.Proofs.Ytaphihoomipdaaa
open Go.RowKit

theorem refNew_bad (f : Int) (w : World) (h : f < 8 ∨ 1024 < f) : Calls Try.prog 16 #[.int .i64 f] w fun e w' => e = .returned (.tuple #[.pointer none, .int .i64 2]) ∧ w = w' := by
  rcases h with h | h
  · go_enter Try.func16, Try.ntmps16
    go_wp2
    go_ret2
    exact ⟨rfl, rfl⟩
  · have h' : 8 ≤ f := by omega
    go_enter Try.func16, Try.ntmps16
    go_wp2
    go_ret2
    exact ⟨rfl, rfl⟩
theorem refNew_ok (f : Nat) (w : World) (h1 : 8 ≤ f) (h2 : f ≤ 1024) : Calls Try.prog 16 #[.int .i64 f] w fun e w' => e = .returned (.tuple #[.pointer (some ⟨w.heap.size + 1, 0, none⟩), .int .i64 0]) ∧ RamAt w' (w.heap.size + 1) w.heap.size 67 (f * 8) (List.replicate (f * 8) 0) ∧ Below w.heap.size w w' ∧ w'.heap.size = w.heap.size + 2 := by
  have hmk : ∀ w : World, (Instr.makeSlice 65 (.int .i64 ((f : Int) * 8)) (.int .i64 ((f : Int) * 8))).run Try.prog w = .ok (.slice (some ⟨w.heap.size, 0, none⟩) (f * 8) (f * 8)) (w.alloc (.cells (madeCells #[.int .u64 0] (f * 8)) 25)) := fun w => by
    have := run_make_row' (P := Try.prog) 65 25 (.int .u64 0) 8 Try.underlying65 info_u64 rfl .i64 .i64 (f * 8) (by omega) (by omega) w
    rwa [Int.natCast_mul] at this
  have hr := ramAt_new w 67 f h1 h2
  go_enter Try.func16, Try.ntmps16
  go_wp2
  go_ret2
  refine ⟨rfl, hr, ((Below.refl _ _).alloc (by omega) _).alloc (by simp) _, by simp⟩

section
variable {w : World} {a b n : Nat} {T : TypeId} {ws : List Int}
theorem refFrames_any (h : RamAt w a b T n ws) : Calls Try.prog 25 #[.pointer (some ⟨a, 0, none⟩)] w fun e w' => e = .returned (.int .i64 ((n : Int) / 8)) ∧ w = w' := by
  have hc := h.field
  have hi := h.hi
  clear h
  go_enter Try.func25, Try.ntmps25
  go_wp2
  go_ret
  exact ⟨rfl, rfl⟩
theorem refLoad_any (h : RamAt w a b T n ws) (i : Int) : Calls Try.prog 31 #[.pointer (some ⟨a, 0, none⟩), .int .i64 i] w fun e w' => e = .returned (.tuple #[.int .u64 (ldV ws i), .int .i64 (errW n i)]) ∧ w = w' := by
  have hi := h.hi
  have hl := h.len
  have hc := h.field
  by_cases h1 : errW n i = 0
  · obtain ⟨h0, h2, h3⟩ : 0 ≤ i ∧ i < n * 8 ∧ i % 8 = 0 := by
      unfold errW at h1
      split at h1
      · omega
      · split at h1 <;> omega
    obtain ⟨k, rfl⟩ : ∃ k : Nat, i = k := ⟨i.toNat, by omega⟩
    have hb : ((k : Int) % 8 != 0) = false := by simp [h3]
    have hk : k / 8 < n := by omega
    have H : Hid (ws.getD (k / 8) 0 = ldV ws k) := by show _ = _; simp [ldV, hl, h1]
    have H2 : Hid (0 = errW n k) := h1.symm
    have hc2 := h.word hk
    clear h1 hl h h3
    go_enter Try.func31, Try.ntmps31
    go_wp2
    go_ret2
    exact ⟨ret2_int H.out H2.out, rfl⟩
  · have H : Hid (0 = ldV ws i) := by show _ = _; simp [ldV, hl, h1]
    by_cases h0 : i < 0
    · have H2 : Hid (3 = errW n i) := by show _ = _; simp [errW, h0]
      clear h1 hl h
      go_enter Try.func31, Try.ntmps31
      go_wp2
      go_ret2
      exact ⟨ret2_int H.out H2.out, rfl⟩
    · have h0' : 0 ≤ i := by omega
      by_cases h2 : (n : Int) * 8 ≤ i
      · have H2 : Hid (3 = errW n i) := by show _ = _; simp [errW, h2]
        clear h1 hl h h0
        go_enter Try.func31, Try.ntmps31
        go_wp2
        go_ret2
        exact ⟨ret2_int H.out H2.out, rfl⟩
      · have h2' : i < (n : Int) * 8 := by omega
        have h3 : i % 8 ≠ 0 := by
          intro h3; exact h1 (by simp [errW, h0, h2, h3])
        have hb : (i % 8 != 0) = true := by simp [h3]
        have H2 : Hid (4 = errW n i) := by show _ = _; simp [errW, h0, h2, h3]
        clear h1 hl h h0 h2 h3
        go_enter Try.func31, Try.ntmps31
        go_wp2
        go_ret2
        exact ⟨ret2_int H.out H2.out, rfl⟩
theorem refStore_any (h : RamAt w a b T n ws) (i v : Int) (hv0 : 0 ≤ v) (hv1 : v < 18446744073709551616) : Calls Try.prog 18 #[.pointer (some ⟨a, 0, none⟩), .int .i64 i, .int .u64 v] w fun e w' => e = .returned (.int .i64 (errW n i)) ∧ RamAt w' a b T n (stL ws i v) ∧ w.grownBy w' (some b) := by
  have hi := h.hi
  have hl := h.len
  by_cases h1 : errW n i = 0
  · have hb : (errW n i == 0) = true := by simp [h1]
    obtain ⟨h0, h2⟩ : 0 ≤ i ∧ i < n * 8 := by unfold errW at h1; split at h1 <;> omega
    obtain ⟨k, rfl⟩ : ∃ k : Nat, i = k := ⟨i.toNat, by omega⟩
    have hk : k / 8 < n := by omega
    have H : Hid (stL ws k v = ws.set (k / 8) v) := by show _ = _; simp [stL, hl, h1]
    have hc := h.field
    have hc2 := h.word hk
    have hf := h.row.frozen (k / 8)
    obtain ⟨x, hx⟩ : ∃ x, x = ws.getD (k / 8) 0 := ⟨_, rfl⟩
    rw [← hx] at hc2
    have HL := Lib.hid hl
    clear h1 hl hx
    go_enter Try.func18, Try.ntmps18
    go_wp2_with (go_at_call 31; refine (refLoad_any h _).mono ?_; rintro e w' ⟨rfl, rfl⟩)
    go_ret
    refine ⟨rfl, ?_, grown_set _ _ _ _⟩
    rw [H.out]
    exact h.turned (grown_set _ _ _ _) (by rw [← wcells_set]; exact h.row.set_ _ _) (by simp [HL.out]) (h.words.set_ _ _ hv0 hv1)
  · have hb : (errW n i == 0) = false := by simp [h1]
    have H : Hid (stL ws i v = ws) := by show _ = _; simp [stL, hl, h1]
    clear h1 hl
    go_enter Try.func18, Try.ntmps18
    go_wp2_with (go_at_call 31; refine (refLoad_any h _).mono ?_; rintro e w' ⟨rfl, rfl⟩)
    go_ret
    refine ⟨rfl, ?_, World.grownBy.refl _ _⟩
    rw [H.out]
    exact h
/-- Are k frames from f on there? -/
def thB (n : Nat) (f k : Int) : Bool := decide (0 ≤ f) && decide (f < (n : Int) / 8) && decide (k ≤ (n : Int) / 8 - f)
end
end Go.Proofs.Ytaphihoomipdaaa
