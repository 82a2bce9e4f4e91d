/- The contracts of Prot, open and Allow, of package entry and of its reference. -/
import Derived.Test.YtpcpcgbejinlmaaMk06
import Derived.Test.YtpcpcgbejinlmaaProg
import Derived.Test.YtpcpcgbejinlmaaMk01
import Derived.WalkKit
import Derived.WalkSpells
import Derived.Lib.Hide
import Derived.WalkLawsBesides
import Derived.Deep.QuietTactic
import Derived.BigQuiet
namespace Go.Proofs.Ytpcpcgbejinlmaa
open Go.RowKit
end Go.Proofs.Ytpcpcgbejinlmaa
/- The contracts of package ram: what its reading calls answer. -/
namespace Go.Proofs.Ytpcpcgbejinlmaa
open Go.RowKit
section
variable {w : World} {a b n : Nat} {T : TypeId} {ws : List Int}
theorem frames_any (h : RamAt w a b T n ws) : Calls Try.prog 65 #[.pointer (some ⟨a, 0, none⟩)] w fun e w' => e = .returned (.int .i64 ((n : Int) / 8)) ∧ w = w' := by
  have hc := h.field
  have hi := h.hi
  clear h
  go_enter Try.func65, Try.ntmps65
  go_wp2
  go_ret
  exact ⟨rfl, rfl⟩
theorem checkByte_any (h : RamAt w a b T n ws) (i : Int) : Calls Try.prog 93 #[.pointer (some ⟨a, 0, none⟩), .int .i64 i] w fun e w' => e = .returned (.int .i64 (errB n i)) ∧ w = w' := by
  have hi := h.hi
  have hm := h.m8
  by_cases h1 : i < 0
  · go_enter Try.func93, Try.ntmps93
    go_wp2
    go_ret
    exact ⟨ret_int (by simp [errB, h1]), rfl⟩
  · have h0 : 0 ≤ i := by omega
    by_cases h2 : (n : Int) * 8 ≤ i
    · have h3 : (n : Int) / 8 * 64 ≤ i := by omega
      have H : Hid (3 = errB n i) := by show _ = _; simp [errB, h2]
      clear h1 h2 hm
      go_enter Try.func93, Try.ntmps93
      go_wp2_with (go_at_call 65; refine (frames_any h).mono ?_; rintro e w' ⟨rfl, rfl⟩)
      go_ret
      exact ⟨ret_int H.out, rfl⟩
    · have h3 : i < (n : Int) / 8 * 64 := by omega
      have H : Hid (0 = errB n i) := by show _ = _; simp [errB, h1, h2]
      clear h1 h2 hm
      go_enter Try.func93, Try.ntmps93
      go_wp2_with (go_at_call 65; refine (frames_any h).mono ?_; rintro e w' ⟨rfl, rfl⟩)
      go_ret
      exact ⟨ret_int H.out, rfl⟩
theorem checkWord_any (h : RamAt w a b T n ws) (i : Int) : Calls Try.prog 87 #[.pointer (some ⟨a, 0, none⟩), .int .i64 i] w fun e w' => e = .returned (.int .i64 (errW n i)) ∧ w = w' := by
  have hi := h.hi
  by_cases h1 : i < 0 ∨ (n : Int) * 8 ≤ i
  · have hb : (errB n i != 0) = true := by simp [errB, h1]
    have H : Hid (errB n i = errW n i) := by show _ = _; simp [errB, errW, h1]
    clear h1
    go_enter Try.func87, Try.ntmps87
    go_wp2_with (go_at_call 93; refine (checkByte_any h _).mono ?_; rintro e w' ⟨rfl, rfl⟩)
    go_ret
    exact ⟨ret_int H.out, rfl⟩
  · have hb : (errB n i != 0) = false := by simp [errB, h1]
    have h0 : 0 ≤ i := by omega
    by_cases h2 : i % 8 = 0
    · have h2' : (i % 8 != 0) = false := by simp [h2]
      have H : Hid (0 = errW n i) := by show _ = _; simp [errW, h1, h2]
      clear h1 h2
      go_enter Try.func87, Try.ntmps87
      go_wp2_with (go_at_call 93; refine (checkByte_any h _).mono ?_; rintro e w' ⟨rfl, rfl⟩)
      go_ret
      exact ⟨ret_int H.out, rfl⟩
    · have h2' : (i % 8 != 0) = true := by simp [h2]
      have H : Hid (4 = errW n i) := by show _ = _; simp [errW, h1, h2]
      clear h1 h2
      go_enter Try.func87, Try.ntmps87
      go_wp2_with (go_at_call 93; refine (checkByte_any h _).mono ?_; rintro e w' ⟨rfl, rfl⟩)
      go_ret
      exact ⟨ret_int H.out, rfl⟩
theorem load_any (h : RamAt w a b T n ws) (i : Int) : Calls Try.prog 74 #[.pointer (some ⟨a, 0, none⟩), .int .i64 i] w fun e w' => e = .returned (.tuple #[.int .u64 (ldV ws i), .int .i64 (errW n i)]) ∧ w = w' := by
  have hi := h.hi
  have hl := h.len
  by_cases h1 : errW n i = 0
  · have hb : (errW n i != 0) = false := by simp [h1]
    obtain ⟨h0, h2⟩ : 0 ≤ i ∧ i < n * 8 := by unfold errW at h1; split at h1 <;> omega
    obtain ⟨k, rfl⟩ : ∃ k : Nat, i = k := ⟨i.toNat, by omega⟩
    have hk : k / 8 < n := by omega
    have H : Hid (ws.getD (k / 8) 0 = ldV ws k) := by show _ = _; simp [ldV, hl, h1]
    have H2 : Hid (0 = errW n k) := h1.symm
    have hc := h.field
    have hc2 := h.word hk
    clear h1 hl
    go_enter Try.func74, Try.ntmps74
    go_wp2_with (go_at_call 87; refine (checkWord_any h _).mono ?_; rintro e w' ⟨rfl, rfl⟩)
    go_ret2
    exact ⟨ret2_int H.out H2.out, rfl⟩
  · have hb : (errW n i != 0) = true := by simp [h1]
    have H : Hid (0 = ldV ws i) := by show _ = _; simp [ldV, hl, h1]
    clear h1 hl
    go_enter Try.func74, Try.ntmps74
    go_wp2_with (go_at_call 87; refine (checkWord_any h _).mono ?_; rintro e w' ⟨rfl, rfl⟩)
    go_ret2
    exact ⟨ret2_int H.out rfl, rfl⟩
theorem store_any (h : RamAt w a b T n ws) (i v : Int) (hv0 : 0 ≤ v) (hv1 : v < 18446744073709551616) : Calls Try.prog 71 #[.pointer (some ⟨a, 0, none⟩), .int .i64 i, .int .u64 v] w fun e w' => e = .returned (.int .i64 (errW n i)) ∧ RamAt w' a b T n (stL ws i v) ∧ w.grownBy w' (some b) := by
  have hi := h.hi
  have hl := h.len
  by_cases h1 : errW n i = 0
  · have hb : (errW n i != 0) = false := by simp [h1]
    obtain ⟨h0, h2⟩ : 0 ≤ i ∧ i < n * 8 := by unfold errW at h1; split at h1 <;> omega
    obtain ⟨k, rfl⟩ : ∃ k : Nat, i = k := ⟨i.toNat, by omega⟩
    have hk : k / 8 < n := by omega
    have H : Hid (stL ws k v = ws.set (k / 8) v) := by show _ = _; simp [stL, hl, h1]
    have H2 : Hid (0 = errW n k) := h1.symm
    have hc := h.field
    have hc2 := h.word hk
    have hf := h.row.frozen (k / 8)
    obtain ⟨x, hx⟩ : ∃ x, x = ws.getD (k / 8) 0 := ⟨_, rfl⟩
    rw [← hx] at hc2
    have HL := Lib.hid hl
    clear h1 hl hx
    go_enter Try.func71, Try.ntmps71
    go_wp2_with (go_at_call 87; refine (checkWord_any h _).mono ?_; rintro e w' ⟨rfl, rfl⟩)
    go_ret
    refine ⟨ret_int H2.out, ?_, grown_set _ _ _ _⟩
    rw [H.out]
    exact h.turned (grown_set _ _ _ _) (by rw [← wcells_set]; exact h.row.set_ _ _) (by simp [HL.out]) (h.words.set_ _ _ hv0 hv1)
  · have hb : (errW n i != 0) = true := by simp [h1]
    have H : Hid (stL ws i v = ws) := by show _ = _; simp [stL, hl, h1]
    clear h1 hl
    go_enter Try.func71, Try.ntmps71
    go_wp2_with (go_at_call 87; refine (checkWord_any h _).mono ?_; rintro e w' ⟨rfl, rfl⟩)
    go_ret
    refine ⟨rfl, ?_, World.grownBy.refl _ _⟩
    rw [H.out]
    exact h
end
end Go.Proofs.Ytpcpcgbejinlmaa
