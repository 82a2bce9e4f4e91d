/- The contracts of package ram: a new memory, stretches of frames, clearing and copying. -/
import Derived.Test.YtpcpcgbejinlmaaMk07
import Derived.Deep.OwnRows
import Derived.Lib.SliceRun
import Derived.BigFrame
import Derived.Maps.AppendAt
import Derived.Deep.AppendLies
import Derived.OwnWalk
namespace Go.Proofs.Ytpcpcgbejinlmaa
open Go.RowKit
theorem zero_u64 (w : World) : (zeroValue 127).run Try.prog w = .ok (.int .u64 0) w := by kernel_rfl
theorem info_u64 : (Try.prog.info? 127).map (fun i => (i.zero, i.size, i.bytes)) = some (some (.int .u64 0), 1, 8) := by kernel_rfl
theorem made_words (n : Nat) : madeCells #[.int .u64 0] n = (wcells (List.replicate n 0)).toArray := by
  apply Array.ext
  · simp [madeCells, wcells]
  · intro i h1 h2
    simp [madeCells, wcells, Nat.mod_one]
theorem ramAt_new (w : World) (T : TypeId) (f : Nat) (h1 : 8 ≤ f) (h2 : f ≤ 1024) :
    RamAt ((w.alloc (.cells (madeCells #[.int .u64 0] (f * 8)) 127)).alloc (.cells #[.slice (some ⟨w.heap.size, 0, none⟩) (f * 8) (f * 8)] T)) (w.heap.size + 1) w.heap.size T (f * 8) (List.replicate (f * 8) 0) := by
  refine ⟨by simp, by omega, by omega, by omega, Words.zeros _, ?_, ?_, by omega⟩
  · have := Row.new (w.alloc (.cells (madeCells #[.int .u64 0] (f * 8)) 127)) T [.slice (some ⟨w.heap.size, 0, none⟩) (f * 8) (f * 8)]
    simpa using this
  · rw [made_words]
    exact (Row.new w 127 _).alloc _
theorem new_ok (f : Nat) (w : World) (h1 : 8 ≤ f) (h2 : f ≤ 1024) : Calls Try.prog 19 #[.int .i64 f] w fun e w' => e = .returned (.tuple #[.pointer (some ⟨w.heap.size + 1, 0, none⟩), .int .i64 0]) ∧ RamAt w' (w.heap.size + 1) w.heap.size 102 (f * 8) (List.replicate (f * 8) 0) ∧ Below w.heap.size w w' ∧ w'.heap.size = w.heap.size + 2 := by
  have hmk : ∀ w : World, (Instr.makeSlice 100 (.int .i64 ((f : Int) * 8)) (.int .i64 ((f : Int) * 8))).run Try.prog w = .ok (.slice (some ⟨w.heap.size, 0, none⟩) (f * 8) (f * 8)) (w.alloc (.cells (madeCells #[.int .u64 0] (f * 8)) 127)) := fun w => by
    have := run_make_row' (P := Try.prog) 100 127 (.int .u64 0) 8 Try.underlying100 info_u64 rfl .i64 .i64 (f * 8) (by omega) (by omega) w
    rwa [Int.natCast_mul] at this
  have hr := ramAt_new w 102 f h1 h2
  go_enter Try.func19, Try.ntmps19
  go_wp2
  go_ret2
  refine ⟨rfl, hr, ((Below.refl _ _).alloc (by omega) _).alloc (by simp) _, by simp⟩
section
variable {w : World} {a b n : Nat} {T : TypeId} {ws : List Int}
theorem stretch_any (h : RamAt w a b T n ws) (f k : Nat) (hk : 1 ≤ k) (hf : f + k ≤ n / 8) :
    Calls Try.prog 69 #[.pointer (some ⟨a, 0, none⟩), .int .i64 f, .int .i64 k] w fun e w' => e = .returned (.slice (some ⟨b, f * 8, none⟩) (k * 8) (n - f * 8)) ∧ w = w' := by
  have hc := h.field
  have hi := h.hi
  have hne : f * 8 < n := by omega
  have hne2 : f * 8 + k * 8 ≤ n := by omega
  clear h
  go_enter Try.func69, Try.ntmps69
  go_wp2
  go_ret
  exact ⟨rfl, rfl⟩
theorem checkFrames_none (k : Int) (v : Value) (hk : k < 1) (w : World) : Calls Try.prog 68 #[.pointer (some ⟨a, 0, none⟩), .int .i64 k, v] w fun e w' => e = .returned (.int .i64 2) ∧ w = w' := by
  go_enter Try.func68, Try.ntmps68
  go_wp2
  go_ret
  exact ⟨rfl, rfl⟩
theorem take_succ_int (fs : List Int) (j : Nat) (h : j < fs.length) : fs.take (j + 1) = fs.take j ++ [fs.getD j 0] := by
  rw [List.take_succ_eq_append_getElem h, List.getD_eq_getElem?_getD, List.getElem?_eq_getElem h]; rfl
theorem take_drop_int (fs : List Int) (j : Nat) (h : j < fs.length) : fs.take j ++ fs.getD j 0 :: fs.drop (j + 1) = fs := by
  rw [List.getD_eq_getElem?_getD, List.getElem?_eq_getElem h]
  simp
set_option maxHeartbeats 400000 in
theorem checkFrames_any (h : RamAt w a b T n ws) (k : Int) (hk : 1 ≤ k) (g m : Nat) (fs : List Int) (hm : fs.length = m) (hm2 : m ≤ 2) (hr : Row w g 3 (fs.map (Value.int .i64))) (hb : ∀ f ∈ fs, f ≤ 9223372036854775807) :
    Calls Try.prog 68 #[.pointer (some ⟨a, 0, none⟩), .int .i64 k, .slice (some ⟨g, 0, none⟩) m m] w fun e w' => e = .returned (.int .i64 (errFs n k fs)) ∧ w = w' := by
  have hi := h.hi
  have HM := Lib.hid hm
  have HB := Lib.hid hb
  have HR := Lib.hid hr
  clear hm hb hr
  go_enter Try.func68, Try.ntmps68
  go_wp2
  go_loop [8, 15, 28] (fun _ i _ => ∃ j : Nat, j ≤ m ∧ i = .int .i64 j ∧ Hid (errFs n k (fs.take j) = 0)) (fun _ i _ => m - (intOf i).toNat)
  case atStart => exact ⟨0, Nat.zero_le _, rfl, rfl⟩
  case round =>
    obtain ⟨j, hj, rfl, HE⟩ := hrel
    by_cases hlt : j < m
    · have hl : j < fs.length := by rw [HM.out]; exact hlt
      obtain ⟨f, hf⟩ : ∃ f, f = fs.getD j 0 := ⟨_, rfl⟩
      have hfb : f ≤ 9223372036854775807 := by
        rw [hf, List.getD_eq_getElem?_getD, List.getElem?_eq_getElem hl]; exact HB.out _ (List.getElem_mem hl)
      have hc : w.cell? ⟨g, j, none⟩ = some (.int .i64 f) := by
        rw [HR.out.cell, List.getElem?_map, hf, List.getD_eq_getElem?_getD, List.getElem?_eq_getElem hl]; rfl
      have HS : Hid (errF n f k = 0 → errFs n k (fs.take (j + 1)) = 0) := fun he => by rw [take_succ_int fs j hl, ← hf]; exact errFs_snoc HE.out he
      have HX : Hid (errF n f k ≠ 0 → 3 = errFs n k fs) := fun he => by
        have := errFs_bad (r' := fs.drop (j + 1)) HE.out he
        rw [hf, take_drop_int fs j hl] at this; exact this.symm
      clear hf hl
      by_cases h1 : f < 0
      · have H : Hid (3 = errFs n k fs) := HX.out (by simp [errF, h1])
        clear hfb
        go_wp2
        go_ret
        exact ⟨ret_int H.out, rfl⟩
      · have h0 : 0 ≤ f := by omega
        by_cases h2 : (n : Int) / 8 - f < k
        · have H : Hid (3 = errFs n k fs) := HX.out (by simp [errF, h2])
          clear h1
          go_wp2_with (go_at_call 65; refine (frames_any h).mono ?_; rintro e w' ⟨rfl, rfl⟩)
          go_ret
          exact ⟨ret_int H.out, rfl⟩
        · have H : Hid (errFs n k (fs.take (j + 1)) = 0) := HS.out (by simp [errF, h1, h2])
          have h2' : k ≤ (n : Int) / 8 - f := by omega
          clear h1 h2
          go_wp2_with (go_at_call 65; refine (frames_any h).mono ?_; rintro e w' ⟨rfl, rfl⟩)
          go_round
          case rel => exact ⟨j + 1, by omega, by go_num, H⟩
          case measure => simp [intOf]; omega
    · have H : Hid (0 = errFs n k fs) := by
        have := HE.out
        rw [List.take_of_length_le (by rw [HM.out]; omega)] at this
        exact this.symm
      go_wp2
      go_ret
      exact ⟨ret_int H.out, rfl⟩
set_option maxHeartbeats 400000 in
theorem zero_any (h : RamAt w a b T n ws) (f k : Int) (hf : f ≤ 9223372036854775807) :
    Calls Try.prog 49 #[.pointer (some ⟨a, 0, none⟩), .int .i64 f, .int .i64 k] w fun e w' => e = .returned (.int .i64 (errZ n f k)) ∧ RamAt w' a b T n (zeL ws f k) ∧ w.grownBy w' (some b) := by
  have hi := h.hi
  have hl := h.len
  have h' := h.alloc (.cells #[.int .i64 f] 3)
  have hg := grown_alloc (World.grownBy.refl w (some b)) (.cells #[.int .i64 f] 3)
  have hr : Row (w.alloc (.cells #[.int .i64 f] 3)) w.heap.size 3 ([f].map (Value.int .i64)) := Row.new w 3 [.int .i64 f]
  by_cases hk : k < 1
  · have hs : Hid (zeL ws f k = ws) := by show _ = _; simp [zeL, errZ, hk]
    have he : Hid (2 = errZ n f k) := by show _ = _; simp [errZ, hk]
    clear hl hr
    go_enter Try.func49, Try.ntmps49
    go_wp2_with (go_at_call 68; refine (checkFrames_none _ _ hk _).mono ?_; rintro e w' ⟨rfl, rfl⟩)
    go_ret
    refine ⟨ret_int he.out, ?_, hg⟩
    rw [hs.out]; exact h'
  · have hk1 : 1 ≤ k := by omega
    by_cases hF : errF n f k = 0
    · obtain ⟨h0, h1⟩ : 0 ≤ f ∧ k ≤ (n : Int) / 8 - f := by unfold errF at hF; split at hF <;> omega
      obtain ⟨f, rfl⟩ : ∃ x : Nat, f = x := ⟨f.toNat, by omega⟩
      obtain ⟨k, rfl⟩ : ∃ x : Nat, k = x := ⟨k.toNat, by omega⟩
      have hb : (errFs n k [(f : Int)] != 0) = false := by simp [errFs, hF]
      have hs : Hid (zeL ws f k = splice ws (f * 8) (List.replicate (k * 8) 0)) := by show _ = _; simp [zeL, errZ, hk, hl, hF]
      have he : Hid (0 = errZ n f k) := by show _ = _; simp [errZ, hk, hF]
      have hk2 : 1 ≤ k := by omega
      have hfk : f + k ≤ n / 8 := by omega
      have hfit : f * 8 + k * 8 ≤ (wcells ws).length := by rw [wcells_length]; omega
      obtain ⟨w2, hcl, hrow, hg2⟩ := clear_run (P := Try.prog) h'.row 100 (.int .u64 0) Try.underlying100 zero_u64 rfl rfl (f * 8) (k * 8) (n - f * 8) (by omega) hfit
      have hrow' : Row w2 b 127 (wcells (splice ws (f * 8) (List.replicate (k * 8) 0))) := by
        rw [← wcells_splice]; simpa [wcells] using hrow
      have hlen : (splice ws (f * 8) (List.replicate (k * 8) 0)).length = n := by rw [length_splice _ _ _ (by simp; omega)]; exact hl
      have HR := Lib.hid (h'.turned hg2 hrow' hlen (h.words.splice_ (Words.zeros _) _))
      have HG := Lib.hid (grown_trans1 hg hg2)
      clear hl hF hk h0 h1 hrow hrow' hlen hfit hg2 hg
      go_enter Try.func49, Try.ntmps49
      go_wp2_with (first | (go_at_call 68; refine (checkFrames_any h' _ hk1 w.heap.size 1 [(f : Int)] rfl (by omega) hr (by simpa using hf)).mono ?_; rintro e w' ⟨rfl, rfl⟩) | (go_at_call 69; refine (stretch_any h' _ _ hk2 hfk).mono ?_; rintro e w' ⟨rfl, rfl⟩))
      go_ret
      refine ⟨ret_int he.out, ?_, HG.out⟩
      rw [hs.out]; exact HR.out
    · have hb : (errFs n k [f] != 0) = true := by simp [errFs, hF]
      have hs : Hid (zeL ws f k = ws) := by show _ = _; simp [zeL, errZ, hk, hl, hF]
      have he : Hid (errFs n k [f] = errZ n f k) := by
        show _ = _
        have : errF n f k = 3 := by
          unfold errF at hF ⊢
          split
          · rfl
          · rename_i hx; rw [if_neg hx] at hF; exact absurd rfl hF
        simp [errZ, hk, errFs, this]
      clear hl hF hk
      go_enter Try.func49, Try.ntmps49
      go_wp2_with (go_at_call 68; refine (checkFrames_any h' _ hk1 w.heap.size 1 [f] rfl (by omega) hr (by simpa using hf)).mono ?_; rintro e w' ⟨rfl, rfl⟩)
      go_ret
      refine ⟨ret_int he.out, ?_, hg⟩
      rw [hs.out]; exact h'
end
end Go.Proofs.Ytpcpcgbejinlmaa
/- The contracts of the reference of package ram: it answers as the program does, over the same list of words. -/
namespace Go.Proofs.Ytpcpcgbejinlmaa
open Go.RowKit
section
variable {w : World} {a b n : Nat} {T : TypeId} {ws : List Int}
end
end Go.Proofs.Ytpcpcgbejinlmaa
