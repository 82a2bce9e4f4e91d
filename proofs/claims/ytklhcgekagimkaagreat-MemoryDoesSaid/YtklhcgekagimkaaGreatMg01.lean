/- The contracts of package ram: a new memory, stretches of frames, clearing and copying. -/
import Derived.Test.YtklhcgekagimkaaGreatMg00
import Derived.Deep.OwnRows
import Derived.Lib.SliceRun
import Derived.BigFrame
import Derived.Maps.AppendAt
import Derived.Deep.AppendLies
import Derived.OwnWalk
namespace Go.Proofs.YtklhcgekagimkaaGreat
open Go.RowKit

theorem zero_u64 (w : World) : (zeroValue 34).run Tryz.prog w = .ok (.int .u64 0) w := by kernel_rfl
theorem info_u64 : (Tryz.prog.info? 34).map (fun i => (i.zero, i.size, i.bytes)) = some (some (.int .u64 0), 1, 8) := by kernel_rfl
theorem made_words (n : Nat) : madeCells #[.int .u64 0] n = (wcells (List.replicate n 0)).toArray := by
  apply Array.ext
  · simp [madeCells, wcells]
  · intro i h1 h2
    simp [madeCells, wcells, Nat.mod_one]

/-- A new memory of f frames, as it lies. -/
theorem ramAt_new (w : World) (T : TypeId) (f : Nat) (h1 : 8 ≤ f) (h2 : f ≤ 1024) :
    RamAt ((w.alloc (.cells (madeCells #[.int .u64 0] (f * 8)) 34)).alloc (.cells #[.slice (some ⟨w.heap.size, 0, none⟩) (f * 8) (f * 8)] T)) (w.heap.size + 1) w.heap.size T (f * 8) (List.replicate (f * 8) 0) := by
  refine ⟨by simp, by omega, by omega, by omega, Words.zeros _, ?_, ?_, by omega⟩
  · have := Row.new (w.alloc (.cells (madeCells #[.int .u64 0] (f * 8)) 34)) T [.slice (some ⟨w.heap.size, 0, none⟩) (f * 8) (f * 8)]
    simpa using this
  · rw [made_words]
    exact (Row.new w 34 _).alloc _

theorem newR_bad (f : Int) (w : World) (h : f < 8 ∨ 1024 < f) : Calls Tryz.prog 50 #[.int .i64 f] w fun e w' => e = .returned (.tuple #[.pointer none, .int .i64 2]) ∧ w = w' := by
  rcases h with h | h
  · go_enter Tryz.func50, Tryz.ntmps50
    go_wp2
    go_ret2
    exact ⟨rfl, rfl⟩
  · have h' : 8 ≤ f := by omega
    go_enter Tryz.func50, Tryz.ntmps50
    go_wp2
    go_ret2
    exact ⟨rfl, rfl⟩
theorem new_ok (f : Nat) (w : World) (h1 : 8 ≤ f) (h2 : f ≤ 1024) : Calls Tryz.prog 50 #[.int .i64 f] w fun e w' => e = .returned (.tuple #[.pointer (some ⟨w.heap.size + 1, 0, none⟩), .int .i64 0]) ∧ RamAt w' (w.heap.size + 1) w.heap.size 80 (f * 8) (List.replicate (f * 8) 0) ∧ Below w.heap.size w w' ∧ w'.heap.size = w.heap.size + 2 := by
  have hmk : ∀ w : World, (Instr.makeSlice 40 (.int .i64 ((f : Int) * 8)) (.int .i64 ((f : Int) * 8))).run Tryz.prog w = .ok (.slice (some ⟨w.heap.size, 0, none⟩) (f * 8) (f * 8)) (w.alloc (.cells (madeCells #[.int .u64 0] (f * 8)) 34)) := fun w => by
    have := run_make_row' (P := Tryz.prog) 40 34 (.int .u64 0) 8 Tryz.underlying40 info_u64 rfl .i64 .i64 (f * 8) (by omega) (by omega) w
    rwa [Int.natCast_mul] at this
  have hr := ramAt_new w 80 f h1 h2
  go_enter Tryz.func50, Tryz.ntmps50
  go_wp2
  go_ret2
  refine ⟨rfl, hr, ((Below.refl _ _).alloc (by omega) _).alloc (by simp) _, by simp⟩

section
variable {w : World} {a b n : Nat} {T : TypeId} {ws : List Int}

theorem stretch_any (h : RamAt w a b T n ws) (f k : Nat) (hk : 1 ≤ k) (hf : f + k ≤ n / 8) :
    Calls Tryz.prog 110 #[.pointer (some ⟨a, 0, none⟩), .int .i64 f, .int .i64 k] w fun e w' => e = .returned (.slice (some ⟨b, f * 8, none⟩) (k * 8) (n - f * 8)) ∧ w = w' := by
  have hc := h.field
  have hi := h.hi
  have hne : f * 8 < n := by omega
  have hne2 : f * 8 + k * 8 ≤ n := by omega
  clear h
  go_enter Tryz.func110, Tryz.ntmps110
  go_wp2
  go_ret
  exact ⟨rfl, rfl⟩
theorem checkFrames_nil (k : Int) (v : Value) (w : World) : Calls Tryz.prog 109 #[.pointer none, .int .i64 k, v] w fun e w' => e = .returned (.int .i64 1) ∧ w = w' := by
  go_enter Tryz.func109, Tryz.ntmps109
  go_wp2
  go_ret
  exact ⟨rfl, rfl⟩
theorem checkFrames_none (k : Int) (v : Value) (hk : k < 1) (w : World) : Calls Tryz.prog 109 #[.pointer (some ⟨a, 0, none⟩), .int .i64 k, v] w fun e w' => e = .returned (.int .i64 2) ∧ w = w' := by
  go_enter Tryz.func109, Tryz.ntmps109
  go_wp2
  go_ret
  exact ⟨rfl, rfl⟩
theorem take_succ_int (fs : List Int) (j : Nat) (h : j < fs.length) : fs.take (j + 1) = fs.take j ++ [fs.getD j 0] := by
  rw [List.take_succ_eq_append_getElem h, List.getD_eq_getElem?_getD, List.getElem?_eq_getElem h]; rfl
theorem take_drop_int (fs : List Int) (j : Nat) (h : j < fs.length) : fs.take j ++ fs.getD j 0 :: fs.drop (j + 1) = fs := by
  rw [List.getD_eq_getElem?_getD, List.getElem?_eq_getElem h]
  simp
set_option maxHeartbeats 400000 in
theorem checkFrames_any (h : RamAt w a b T n ws) (k : Int) (hk : 1 ≤ k) (g m : Nat) (fs : List Int) (hm : fs.length = m) (hm2 : m ≤ 2) (hr : Row w g 3 (fs.map (Value.int .i64))) (hb : ∀ f ∈ fs, f ≤ 9223372036854775807) :
    Calls Tryz.prog 109 #[.pointer (some ⟨a, 0, none⟩), .int .i64 k, .slice (some ⟨g, 0, none⟩) m m] w fun e w' => e = .returned (.int .i64 (errFs n k fs)) ∧ w = w' := by
  have hi := h.hi
  have HM := Lib.hid hm
  have HB := Lib.hid hb
  have HR := Lib.hid hr
  clear hm hb hr
  go_enter Tryz.func109, Tryz.ntmps109
  go_wp2
  go_loop [8, 15, 28] (fun _ i _ => ∃ j : Nat, j ≤ m ∧ i = .int .i64 j ∧ Hid (errFs n k (fs.take j) = 0)) (fun _ i _ => m - (intOf i).toNat)
  case atStart => exact ⟨0, Nat.zero_le _, rfl, rfl⟩
  case round =>
    obtain ⟨j, hj, rfl, HE⟩ := hrel
    by_cases hlt : j < m
    · have hl : j < fs.length := by rw [HM.out]; exact hlt
      obtain ⟨f, hf⟩ : ∃ f, f = fs.getD j 0 := ⟨_, rfl⟩
      have hfb : f ≤ 9223372036854775807 := by
        rw [hf, List.getD_eq_getElem?_getD, List.getElem?_eq_getElem hl]; exact HB.out _ (List.getElem_mem hl)
      have hc : w.cell? ⟨g, j, none⟩ = some (.int .i64 f) := by
        rw [HR.out.cell, List.getElem?_map, hf, List.getD_eq_getElem?_getD, List.getElem?_eq_getElem hl]; rfl
      have HS : Hid (errF n f k = 0 → errFs n k (fs.take (j + 1)) = 0) := fun he => by rw [take_succ_int fs j hl, ← hf]; exact errFs_snoc HE.out he
      have HX : Hid (errF n f k ≠ 0 → 3 = errFs n k fs) := fun he => by
        have := errFs_bad (r' := fs.drop (j + 1)) HE.out he
        rw [hf, take_drop_int fs j hl] at this; exact this.symm
      clear hf hl
      by_cases h1 : f < 0
      · have H : Hid (3 = errFs n k fs) := HX.out (by simp [errF, h1])
        clear hfb
        go_wp2
        go_ret
        exact ⟨ret_int H.out, rfl⟩
      · have h0 : 0 ≤ f := by omega
        by_cases h2 : (n : Int) / 8 - f < k
        · have H : Hid (3 = errFs n k fs) := HX.out (by simp [errF, h2])
          clear h1
          go_wp2_with (go_at_call 95; refine (frames_any h).mono ?_; rintro e w' ⟨rfl, rfl⟩)
          go_ret
          exact ⟨ret_int H.out, rfl⟩
        · have H : Hid (errFs n k (fs.take (j + 1)) = 0) := HS.out (by simp [errF, h1, h2])
          have h2' : k ≤ (n : Int) / 8 - f := by omega
          clear h1 h2
          go_wp2_with (go_at_call 95; refine (frames_any h).mono ?_; rintro e w' ⟨rfl, rfl⟩)
          go_round
          case rel => exact ⟨j + 1, by omega, by go_num, H⟩
          case measure => simp [intOf]; omega
    · have H : Hid (0 = errFs n k fs) := by
        have := HE.out
        rw [List.take_of_length_le (by rw [HM.out]; omega)] at this
        exact this.symm
      go_wp2
      go_ret
      exact ⟨ret_int H.out, rfl⟩
theorem zero_nil (f k : Int) (w : World) : Calls Tryz.prog 89 #[.pointer none, .int .i64 f, .int .i64 k] w fun e w' => e = .returned (.int .i64 1) ∧ Below w.heap.size w w' := by
  go_enter Tryz.func89, Tryz.ntmps89
  go_wp2_with (go_at_call 109; refine (checkFrames_nil _ _ _).mono ?_; rintro e w' ⟨rfl, rfl⟩)
  go_ret
  exact ⟨rfl, (Below.refl _ _).alloc (Nat.le_refl _) _⟩
theorem words_one (ws : List Int) : ∀ v ∈ wcells ws, v.oneCell' = true := by
  intro v hv
  simp only [wcells, List.mem_map] at hv
  obtain ⟨x, _, rfl⟩ := hv
  rfl
set_option maxHeartbeats 400000 in
theorem zero_any (h : RamAt w a b T n ws) (f k : Int) (hf : f ≤ 9223372036854775807) :
    Calls Tryz.prog 89 #[.pointer (some ⟨a, 0, none⟩), .int .i64 f, .int .i64 k] w fun e w' => e = .returned (.int .i64 (errZ n f k)) ∧ RamAt w' a b T n (zeL ws f k) ∧ w.grownBy w' (some b) := by
  have hi := h.hi
  have hl := h.len
  have h' := h.alloc (.cells #[.int .i64 f] 3)
  have hg := grown_alloc (World.grownBy.refl w (some b)) (.cells #[.int .i64 f] 3)
  have hr : Row (w.alloc (.cells #[.int .i64 f] 3)) w.heap.size 3 ([f].map (Value.int .i64)) := Row.new w 3 [.int .i64 f]
  by_cases hk : k < 1
  · have hs : Hid (zeL ws f k = ws) := by show _ = _; simp [zeL, errZ, hk]
    have he : Hid (2 = errZ n f k) := by show _ = _; simp [errZ, hk]
    clear hl hr
    go_enter Tryz.func89, Tryz.ntmps89
    go_wp2_with (go_at_call 109; refine (checkFrames_none _ _ hk _).mono ?_; rintro e w' ⟨rfl, rfl⟩)
    go_ret
    refine ⟨ret_int he.out, ?_, hg⟩
    rw [hs.out]; exact h'
  · have hk1 : 1 ≤ k := by omega
    by_cases hF : errF n f k = 0
    · obtain ⟨h0, h1⟩ : 0 ≤ f ∧ k ≤ (n : Int) / 8 - f := by unfold errF at hF; split at hF <;> omega
      obtain ⟨f, rfl⟩ : ∃ x : Nat, f = x := ⟨f.toNat, by omega⟩
      obtain ⟨k, rfl⟩ : ∃ x : Nat, k = x := ⟨k.toNat, by omega⟩
      have hb : (errFs n k [(f : Int)] != 0) = false := by simp [errFs, hF]
      have hs : Hid (zeL ws f k = splice ws (f * 8) (List.replicate (k * 8) 0)) := by show _ = _; simp [zeL, errZ, hk, hl, hF]
      have he : Hid (0 = errZ n f k) := by show _ = _; simp [errZ, hk, hF]
      have hk2 : 1 ≤ k := by omega
      have hfk : f + k ≤ n / 8 := by omega
      have hfit : f * 8 + k * 8 ≤ (wcells ws).length := by rw [wcells_length]; omega
      obtain ⟨w2, hcl, hrow, hg2⟩ := clear_run (P := Tryz.prog) h'.row 40 (.int .u64 0) Tryz.underlying40 zero_u64 rfl rfl (f * 8) (k * 8) (n - f * 8) (by omega) hfit
      have hrow' : Row w2 b 34 (wcells (splice ws (f * 8) (List.replicate (k * 8) 0))) := by
        rw [← wcells_splice]; simpa [wcells] using hrow
      have hlen : (splice ws (f * 8) (List.replicate (k * 8) 0)).length = n := by rw [length_splice _ _ _ (by simp; omega)]; exact hl
      have HR := Lib.hid (h'.turned hg2 hrow' hlen (h.words.splice_ (Words.zeros _) _))
      have HG := Lib.hid (grown_trans1 hg hg2)
      clear hl hF hk h0 h1 hrow hrow' hlen hfit hg2 hg
      go_enter Tryz.func89, Tryz.ntmps89
      go_wp2_with (first | (go_at_call 109; refine (checkFrames_any h' _ hk1 w.heap.size 1 [(f : Int)] rfl (by omega) hr (by simpa using hf)).mono ?_; rintro e w' ⟨rfl, rfl⟩) | (go_at_call 110; refine (stretch_any h' _ _ hk2 hfk).mono ?_; rintro e w' ⟨rfl, rfl⟩))
      go_ret
      refine ⟨ret_int he.out, ?_, HG.out⟩
      rw [hs.out]; exact HR.out
    · have hb : (errFs n k [f] != 0) = true := by simp [errFs, hF]
      have hs : Hid (zeL ws f k = ws) := by show _ = _; simp [zeL, errZ, hk, hl, hF]
      have he : Hid (errFs n k [f] = errZ n f k) := by
        show _ = _
        have : errF n f k = 3 := by
          unfold errF at hF ⊢
          split
          · rfl
          · rename_i hx; rw [if_neg hx] at hF; exact absurd rfl hF
        simp [errZ, hk, errFs, this]
      clear hl hF hk
      go_enter Tryz.func89, Tryz.ntmps89
      go_wp2_with (go_at_call 109; refine (checkFrames_any h' _ hk1 w.heap.size 1 [f] rfl (by omega) hr (by simpa using hf)).mono ?_; rintro e w' ⟨rfl, rfl⟩)
      go_ret
      refine ⟨ret_int he.out, ?_, hg⟩
      rw [hs.out]; exact h'
theorem errF_3 {n : Nat} {f k : Int} (h : errF n f k ≠ 0) : errF n f k = 3 := by
  unfold errF at h ⊢
  split
  · rfl
  · rename_i hx; rw [if_neg hx] at h; exact absurd rfl h
theorem info1_u64 : (Tryz.prog.info? 34).map (·.size) = some 1 := by kernel_rfl
end
end Go.Proofs.YtklhcgekagimkaaGreat
/- The contracts of the reference of package ram: it answers as the program does, over the same list of words. -/
namespace Go.Proofs.YtklhcgekagimkaaGreat
open Go.RowKit

theorem refNewR_bad (f : Int) (w : World) (h : f < 8 ∨ 1024 < f) : Calls Tryz.prog 53 #[.int .i64 f] w fun e w' => e = .returned (.tuple #[.pointer none, .int .i64 2]) ∧ w = w' := by
  rcases h with h | h
  · go_enter Tryz.func53, Tryz.ntmps53
    go_wp2
    go_ret2
    exact ⟨rfl, rfl⟩
  · have h' : 8 ≤ f := by omega
    go_enter Tryz.func53, Tryz.ntmps53
    go_wp2
    go_ret2
    exact ⟨rfl, rfl⟩
theorem refNew_ok (f : Nat) (w : World) (h1 : 8 ≤ f) (h2 : f ≤ 1024) : Calls Tryz.prog 53 #[.int .i64 f] w fun e w' => e = .returned (.tuple #[.pointer (some ⟨w.heap.size + 1, 0, none⟩), .int .i64 0]) ∧ RamAt w' (w.heap.size + 1) w.heap.size 42 (f * 8) (List.replicate (f * 8) 0) ∧ Below w.heap.size w w' ∧ w'.heap.size = w.heap.size + 2 := by
  have hmk : ∀ w : World, (Instr.makeSlice 40 (.int .i64 ((f : Int) * 8)) (.int .i64 ((f : Int) * 8))).run Tryz.prog w = .ok (.slice (some ⟨w.heap.size, 0, none⟩) (f * 8) (f * 8)) (w.alloc (.cells (madeCells #[.int .u64 0] (f * 8)) 34)) := fun w => by
    have := run_make_row' (P := Tryz.prog) 40 34 (.int .u64 0) 8 Tryz.underlying40 info_u64 rfl .i64 .i64 (f * 8) (by omega) (by omega) w
    rwa [Int.natCast_mul] at this
  have hr := ramAt_new w 42 f h1 h2
  go_enter Tryz.func53, Tryz.ntmps53
  go_wp2
  go_ret2
  refine ⟨rfl, hr, ((Below.refl _ _).alloc (by omega) _).alloc (by simp) _, by simp⟩

section
variable {w : World} {a b n : Nat} {T : TypeId} {ws : List Int}
theorem refFrames_any (h : RamAt w a b T n ws) : Calls Tryz.prog 145 #[.pointer (some ⟨a, 0, none⟩)] w fun e w' => e = .returned (.int .i64 ((n : Int) / 8)) ∧ w = w' := by
  have hc := h.field
  have hi := h.hi
  clear h
  go_enter Tryz.func145, Tryz.ntmps145
  go_wp2
  go_ret
  exact ⟨rfl, rfl⟩
theorem refLoad_any (h : RamAt w a b T n ws) (i : Int) : Calls Tryz.prog 83 #[.pointer (some ⟨a, 0, none⟩), .int .i64 i] w fun e w' => e = .returned (.tuple #[.int .u64 (ldV ws i), .int .i64 (errW n i)]) ∧ w = w' := by
  have hi := h.hi
  have hl := h.len
  have hc := h.field
  by_cases h1 : errW n i = 0
  · obtain ⟨h0, h2, h3⟩ : 0 ≤ i ∧ i < n * 8 ∧ i % 8 = 0 := by
      unfold errW at h1
      split at h1
      · omega
      · split at h1 <;> omega
    obtain ⟨k, rfl⟩ : ∃ k : Nat, i = k := ⟨i.toNat, by omega⟩
    have hb : ((k : Int) % 8 != 0) = false := by simp [h3]
    have hk : k / 8 < n := by omega
    have H : Hid (ws.getD (k / 8) 0 = ldV ws k) := by show _ = _; simp [ldV, hl, h1]
    have H2 : Hid (0 = errW n k) := h1.symm
    have hc2 := h.word hk
    clear h1 hl h h3
    go_enter Tryz.func83, Tryz.ntmps83
    go_wp2
    go_ret2
    exact ⟨ret2_int H.out H2.out, rfl⟩
  · have H : Hid (0 = ldV ws i) := by show _ = _; simp [ldV, hl, h1]
    by_cases h0 : i < 0
    · have H2 : Hid (3 = errW n i) := by show _ = _; simp [errW, h0]
      clear h1 hl h
      go_enter Tryz.func83, Tryz.ntmps83
      go_wp2
      go_ret2
      exact ⟨ret2_int H.out H2.out, rfl⟩
    · have h0' : 0 ≤ i := by omega
      by_cases h2 : (n : Int) * 8 ≤ i
      · have H2 : Hid (3 = errW n i) := by show _ = _; simp [errW, h2]
        clear h1 hl h h0
        go_enter Tryz.func83, Tryz.ntmps83
        go_wp2
        go_ret2
        exact ⟨ret2_int H.out H2.out, rfl⟩
      · have h2' : i < (n : Int) * 8 := by omega
        have h3 : i % 8 ≠ 0 := by
          intro h3; exact h1 (by simp [errW, h0, h2, h3])
        have hb : (i % 8 != 0) = true := by simp [h3]
        have H2 : Hid (4 = errW n i) := by show _ = _; simp [errW, h0, h2, h3]
        clear h1 hl h h0 h2 h3
        go_enter Tryz.func83, Tryz.ntmps83
        go_wp2
        go_ret2
        exact ⟨ret2_int H.out H2.out, rfl⟩
theorem refStore_any (h : RamAt w a b T n ws) (i v : Int) (hv0 : 0 ≤ v) (hv1 : v < 18446744073709551616) : Calls Tryz.prog 60 #[.pointer (some ⟨a, 0, none⟩), .int .i64 i, .int .u64 v] w fun e w' => e = .returned (.int .i64 (errW n i)) ∧ RamAt w' a b T n (stL ws i v) ∧ w.grownBy w' (some b) := by
  have hi := h.hi
  have hl := h.len
  by_cases h1 : errW n i = 0
  · have hb : (errW n i == 0) = true := by simp [h1]
    obtain ⟨h0, h2⟩ : 0 ≤ i ∧ i < n * 8 := by unfold errW at h1; split at h1 <;> omega
    obtain ⟨k, rfl⟩ : ∃ k : Nat, i = k := ⟨i.toNat, by omega⟩
    have hk : k / 8 < n := by omega
    have H : Hid (stL ws k v = ws.set (k / 8) v) := by show _ = _; simp [stL, hl, h1]
    have hc := h.field
    have hc2 := h.word hk
    have hf := h.row.frozen (k / 8)
    obtain ⟨x, hx⟩ : ∃ x, x = ws.getD (k / 8) 0 := ⟨_, rfl⟩
    rw [← hx] at hc2
    have HL := Lib.hid hl
    clear h1 hl hx
    go_enter Tryz.func60, Tryz.ntmps60
    go_wp2_with (go_at_call 83; refine (refLoad_any h _).mono ?_; rintro e w' ⟨rfl, rfl⟩)
    go_ret
    refine ⟨rfl, ?_, grown_set _ _ _ _⟩
    rw [H.out]
    exact h.turned (grown_set _ _ _ _) (by rw [← wcells_set]; exact h.row.set_ _ _) (by simp [HL.out]) (h.words.set_ _ _ hv0 hv1)
  · have hb : (errW n i == 0) = false := by simp [h1]
    have H : Hid (stL ws i v = ws) := by show _ = _; simp [stL, hl, h1]
    clear h1 hl
    go_enter Tryz.func60, Tryz.ntmps60
    go_wp2_with (go_at_call 83; refine (refLoad_any h _).mono ?_; rintro e w' ⟨rfl, rfl⟩)
    go_ret
    refine ⟨rfl, ?_, World.grownBy.refl _ _⟩
    rw [H.out]
    exact h
/-- Are k frames from f on there? -/
def thB (n : Nat) (f k : Int) : Bool := decide (0 ≤ f) && decide (f < (n : Int) / 8) && decide (k ≤ (n : Int) / 8 - f)
theorem there_any (h : RamAt w a b T n ws) (f k : Int) (hf : f ≤ 9223372036854775807) : Calls Tryz.prog 127 #[.pointer (some ⟨a, 0, none⟩), .int .i64 f, .int .i64 k] w fun e w' => e = .returned (.bool (thB n f k)) ∧ w = w' := by
  have hi := h.hi
  by_cases h0 : f < 0
  · have H : Hid (false = thB n f k) := by show _ = _; simp [thB]; omega
    clear hf
    go_enter Tryz.func127, Tryz.ntmps127
    go_wp2
    go_ret
    exact ⟨ret_bool H.out, rfl⟩
  · have h0' : 0 ≤ f := by omega
    by_cases h1 : f < (n : Int) / 8
    · have H : Hid (decide (k ≤ (n : Int) / 8 - f) = thB n f k) := by show _ = _; simp [thB, h0', h1]
      clear hf h0
      go_enter Tryz.func127, Tryz.ntmps127
      go_wp2_with (go_at_call 145; refine (refFrames_any h).mono ?_; rintro e w' ⟨rfl, rfl⟩)
      go_ret
      exact ⟨ret_bool H.out, rfl⟩
    · have h1' : (n : Int) / 8 ≤ f := by omega
      have H : Hid (false = thB n f k) := by show _ = _; simp [thB, h1]
      clear hf h0 h1
      go_enter Tryz.func127, Tryz.ntmps127
      go_wp2_with (go_at_call 145; refine (refFrames_any h).mono ?_; rintro e w' ⟨rfl, rfl⟩)
      go_ret
      exact ⟨ret_bool H.out, rfl⟩
end
end Go.Proofs.YtklhcgekagimkaaGreat
