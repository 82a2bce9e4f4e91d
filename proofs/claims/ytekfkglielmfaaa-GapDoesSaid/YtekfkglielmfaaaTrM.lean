/- The reference of stretches: Room. -/
import Derived.Test.YtekfkglielmfaaaTrH
namespace Go.Proofs.Ytekfkglielmfaaa
open Go.RowKit
def rnd (T : Nat → Bool) : Nat → Nat
  | 0 => 0
  | d + 1 => if T (4095 - d) = true then 0 else rnd T d + 1
theorem rnd_no {T : Nat → Bool} {d : Nat} (h : T (4095 - d) = false) : rnd T (d + 1) = rnd T d + 1 := by rw [rnd, h]; rfl
theorem rnd_yes {T : Nat → Bool} {d : Nat} (h : T (4095 - d) = true) : rnd T (d + 1) = 0 := by rw [rnd, h]; rfl
theorem rnd_le (T : Nat → Bool) : ∀ d, rnd T d ≤ d
  | 0 => Nat.le_refl _
  | d + 1 => by have := rnd_le T d; unfold rnd; split <;> omega
theorem rnd_free (T : Nat → Bool) : ∀ d, d ≤ 4096 → ∀ i, i < rnd T d → T (4096 - d + i) = false
  | 0, _, i, h => by unfold rnd at h; omega
  | d + 1, hd, i, h => by
    cases hc : T (4095 - d)
    · rw [rnd_no hc] at h
      by_cases hi : i = 0
      · subst hi; rwa [show 4096 - (d + 1) + 0 = 4095 - d by omega]
      · have := rnd_free T d (by omega) (i - 1) (by omega)
        rwa [show 4096 - d + (i - 1) = 4096 - (d + 1) + i by omega] at this
    · rw [rnd_yes hc] at h; omega
theorem rnd_stop (T : Nat → Bool) (h0 : T 4096 = true) : ∀ d, d ≤ 4096 → T (4096 - d + rnd T d) = true
  | 0, _ => h0
  | d + 1, hd => by
    cases hc : T (4095 - d)
    · rw [rnd_no hc]
      have := rnd_stop T h0 d (by omega)
      rwa [show 4096 - d + rnd T d = 4096 - (d + 1) + (rnd T d + 1) by omega] at this
    · rw [rnd_yes hc, show 4096 - (d + 1) + 0 = 4095 - d by omega]; exact hc
/-- How many pages of room there are from a page on. -/
def rn (T : Nat → Bool) (p : Nat) : Nat := rnd T (4096 - p)
theorem rn_iff {T : Nat → Bool} (h0 : T 4096 = true) {p m : Nat} (hp : p ≤ 4096) : m ≤ rn T p ↔ ∀ i, i < m → T (p + i) = false := by
  constructor
  · intro h i hi
    have := rnd_free T (4096 - p) (by omega) i (by show i < rn T p; omega)
    rwa [show 4096 - (4096 - p) = p by omega] at this
  · intro h
    by_cases hc : m ≤ rn T p
    · exact hc
    · have := rnd_stop T h0 (4096 - p) (by omega)
      rw [show 4096 - (4096 - p) = p by omega, show rnd T (4096 - p) = rn T p from rfl, h _ (by omega)] at this
      cases this
theorem rn_step {T : Nat → Bool} {k : Nat} (hk : k < 4096) : rn T k = if T k = true then 0 else rn T (k + 1) + 1 := by
  unfold rn
  rw [show 4096 - k = 4096 - (k + 1) + 1 by omega]
  cases hc : T k
  · rw [rnd_no (by rwa [show 4095 - (4096 - (k + 1)) = k by omega])]; rfl
  · rw [rnd_yes (by rwa [show 4095 - (4096 - (k + 1)) = k by omega])]; rfl
def rwI (f : Nat → Nat) : List Value := (List.range 4097).map fun p => .int .i64 (f p : Nat)
theorem rwI_get {f : Nat → Nat} {p : Nat} (h : p < 4097) : (rwI f)[p]? = some (.int .i64 (f p : Nat)) := by
  unfold rwI
  rw [List.getElem?_map, List.getElem?_range h]; rfl
theorem rwI_len (f : Nat → Nat) : (rwI f).length = 4097 := by unfold rwI; rw [List.length_map, List.length_range]
theorem rwI_zero : rwI (fun _ => 0) = List.replicate 4097 (.int .i64 0) := by
  unfold rwI
  rw [List.map_const', List.length_range]; rfl
theorem rwI_set (f : Nat → Nat) (i m : Nat) : (rwI f).set i (.int .i64 (m : Nat)) = rwI fun k => if k = i then m else f k := by
  apply List.ext_getElem?
  intro k
  by_cases hk : k < 4097
  · rw [rwI_get hk, List.getElem?_set]
    by_cases hi : i = k
    · subst hi
      rw [if_pos rfl, if_pos (by rw [rwI_len]; exact hk), if_pos rfl]
    · rw [if_neg hi, rwI_get hk, if_neg (show ¬ k = i by omega)]
  · rw [List.getElem?_eq_none (by rw [List.length_set, rwI_len]; omega), List.getElem?_eq_none (by rw [rwI_len]; omega)]
theorem rwI_same {f g : Nat → Nat} (h : ∀ p, p < 4097 → f p = g p) : rwI f = rwI g := by
  unfold rwI
  exact List.map_congr_left fun p hp => by rw [h p (List.mem_range.1 hp)]
def fR (T : Nat → Bool) (k q : Nat) : Nat := if k ≤ q then rn T q else 0
theorem fR_new (T : Nat → Bool) : rwI (fun _ => 0) = rwI (fR T 4096) := rwI_same fun p hp => by
  unfold fR
  split
  · rw [show p = 4096 by omega]; unfold rn; rw [Nat.sub_self]; rfl
  · rfl
theorem fR_yes {T : Nat → Bool} {k : Nat} (hk : k < 4096) (h : T k = true) : rwI (fR T (k + 1)) = rwI (fR T k) := rwI_same fun p hp => by
  unfold fR
  by_cases e : p = k
  · subst e
    rw [if_neg (by omega), if_pos (Nat.le_refl _), rn_step hk, h]; rfl
  · by_cases c : k + 1 ≤ p
    · rw [if_pos c, if_pos (by omega)]
    · rw [if_neg c, if_neg (by omega)]
theorem fR_no {T : Nat → Bool} {k : Nat} (hk : k < 4096) (h : T k = false) : (rwI (fR T (k + 1))).set k (.int .i64 (rn T (k + 1) + 1 : Nat)) = rwI (fR T k) := by
  rw [rwI_set]
  refine rwI_same fun p hp => ?_
  unfold fR
  by_cases e : p = k
  · subst e
    rw [if_pos rfl, if_pos (Nat.le_refl _), rn_step hk, h]; rfl
  · rw [if_neg e]
    by_cases c : k + 1 ≤ p
    · rw [if_pos c, if_pos (by omega)]
    · rw [if_neg c, if_neg (by omega)]
theorem info_int : (Try.prog.info? 3).map (fun i => (i.zero, i.size, i.bytes)) = some (some (.int .i64 0), 1, 8) := by kernel_rfl
theorem made_ints (n : Nat) : (madeCells #[Value.int .i64 0] n).toList = List.replicate n (.int .i64 0) := by
  apply List.ext_getElem?
  intro i
  rw [List.getElem?_replicate]
  simp only [madeCells, Array.getElem?_toList, Array.getElem?_map]
  by_cases hi : i < n
  · rw [if_pos hi]
    simp [hi, Nat.mod_one]
  · rw [if_neg hi]
    simp; omega
theorem row_mi (m : Nat) (hm : m ≤ 5000) (w : World) : ∃ W1, (Instr.makeSlice 70 (.int .i64 m) (.int .i64 m)).run Try.prog w = .ok (.slice (some ⟨w.heap.size, 0, none⟩) m m) W1 ∧ Lrow W1 w.heap.size 3 (List.replicate m (.int .i64 0)) ∧ Below w.heap.size w W1 := by
  refine ⟨w.alloc (.cells (madeCells #[.int .i64 0] m) 3), run_make_row' (P := Try.prog) 70 3 (.int .i64 0) 8 Try.underlying70 info_int rfl .i64 .i64 m (by omega) (by omega) w, ?_, below_new _ _⟩
  rw [← made_ints]
  simpa using Lrow.new w 3 (madeCells #[Value.int .i64 0] m).toList
end Go.Proofs.Ytekfkglielmfaaa
