/- The reference of stretches: Greatest. -/
import Derived.Test.YtekfkglielmfaaaTrG
namespace Go.Proofs.Ytekfkglielmfaaa
open Go.RowKit
def grn (T : Nat → Bool) : Nat → Nat
  | 0 => 0
  | k + 1 => if T (k + 1) = true then 0 else grn T k + 1
def grb (T : Nat → Bool) : Nat → Nat
  | 0 => 0
  | k + 1 => max (grb T k) (grn T (k + 1))
theorem grn_no {T : Nat → Bool} {k : Nat} (h : T (k + 1) = false) : grn T (k + 1) = grn T k + 1 := by rw [grn, h]; rfl
theorem grn_yes {T : Nat → Bool} {k : Nat} (h : T (k + 1) = true) : grn T (k + 1) = 0 := by rw [grn, h]; rfl
theorem grn_le (T : Nat → Bool) : ∀ k, grn T k ≤ k
  | 0 => Nat.le_refl _
  | k + 1 => by have := grn_le T k; unfold grn; split <;> omega
theorem grb_le (T : Nat → Bool) : ∀ k, grb T k ≤ k
  | 0 => Nat.le_refl _
  | k + 1 => by have := grb_le T k; have := grn_le T (k + 1); unfold grb; omega
theorem grn_free (T : Nat → Bool) : ∀ k i, i < grn T k → T (k - i) = false
  | 0, i, h => by unfold grn at h; omega
  | k + 1, i, h => by
    unfold grn at h
    split at h
    · omega
    · rename_i hc
      by_cases hi : i = 0
      · subst hi; simpa using hc
      · have := grn_free T k (i - 1) (by omega)
        rwa [show k - (i - 1) = k + 1 - i by omega] at this
theorem grn_stop (T : Nat → Bool) (h0 : T 0 = true) : ∀ k, T (k - grn T k) = true
  | 0 => h0
  | k + 1 => by
    unfold grn
    split
    · assumption
    · have := grn_stop T h0 k
      rwa [show k + 1 - (grn T k + 1) = k - grn T k by omega]
theorem grb_has (T : Nat → Bool) : ∀ k, ∃ q, ∀ i, i < grb T k → T (q + i) = false
  | 0 => ⟨0, fun i h => by unfold grb at h; omega⟩
  | k + 1 => by
    obtain ⟨q, hq⟩ := grb_has T k
    by_cases h : grn T (k + 1) ≤ grb T k
    · exact ⟨q, fun i hi => hq i (by unfold grb at hi; omega)⟩
    · refine ⟨k + 1 + 1 - grn T (k + 1), fun i hi => ?_⟩
      have hi : i < grn T (k + 1) := by unfold grb at hi; omega
      have hl := grn_le T (k + 1)
      have := grn_free T (k + 1) (grn T (k + 1) - 1 - i) (by omega)
      rwa [show k + 1 - (grn T (k + 1) - 1 - i) = k + 1 + 1 - grn T (k + 1) + i by omega] at this
theorem grb_all (T : Nat → Bool) (h0 : T 0 = true) : ∀ k q m, q + m ≤ k + 1 → (∀ i, i < m → T (q + i) = false) → m ≤ grb T k
  | 0, q, m, h, hf => by
    by_cases hm : m = 0
    · omega
    · have := hf 0 (by omega)
      rw [show q + 0 = 0 by omega, h0] at this
      cases this
  | k + 1, q, m, h, hf => by
    by_cases hm : q + m ≤ k + 1
    · have := grb_all T h0 k q m hm hf
      unfold grb; omega
    · have hs := grn_stop T h0 (k + 1)
      have hl := grn_le T (k + 1)
      by_cases hg : m ≤ grn T (k + 1)
      · unfold grb; omega
      · have := hf (k + 1 - grn T (k + 1) - q) (by omega)
        rw [show q + (k + 1 - grn T (k + 1) - q) = k + 1 - grn T (k + 1) by omega, hs] at this
        cases this
theorem gr_is (L : List (Nat × Nat)) : GrIs L (grb (tkS L) 4095) := by
  have h0 : tkS L 0 = true := tkS_iff.2 (Or.inl (Or.inl rfl))
  refine ⟨grb_has _ _, fun p n h => ?_⟩
  by_cases hn : n = 0
  · omega
  · refine grb_all (tkS L) h0 4095 p n ?_ h
    have := h (n - 1) (by omega)
    by_cases hc : p + n ≤ 4095 + 1
    · exact hc
    · rw [tkS_iff.2 (Or.inl (Or.inr (by omega)))] at this
      cases this
section
variable {w w' : World} {B x : Nat} {v v' : Value} {L L' : List (Nat × Nat)} {f t : Int}
set_option maxHeartbeats 4000000 in
theorem rgreatest (h : RtT B w x v L) (hl : L.length ≤ 1000) (hk : OkS L) : Calls Try.prog 18 #[.pointer (some ⟨x, 0, none⟩)] w fun e w' => e = .returned (.int .i64 (grb (tkS L) 4095 : Nat)) ∧ Below w.heap.size w w' := by
  have hT := rtaken h hl hk
  obtain ⟨T, hTT⟩ : ∃ T, T = tkS L := ⟨_, rfl⟩
  rw [← hTT] at hT ⊢
  clear h hTT hk
  go_enter Try.func18, Try.ntmps18
  go_wp2_with fail
  refine hT.mono ?_
  rintro e w1 ⟨g, rfl, hg, hrow, hb⟩
  have HR := Lib.hid (And.intro hrow hb)
  clear hT hrow hb
  go_wp2_with fail
  go_loopw [4, 5, 6] (fun b n p wr => ∃ k : Nat, k ≤ 4095 ∧ p = .int .i64 ((k : Int) + 1) ∧ n = .int .i64 (grn T k : Nat) ∧ b = .int .i64 (grb T k : Nat) ∧ wr = w1) (fun _ _ p _ => 4096 - (RowKit.intOf p).toNat)
  case atStart => exact ⟨0, by omega, rfl, rfl, rfl, rfl⟩
  case round =>
    obtain ⟨k, hk, rfl, rfl, rfl, rfl⟩ := hrel
    have hn := grn_le T k
    have hbb := grb_le T k
    by_cases hlt : k < 4095
    · have k1 : (k : Int) + 1 < 4096 := by omega
      have k0 : (0 : Int) ≤ (k : Int) + 1 := by omega
      have hw3 : IntKind.i64.wrap ((k : Int) + 1 + 1) = (k : Int) + 1 + 1 := IntWalk.i64_in _ (by omega)
      have hw4 : IntKind.i64.wrap ((grn T k : Int) + 1) = (grn T k : Int) + 1 := IntWalk.i64_in _ (by omega)
      have e0 : wr.cell? ⟨g, k + 1, none⟩ = some (.bool (T (k + 1))) := (HR.out.1.cell (k + 1)).trans (rwB_get (by omega))
      have hx1 : grb T (k + 1) = max (grb T k) (grn T (k + 1)) := rfl
      have HJ := Lib.hid hlt
      cases hc : T (k + 1)
      · rw [hc] at e0
        have hx2 : grn T (k + 1) = grn T k + 1 := grn_no hc
        have HN := Lib.hid (And.intro hx1 hx2)
        clear hx1 hx2 hc hn hbb hk hlt
        go_wp2_with fail
        go_roundw
        case rel => exact ⟨k + 1, HJ.out, by go_num, by rw [HN.out.2]; go_num, by rw [HN.out.1, HN.out.2]; go_num, trivial⟩
        case measure => simp [RowKit.intOf]; have := HJ.out; omega
      · rw [hc] at e0
        have hx2 : grn T (k + 1) = 0 := grn_yes hc
        have HN := Lib.hid (And.intro hx1 hx2)
        clear hx1 hx2 hc hn hbb hk hlt
        go_wp2_with fail
        go_roundw
        case rel => exact ⟨k + 1, HJ.out, by go_num, by rw [HN.out.2]; go_num, by rw [HN.out.1, HN.out.2]; go_num, trivial⟩
        case measure => simp [RowKit.intOf]; have := HJ.out; omega
    · obtain rfl : k = 4095 := by omega
      clear hn hbb hk hlt
      go_wp2_with fail
      go_ret
      exact ⟨rfl, HR.out.2⟩
end
end Go.Proofs.Ytekfkglielmfaaa
