/- The sections under a block. -/
import Derived.Test.YtfjphlickpgbnaaKb
namespace Go.Proofs.Ytfjphlickpgbnaa
variable {Xc : Nat → Prop}
open Go.RowKit

section
variable {w w' : World} {B k a g n : Nat} {F F' : List Bool} {S S' : List Nat}
/-- Behind the last section under a block. -/
def upr (f o : Nat) : Nat := (f + 2 ^ o - 1) / 8 + 1
theorem upr_gt (f o : Nat) : f / 8 < upr f o := by have := two_pos o; unfold upr; omega
theorem upr_le {f o : Nat} (hf : f + 2 ^ o ≤ n) : upr f o ≤ (n + 7) / 8 := by have := two_pos o; unfold upr; omega
set_option maxHeartbeats 1000000 in
set_option maxRecDepth 100000 in
theorem under_int (h : KinX Xc B w k a g n F S) {f o : Nat} (ho : o ≤ 8) (hf : f + 2 ^ o ≤ n) (z : Int) (hz : z = o) :
    Calls Try.prog 43 #[.pointer (some ⟨k, 0, none⟩), .agg #[.int .i64 f, .int .i64 z]] w fun e w' => e = .returned (.slice (some ⟨g, f / 8, none⟩) (upr f o - f / 8) (S.length - f / 8)) ∧ Below w.heap.size w w' := by
  obtain ⟨W, hW⟩ : ∃ W, W = w.alloc (.cells #[.int .i64 f, .int .i64 z] 53) := ⟨_, rfl⟩
  obtain ⟨q, hq⟩ : ∃ q, q = w.heap.size := ⟨_, rfl⟩
  have hB : Below w.heap.size w W := by rw [hW]; exact (Below.refl _ _).alloc (Nat.le_refl _) _
  have hc2 := (h.call hB).c2
  have hr : Lrow W q 53 [.int .i64 f, .int .i64 z] := by rw [hW, hq]; exact Lrow.new w _ _
  have hq0 := hr.cell 0
  have hq1 := hr.cell 1
  have HW := Lib.hid hW
  have HQ := Lib.hid hq
  have HB := Lib.hid hB
  clear hW hq hB hr
  have hu := upr_gt f o
  have hv := upr_le hf
  rw [← h.cnt] at hv
  have hm : S.length ≤ 128 := by have := h.cnt; have := h.hi; omega
  have hn := h.hi
  have HE : Hid ((((f + 2 ^ o - 1 : Nat)) / 8 + 1 : Nat) = upr f o) := by show _ = _; rfl
  obtain ⟨m, em⟩ : ∃ m, m = S.length := ⟨_, rfl⟩
  rw [← em] at hc2 hv hm ⊢
  clear h em
  obtain ⟨u, eu⟩ : ∃ u, u = upr f o := ⟨_, rfl⟩
  obtain ⟨s, es⟩ : ∃ s, s = f / 8 := ⟨_, rfl⟩
  rw [← es, ← eu] at hu ⊢
  rw [← eu] at hv HE
  clear eu
  have es1 : (f : Int) / 8 = s := by omega
  clear es
  rcases pow9 ho with rfl | rfl | rfl | rfl | rfl | rfl | rfl | rfl | rfl
  · simp only [Nat.reducePow] at HE hf
    have hu1 := HE.out
    obtain rfl : z = 0 := by simpa using hz
    have HU : Hid (u - s = 1) := by show _ = _; omega
    have s1 : IntKind.i64.wrap ((f : Int) + 1) = f + 1 := IntWalk.i64_in _ (by omega)
    have s2 : IntKind.i64.wrap ((f : Int) + 1 - 1) = f + 1 - 1 := IntWalk.i64_in _ (by omega)
    have d1 : ((f : Int) + 1 - 1) / 8 = u - 1 := by omega
    have s3 : IntKind.i64.wrap ((u : Int) - 1 + 1) = u := by rw [IntWalk.i64_in _ (by omega)]; omega
    have g1 : (s : Int) ≤ u := by omega
    have g2 : (u : Int) ≤ m := by omega
    clear hu1 HE hf hn hz
    go_enter Try.func43, Try.ntmps43
    go_wp2_with fail
    rw [← HW.out, ← HQ.out]
    go_quiet (fail)
    go_wp2_with fail
    obtain ⟨W2, hW2⟩ : ∃ W2, W2 = W.drewN nq := ⟨_, rfl⟩
    have k2 : W2.cell? ⟨k, 2, none⟩ = some (.slice (some ⟨g, 0, none⟩) m m) := by rw [hW2]; exact hc2
    have k0 : W2.cell? ⟨q, 0, none⟩ = some (.int .i64 f) := by rw [hW2]; exact hq0
    rw [← hW2]
    have HW2 := Lib.hid hW2
    clear hW2 hc2 hq0 hq1
    go_quiet (fail)
    go_wp2
    go_ret
    exact ⟨by rw [HU.out]; rfl, below_dN (by rw [HW2.out]; exact below_dN HB.out _) _⟩
  · simp only [Nat.reducePow] at HE hf
    have hu1 := HE.out
    obtain rfl : z = 1 := by simpa using hz
    have s1 : IntKind.i64.wrap ((f : Int) + 2) = f + 2 := IntWalk.i64_in _ (by omega)
    have s2 : IntKind.i64.wrap ((f : Int) + 2 - 1) = f + 2 - 1 := IntWalk.i64_in _ (by omega)
    have d1 : ((f : Int) + 2 - 1) / 8 = u - 1 := by omega
    have s3 : IntKind.i64.wrap ((u : Int) - 1 + 1) = u := by rw [IntWalk.i64_in _ (by omega)]; omega
    have g1 : (s : Int) ≤ u := by omega
    have g2 : (u : Int) ≤ m := by omega
    clear hu1 HE hf hn hz
    go_enter Try.func43, Try.ntmps43
    go_wp2_with fail
    rw [← HW.out, ← HQ.out]
    go_quiet (fail)
    go_wp2_with fail
    obtain ⟨W2, hW2⟩ : ∃ W2, W2 = W.drewN nq := ⟨_, rfl⟩
    have k2 : W2.cell? ⟨k, 2, none⟩ = some (.slice (some ⟨g, 0, none⟩) m m) := by rw [hW2]; exact hc2
    have k0 : W2.cell? ⟨q, 0, none⟩ = some (.int .i64 f) := by rw [hW2]; exact hq0
    rw [← hW2]
    have HW2 := Lib.hid hW2
    clear hW2 hc2 hq0 hq1
    go_quiet (fail)
    go_wp2
    go_ret
    exact ⟨rfl, below_dN (by rw [HW2.out]; exact below_dN HB.out _) _⟩
  · simp only [Nat.reducePow] at HE hf
    have hu1 := HE.out
    obtain rfl : z = 2 := by simpa using hz
    have s1 : IntKind.i64.wrap ((f : Int) + 4) = f + 4 := IntWalk.i64_in _ (by omega)
    have s2 : IntKind.i64.wrap ((f : Int) + 4 - 1) = f + 4 - 1 := IntWalk.i64_in _ (by omega)
    have d1 : ((f : Int) + 4 - 1) / 8 = u - 1 := by omega
    have s3 : IntKind.i64.wrap ((u : Int) - 1 + 1) = u := by rw [IntWalk.i64_in _ (by omega)]; omega
    have g1 : (s : Int) ≤ u := by omega
    have g2 : (u : Int) ≤ m := by omega
    clear hu1 HE hf hn hz
    go_enter Try.func43, Try.ntmps43
    go_wp2_with fail
    rw [← HW.out, ← HQ.out]
    go_quiet (fail)
    go_wp2_with fail
    obtain ⟨W2, hW2⟩ : ∃ W2, W2 = W.drewN nq := ⟨_, rfl⟩
    have k2 : W2.cell? ⟨k, 2, none⟩ = some (.slice (some ⟨g, 0, none⟩) m m) := by rw [hW2]; exact hc2
    have k0 : W2.cell? ⟨q, 0, none⟩ = some (.int .i64 f) := by rw [hW2]; exact hq0
    rw [← hW2]
    have HW2 := Lib.hid hW2
    clear hW2 hc2 hq0 hq1
    go_quiet (fail)
    go_wp2
    go_ret
    exact ⟨rfl, below_dN (by rw [HW2.out]; exact below_dN HB.out _) _⟩
  · simp only [Nat.reducePow] at HE hf
    have hu1 := HE.out
    obtain rfl : z = 3 := by simpa using hz
    have s1 : IntKind.i64.wrap ((f : Int) + 8) = f + 8 := IntWalk.i64_in _ (by omega)
    have s2 : IntKind.i64.wrap ((f : Int) + 8 - 1) = f + 8 - 1 := IntWalk.i64_in _ (by omega)
    have d1 : ((f : Int) + 8 - 1) / 8 = u - 1 := by omega
    have s3 : IntKind.i64.wrap ((u : Int) - 1 + 1) = u := by rw [IntWalk.i64_in _ (by omega)]; omega
    have g1 : (s : Int) ≤ u := by omega
    have g2 : (u : Int) ≤ m := by omega
    clear hu1 HE hf hn hz
    go_enter Try.func43, Try.ntmps43
    go_wp2_with fail
    rw [← HW.out, ← HQ.out]
    go_quiet (fail)
    go_wp2_with fail
    obtain ⟨W2, hW2⟩ : ∃ W2, W2 = W.drewN nq := ⟨_, rfl⟩
    have k2 : W2.cell? ⟨k, 2, none⟩ = some (.slice (some ⟨g, 0, none⟩) m m) := by rw [hW2]; exact hc2
    have k0 : W2.cell? ⟨q, 0, none⟩ = some (.int .i64 f) := by rw [hW2]; exact hq0
    rw [← hW2]
    have HW2 := Lib.hid hW2
    clear hW2 hc2 hq0 hq1
    go_quiet (fail)
    go_wp2
    go_ret
    exact ⟨rfl, below_dN (by rw [HW2.out]; exact below_dN HB.out _) _⟩
  · simp only [Nat.reducePow] at HE hf
    have hu1 := HE.out
    obtain rfl : z = 4 := by simpa using hz
    have s1 : IntKind.i64.wrap ((f : Int) + 16) = f + 16 := IntWalk.i64_in _ (by omega)
    have s2 : IntKind.i64.wrap ((f : Int) + 16 - 1) = f + 16 - 1 := IntWalk.i64_in _ (by omega)
    have d1 : ((f : Int) + 16 - 1) / 8 = u - 1 := by omega
    have s3 : IntKind.i64.wrap ((u : Int) - 1 + 1) = u := by rw [IntWalk.i64_in _ (by omega)]; omega
    have g1 : (s : Int) ≤ u := by omega
    have g2 : (u : Int) ≤ m := by omega
    clear hu1 HE hf hn hz
    go_enter Try.func43, Try.ntmps43
    go_wp2_with fail
    rw [← HW.out, ← HQ.out]
    go_quiet (fail)
    go_wp2_with fail
    obtain ⟨W2, hW2⟩ : ∃ W2, W2 = W.drewN nq := ⟨_, rfl⟩
    have k2 : W2.cell? ⟨k, 2, none⟩ = some (.slice (some ⟨g, 0, none⟩) m m) := by rw [hW2]; exact hc2
    have k0 : W2.cell? ⟨q, 0, none⟩ = some (.int .i64 f) := by rw [hW2]; exact hq0
    rw [← hW2]
    have HW2 := Lib.hid hW2
    clear hW2 hc2 hq0 hq1
    go_quiet (fail)
    go_wp2
    go_ret
    exact ⟨rfl, below_dN (by rw [HW2.out]; exact below_dN HB.out _) _⟩
  · simp only [Nat.reducePow] at HE hf
    have hu1 := HE.out
    obtain rfl : z = 5 := by simpa using hz
    have s1 : IntKind.i64.wrap ((f : Int) + 32) = f + 32 := IntWalk.i64_in _ (by omega)
    have s2 : IntKind.i64.wrap ((f : Int) + 32 - 1) = f + 32 - 1 := IntWalk.i64_in _ (by omega)
    have d1 : ((f : Int) + 32 - 1) / 8 = u - 1 := by omega
    have s3 : IntKind.i64.wrap ((u : Int) - 1 + 1) = u := by rw [IntWalk.i64_in _ (by omega)]; omega
    have g1 : (s : Int) ≤ u := by omega
    have g2 : (u : Int) ≤ m := by omega
    clear hu1 HE hf hn hz
    go_enter Try.func43, Try.ntmps43
    go_wp2_with fail
    rw [← HW.out, ← HQ.out]
    go_quiet (fail)
    go_wp2_with fail
    obtain ⟨W2, hW2⟩ : ∃ W2, W2 = W.drewN nq := ⟨_, rfl⟩
    have k2 : W2.cell? ⟨k, 2, none⟩ = some (.slice (some ⟨g, 0, none⟩) m m) := by rw [hW2]; exact hc2
    have k0 : W2.cell? ⟨q, 0, none⟩ = some (.int .i64 f) := by rw [hW2]; exact hq0
    rw [← hW2]
    have HW2 := Lib.hid hW2
    clear hW2 hc2 hq0 hq1
    go_quiet (fail)
    go_wp2
    go_ret
    exact ⟨rfl, below_dN (by rw [HW2.out]; exact below_dN HB.out _) _⟩
  · simp only [Nat.reducePow] at HE hf
    have hu1 := HE.out
    obtain rfl : z = 6 := by simpa using hz
    have s1 : IntKind.i64.wrap ((f : Int) + 64) = f + 64 := IntWalk.i64_in _ (by omega)
    have s2 : IntKind.i64.wrap ((f : Int) + 64 - 1) = f + 64 - 1 := IntWalk.i64_in _ (by omega)
    have d1 : ((f : Int) + 64 - 1) / 8 = u - 1 := by omega
    have s3 : IntKind.i64.wrap ((u : Int) - 1 + 1) = u := by rw [IntWalk.i64_in _ (by omega)]; omega
    have g1 : (s : Int) ≤ u := by omega
    have g2 : (u : Int) ≤ m := by omega
    clear hu1 HE hf hn hz
    go_enter Try.func43, Try.ntmps43
    go_wp2_with fail
    rw [← HW.out, ← HQ.out]
    go_quiet (fail)
    go_wp2_with fail
    obtain ⟨W2, hW2⟩ : ∃ W2, W2 = W.drewN nq := ⟨_, rfl⟩
    have k2 : W2.cell? ⟨k, 2, none⟩ = some (.slice (some ⟨g, 0, none⟩) m m) := by rw [hW2]; exact hc2
    have k0 : W2.cell? ⟨q, 0, none⟩ = some (.int .i64 f) := by rw [hW2]; exact hq0
    rw [← hW2]
    have HW2 := Lib.hid hW2
    clear hW2 hc2 hq0 hq1
    go_quiet (fail)
    go_wp2
    go_ret
    exact ⟨rfl, below_dN (by rw [HW2.out]; exact below_dN HB.out _) _⟩
  · simp only [Nat.reducePow] at HE hf
    have hu1 := HE.out
    obtain rfl : z = 7 := by simpa using hz
    have s1 : IntKind.i64.wrap ((f : Int) + 128) = f + 128 := IntWalk.i64_in _ (by omega)
    have s2 : IntKind.i64.wrap ((f : Int) + 128 - 1) = f + 128 - 1 := IntWalk.i64_in _ (by omega)
    have d1 : ((f : Int) + 128 - 1) / 8 = u - 1 := by omega
    have s3 : IntKind.i64.wrap ((u : Int) - 1 + 1) = u := by rw [IntWalk.i64_in _ (by omega)]; omega
    have g1 : (s : Int) ≤ u := by omega
    have g2 : (u : Int) ≤ m := by omega
    clear hu1 HE hf hn hz
    go_enter Try.func43, Try.ntmps43
    go_wp2_with fail
    rw [← HW.out, ← HQ.out]
    go_quiet (fail)
    go_wp2_with fail
    obtain ⟨W2, hW2⟩ : ∃ W2, W2 = W.drewN nq := ⟨_, rfl⟩
    have k2 : W2.cell? ⟨k, 2, none⟩ = some (.slice (some ⟨g, 0, none⟩) m m) := by rw [hW2]; exact hc2
    have k0 : W2.cell? ⟨q, 0, none⟩ = some (.int .i64 f) := by rw [hW2]; exact hq0
    rw [← hW2]
    have HW2 := Lib.hid hW2
    clear hW2 hc2 hq0 hq1
    go_quiet (fail)
    go_wp2
    go_ret
    exact ⟨rfl, below_dN (by rw [HW2.out]; exact below_dN HB.out _) _⟩
  · simp only [Nat.reducePow] at HE hf
    have hu1 := HE.out
    obtain rfl : z = 8 := by simpa using hz
    have s1 : IntKind.i64.wrap ((f : Int) + 256) = f + 256 := IntWalk.i64_in _ (by omega)
    have s2 : IntKind.i64.wrap ((f : Int) + 256 - 1) = f + 256 - 1 := IntWalk.i64_in _ (by omega)
    have d1 : ((f : Int) + 256 - 1) / 8 = u - 1 := by omega
    have s3 : IntKind.i64.wrap ((u : Int) - 1 + 1) = u := by rw [IntWalk.i64_in _ (by omega)]; omega
    have g1 : (s : Int) ≤ u := by omega
    have g2 : (u : Int) ≤ m := by omega
    clear hu1 HE hf hn hz
    go_enter Try.func43, Try.ntmps43
    go_wp2_with fail
    rw [← HW.out, ← HQ.out]
    go_quiet (fail)
    go_wp2_with fail
    obtain ⟨W2, hW2⟩ : ∃ W2, W2 = W.drewN nq := ⟨_, rfl⟩
    have k2 : W2.cell? ⟨k, 2, none⟩ = some (.slice (some ⟨g, 0, none⟩) m m) := by rw [hW2]; exact hc2
    have k0 : W2.cell? ⟨q, 0, none⟩ = some (.int .i64 f) := by rw [hW2]; exact hq0
    rw [← hW2]
    have HW2 := Lib.hid hW2
    clear hW2 hc2 hq0 hq1
    go_quiet (fail)
    go_wp2
    go_ret
    exact ⟨rfl, below_dN (by rw [HW2.out]; exact below_dN HB.out _) _⟩
theorem under_any (h : KinX Xc B w k a g n F S) {f o : Nat} (ho : o ≤ 8) (hf : f + 2 ^ o ≤ n) :
    Calls Try.prog 43 #[.pointer (some ⟨k, 0, none⟩), .agg #[.int .i64 f, .int .i64 o]] w fun e w' => e = .returned (.slice (some ⟨g, f / 8, none⟩) (upr f o - f / 8) (S.length - f / 8)) ∧ Below w.heap.size w w' := under_int h ho hf o rfl
end
end Go.Proofs.Ytfjphlickpgbnaa
