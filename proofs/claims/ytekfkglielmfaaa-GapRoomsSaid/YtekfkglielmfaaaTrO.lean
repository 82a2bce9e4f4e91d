/- The reference of stretches: Same. -/
import Derived.Test.YtekfkglielmfaaaTrN
namespace Go.Proofs.Ytekfkglielmfaaa
open Go.RowKit
theorem own_at {B : Nat} {w : World} {A : Option Addr} {n c : Nat} {L : List (Nat × Nat)} (h : ETr.Own B w (.slice A n c) L) {j : Nat} (hj : j < L.length) : ∃ g, A = some ⟨g, 0, none⟩ ∧ n = L.length ∧ g < w.heap.size ∧ w.cell? ⟨g, j * 2, none⟩ = some (.int .i64 (L[j].1 : Nat)) ∧ w.cell? ⟨g, j * 2 + 1, none⟩ = some (.int .i64 (L[j].2 : Nat)) := by
  obtain ⟨g, rfl, hB, hg, hn, hat⟩ := h.some_ (by omega)
  exact ⟨g, rfl, hn, hg, hat j hj 0 (by decide), hat j hj 1 (by decide)⟩
set_option maxHeartbeats 4000000 in
set_option maxRecDepth 100000 in
/-- The same stretches twice. -/
theorem rsame {B B' : Nat} {w : World} {A A' : Option Addr} {n c c' : Nat} {L : List (Nat × Nat)} (h : ETr.Own B w (.slice A n c) L) (h' : ETr.Own B' w (.slice A' n c') L) (hn : n = L.length) (hl : n ≤ 5000) : Calls Try.prog 14 #[.slice A n c, .slice A' n c'] w fun e w' => e = .returned (.bool true) ∧ ∃ m, w' = w.drewN m := by
  have HX := Lib.hid (And.intro h (And.intro h' hn))
  clear h h' hn
  go_enter Try.func14, Try.ntmps14
  go_wp2_with fail
  go_loopw [5] (fun i wr => ∃ j m : Nat, j ≤ n ∧ i = .int .i64 j ∧ wr = w.drewN m) (fun i _ => n - (RowKit.intOf i).toNat)
  case atStart => exact ⟨0, 0, Nat.zero_le _, rfl, rfl⟩
  case round =>
    obtain ⟨j, m, hj, rfl, hwr⟩ := hrel
    have HW := Lib.hid hwr
    by_cases hlt : j < n
    · have hjL : j < L.length := by have := HX.out.2.2; omega
      obtain ⟨g, rfl, -, hg, d0, d1⟩ := own_at (HX.out.1.drewN m) hjL
      obtain ⟨g', rfl, -, hg', e0, e1⟩ := own_at (HX.out.2.1.drewN m) hjL
      rw [← hwr] at d0 d1 e0 e1
      generalize L[j] = y at d0 d1 e0 e1
      obtain ⟨y0, y1⟩ := y
      dsimp only at d0 d1 e0 e1
      have j1 : (j : Int) < n := by omega
      have j0 : (0 : Int) ≤ j := by omega
      have hw3 : IntKind.i64.wrap ((j : Int) + 1) = (j : Int) + 1 := IntWalk.i64_in _ (by omega)
      have HJ := Lib.hid hlt
      clear hlt hj hjL hg hg' hwr
      go_wp2_with fail
      go_quiet (fail)
      go_wp2_with fail
      go_roundw
      case rel => exact ⟨j + 1, m + nq, HJ.out, by go_num, by rw [HW.out, World.drewN_drewN]⟩
      case measure => simp [RowKit.intOf]; have := HJ.out; omega
    · obtain rfl : j = n := by omega
      have j1 : ¬ (j : Int) < j := by omega
      clear hlt hj hwr
      go_wp2_with fail
      go_ret
      exact ⟨rfl, m, HW.out⟩
end Go.Proofs.Ytekfkglielmfaaa
