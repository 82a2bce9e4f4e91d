/- The reference of stretches: At. -/
import Derived.Test.YtekfkglielmfaaaTrE
namespace Go.Proofs.Ytekfkglielmfaaa
open Go.RowKit
def inS (p : Int) (x : Nat × Nat) : Bool := decide ((x.1 : Int) ≤ p ∧ p < (x.2 : Int))
/-- Which stretch a page is in. -/
def atS (L : List (Nat × Nat)) (p : Int) : Int := if L.any (inS p) = true then (L.findIdx (inS p) : Int) else -1
theorem any_snoc {α : Type} (q : α → Bool) (P : List α) (y : α) : (P ++ [y]).any q = (P.any q || q y) := by rw [List.any_append]; simp
theorem atS_hit {L : List (Nat × Nat)} {p : Int} {j : Nat} (hj : j < L.length) (h0 : (L.take j).any (inS p) = false) (h1 : inS p L[j] = true) : atS L p = j := by
  have hy : L.any (inS p) = true := List.any_eq_true.2 ⟨L[j], List.getElem_mem hj, h1⟩
  unfold atS
  rw [if_pos hy]
  have : L.findIdx (inS p) = j := by
    refine (List.findIdx_eq hj).2 ⟨h1, fun i hi => ?_⟩
    have := List.any_eq_false.1 h0 L[i] (List.mem_take_iff_getElem.2 ⟨i, by omega, rfl⟩)
    simpa using this
  rw [this]
theorem atS_miss {L : List (Nat × Nat)} {p : Int} (h : L.any (inS p) = false) : atS L p = -1 := by unfold atS; rw [if_neg (by rw [h]; simp)]
section
variable {w w' : World} {B x : Nat} {v v' : Value} {L L' : List (Nat × Nat)} {f t : Int}
set_option maxHeartbeats 4000000 in
theorem rat (h : RtT B w x v L) (hl : L.length ≤ 1000) (p : Int) : Calls Try.prog 13 #[.pointer (some ⟨x, 0, none⟩), .int .i64 p] w fun e w' => e = .returned (.int .i64 (atS L p)) ∧ Below w.heap.size w w' := by
  obtain ⟨A, c, hv⟩ := h.2.1.form
  subst hv
  obtain ⟨n, hn⟩ : ∃ n, n = L.length := ⟨_, rfl⟩
  rw [← hn] at h
  have HX := Lib.hid (And.intro h hn)
  have c0 : w.cell? ⟨x, 0, none⟩ = some (.slice A n c) := h.1.cell 0
  rw [← hn] at hl
  clear h hn
  go_enter Try.func13, Try.ntmps13
  go_wp2_with fail
  clear c0
  go_loopw [5] (fun i wr => ∃ j : Nat, j ≤ n ∧ i = .int .i64 j ∧ wr = w ∧ (L.take j).any (inS p) = false) (fun i _ => n - (RowKit.intOf i).toNat)
  case atStart => exact ⟨0, Nat.zero_le _, rfl, rfl, rfl⟩
  case round =>
    obtain ⟨j, hj, rfl, rfl, h0⟩ := hrel
    have c0 : wr.cell? ⟨x, 0, none⟩ = some (.slice A n c) := HX.out.1.1.cell 0
    by_cases hlt : j < n
    · have hjL : j < L.length := by have := HX.out.2; omega
      obtain ⟨g, rfl, -, hg, d0, d1⟩ := HX.out.1.at_ hjL
      have htk1 := take_one L hjL
      have hhit := atS_hit (p := p) hjL h0
      obtain ⟨y, hy⟩ : ∃ y, y = L[j] := ⟨_, rfl⟩
      rw [← hy] at d0 d1 htk1 hhit
      obtain ⟨y0, y1⟩ := y
      dsimp only at d0 d1
      have j1 : (j : Int) < n := by omega
      have j0 : (0 : Int) ≤ j := by omega
      have hw3 : IntKind.i64.wrap ((j : Int) + 1) = (j : Int) + 1 := IntWalk.i64_in _ (by omega)
      have HJ := Lib.hid hlt
      by_cases hk : (y0 : Int) ≤ p ∧ p < (y1 : Int)
      · obtain ⟨g1, g2⟩ := hk
        have HH := Lib.hid (hhit (by unfold inS; exact decide_eq_true ⟨g1, g2⟩))
        have g3 : p ≥ (y0 : Int) := g1
        clear hhit htk1 hy hjL h0 hlt hj
        go_wp2_with fail
        go_ret
        exact ⟨ret_int (by rw [HH.out]), Below.refl _ _⟩
      · have HN : Hid ((L.take (j + 1)).any (inS p) = false) := by
          show _ = _
          rw [htk1, any_snoc, h0, Bool.false_or]; exact decide_eq_false hk
        have hgd : (¬ (y0 : Int) ≤ p) ∨ ((y0 : Int) ≤ p ∧ ¬ p < (y1 : Int)) := by omega
        clear hhit htk1 hy hjL h0 hlt hj hk
        rcases hgd with g1 | ⟨g1, g2⟩
        all_goals
          go_wp2_with fail
          go_roundw
          case rel => exact ⟨j + 1, HJ.out, by go_num, trivial, HN.out⟩
          case measure => simp [RowKit.intOf]; have := HJ.out; omega
    · obtain rfl : j = n := by omega
      have hall : L.take j = L := List.take_of_length_le (by have := HX.out.2; omega)
      rw [hall] at h0
      have HM := Lib.hid (atS_miss h0)
      have j1 : ¬ (j : Int) < j := by omega
      clear h0 hall hj
      go_wp2_with fail
      go_ret
      exact ⟨ret_int (by rw [HM.out]), Below.refl _ _⟩
end
end Go.Proofs.Ytekfkglielmfaaa
