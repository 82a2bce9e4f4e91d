/- The program's spaces: a place's word is stored; where an address's word is. -/
import Derived.Test.YtnppnoabhpkmkaaGreatMg16
import Derived.BigRegion
import Derived.BigQuiet
namespace Go.Proofs.YtnppnoabhpkmkaaGreat
open Go.RowKit
/-- One word is another. -/
def wS (W : Int → Int) (i v : Int) : Int → Int := fun j => if j = i then v else W j
section
variable {w w' : World} {B : Nat} {T : PfT} {F F' : Fl} {s s' : PsB} {S S' : Sp}
set_option maxRecDepth 100000 in
set_option maxHeartbeats 2000000 in
theorem pstore_is {b : Nat} {W : Int → Int} (h : MemAt w b W) {p k r : Int} (v : Int) (h0 : 0 ≤ p) (h1 : p < 4096) (k0 : 0 ≤ k) (k1 : k < 8) : Calls Tryz.prog 76 #[.agg #[.map (some b), .int .i64 p, .int .i64 k, .int .i64 r], .int .u64 v] w fun e w' => e = .returned (.tuple #[]) ∧ w.grownBy w' (some b) ∧ MemAt w' b (wS W (p * 8 + k) v) := by
  obtain ⟨W1, hW1⟩ : ∃ W1, W1 = w.alloc (.cells #[.map (some b), .int .i64 p, .int .i64 k, .int .i64 r] 78) := ⟨_, rfl⟩
  obtain ⟨q, hq⟩ : ∃ q, q = w.heap.size := ⟨_, rfl⟩
  have hb1 : Below w.heap.size w W1 := by rw [hW1]; exact below_new _ _
  have hr1 : Lrow W1 q 78 [.map (some b), .int .i64 p, .int .i64 k, .int .i64 r] := by rw [hW1, hq]; exact Lrow.new w _ [.map (some b), .int .i64 p, .int .i64 k, .int .i64 r]
  have hl := (h.call hb1).look h0 h1
  unfold g8 at hl
  obtain ⟨v0, e0⟩ : ∃ z, z = W (p * 8) := ⟨_, rfl⟩
  obtain ⟨v1, e1⟩ : ∃ z, z = W (p * 8 + 1) := ⟨_, rfl⟩
  obtain ⟨v2, e2⟩ : ∃ z, z = W (p * 8 + 2) := ⟨_, rfl⟩
  obtain ⟨v3, e3⟩ : ∃ z, z = W (p * 8 + 3) := ⟨_, rfl⟩
  obtain ⟨v4, e4⟩ : ∃ z, z = W (p * 8 + 4) := ⟨_, rfl⟩
  obtain ⟨v5, e5⟩ : ∃ z, z = W (p * 8 + 5) := ⟨_, rfl⟩
  obtain ⟨v6, e6⟩ : ∃ z, z = W (p * 8 + 6) := ⟨_, rfl⟩
  obtain ⟨v7, e7⟩ : ∃ z, z = W (p * 8 + 7) := ⟨_, rfl⟩
  rw [← e0, ← e1, ← e2, ← e3, ← e4, ← e5, ← e6, ← e7] at hl
  obtain ⟨W2, hW2⟩ : ∃ W2, W2 = W1.alloc (.cells #[.int .u64 v0, .int .u64 v1, .int .u64 v2, .int .u64 v3, .int .u64 v4, .int .u64 v5, .int .u64 v6, .int .u64 v7] 96) := ⟨_, rfl⟩
  obtain ⟨g, hg⟩ : ∃ g, g = W1.heap.size := ⟨_, rfl⟩
  have hb2 : Below W1.heap.size W1 W2 := by rw [hW2]; exact below_new _ _
  have hr2 : Lrow W2 g 96 [.int .u64 v0, .int .u64 v1, .int .u64 v2, .int .u64 v3, .int .u64 v4, .int .u64 v5, .int .u64 v6, .int .u64 v7] := by rw [hW2, hg]; exact Lrow.new W1 _ [.int .u64 v0, .int .u64 v1, .int .u64 v2, .int .u64 v3, .int .u64 v4, .int .u64 v5, .int .u64 v6, .int .u64 v7]
  have hq2 := hr1.call hb2
  have hm2 := (h.call hb1).call hb2
  have hB2 : Below w.heap.size w W2 := hb1.trans (hb2.mono hb1.size)
  have ngq : q ≠ g := by have := hr1.lt; omega
  have gw : w.heap.size ≤ g := by rw [hg]; exact hb1.size
  have c0 := hr1.cell 0
  have c1 := hr1.cell 1
  have HW := Lib.hid (And.intro hW1 hq)
  have HW2 := Lib.hid (And.intro hW2 hg)
  have HE := Lib.hid (And.intro e0 (And.intro e1 (And.intro e2 (And.intro e3 (And.intro e4 (And.intro e5 (And.intro e6 e7)))))))
  have hput : ∀ (i : Nat) (W3 : World), W3 = W2.setCell ⟨g, i, none⟩ (.int .u64 v) → ∃ w4, (Instr.mapUpdate 76 (.map (some b)) (.int .i64 p) (g8 (wS W (p * 8 + k) v) p)).run Tryz.prog W3 = .ok () w4 ∧ w.grownBy w4 (some b) ∧ MemAt w4 b (wS W (p * 8 + k) v) := fun i W3 e => by
    have hb3 : Below w.heap.size w W3 := by rw [e]; exact hB2.setCell gw _
    have hm3 : MemAt W3 b W := by
      rw [e]
      exact hm2.heap (Below.heap_setCell W2 _ _ b fun e => hm2.apart hr2 e.symm)
    obtain ⟨w4, r1, r2, r3, r4⟩ := hm3.put (W' := wS W (p * 8 + k) v) h0 h1 fun i hi => if_neg (by omega)
    exact ⟨w4, r1, grown_trans1 (bel_grown hb3 _) r2, r4⟩
  clear h hW1 hq hb1 hr1 h0 h1 e0 e1 e2 e3 e4 e5 e6 e7 hW2 hg hb2 hm2 hB2 gw
  rcases (show k = 0 ∨ k = 1 ∨ k = 2 ∨ k = 3 ∨ k = 4 ∨ k = 5 ∨ k = 6 ∨ k = 7 by omega) with rfl | rfl | rfl | rfl | rfl | rfl | rfl | rfl
  · obtain ⟨W3, hW3⟩ : ∃ W3, W3 = W2.setCell ⟨g, 0, none⟩ (.int .u64 v) := ⟨_, rfl⟩
    obtain ⟨w4, r1, r2, r3⟩ := hput 0 W3 hW3
    have er : g8 (wS W (p * 8 + 0) v) p = .agg #[.int .u64 v, .int .u64 v1, .int .u64 v2, .int .u64 v3, .int .u64 v4, .int .u64 v5, .int .u64 v6, .int .u64 v7] := by
      obtain ⟨a0, a1, a2, a3, a4, a5, a6, a7⟩ := HE.out
      unfold g8
      rw [show wS W (p * 8 + 0) v (p * 8) = v from if_pos (by omega), show wS W (p * 8 + 0) v (p * 8 + 1) = W (p * 8 + 1) from if_neg (by omega), show wS W (p * 8 + 0) v (p * 8 + 2) = W (p * 8 + 2) from if_neg (by omega), show wS W (p * 8 + 0) v (p * 8 + 3) = W (p * 8 + 3) from if_neg (by omega), show wS W (p * 8 + 0) v (p * 8 + 4) = W (p * 8 + 4) from if_neg (by omega), show wS W (p * 8 + 0) v (p * 8 + 5) = W (p * 8 + 5) from if_neg (by omega), show wS W (p * 8 + 0) v (p * 8 + 6) = W (p * 8 + 6) from if_neg (by omega), show wS W (p * 8 + 0) v (p * 8 + 7) = W (p * 8 + 7) from if_neg (by omega)]
      rw [← a1, ← a2, ← a3, ← a4, ← a5, ← a6, ← a7]
    rw [er] at r1
    have hr3 : Lrow W3 g 96 [.int .u64 v, .int .u64 v1, .int .u64 v2, .int .u64 v3, .int .u64 v4, .int .u64 v5, .int .u64 v6, .int .u64 v7] := by rw [hW3]; exact hr2.set_ 0 _
    have hq3 : Lrow W3 q 78 [.map (some b), .int .i64 p, .int .i64 0, .int .i64 r] := by rw [hW3]; exact hq2.far ngq _
    have d0 := hr3.cell 0
    have d1 := hr3.cell 1
    have d2 := hr3.cell 2
    have d3 := hr3.cell 3
    have d4 := hr3.cell 4
    have d5 := hr3.cell 5
    have d6 := hr3.cell 6
    have d7 := hr3.cell 7
    have x0 := hq3.cell 0
    have x1 := hq3.cell 1
    have y := hr2.cell 0
    have f := hr2.frozen 0
    have y2 := hq2.cell 2
    have HW3 := Lib.hid hW3
    have HR := Lib.hid (And.intro r2 r3)
    clear hput hW3 er hr3 hq3 hr2 hq2 HE r2 r3 ngq k0 k1
    go_enter Tryz.func76, Tryz.ntmps76
    go_upto_region 1 with (fail)
    rw [← HW.out.1, ← HW.out.2]
    go_upto_region 2 with (fail)
    rw [← HW2.out.1, ← HW2.out.2]
    go_upto_region 3 with (fail)
    rw [← HW3.out]
    go_wp2
    go_end0
    exact ⟨rfl, HR.out.1, HR.out.2⟩
  · obtain ⟨W3, hW3⟩ : ∃ W3, W3 = W2.setCell ⟨g, 1, none⟩ (.int .u64 v) := ⟨_, rfl⟩
    obtain ⟨w4, r1, r2, r3⟩ := hput 1 W3 hW3
    have er : g8 (wS W (p * 8 + 1) v) p = .agg #[.int .u64 v0, .int .u64 v, .int .u64 v2, .int .u64 v3, .int .u64 v4, .int .u64 v5, .int .u64 v6, .int .u64 v7] := by
      obtain ⟨a0, a1, a2, a3, a4, a5, a6, a7⟩ := HE.out
      unfold g8
      rw [show wS W (p * 8 + 1) v (p * 8) = W (p * 8) from if_neg (by omega), show wS W (p * 8 + 1) v (p * 8 + 1) = v from if_pos (by omega), show wS W (p * 8 + 1) v (p * 8 + 2) = W (p * 8 + 2) from if_neg (by omega), show wS W (p * 8 + 1) v (p * 8 + 3) = W (p * 8 + 3) from if_neg (by omega), show wS W (p * 8 + 1) v (p * 8 + 4) = W (p * 8 + 4) from if_neg (by omega), show wS W (p * 8 + 1) v (p * 8 + 5) = W (p * 8 + 5) from if_neg (by omega), show wS W (p * 8 + 1) v (p * 8 + 6) = W (p * 8 + 6) from if_neg (by omega), show wS W (p * 8 + 1) v (p * 8 + 7) = W (p * 8 + 7) from if_neg (by omega)]
      rw [← a0, ← a2, ← a3, ← a4, ← a5, ← a6, ← a7]
    rw [er] at r1
    have hr3 : Lrow W3 g 96 [.int .u64 v0, .int .u64 v, .int .u64 v2, .int .u64 v3, .int .u64 v4, .int .u64 v5, .int .u64 v6, .int .u64 v7] := by rw [hW3]; exact hr2.set_ 1 _
    have hq3 : Lrow W3 q 78 [.map (some b), .int .i64 p, .int .i64 1, .int .i64 r] := by rw [hW3]; exact hq2.far ngq _
    have d0 := hr3.cell 0
    have d1 := hr3.cell 1
    have d2 := hr3.cell 2
    have d3 := hr3.cell 3
    have d4 := hr3.cell 4
    have d5 := hr3.cell 5
    have d6 := hr3.cell 6
    have d7 := hr3.cell 7
    have x0 := hq3.cell 0
    have x1 := hq3.cell 1
    have y := hr2.cell 1
    have f := hr2.frozen 1
    have y2 := hq2.cell 2
    have HW3 := Lib.hid hW3
    have HR := Lib.hid (And.intro r2 r3)
    clear hput hW3 er hr3 hq3 hr2 hq2 HE r2 r3 ngq k0 k1
    go_enter Tryz.func76, Tryz.ntmps76
    go_upto_region 1 with (fail)
    rw [← HW.out.1, ← HW.out.2]
    go_upto_region 2 with (fail)
    rw [← HW2.out.1, ← HW2.out.2]
    go_upto_region 3 with (fail)
    rw [← HW3.out]
    go_wp2
    go_end0
    exact ⟨rfl, HR.out.1, HR.out.2⟩
  · obtain ⟨W3, hW3⟩ : ∃ W3, W3 = W2.setCell ⟨g, 2, none⟩ (.int .u64 v) := ⟨_, rfl⟩
    obtain ⟨w4, r1, r2, r3⟩ := hput 2 W3 hW3
    have er : g8 (wS W (p * 8 + 2) v) p = .agg #[.int .u64 v0, .int .u64 v1, .int .u64 v, .int .u64 v3, .int .u64 v4, .int .u64 v5, .int .u64 v6, .int .u64 v7] := by
      obtain ⟨a0, a1, a2, a3, a4, a5, a6, a7⟩ := HE.out
      unfold g8
      rw [show wS W (p * 8 + 2) v (p * 8) = W (p * 8) from if_neg (by omega), show wS W (p * 8 + 2) v (p * 8 + 1) = W (p * 8 + 1) from if_neg (by omega), show wS W (p * 8 + 2) v (p * 8 + 2) = v from if_pos (by omega), show wS W (p * 8 + 2) v (p * 8 + 3) = W (p * 8 + 3) from if_neg (by omega), show wS W (p * 8 + 2) v (p * 8 + 4) = W (p * 8 + 4) from if_neg (by omega), show wS W (p * 8 + 2) v (p * 8 + 5) = W (p * 8 + 5) from if_neg (by omega), show wS W (p * 8 + 2) v (p * 8 + 6) = W (p * 8 + 6) from if_neg (by omega), show wS W (p * 8 + 2) v (p * 8 + 7) = W (p * 8 + 7) from if_neg (by omega)]
      rw [← a0, ← a1, ← a3, ← a4, ← a5, ← a6, ← a7]
    rw [er] at r1
    have hr3 : Lrow W3 g 96 [.int .u64 v0, .int .u64 v1, .int .u64 v, .int .u64 v3, .int .u64 v4, .int .u64 v5, .int .u64 v6, .int .u64 v7] := by rw [hW3]; exact hr2.set_ 2 _
    have hq3 : Lrow W3 q 78 [.map (some b), .int .i64 p, .int .i64 2, .int .i64 r] := by rw [hW3]; exact hq2.far ngq _
    have d0 := hr3.cell 0
    have d1 := hr3.cell 1
    have d2 := hr3.cell 2
    have d3 := hr3.cell 3
    have d4 := hr3.cell 4
    have d5 := hr3.cell 5
    have d6 := hr3.cell 6
    have d7 := hr3.cell 7
    have x0 := hq3.cell 0
    have x1 := hq3.cell 1
    have y := hr2.cell 2
    have f := hr2.frozen 2
    have y2 := hq2.cell 2
    have HW3 := Lib.hid hW3
    have HR := Lib.hid (And.intro r2 r3)
    clear hput hW3 er hr3 hq3 hr2 hq2 HE r2 r3 ngq k0 k1
    go_enter Tryz.func76, Tryz.ntmps76
    go_upto_region 1 with (fail)
    rw [← HW.out.1, ← HW.out.2]
    go_upto_region 2 with (fail)
    rw [← HW2.out.1, ← HW2.out.2]
    go_upto_region 3 with (fail)
    rw [← HW3.out]
    go_wp2
    go_end0
    exact ⟨rfl, HR.out.1, HR.out.2⟩
  · obtain ⟨W3, hW3⟩ : ∃ W3, W3 = W2.setCell ⟨g, 3, none⟩ (.int .u64 v) := ⟨_, rfl⟩
    obtain ⟨w4, r1, r2, r3⟩ := hput 3 W3 hW3
    have er : g8 (wS W (p * 8 + 3) v) p = .agg #[.int .u64 v0, .int .u64 v1, .int .u64 v2, .int .u64 v, .int .u64 v4, .int .u64 v5, .int .u64 v6, .int .u64 v7] := by
      obtain ⟨a0, a1, a2, a3, a4, a5, a6, a7⟩ := HE.out
      unfold g8
      rw [show wS W (p * 8 + 3) v (p * 8) = W (p * 8) from if_neg (by omega), show wS W (p * 8 + 3) v (p * 8 + 1) = W (p * 8 + 1) from if_neg (by omega), show wS W (p * 8 + 3) v (p * 8 + 2) = W (p * 8 + 2) from if_neg (by omega), show wS W (p * 8 + 3) v (p * 8 + 3) = v from if_pos (by omega), show wS W (p * 8 + 3) v (p * 8 + 4) = W (p * 8 + 4) from if_neg (by omega), show wS W (p * 8 + 3) v (p * 8 + 5) = W (p * 8 + 5) from if_neg (by omega), show wS W (p * 8 + 3) v (p * 8 + 6) = W (p * 8 + 6) from if_neg (by omega), show wS W (p * 8 + 3) v (p * 8 + 7) = W (p * 8 + 7) from if_neg (by omega)]
      rw [← a0, ← a1, ← a2, ← a4, ← a5, ← a6, ← a7]
    rw [er] at r1
    have hr3 : Lrow W3 g 96 [.int .u64 v0, .int .u64 v1, .int .u64 v2, .int .u64 v, .int .u64 v4, .int .u64 v5, .int .u64 v6, .int .u64 v7] := by rw [hW3]; exact hr2.set_ 3 _
    have hq3 : Lrow W3 q 78 [.map (some b), .int .i64 p, .int .i64 3, .int .i64 r] := by rw [hW3]; exact hq2.far ngq _
    have d0 := hr3.cell 0
    have d1 := hr3.cell 1
    have d2 := hr3.cell 2
    have d3 := hr3.cell 3
    have d4 := hr3.cell 4
    have d5 := hr3.cell 5
    have d6 := hr3.cell 6
    have d7 := hr3.cell 7
    have x0 := hq3.cell 0
    have x1 := hq3.cell 1
    have y := hr2.cell 3
    have f := hr2.frozen 3
    have y2 := hq2.cell 2
    have HW3 := Lib.hid hW3
    have HR := Lib.hid (And.intro r2 r3)
    clear hput hW3 er hr3 hq3 hr2 hq2 HE r2 r3 ngq k0 k1
    go_enter Tryz.func76, Tryz.ntmps76
    go_upto_region 1 with (fail)
    rw [← HW.out.1, ← HW.out.2]
    go_upto_region 2 with (fail)
    rw [← HW2.out.1, ← HW2.out.2]
    go_upto_region 3 with (fail)
    rw [← HW3.out]
    go_wp2
    go_end0
    exact ⟨rfl, HR.out.1, HR.out.2⟩
  · obtain ⟨W3, hW3⟩ : ∃ W3, W3 = W2.setCell ⟨g, 4, none⟩ (.int .u64 v) := ⟨_, rfl⟩
    obtain ⟨w4, r1, r2, r3⟩ := hput 4 W3 hW3
    have er : g8 (wS W (p * 8 + 4) v) p = .agg #[.int .u64 v0, .int .u64 v1, .int .u64 v2, .int .u64 v3, .int .u64 v, .int .u64 v5, .int .u64 v6, .int .u64 v7] := by
      obtain ⟨a0, a1, a2, a3, a4, a5, a6, a7⟩ := HE.out
      unfold g8
      rw [show wS W (p * 8 + 4) v (p * 8) = W (p * 8) from if_neg (by omega), show wS W (p * 8 + 4) v (p * 8 + 1) = W (p * 8 + 1) from if_neg (by omega), show wS W (p * 8 + 4) v (p * 8 + 2) = W (p * 8 + 2) from if_neg (by omega), show wS W (p * 8 + 4) v (p * 8 + 3) = W (p * 8 + 3) from if_neg (by omega), show wS W (p * 8 + 4) v (p * 8 + 4) = v from if_pos (by omega), show wS W (p * 8 + 4) v (p * 8 + 5) = W (p * 8 + 5) from if_neg (by omega), show wS W (p * 8 + 4) v (p * 8 + 6) = W (p * 8 + 6) from if_neg (by omega), show wS W (p * 8 + 4) v (p * 8 + 7) = W (p * 8 + 7) from if_neg (by omega)]
      rw [← a0, ← a1, ← a2, ← a3, ← a5, ← a6, ← a7]
    rw [er] at r1
    have hr3 : Lrow W3 g 96 [.int .u64 v0, .int .u64 v1, .int .u64 v2, .int .u64 v3, .int .u64 v, .int .u64 v5, .int .u64 v6, .int .u64 v7] := by rw [hW3]; exact hr2.set_ 4 _
    have hq3 : Lrow W3 q 78 [.map (some b), .int .i64 p, .int .i64 4, .int .i64 r] := by rw [hW3]; exact hq2.far ngq _
    have d0 := hr3.cell 0
    have d1 := hr3.cell 1
    have d2 := hr3.cell 2
    have d3 := hr3.cell 3
    have d4 := hr3.cell 4
    have d5 := hr3.cell 5
    have d6 := hr3.cell 6
    have d7 := hr3.cell 7
    have x0 := hq3.cell 0
    have x1 := hq3.cell 1
    have y := hr2.cell 4
    have f := hr2.frozen 4
    have y2 := hq2.cell 2
    have HW3 := Lib.hid hW3
    have HR := Lib.hid (And.intro r2 r3)
    clear hput hW3 er hr3 hq3 hr2 hq2 HE r2 r3 ngq k0 k1
    go_enter Tryz.func76, Tryz.ntmps76
    go_upto_region 1 with (fail)
    rw [← HW.out.1, ← HW.out.2]
    go_upto_region 2 with (fail)
    rw [← HW2.out.1, ← HW2.out.2]
    go_upto_region 3 with (fail)
    rw [← HW3.out]
    go_wp2
    go_end0
    exact ⟨rfl, HR.out.1, HR.out.2⟩
  · obtain ⟨W3, hW3⟩ : ∃ W3, W3 = W2.setCell ⟨g, 5, none⟩ (.int .u64 v) := ⟨_, rfl⟩
    obtain ⟨w4, r1, r2, r3⟩ := hput 5 W3 hW3
    have er : g8 (wS W (p * 8 + 5) v) p = .agg #[.int .u64 v0, .int .u64 v1, .int .u64 v2, .int .u64 v3, .int .u64 v4, .int .u64 v, .int .u64 v6, .int .u64 v7] := by
      obtain ⟨a0, a1, a2, a3, a4, a5, a6, a7⟩ := HE.out
      unfold g8
      rw [show wS W (p * 8 + 5) v (p * 8) = W (p * 8) from if_neg (by omega), show wS W (p * 8 + 5) v (p * 8 + 1) = W (p * 8 + 1) from if_neg (by omega), show wS W (p * 8 + 5) v (p * 8 + 2) = W (p * 8 + 2) from if_neg (by omega), show wS W (p * 8 + 5) v (p * 8 + 3) = W (p * 8 + 3) from if_neg (by omega), show wS W (p * 8 + 5) v (p * 8 + 4) = W (p * 8 + 4) from if_neg (by omega), show wS W (p * 8 + 5) v (p * 8 + 5) = v from if_pos (by omega), show wS W (p * 8 + 5) v (p * 8 + 6) = W (p * 8 + 6) from if_neg (by omega), show wS W (p * 8 + 5) v (p * 8 + 7) = W (p * 8 + 7) from if_neg (by omega)]
      rw [← a0, ← a1, ← a2, ← a3, ← a4, ← a6, ← a7]
    rw [er] at r1
    have hr3 : Lrow W3 g 96 [.int .u64 v0, .int .u64 v1, .int .u64 v2, .int .u64 v3, .int .u64 v4, .int .u64 v, .int .u64 v6, .int .u64 v7] := by rw [hW3]; exact hr2.set_ 5 _
    have hq3 : Lrow W3 q 78 [.map (some b), .int .i64 p, .int .i64 5, .int .i64 r] := by rw [hW3]; exact hq2.far ngq _
    have d0 := hr3.cell 0
    have d1 := hr3.cell 1
    have d2 := hr3.cell 2
    have d3 := hr3.cell 3
    have d4 := hr3.cell 4
    have d5 := hr3.cell 5
    have d6 := hr3.cell 6
    have d7 := hr3.cell 7
    have x0 := hq3.cell 0
    have x1 := hq3.cell 1
    have y := hr2.cell 5
    have f := hr2.frozen 5
    have y2 := hq2.cell 2
    have HW3 := Lib.hid hW3
    have HR := Lib.hid (And.intro r2 r3)
    clear hput hW3 er hr3 hq3 hr2 hq2 HE r2 r3 ngq k0 k1
    go_enter Tryz.func76, Tryz.ntmps76
    go_upto_region 1 with (fail)
    rw [← HW.out.1, ← HW.out.2]
    go_upto_region 2 with (fail)
    rw [← HW2.out.1, ← HW2.out.2]
    go_upto_region 3 with (fail)
    rw [← HW3.out]
    go_wp2
    go_end0
    exact ⟨rfl, HR.out.1, HR.out.2⟩
  · obtain ⟨W3, hW3⟩ : ∃ W3, W3 = W2.setCell ⟨g, 6, none⟩ (.int .u64 v) := ⟨_, rfl⟩
    obtain ⟨w4, r1, r2, r3⟩ := hput 6 W3 hW3
    have er : g8 (wS W (p * 8 + 6) v) p = .agg #[.int .u64 v0, .int .u64 v1, .int .u64 v2, .int .u64 v3, .int .u64 v4, .int .u64 v5, .int .u64 v, .int .u64 v7] := by
      obtain ⟨a0, a1, a2, a3, a4, a5, a6, a7⟩ := HE.out
      unfold g8
      rw [show wS W (p * 8 + 6) v (p * 8) = W (p * 8) from if_neg (by omega), show wS W (p * 8 + 6) v (p * 8 + 1) = W (p * 8 + 1) from if_neg (by omega), show wS W (p * 8 + 6) v (p * 8 + 2) = W (p * 8 + 2) from if_neg (by omega), show wS W (p * 8 + 6) v (p * 8 + 3) = W (p * 8 + 3) from if_neg (by omega), show wS W (p * 8 + 6) v (p * 8 + 4) = W (p * 8 + 4) from if_neg (by omega), show wS W (p * 8 + 6) v (p * 8 + 5) = W (p * 8 + 5) from if_neg (by omega), show wS W (p * 8 + 6) v (p * 8 + 6) = v from if_pos (by omega), show wS W (p * 8 + 6) v (p * 8 + 7) = W (p * 8 + 7) from if_neg (by omega)]
      rw [← a0, ← a1, ← a2, ← a3, ← a4, ← a5, ← a7]
    rw [er] at r1
    have hr3 : Lrow W3 g 96 [.int .u64 v0, .int .u64 v1, .int .u64 v2, .int .u64 v3, .int .u64 v4, .int .u64 v5, .int .u64 v, .int .u64 v7] := by rw [hW3]; exact hr2.set_ 6 _
    have hq3 : Lrow W3 q 78 [.map (some b), .int .i64 p, .int .i64 6, .int .i64 r] := by rw [hW3]; exact hq2.far ngq _
    have d0 := hr3.cell 0
    have d1 := hr3.cell 1
    have d2 := hr3.cell 2
    have d3 := hr3.cell 3
    have d4 := hr3.cell 4
    have d5 := hr3.cell 5
    have d6 := hr3.cell 6
    have d7 := hr3.cell 7
    have x0 := hq3.cell 0
    have x1 := hq3.cell 1
    have y := hr2.cell 6
    have f := hr2.frozen 6
    have y2 := hq2.cell 2
    have HW3 := Lib.hid hW3
    have HR := Lib.hid (And.intro r2 r3)
    clear hput hW3 er hr3 hq3 hr2 hq2 HE r2 r3 ngq k0 k1
    go_enter Tryz.func76, Tryz.ntmps76
    go_upto_region 1 with (fail)
    rw [← HW.out.1, ← HW.out.2]
    go_upto_region 2 with (fail)
    rw [← HW2.out.1, ← HW2.out.2]
    go_upto_region 3 with (fail)
    rw [← HW3.out]
    go_wp2
    go_end0
    exact ⟨rfl, HR.out.1, HR.out.2⟩
  · obtain ⟨W3, hW3⟩ : ∃ W3, W3 = W2.setCell ⟨g, 7, none⟩ (.int .u64 v) := ⟨_, rfl⟩
    obtain ⟨w4, r1, r2, r3⟩ := hput 7 W3 hW3
    have er : g8 (wS W (p * 8 + 7) v) p = .agg #[.int .u64 v0, .int .u64 v1, .int .u64 v2, .int .u64 v3, .int .u64 v4, .int .u64 v5, .int .u64 v6, .int .u64 v] := by
      obtain ⟨a0, a1, a2, a3, a4, a5, a6, a7⟩ := HE.out
      unfold g8
      rw [show wS W (p * 8 + 7) v (p * 8) = W (p * 8) from if_neg (by omega), show wS W (p * 8 + 7) v (p * 8 + 1) = W (p * 8 + 1) from if_neg (by omega), show wS W (p * 8 + 7) v (p * 8 + 2) = W (p * 8 + 2) from if_neg (by omega), show wS W (p * 8 + 7) v (p * 8 + 3) = W (p * 8 + 3) from if_neg (by omega), show wS W (p * 8 + 7) v (p * 8 + 4) = W (p * 8 + 4) from if_neg (by omega), show wS W (p * 8 + 7) v (p * 8 + 5) = W (p * 8 + 5) from if_neg (by omega), show wS W (p * 8 + 7) v (p * 8 + 6) = W (p * 8 + 6) from if_neg (by omega), show wS W (p * 8 + 7) v (p * 8 + 7) = v from if_pos (by omega)]
      rw [← a0, ← a1, ← a2, ← a3, ← a4, ← a5, ← a6]
    rw [er] at r1
    have hr3 : Lrow W3 g 96 [.int .u64 v0, .int .u64 v1, .int .u64 v2, .int .u64 v3, .int .u64 v4, .int .u64 v5, .int .u64 v6, .int .u64 v] := by rw [hW3]; exact hr2.set_ 7 _
    have hq3 : Lrow W3 q 78 [.map (some b), .int .i64 p, .int .i64 7, .int .i64 r] := by rw [hW3]; exact hq2.far ngq _
    have d0 := hr3.cell 0
    have d1 := hr3.cell 1
    have d2 := hr3.cell 2
    have d3 := hr3.cell 3
    have d4 := hr3.cell 4
    have d5 := hr3.cell 5
    have d6 := hr3.cell 6
    have d7 := hr3.cell 7
    have x0 := hq3.cell 0
    have x1 := hq3.cell 1
    have y := hr2.cell 7
    have f := hr2.frozen 7
    have y2 := hq2.cell 2
    have HW3 := Lib.hid hW3
    have HR := Lib.hid (And.intro r2 r3)
    clear hput hW3 er hr3 hq3 hr2 hq2 HE r2 r3 ngq k0 k1
    go_enter Tryz.func76, Tryz.ntmps76
    go_upto_region 1 with (fail)
    rw [← HW.out.1, ← HW.out.2]
    go_upto_region 2 with (fail)
    rw [← HW2.out.1, ← HW2.out.2]
    go_upto_region 3 with (fail)
    rw [← HW3.out]
    go_wp2
    go_end0
    exact ⟨rfl, HR.out.1, HR.out.2⟩
/-! -/
end
end Go.Proofs.YtnppnoabhpkmkaaGreat
/- The program's spaces: where an address's word is. -/
namespace Go.Proofs.YtnppnoabhpkmkaaGreat
open Go.RowKit
theorem four_is {w : World} {q B : Nat} {ty : TypeId} {a0 a1 a2 a3 : Value} (r : Lrow w q ty [a0, a1, a2, a3]) (hB : B ≤ q) (v0 v1 v2 v3 : Value) :
    w.frozen? ⟨q, 0, none⟩ = false ∧ w.cell? ⟨q, 0, none⟩ = some a0 ∧ (w.setCell ⟨q, 0, none⟩ v0).cell? ⟨q, 1, none⟩ = some a1 ∧ (w.setCell ⟨q, 0, none⟩ v0).frozen? ⟨q, 1, none⟩ = false ∧ ((w.setCell ⟨q, 0, none⟩ v0).setCell ⟨q, 1, none⟩ v1).cell? ⟨q, 2, none⟩ = some a2 ∧ ((w.setCell ⟨q, 0, none⟩ v0).setCell ⟨q, 1, none⟩ v1).frozen? ⟨q, 2, none⟩ = false ∧ (((w.setCell ⟨q, 0, none⟩ v0).setCell ⟨q, 1, none⟩ v1).setCell ⟨q, 2, none⟩ v2).cell? ⟨q, 3, none⟩ = some a3 ∧ (((w.setCell ⟨q, 0, none⟩ v0).setCell ⟨q, 1, none⟩ v1).setCell ⟨q, 2, none⟩ v2).frozen? ⟨q, 3, none⟩ = false ∧
    Lrow ((((w.setCell ⟨q, 0, none⟩ v0).setCell ⟨q, 1, none⟩ v1).setCell ⟨q, 2, none⟩ v2).setCell ⟨q, 3, none⟩ v3) q ty [v0, v1, v2, v3] ∧
    Below B w ((((w.setCell ⟨q, 0, none⟩ v0).setCell ⟨q, 1, none⟩ v1).setCell ⟨q, 2, none⟩ v2).setCell ⟨q, 3, none⟩ v3) := by
  have r1 := r.set_ 0 v0
  have r2 := r1.set_ 1 v1
  have r3 := r2.set_ 2 v2
  have r4 := r3.set_ 3 v3
  exact ⟨r.frozen 0, r.cell 0, r1.cell 1, r1.frozen 1, r2.cell 2, r2.frozen 2, r3.cell 3, r3.frozen 3, r4, ((((Below.refl B w).setCell hB v0).setCell hB v1).setCell hB v2).setCell hB v3⟩
def plM (S : Sp) (s : PsB) (LO : List Nat) (a : Int) : Nat := if shr (S.P (a / 64)).h then LO.getD (S.P (a / 64)).o.toNat 0 else s.mb
def plP (S : Sp) (a : Int) : Int := if shr (S.P (a / 64)).h then (S.P (a / 64)).x else a / 64
section
variable {w w' : World} {B bx : Nat} {T : PfT} {F F' : Fl} {s s' : PsB} {S S' : Sp} {LO : List Nat}
theorem zplace (w : World) : (zeroValue 78).run Tryz.prog w = .ok (.agg #[.map none, .int .i64 0, .int .i64 0, .int .i64 0]) w := by kernel_rfl
set_option maxRecDepth 100000 in
set_option maxHeartbeats 2000000 in
theorem find_far {a : Int} (hf : Fits a) (c1 : a < 0 ∨ 262143 < a) :
    Calls Tryz.prog 50 #[.int .i64 a, .pointer (some ⟨bx, 0, none⟩)] w fun e w' => e = .returned (.tuple #[.agg #[.map none, .int .i64 0, .int .i64 0, .int .i64 0], .int .i64 10]) ∧ Below w.heap.size w w' := by
  obtain ⟨W0, hW0⟩ : ∃ W0, W0 = w.alloc (.cells #[.map none, .int .i64 0, .int .i64 0, .int .i64 0] 78) := ⟨_, rfl⟩
  obtain ⟨q, hq⟩ : ∃ q, q = w.heap.size := ⟨_, rfl⟩
  have hb0 : Below w.heap.size w W0 := by rw [hW0]; exact below_new _ _
  have hr0 : Lrow W0 q 78 [.map none, .int .i64 0, .int .i64 0, .int .i64 0] := by rw [hW0, hq]; exact Lrow.new w _ [.map none, .int .i64 0, .int .i64 0, .int .i64 0]
  have HW := Lib.hid (And.intro hW0 hq)
  have HB := Lib.hid hb0
  have HR := Lib.hid hr0
  have HQ : Hid (w.heap.size ≤ q) := Nat.le_of_eq hq.symm
  obtain ⟨f0, g0, g1, f1, g2, f2, g3, f3, hr1, hb1⟩ := four_is hr0 HQ.out (.map none) (.int .i64 0) (.int .i64 0) (.int .i64 0)
  have HB1 := Lib.hid (hb0.trans hb1)
  have HR1 := Lib.hid hr1
  unfold Fits at hf
  clear hr0 hr1 hb1 hb0 hW0 hq
  by_cases c2 : a < 0
  · clear c1 hf
    go_enter Tryz.func50, Tryz.ntmps50
    go_upto_region 1 with (fail)
    rw [← HW.out.1, ← HW.out.2]
    go_wp2
    obtain ⟨w5, hw5⟩ : ∃ w5, w5 = ((((W0.setCell ⟨q, 0, none⟩ (.map none)).setCell ⟨q, 1, none⟩ (.int .i64 0)).setCell ⟨q, 2, none⟩ (.int .i64 0)).setCell ⟨q, 3, none⟩ (.int .i64 0)) := ⟨_, rfl⟩
    rw [← hw5] at HB1 HR1 ⊢
    have z0 := HR1.out.cell 0
    have z1 := HR1.out.cell 1
    have z2 := HR1.out.cell 2
    have z3 := HR1.out.cell 3
    exact bodyPost_ret (v := .tuple #[.agg #[.map none, .int .i64 0, .int .i64 0, .int .i64 0], .int .i64 10]) (by simp [results, Tryz.results50, go_sem, *]) rfl ⟨rfl, HB1.out⟩
  · obtain ⟨k, rfl⟩ : ∃ k : Nat, a = k := ⟨a.toNat, by omega⟩
    obtain ⟨m, hm⟩ : ∃ m : Nat, (k : Int) / 64 = m := ⟨k / 64, by omega⟩
    have hm1 : (4096 : Int) ≤ m := by omega
    have hm2 : (m : Int) ≤ 9223372036854775807 := by omega
    have k0 : ¬ (k : Int) < 0 := by omega
    clear c1 c2
    go_enter Tryz.func50, Tryz.ntmps50
    go_upto_region 1 with (fail)
    rw [← HW.out.1, ← HW.out.2]
    go_wp2
    obtain ⟨w5, hw5⟩ : ∃ w5, w5 = ((((W0.setCell ⟨q, 0, none⟩ (.map none)).setCell ⟨q, 1, none⟩ (.int .i64 0)).setCell ⟨q, 2, none⟩ (.int .i64 0)).setCell ⟨q, 3, none⟩ (.int .i64 0)) := ⟨_, rfl⟩
    rw [← hw5] at HB1 HR1 ⊢
    have z0 := HR1.out.cell 0
    have z1 := HR1.out.cell 1
    have z2 := HR1.out.cell 2
    have z3 := HR1.out.cell 3
    exact bodyPost_ret (v := .tuple #[.agg #[.map none, .int .i64 0, .int .i64 0, .int .i64 0], .int .i64 10]) (by simp [results, Tryz.results50, go_sem, *]) rfl ⟨rfl, HB1.out⟩
set_option maxRecDepth 100000 in
set_option maxHeartbeats 2000000 in
theorem find_off {a : Int} (c1 : ¬ (a < 0 ∨ 262143 < a)) (c2 : a % 8 ≠ 0) :
    Calls Tryz.prog 50 #[.int .i64 a, .pointer (some ⟨bx, 0, none⟩)] w fun e w' => e = .returned (.tuple #[.agg #[.map none, .int .i64 0, .int .i64 0, .int .i64 0], .int .i64 4]) ∧ Below w.heap.size w w' := by
  obtain ⟨W0, hW0⟩ : ∃ W0, W0 = w.alloc (.cells #[.map none, .int .i64 0, .int .i64 0, .int .i64 0] 78) := ⟨_, rfl⟩
  obtain ⟨q, hq⟩ : ∃ q, q = w.heap.size := ⟨_, rfl⟩
  have hb0 : Below w.heap.size w W0 := by rw [hW0]; exact below_new _ _
  have hr0 : Lrow W0 q 78 [.map none, .int .i64 0, .int .i64 0, .int .i64 0] := by rw [hW0, hq]; exact Lrow.new w _ [.map none, .int .i64 0, .int .i64 0, .int .i64 0]
  have HW := Lib.hid (And.intro hW0 hq)
  have HB := Lib.hid hb0
  have HR := Lib.hid hr0
  have HQ : Hid (w.heap.size ≤ q) := Nat.le_of_eq hq.symm
  obtain ⟨f0, g0, g1, f1, g2, f2, g3, f3, hr1, hb1⟩ := four_is hr0 HQ.out (.map none) (.int .i64 0) (.int .i64 0) (.int .i64 0)
  have HB1 := Lib.hid (hb0.trans hb1)
  have HR1 := Lib.hid hr1
  clear hr0 hr1 hb1 hb0 hW0 hq
  obtain ⟨k, rfl⟩ : ∃ k : Nat, a = k := ⟨a.toNat, by omega⟩
  obtain ⟨m, hm⟩ : ∃ m : Nat, (k : Int) / 64 = m := ⟨k / 64, by omega⟩
  have hm1 : ¬ (4096 : Int) ≤ m := by omega
  have k0 : ¬ (k : Int) < 0 := by omega
  have c3 : ((k : Int) % 8 == 0) = false := by simpa using c2
  have c4 : ¬ (k : Int) % 8 = 0 := c2
  clear c1 c2
  go_enter Tryz.func50, Tryz.ntmps50
  go_upto_region 1 with (fail)
  rw [← HW.out.1, ← HW.out.2]
  go_wp2
  obtain ⟨w5, hw5⟩ : ∃ w5, w5 = ((((W0.setCell ⟨q, 0, none⟩ (.map none)).setCell ⟨q, 1, none⟩ (.int .i64 0)).setCell ⟨q, 2, none⟩ (.int .i64 0)).setCell ⟨q, 3, none⟩ (.int .i64 0)) := ⟨_, rfl⟩
  rw [← hw5] at HB1 HR1 ⊢
  have z0 := HR1.out.cell 0
  have z1 := HR1.out.cell 1
  have z2 := HR1.out.cell 2
  have z3 := HR1.out.cell 3
  exact bodyPost_ret (v := .tuple #[.agg #[.map none, .int .i64 0, .int .i64 0, .int .i64 0], .int .i64 4]) (by simp [results, Tryz.results50, go_sem, *]) rfl ⟨rfl, HB1.out⟩
set_option maxRecDepth 100000 in
set_option maxHeartbeats 2000000 in
theorem find_out (hp : PsAt B w s S LO) (hx : Lrow w bx 64 [.pointer (some ⟨s.sb, 0, none⟩)]) {a : Int} (c1 : ¬ (a < 0 ∨ 262143 < a)) (c2 : a % 8 = 0) (c4 : (S.P (a / 64)).h = 0) :
    Calls Tryz.prog 50 #[.int .i64 a, .pointer (some ⟨bx, 0, none⟩)] w fun e w' => e = .returned (.tuple #[.agg #[.map none, .int .i64 0, .int .i64 0, .int .i64 0], .int .i64 10]) ∧ Below w.heap.size w w' := by
  obtain ⟨W0, hW0⟩ : ∃ W0, W0 = w.alloc (.cells #[.map none, .int .i64 0, .int .i64 0, .int .i64 0] 78) := ⟨_, rfl⟩
  obtain ⟨q, hq⟩ : ∃ q, q = w.heap.size := ⟨_, rfl⟩
  have hb0 : Below w.heap.size w W0 := by rw [hW0]; exact below_new _ _
  have hr0 : Lrow W0 q 78 [.map none, .int .i64 0, .int .i64 0, .int .i64 0] := by rw [hW0, hq]; exact Lrow.new w _ [.map none, .int .i64 0, .int .i64 0, .int .i64 0]
  have HW := Lib.hid (And.intro hW0 hq)
  have HB := Lib.hid hb0
  have HR := Lib.hid hr0
  have HQ : Hid (w.heap.size ≤ q) := Nat.le_of_eq hq.symm
  obtain ⟨k, rfl⟩ : ∃ k : Nat, a = k := ⟨a.toNat, by omega⟩
  obtain ⟨m, hm⟩ : ∃ m : Nat, (k : Int) / 64 = m := ⟨k / 64, by omega⟩
  have hm1 : ¬ (4096 : Int) ≤ m := by omega
  have k0 : ¬ (k : Int) < 0 := by omega
  have k00 : (0 : Int) ≤ k := by omega
  have c3 : ((k : Int) % 8 == 0) = true := by simpa using c2
  have hfd := find_pr (hp.ars.call hb0) m
  have b0 : W0.cell? ⟨bx, 0, none⟩ = some (.pointer (some ⟨s.sb, 0, none⟩)) := (hx.call hb0).cell 0
  have t0 : W0.cell? ⟨s.sb, 0, none⟩ = some (.pointer (some ⟨s.ab, 0, none⟩)) := (hp.top.call hb0).cell 0
  have HPS := Lib.hid (hp.call hb0)
  have HX := Lib.hid (hx.call hb0)
  have HC := Lib.hid (And.intro hm c2)
  rw [hm] at c4
  have HZ : Hid ((S.P m).h = 0) := c4
  clear hr0 hb0 hW0 hq c1 c2 c4 hp hx
  go_enter Tryz.func50, Tryz.ntmps50
  go_upto_region 1 with (fail)
  rw [← HW.out.1, ← HW.out.2]
  go_wp2_with fail
  refine hfd.mono ?_
  rintro e w2 ⟨f, t, h, p, o, z, b, rfl, hb2, h1, h2⟩
  have hbf : b = false := by
    cases b with
    | false => rfl
    | true =>
      obtain ⟨e1, e2, e3⟩ := h1 rfl
      have e4 := HPS.out.ars.wh.found e1 e2 e3
      have e5 := HZ.out
      rw [e4] at e5
      exact absurd e5 (mem_ok HPS.out.ars.wh.jd.rs e1).2.1
  subst hbf
  clear hfd h1 h2 b0 t0
  obtain ⟨W3, hW3⟩ : ∃ W3, W3 = w2.alloc (.cells #[.int .i64 f, .int .i64 t, .int .i64 h, .int .i64 p, .int .i64 o, .int .i64 z] 93) := ⟨_, rfl⟩
  have hb3 : Below w2.heap.size w2 W3 := by rw [hW3]; exact below_new _ _
  have hr3 := (HR.out.call hb2).call hb3
  obtain ⟨f0, g0, g1, f1, g2, f2, g3, f3, hr1, hb1⟩ := four_is hr3 HQ.out (.map none) (.int .i64 0) (.int .i64 0) (.int .i64 0)
  have hb03 : Below w.heap.size w W3 := (HB.out.trans (hb2.mono HB.out.size)).trans (hb3.mono (HB.out.trans (hb2.mono HB.out.size)).size)
  have HB1 := Lib.hid (hb03.trans hb1)
  have HR1 := Lib.hid hr1
  have HW3 := Lib.hid hW3
  clear hr1 hb1 hW3 hb3 hr3 hb03 hb2
  go_upto_region 7 with (fail)
  rw [← HW3.out]
  go_wp2
  obtain ⟨w5, hw5⟩ : ∃ w5, w5 = ((((W3.setCell ⟨q, 0, none⟩ (.map none)).setCell ⟨q, 1, none⟩ (.int .i64 0)).setCell ⟨q, 2, none⟩ (.int .i64 0)).setCell ⟨q, 3, none⟩ (.int .i64 0)) := ⟨_, rfl⟩
  rw [← hw5] at HB1 HR1 ⊢
  have z0 := HR1.out.cell 0
  have z1 := HR1.out.cell 1
  have z2 := HR1.out.cell 2
  have z3 := HR1.out.cell 3
  exact bodyPost_ret (v := .tuple #[.agg #[.map none, .int .i64 0, .int .i64 0, .int .i64 0], .int .i64 10]) (by simp [results, Tryz.results50, go_sem, *]) rfl ⟨rfl, HB1.out⟩
set_option maxRecDepth 100000 in
set_option maxHeartbeats 2000000 in
theorem find_own (hp : PsAt B w s S LO) (hx : Lrow w bx 64 [.pointer (some ⟨s.sb, 0, none⟩)]) {a : Int} (c1 : ¬ (a < 0 ∨ 262143 < a)) (c2 : a % 8 = 0) (c4 : (S.P (a / 64)).h ≠ 0) (c5 : ¬ shr (S.P (a / 64)).h) :
    Calls Tryz.prog 50 #[.int .i64 a, .pointer (some ⟨bx, 0, none⟩)] w fun e w' => e = .returned (.tuple #[.agg #[.map (some s.mb), .int .i64 (a / 64), .int .i64 (a / 8 % 8), .int .i64 (S.P (a / 64)).p], .int .i64 0]) ∧ Below w.heap.size w w' := by
  obtain ⟨W0, hW0⟩ : ∃ W0, W0 = w.alloc (.cells #[.map none, .int .i64 0, .int .i64 0, .int .i64 0] 78) := ⟨_, rfl⟩
  obtain ⟨q, hq⟩ : ∃ q, q = w.heap.size := ⟨_, rfl⟩
  have hb0 : Below w.heap.size w W0 := by rw [hW0]; exact below_new _ _
  have hr0 : Lrow W0 q 78 [.map none, .int .i64 0, .int .i64 0, .int .i64 0] := by rw [hW0, hq]; exact Lrow.new w _ [.map none, .int .i64 0, .int .i64 0, .int .i64 0]
  have HW := Lib.hid (And.intro hW0 hq)
  have HB := Lib.hid hb0
  have HR := Lib.hid hr0
  have HQ : Hid (w.heap.size ≤ q) := Nat.le_of_eq hq.symm
  obtain ⟨k, rfl⟩ : ∃ k : Nat, a = k := ⟨a.toNat, by omega⟩
  obtain ⟨m, hm⟩ : ∃ m : Nat, (k : Int) / 64 = m := ⟨k / 64, by omega⟩
  have hm1 : ¬ (4096 : Int) ≤ m := by omega
  have k0 : ¬ (k : Int) < 0 := by omega
  have k00 : (0 : Int) ≤ k := by omega
  have c3 : ((k : Int) % 8 == 0) = true := by simpa using c2
  have hfd := find_pr (hp.ars.call hb0) m
  have b0 : W0.cell? ⟨bx, 0, none⟩ = some (.pointer (some ⟨s.sb, 0, none⟩)) := (hx.call hb0).cell 0
  have t0 : W0.cell? ⟨s.sb, 0, none⟩ = some (.pointer (some ⟨s.ab, 0, none⟩)) := (hp.top.call hb0).cell 0
  have HPS := Lib.hid (hp.call hb0)
  have HX := Lib.hid (hx.call hb0)
  have HC := Lib.hid (And.intro hm c2)
  rw [hm] at c4 c5
  rw [hm]
  obtain ⟨u, hu⟩ : ∃ u : Nat, (k : Int) % 64 / 8 = u := ⟨k % 64 / 8, by omega⟩
  have hu2 : (k : Int) / 8 % 8 = u := by omega
  obtain ⟨pv, hpv⟩ : ∃ pv, pv = (S.P m).p := ⟨_, rfl⟩
  rw [hu2, ← hpv]
  have HZ : Hid ((S.P m).h ≠ 0) := c4
  have HPV := Lib.hid hpv
  have HS : Hid (¬ shr (S.P m).h) := c5
  clear hr0 hb0 hW0 hq c1 c2 c4 hp hx c5 hu2 hpv
  go_enter Tryz.func50, Tryz.ntmps50
  go_upto_region 1 with (fail)
  rw [← HW.out.1, ← HW.out.2]
  go_wp2_with fail
  refine hfd.mono ?_
  rintro e w2 ⟨f, t, h, p, o, z, b, rfl, hb2, h1, h2⟩
  have hbt : b = true := by
    cases b with
    | true => rfl
    | false =>
      obtain ⟨e1, e2⟩ := h2 rfl
      rw [HPS.out.ars.wh.pg] at e2
      exact absurd (by rw [e2]; rfl) HZ.out
  subst hbt
  obtain ⟨e1, e2, e3⟩ := h1 rfl
  have HPG := Lib.hid (HPS.out.ars.wh.found e1 e2 e3)
  have HAS := Lib.hid (HPS.out.ars.wh.bound e1)
  have HM := Lib.hid (And.intro e2 e3)
  clear hfd h1 h2 b0 t0 e1 e2 e3
  obtain ⟨W3, hW3⟩ : ∃ W3, W3 = w2.alloc (.cells #[.int .i64 f, .int .i64 t, .int .i64 h, .int .i64 p, .int .i64 o, .int .i64 z] 93) := ⟨_, rfl⟩
  obtain ⟨g, hg⟩ : ∃ g, g = w2.heap.size := ⟨_, rfl⟩
  have hb3 : Below w2.heap.size w2 W3 := by rw [hW3]; exact below_new _ _
  have ra : Lrow W3 g 93 [.int .i64 f, .int .i64 t, .int .i64 h, .int .i64 p, .int .i64 o, .int .i64 z] := by rw [hW3, hg]; exact Lrow.new w2 _ [.int .i64 f, .int .i64 t, .int .i64 h, .int .i64 p, .int .i64 o, .int .i64 z]
  have hr3 := (HR.out.call hb2).call hb3
  have hb03 : Below w.heap.size w W3 := (HB.out.trans (hb2.mono HB.out.size)).trans (hb3.mono (HB.out.trans (hb2.mono HB.out.size)).size)
  have b3 : W3.cell? ⟨bx, 0, none⟩ = some (.pointer (some ⟨s.sb, 0, none⟩)) := ((HX.out.call hb2).call hb3).cell 0
  have hp3 := (HPS.out.call hb2).call hb3
  have t1 : W3.cell? ⟨s.sb, 1, none⟩ = some (.map (some s.mb)) := hp3.top.cell 1
  have t2 : W3.cell? ⟨s.sb, 2, none⟩ = some (.map (some s.ob)) := hp3.top.cell 2
  have a0 := ra.cell 0
  have a2 := ra.cell 2
  have a3 := ra.cell 3
  have a4 := ra.cell 4
  have a5 := ra.cell 5
  have HW3 := Lib.hid (And.intro hW3 hg)
  have HRA := Lib.hid ra
  have HR3 := Lib.hid hr3
  have HB3 := Lib.hid hb03
  have HP3 := Lib.hid hp3
  clear hW3 hb3 hr3 hb03 hb2 ra hg hp3
  go_upto_region 7 with (fail)
  rw [← HW3.out.1, ← HW3.out.2]
  have epv : pv = p := by rw [HPV.out, HPG.out]; rfl
  subst epv
  have hbx : bx < W3.heap.size := World.block_lt_of_cell? W3 _ b3
  have hsb : s.sb < W3.heap.size := World.block_lt_of_cell? W3 _ t1
  have hgb : g < W3.heap.size := World.block_lt_of_cell? W3 _ a0
  have nbx : ¬ bx = W3.heap.size := by omega
  have nsb : ¬ s.sb = W3.heap.size := by omega
  have ngb : ¬ g = W3.heap.size := by omega
  go_upto_region 9 with (fail)
  go_region
  obtain ⟨W4, hW4⟩ : ∃ W4, W4 = (W3.alloc (.cells #[.map (some s.mb), .int .i64 m, .int .i64 u, .int .i64 pv] 78)).drew := ⟨_, rfl⟩
  obtain ⟨p8, hp8⟩ : ∃ p8, p8 = W3.heap.size := ⟨_, rfl⟩
  have r4 : Lrow W4 p8 78 [.map (some s.mb), .int .i64 m, .int .i64 u, .int .i64 pv] := by rw [hW4, hp8]; exact (Lrow.new W3 _ [.map (some s.mb), .int .i64 m, .int .i64 u, .int .i64 pv]).drewN 1
  have b4 : Below W3.heap.size W3 W4 := by rw [hW4]; exact below_dN (below_new _ _) 1
  have ra4 := HRA.out.call b4
  have hr4 := HR3.out.call b4
  have HB4 := Lib.hid (HB3.out.trans (b4.mono HB3.out.size))
  have HP8 : Hid (w.heap.size ≤ p8) := by show _ ≤ _; rw [hp8]; exact HB3.out.size
  have hp4 := HP3.out.call b4
  have e2 := ra4.cell 2
  have hfo := fun w => fobj_is h w
  have npq : q ≠ p8 := by have := HR3.out.lt; omega
  rw [← hW4, ← hp8]
  have hns : decide (shr h) = false := by
    have e := HS.out
    rw [HPG.out] at e
    exact decide_eq_false e
  rw [hns] at hfo
  have d0 := r4.cell 0
  have d1 := r4.cell 1
  have d2 := r4.cell 2
  have d3 := r4.cell 3
  obtain ⟨f0, g0, g1, f1, g2, f2, g3, f3, hr1, hb1⟩ := four_is hr4 HQ.out (.map (some s.mb)) (.int .i64 m) (.int .i64 u) (.int .i64 pv)
  have HB1 := Lib.hid (HB4.out.trans hb1)
  have HR1 := Lib.hid hr1
  clear hW4 hp8 r4 b4 ra4 hr4 hp4 hr1 hb1 hns b3 t1 t2 a0 a2 a3 a4 a5 hbx hsb hgb nbx nsb ngb npq
  go_wp2_with (go_at_call 52; refine (hfo _).mono ?_; rintro e w5 ⟨rfl, rfl⟩)
  obtain ⟨w5, hw5⟩ : ∃ w5, w5 = ((((W4.setCell ⟨q, 0, none⟩ (.map (some s.mb))).setCell ⟨q, 1, none⟩ (.int .i64 m)).setCell ⟨q, 2, none⟩ (.int .i64 u)).setCell ⟨q, 3, none⟩ (.int .i64 pv)) := ⟨_, rfl⟩
  rw [← hw5] at HB1 HR1 ⊢
  have z0 := HR1.out.cell 0
  have z1 := HR1.out.cell 1
  have z2 := HR1.out.cell 2
  have z3 := HR1.out.cell 3
  exact bodyPost_ret (v := .tuple #[.agg #[.map (some s.mb), .int .i64 m, .int .i64 u, .int .i64 pv], .int .i64 0]) (by simp [results, Tryz.results50, go_sem, *]) rfl ⟨rfl, HB1.out⟩
set_option maxRecDepth 100000 in
set_option maxHeartbeats 2000000 in
theorem find_obj (hp : PsAt B w s S LO) (hx : Lrow w bx 64 [.pointer (some ⟨s.sb, 0, none⟩)]) {a : Int} (c1 : ¬ (a < 0 ∨ 262143 < a)) (c2 : a % 8 = 0) (c4 : (S.P (a / 64)).h ≠ 0) (c5 : shr (S.P (a / 64)).h) {n : Nat} (hn : (S.P (a / 64)).o = n) (hl : n < LO.length) (hL : LO.length ≤ 1000) (hx0 : 0 ≤ (S.P (a / 64)).x ∧ (S.P (a / 64)).x ≤ 4096) :
    Calls Tryz.prog 50 #[.int .i64 a, .pointer (some ⟨bx, 0, none⟩)] w fun e w' => e = .returned (.tuple #[.agg #[.map (some LO[n]), .int .i64 (S.P (a / 64)).x, .int .i64 (a / 8 % 8), .int .i64 (S.P (a / 64)).p], .int .i64 0]) ∧ Below w.heap.size w w' := by
  obtain ⟨W0, hW0⟩ : ∃ W0, W0 = w.alloc (.cells #[.map none, .int .i64 0, .int .i64 0, .int .i64 0] 78) := ⟨_, rfl⟩
  obtain ⟨q, hq⟩ : ∃ q, q = w.heap.size := ⟨_, rfl⟩
  have hb0 : Below w.heap.size w W0 := by rw [hW0]; exact below_new _ _
  have hr0 : Lrow W0 q 78 [.map none, .int .i64 0, .int .i64 0, .int .i64 0] := by rw [hW0, hq]; exact Lrow.new w _ [.map none, .int .i64 0, .int .i64 0, .int .i64 0]
  have HW := Lib.hid (And.intro hW0 hq)
  have HB := Lib.hid hb0
  have HR := Lib.hid hr0
  have HQ : Hid (w.heap.size ≤ q) := Nat.le_of_eq hq.symm
  obtain ⟨k, rfl⟩ : ∃ k : Nat, a = k := ⟨a.toNat, by omega⟩
  obtain ⟨m, hm⟩ : ∃ m : Nat, (k : Int) / 64 = m := ⟨k / 64, by omega⟩
  have hm1 : ¬ (4096 : Int) ≤ m := by omega
  have k0 : ¬ (k : Int) < 0 := by omega
  have k00 : (0 : Int) ≤ k := by omega
  have c3 : ((k : Int) % 8 == 0) = true := by simpa using c2
  have hfd := find_pr (hp.ars.call hb0) m
  have b0 : W0.cell? ⟨bx, 0, none⟩ = some (.pointer (some ⟨s.sb, 0, none⟩)) := (hx.call hb0).cell 0
  have t0 : W0.cell? ⟨s.sb, 0, none⟩ = some (.pointer (some ⟨s.ab, 0, none⟩)) := (hp.top.call hb0).cell 0
  have HPS := Lib.hid (hp.call hb0)
  have HX := Lib.hid (hx.call hb0)
  have HC := Lib.hid (And.intro hm c2)
  rw [hm] at c4 c5 hn hx0
  rw [hm]
  obtain ⟨u, hu⟩ : ∃ u : Nat, (k : Int) % 64 / 8 = u := ⟨k % 64 / 8, by omega⟩
  have hu2 : (k : Int) / 8 % 8 = u := by omega
  obtain ⟨pv, hpv⟩ : ∃ pv, pv = (S.P m).p := ⟨_, rfl⟩
  rw [hu2, ← hpv]
  have HZ : Hid ((S.P m).h ≠ 0) := c4
  have HPV := Lib.hid hpv
  have HS : Hid (shr (S.P m).h) := c5
  obtain ⟨xv, hxv⟩ : ∃ xv, xv = (S.P m).x := ⟨_, rfl⟩
  obtain ⟨B1, hB1⟩ : ∃ B1, B1 = LO[n] := ⟨_, rfl⟩
  rw [← hxv, ← hB1]
  rw [← hxv] at hx0
  have HXV := Lib.hid (And.intro hxv hx0)
  have HN := Lib.hid (And.intro hn (And.intro hl (fun b w1 (h1 : ObjAt w1 b S.P LO) => by
    obtain ⟨M, q1, q2, q3⟩ := h1
    have q4 := q3 m c5
    rw [hn] at q4
    obtain ⟨k', e1, e2, e3⟩ := q2 (n : Int) (by unfold FitM; have := q1.lt; omega) q4
    obtain rfl : n = k' := by omega
    have q5 := q1.look (f := (n : Int)) (by unfold FitM; omega) false
    rw [if_neg (by decide), e3, ← hB1] at q5
    exact q5)))
  clear hr0 hb0 hW0 hq c1 c2 c4 hp hx c5 hu2 hpv hn hxv hx0 hB1
  go_enter Tryz.func50, Tryz.ntmps50
  go_upto_region 1 with (fail)
  rw [← HW.out.1, ← HW.out.2]
  go_wp2_with fail
  refine hfd.mono ?_
  rintro e w2 ⟨f, t, h, p, o, z, b, rfl, hb2, h1, h2⟩
  have hbt : b = true := by
    cases b with
    | true => rfl
    | false =>
      obtain ⟨e1, e2⟩ := h2 rfl
      rw [HPS.out.ars.wh.pg] at e2
      exact absurd (by rw [e2]; rfl) HZ.out
  subst hbt
  obtain ⟨e1, e2, e3⟩ := h1 rfl
  have HPG := Lib.hid (HPS.out.ars.wh.found e1 e2 e3)
  have HAS := Lib.hid (HPS.out.ars.wh.bound e1)
  have HM := Lib.hid (And.intro e2 e3)
  clear hfd h1 h2 b0 t0 e1 e2 e3
  obtain ⟨W3, hW3⟩ : ∃ W3, W3 = w2.alloc (.cells #[.int .i64 f, .int .i64 t, .int .i64 h, .int .i64 p, .int .i64 o, .int .i64 z] 93) := ⟨_, rfl⟩
  obtain ⟨g, hg⟩ : ∃ g, g = w2.heap.size := ⟨_, rfl⟩
  have hb3 : Below w2.heap.size w2 W3 := by rw [hW3]; exact below_new _ _
  have ra : Lrow W3 g 93 [.int .i64 f, .int .i64 t, .int .i64 h, .int .i64 p, .int .i64 o, .int .i64 z] := by rw [hW3, hg]; exact Lrow.new w2 _ [.int .i64 f, .int .i64 t, .int .i64 h, .int .i64 p, .int .i64 o, .int .i64 z]
  have hr3 := (HR.out.call hb2).call hb3
  have hb03 : Below w.heap.size w W3 := (HB.out.trans (hb2.mono HB.out.size)).trans (hb3.mono (HB.out.trans (hb2.mono HB.out.size)).size)
  have b3 : W3.cell? ⟨bx, 0, none⟩ = some (.pointer (some ⟨s.sb, 0, none⟩)) := ((HX.out.call hb2).call hb3).cell 0
  have hp3 := (HPS.out.call hb2).call hb3
  have t1 : W3.cell? ⟨s.sb, 1, none⟩ = some (.map (some s.mb)) := hp3.top.cell 1
  have t2 : W3.cell? ⟨s.sb, 2, none⟩ = some (.map (some s.ob)) := hp3.top.cell 2
  have a0 := ra.cell 0
  have a2 := ra.cell 2
  have a3 := ra.cell 3
  have a4 := ra.cell 4
  have a5 := ra.cell 5
  have HW3 := Lib.hid (And.intro hW3 hg)
  have HRA := Lib.hid ra
  have HR3 := Lib.hid hr3
  have HB3 := Lib.hid hb03
  have HP3 := Lib.hid hp3
  clear hW3 hb3 hr3 hb03 hb2 ra hg hp3
  go_upto_region 7 with (fail)
  rw [← HW3.out.1, ← HW3.out.2]
  have epv : pv = p := by rw [HPV.out, HPG.out]; rfl
  subst epv
  have hbx : bx < W3.heap.size := World.block_lt_of_cell? W3 _ b3
  have hsb : s.sb < W3.heap.size := World.block_lt_of_cell? W3 _ t1
  have hgb : g < W3.heap.size := World.block_lt_of_cell? W3 _ a0
  have nbx : ¬ bx = W3.heap.size := by omega
  have nsb : ¬ s.sb = W3.heap.size := by omega
  have ngb : ¬ g = W3.heap.size := by omega
  go_upto_region 9 with (fail)
  go_region
  obtain ⟨W4, hW4⟩ : ∃ W4, W4 = (W3.alloc (.cells #[.map (some s.mb), .int .i64 m, .int .i64 u, .int .i64 pv] 78)).drew := ⟨_, rfl⟩
  obtain ⟨p8, hp8⟩ : ∃ p8, p8 = W3.heap.size := ⟨_, rfl⟩
  have r4 : Lrow W4 p8 78 [.map (some s.mb), .int .i64 m, .int .i64 u, .int .i64 pv] := by rw [hW4, hp8]; exact (Lrow.new W3 _ [.map (some s.mb), .int .i64 m, .int .i64 u, .int .i64 pv]).drewN 1
  have b4 : Below W3.heap.size W3 W4 := by rw [hW4]; exact below_dN (below_new _ _) 1
  have ra4 := HRA.out.call b4
  have hr4 := HR3.out.call b4
  have HB4 := Lib.hid (HB3.out.trans (b4.mono HB3.out.size))
  have HP8 : Hid (w.heap.size ≤ p8) := by show _ ≤ _; rw [hp8]; exact HB3.out.size
  have hp4 := HP3.out.call b4
  have e2 := ra4.cell 2
  have hfo := fun w => fobj_is h w
  have npq : q ≠ p8 := by have := HR3.out.lt; omega
  rw [← hW4, ← hp8]
  have hns : decide (shr h) = true := by
    have e := HS.out
    rw [HPG.out] at e
    exact decide_eq_true e
  rw [hns] at hfo
  have eo : o = (n : Int) := by
    have e := HN.out.1
    rw [HPG.out] at e
    exact e
  have ex : z + m - f = xv := by
    have e := HXV.out.1
    rw [HPG.out] at e
    change xv = if shr h then z + (m - f) else 0 at e
    rw [if_pos (of_decide_eq_true hns)] at e
    omega
  have hlk : (Instr.lookup 88 (.map (some s.ob)) (.int .i64 o) false).run Tryz.prog W4.drew = .ok (.map (some B1)) W4.drew := by rw [eo]; exact HN.out.2.2 _ W4.drew (hp4.obj.heap rfl)
  have x0 : W4.cell? ⟨bx, 0, none⟩ = some (.pointer (some ⟨s.sb, 0, none⟩)) := (World.cell?_of_block (a := ⟨bx, 0, none⟩) (b4.block bx hbx)).trans b3
  have x2 : W4.cell? ⟨s.sb, 2, none⟩ = some (.map (some s.ob)) := hp4.top.cell 2
  have y0 := ra4.cell 0
  have y4 := ra4.cell 4
  have y5 := ra4.cell 5
  have d0 := r4.cell 0
  have d1 := r4.cell 1
  have f0 := r4.frozen 0
  have f1 := r4.frozen 1
  have hxb := HXV.out.2
  have k1 : (0 : Int) ≤ z ∧ z ≤ 4096 := ⟨HAS.out.x0, HAS.out.x4⟩
  have k2 : (0 : Int) ≤ f ∧ f ≤ 4096 := ⟨HAS.out.f0, by have q1 : t ≤ 4096 := HAS.out.t4; have q2 : f < t := HAS.out.ft; omega⟩
  have k3 : (m : Int) ≤ 4096 := by omega
  have HR4 := Lib.hid r4
  have HQ4 := Lib.hid hr4
  have HNP := Lib.hid npq
  have s1 : IntKind.i64.wrap (z + m) = z + m := IntWalk.i64_in _ (by omega)
  have s2 : IntKind.i64.wrap (z + m - f) = z + m - f := IntWalk.i64_in _ (by omega)
  have HEX := Lib.hid ex
  have n1 : ¬ g = p8 := by omega
  have n2 : ¬ p8 = g := by omega
  have n3 : ¬ bx = p8 := by omega
  have n4 : ¬ p8 = bx := by omega
  have n5 : ¬ s.sb = p8 := by omega
  have n6 : ¬ p8 = s.sb := by omega
  clear hW4 hp8 r4 b4 ra4 hr4 hp4 hns b3 t1 t2 a0 a2 a3 a4 a5 nbx nsb ngb npq hbx hsb hgb ex eo
  go_upto_region 10 with (fail)
  go_wp2_with (go_at_call 52; refine (hfo _).mono ?_; rintro e w5 ⟨rfl, rfl⟩)
  go_region
  rw [HEX.out]
  obtain ⟨W5, hW5⟩ : ∃ W5, W5 = ((W4.setCell ⟨p8, 0, none⟩ (.map (some B1))).setCell ⟨p8, 1, none⟩ (.int .i64 xv)).drew := ⟨_, rfl⟩
  have r5 : Lrow W5 p8 78 [.map (some B1), .int .i64 xv, .int .i64 u, .int .i64 pv] := by rw [hW5]; exact ((HR4.out.set_ 0 (.map (some B1))).set_ 1 (.int .i64 xv)).drewN 1
  have q5 : Lrow W5 q 78 [.map none, .int .i64 0, .int .i64 0, .int .i64 0] := by rw [hW5]; exact ((HQ4.out.far HNP.out (.map (some B1))).far HNP.out (.int .i64 xv)).drewN 1
  have hb5 : Below w.heap.size w W5 := by rw [hW5]; exact below_dN ((HB4.out.setCell (show w.heap.size ≤ p8 from HP8.out) _).setCell (show w.heap.size ≤ p8 from HP8.out) _) 1
  rw [← hW5]
  have e0 := r5.cell 0
  have e1 := r5.cell 1
  have e2 := r5.cell 2
  have e3 := r5.cell 3
  clear d0 d1 f0 f1 x0 x2 y0 y4 y5 n1 n2 n3 n4 n5 n6 hlk hW5 k1 k2 k3 s1 s2
  obtain ⟨f0, g0, g1, f1, g2, f2, g3, f3, hr1, hb1⟩ := four_is q5 HQ.out (.map (some B1)) (.int .i64 xv) (.int .i64 u) (.int .i64 pv)
  have HB1 := Lib.hid (hb5.trans hb1)
  have HR1 := Lib.hid hr1
  clear hr1 hb1 hb5 q5 r5
  go_wp2
  obtain ⟨w5, hw5⟩ : ∃ w5, w5 = ((((W5.setCell ⟨q, 0, none⟩ (.map (some B1))).setCell ⟨q, 1, none⟩ (.int .i64 xv)).setCell ⟨q, 2, none⟩ (.int .i64 u)).setCell ⟨q, 3, none⟩ (.int .i64 pv)) := ⟨_, rfl⟩
  rw [← hw5] at HB1 HR1 ⊢
  have z0 := HR1.out.cell 0
  have z1 := HR1.out.cell 1
  have z2 := HR1.out.cell 2
  have z3 := HR1.out.cell 3
  exact bodyPost_ret (v := .tuple #[.agg #[.map (some B1), .int .i64 xv, .int .i64 u, .int .i64 pv], .int .i64 0]) (by simp [results, Tryz.results50, go_sem, *]) rfl ⟨rfl, HB1.out⟩
end
end Go.Proofs.YtnppnoabhpkmkaaGreat
