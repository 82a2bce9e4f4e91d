/- Spaces: what must come at any rate, walked. -/
import Derived.Test.YtnppnoabhpkmkaaGreatMg40
namespace Go.Proofs.YtnppnoabhpkmkaaGreat
open Go.RowKit
section
variable {I : FlI} {w w' : World} {B s b : Nat} {X : Nat → Prop} {F F' : Fl}
/-- A row of another block stays behind a call of the program. -/
theorem DidX.row (d : DidX I.Fo B w s X F w') {t : TypeId} {vs : List Value} (r : Lrow w b t vs) (n : ¬ X b) : ∃ X', I.Fo B w' s X' F ∧ Lrow w' b t vs ∧ ¬ X' b := by
  obtain ⟨X', h, f, g⟩ := d
  refine ⟨X', h, f.row r n, fun e => (g b e).elim n fun k => ?_⟩
  have := r.lt; omega
theorem FlI.new_ne (I : FlI) (h : I.Fo B w s X F) : ¬ X w.heap.size := fun e => by have := (I.lo h _ e).2; omega
end
set_option maxRecDepth 100000 in
set_option maxHeartbeats 4000000 in
theorem awake_any (I : FlI) (w : World) : Calls Tryz.prog 10 #[] w fun e w' => e = .returned (.bool true) ∧ Below w.heap.size w w' := by
  have hnew := I.new w
  go_enter Tryz.func10, Tryz.ntmps10
  go_wp2_with fail
  refine hnew.mono ?_
  rintro e w1 ⟨s, X1, rfl, h1, hb1⟩
  have hdo := I.awd1 h1
  have HB1 := Lib.hid hb1
  have H1 := Lib.hid h1
  clear hnew hb1 h1
  go_wp2_with fail
  refine hdo.mono ?_
  rintro e w2 ⟨rfl, hd⟩
  have HB2 := Lib.hid (HB1.out.trans (I.down H1.out hd))
  obtain ⟨X2, h2, -, -⟩ := hd
  have hdo := I.awd2 h2
  have H2 := Lib.hid h2
  clear h2
  go_wp2_with fail
  refine hdo.mono ?_
  rintro e w3 ⟨rfl, hd⟩
  have HB3 := Lib.hid (HB2.out.trans (I.down H2.out hd))
  obtain ⟨X3, h3, -, -⟩ := hd
  have hdo := I.awd3 h3
  have H3 := Lib.hid h3
  clear h3
  go_wp2_with fail
  refine hdo.mono ?_
  rintro e w4 ⟨rfl, hd⟩
  have HB4 := Lib.hid (HB3.out.trans (I.down H3.out hd))
  obtain ⟨X4, h4, -, -⟩ := hd
  have hdo := I.awd4 h4
  have H4 := Lib.hid h4
  clear h4
  go_wp2_with fail
  refine hdo.mono ?_
  rintro e w5 ⟨rfl, hd⟩
  have HB5 := Lib.hid (HB4.out.trans (I.down H4.out hd))
  obtain ⟨X5, h5, -, -⟩ := hd
  obtain ⟨b5, hb5⟩ : ∃ b, b = w5.heap.size := ⟨_, rfl⟩
  obtain ⟨W5, hW5⟩ : ∃ W5, W5 = w5.alloc (.cells #[.int .i64 0, .int .u64 1] 33) := ⟨_, rfl⟩
  have hbn : Below w5.heap.size w5 W5 := by rw [hW5]; exact below_new _ _
  have r5 : Lrow W5 b5 33 [.int .i64 0, .int .u64 1] := by rw [hW5, hb5]; exact Lrow.new w5 _ [.int .i64 0, .int .u64 1]
  have n5 : ¬ X5 b5 := by rw [hb5]; exact I.new_ne h5
  have h5' := I.call h5 hbn
  have HB5' := Lib.hid (HB5.out.trans (hbn.mono HB5.out.size))
  have hdo := I.awd5 h5'
  have H5 := Lib.hid (And.intro h5' (And.intro r5 n5))
  have HW := Lib.hid (And.intro hW5 hb5)
  clear h5 hbn r5 n5 h5' hW5 hb5
  go_upto_region 6 with (fail)
  rw [← HW.out.1, ← HW.out.2]
  go_wp2_with fail
  refine hdo.mono ?_
  rintro e w6 ⟨rfl, hd⟩
  have HB6 := Lib.hid (HB5'.out.trans (I.down H5.out.1 hd))
  obtain ⟨X6, h6, r6, n6⟩ := hd.row H5.out.2.1 H5.out.2.2
  have H6 := Lib.hid (And.intro h6 (And.intro r6 n6))
  have hdo := I.awd6 h6
  clear h6 r6 n6
  go_wp2_with fail
  refine hdo.mono ?_
  rintro e w7 ⟨rfl, hd⟩
  have HB7 := Lib.hid (HB6.out.trans (I.down H6.out.1 hd))
  obtain ⟨X7, h7, r7, n7⟩ := hd.row H6.out.2.1 H6.out.2.2
  have H7 := Lib.hid (And.intro h7 (And.intro r7 n7))
  have hdo := I.awd7 h7
  clear h7 r7 n7
  go_wp2_with fail
  refine hdo.mono ?_
  rintro e w8 ⟨rfl, hd⟩
  have HB8 := Lib.hid (HB7.out.trans (I.down H7.out.1 hd))
  obtain ⟨X8, h8, r8, n8⟩ := hd.row H7.out.2.1 H7.out.2.2
  have H8 := Lib.hid (And.intro h8 (And.intro r8 n8))
  obtain ⟨b8, hb8⟩ : ∃ b, b = w8.heap.size := ⟨_, rfl⟩
  obtain ⟨W8, hW8⟩ : ∃ W8, W8 = w8.alloc (.cells #[.int .i64 0, .int .u64 7] 33) := ⟨_, rfl⟩
  obtain ⟨W9, hW9⟩ : ∃ W9, W9 = W8.alloc (.cells #[.int .i64 0, .int .u64 9] 33) := ⟨_, rfl⟩
  have g8 : Below w8.heap.size w8 W8 := by rw [hW8]; exact below_new _ _
  have g9 : Below W8.heap.size W8 W9 := by rw [hW9]; exact below_new _ _
  have g89 : Below w8.heap.size w8 W9 := g8.trans (g9.mono g8.size)
  have hs8 : W8.heap.size = w8.heap.size + 1 := by rw [hW8]; show (w8.heap.push _).size = _; exact Array.size_push _
  have ra : Lrow W9 b8 33 [.int .i64 0, .int .u64 7] := by
    have : Lrow W8 b8 33 [.int .i64 0, .int .u64 7] := by rw [hW8, hb8]; exact Lrow.new w8 _ [.int .i64 0, .int .u64 7]
    exact this.call g9
  have rb : Lrow W9 (b8 + 1) 33 [.int .i64 0, .int .u64 9] := by rw [hW9, hb8, ← hs8]; exact Lrow.new W8 _ [.int .i64 0, .int .u64 9]
  have rc := r8.call g89
  have hsp := I.spaces (I.call h8 g89) aw7_b.ok
  rw [aw7_l] at hsp
  have HB9 := Lib.hid (HB8.out.trans (g89.mono HB8.out.size))
  have HZ := Lib.hid (And.intro hb8 (And.intro hW8 hW9))
  have c0 := rc.cell 0
  have c1 := rc.cell 1
  have c2 := ra.cell 0
  have c3 := ra.cell 1
  have c4 := rb.cell 0
  have c5 := rb.cell 1
  clear g8 g9 g89 hs8 ra rb rc h8 r8 n8 hW8 hW9 hb8
  go_upto_region 8 with (fail)
  rw [← HZ.out.2.1, ← HZ.out.1, ← HZ.out.2.2]
  go_wp2_with fail
  refine hsp.mono ?_
  rintro e w9 ⟨rfl, hb9⟩
  have HB10 := Lib.hid (HB9.out.trans (hb9.mono HB9.out.size))
  clear hsp hb9
  go_wp2_with fail
  go_ret
  exact ⟨rfl, HB10.out⟩
end Go.Proofs.YtnppnoabhpkmkaaGreat
