/- The contract of package table's look at a leaf's entry. -/
import Derived.Test.YtpcpcgbejinlmaaMk20
import Derived.Test.YtpcpcgbejinlmaaMk05
import Derived.Test.YtpcpcgbejinlmaaMk19
import Derived.RangeFuncWrites
import Derived.RangeFuncNested
import Derived.RangeFuncBound
import Derived.RangeFuncCalls
import Derived.RangeFuncLeaves
import Derived.Shelf.Abstract
import Derived.Shelf.RegionOpen
import Derived.WalkKit
import Derived.OwnWalkIn
import Derived.TacticsInMore
import Derived.LoopNIn
import Derived.LoopIn
namespace Go.Proofs.Ytpcpcgbejinlmaa
open Go.RowKit
def leafy (o : Int) (pr k : Bool) : Bool := pr || (k && decide (o = 0))
def lfOk (o f : Int) (pr wr h k u d : Bool) : Bool := leafy o pr k && decide (chkI f pr wr h k u d = 0) && evB f o && decide (frE f o = 0)
def lfE (R : List Int) (r p o f : Int) (pr wr h k u d : Bool) : Int := if plE R r p o = 0 then (if lfOk o f pr wr h k u d = true then 0 else 2) else plE R r p o
theorem plE_ok {R : List Int} {r p o : Int} (h : plE R r p o = 0) : r ∈ R ∧ (o = 0 ∨ o = 3 ∨ o = 6) ∧ 0 ≤ p ∧ p ≤ 4095 ∧ p % szO o = 0 := by
  unfold plE at h
  split at h
  · rename_i hr
    have := wrO_ok h
    exact ⟨hr, this.1, this.2.1, this.2.2.1, this.2.2.2⟩
  · omega
theorem drewN_belowT {B : Nat} {w w' : World} (h : Below B w w') (n : Nat) : Below B w (w'.drewN n) := ⟨h.os, h.tape, h.output, h.size, h.block⟩
section
variable {w : World} {s : Seat} {v : Value} {ws L R : List Int}
set_option maxRecDepth 100000 in
set_option maxHeartbeats 2000000 in
theorem checkLeaf_any (H0 : Tab w s v ws L R) (r p o f : Int) (pr wr h k u d : Bool) (hr : Fits r) (hp : Fits p) (hf : Fits f) : Calls Try.prog 39 #[.pointer (some ⟨s.x, 0, none⟩), .int .i64 r, .int .i64 p, .int .i64 o, .agg #[.int .i64 f, .bool pr, .bool wr, .bool h, .bool k, .bool u, .bool d]] w fun e w' => e = .returned (.int .i64 (lfE R r p o f pr wr h k u d)) ∧ Below w.heap.size w w' := by
  have H := Lib.hid H0
  have HR := Lib.hid hr
  have HP := Lib.hid hp
  have HF := Lib.hid hf
  clear H0 hr hp hf
  unfold lfE
  by_cases hz : plE R r p o = 0
  · rw [if_pos hz]
    have HZ := Lib.hid hz
    have HO := Lib.hid (plE_ok hz).2.1
    clear hz
    unfold lfOk
    cases hl : leafy o pr k
    · rw [if_neg (by simp)]
      cases pr
      · cases k
        · clear hl
          obtain ⟨g, hg⟩ : ∃ g, g = w.heap.size := ⟨_, rfl⟩
          obtain ⟨w1, hw1⟩ : ∃ w1, w1 = w.alloc (.cells #[.int .i64 f, .bool false, .bool wr, .bool h, .bool false, .bool u, .bool d] 28) := ⟨_, rfl⟩
          have b1 : Below w.heap.size w w1 := hw1 ▸ below_new w 28 [.int .i64 f, .bool false, .bool wr, .bool h, .bool false, .bool u, .bool d]
          have r1 : Row w1 g 28 [.int .i64 f, .bool false, .bool wr, .bool h, .bool false, .bool u, .bool d] := by rw [hw1, hg]; exact Row.new w _ _
          have hpl := checkPlace_any (H.out.call b1) r p o HR.out HP.out
          rw [HZ.out] at hpl
          have HW := Lib.hid hw1
          have HG := Lib.hid hg
          have R1 := Lib.hid r1
          have B1 := Lib.hid b1
          clear hw1 hg r1 b1
          go_enter Try.func39, Try.ntmps39
          go_upto_region 1 with (fail)
          rw [← HW.out, ← HG.out]
          go_wp2_with fail
          refine hpl.mono ?_
          rintro e w2 ⟨rfl, hb2⟩
          have B2 := Lib.hid (B1.out.trans (hb2.mono B1.out.size))
          have r2 := R1.out.below hb2 R1.out.lt
          have R2 := Lib.hid r2
          obtain ⟨c0, c1, c2, c3, c4, c5, c6⟩ := r2.seven.1
          have H2 := Lib.hid ((H.out.call B1.out).call hb2)
          clear hpl hb2 r2 B1 R1
          go_wp2_with fail
          go_ret
          exact ⟨rfl, B2.out⟩
        · have ho : (o == 0) = false := by simp [leafy] at hl; simpa using hl
          clear hl
          obtain ⟨g, hg⟩ : ∃ g, g = w.heap.size := ⟨_, rfl⟩
          obtain ⟨w1, hw1⟩ : ∃ w1, w1 = w.alloc (.cells #[.int .i64 f, .bool false, .bool wr, .bool h, .bool true, .bool u, .bool d] 28) := ⟨_, rfl⟩
          have b1 : Below w.heap.size w w1 := hw1 ▸ below_new w 28 [.int .i64 f, .bool false, .bool wr, .bool h, .bool true, .bool u, .bool d]
          have r1 : Row w1 g 28 [.int .i64 f, .bool false, .bool wr, .bool h, .bool true, .bool u, .bool d] := by rw [hw1, hg]; exact Row.new w _ _
          have hpl := checkPlace_any (H.out.call b1) r p o HR.out HP.out
          rw [HZ.out] at hpl
          have HW := Lib.hid hw1
          have HG := Lib.hid hg
          have R1 := Lib.hid r1
          have B1 := Lib.hid b1
          clear hw1 hg r1 b1
          go_enter Try.func39, Try.ntmps39
          go_upto_region 1 with (fail)
          rw [← HW.out, ← HG.out]
          go_wp2_with fail
          refine hpl.mono ?_
          rintro e w2 ⟨rfl, hb2⟩
          have B2 := Lib.hid (B1.out.trans (hb2.mono B1.out.size))
          have r2 := R1.out.below hb2 R1.out.lt
          have R2 := Lib.hid r2
          obtain ⟨c0, c1, c2, c3, c4, c5, c6⟩ := r2.seven.1
          have H2 := Lib.hid ((H.out.call B1.out).call hb2)
          clear hpl hb2 r2 B1 R1
          go_wp2_with fail
          go_ret
          exact ⟨rfl, B2.out⟩
      · simp [leafy] at hl
    · rw [Bool.true_and]
      cases hc : decide (chkI f pr wr h k u d = 0)
      · rw [if_neg (by simp)]
        obtain ⟨c, ec⟩ : ∃ c, chkI f pr wr h k u d = c := ⟨_, rfl⟩
        have hcn : (c != 0) = true := by rw [ec] at hc; simpa using hc
        have HC := Lib.hid ec
        clear hc ec
        cases pr
        · cases k
          · simp [leafy] at hl
          · obtain rfl : o = 0 := by simpa [leafy] using hl
            clear hl
            obtain ⟨g, hg⟩ : ∃ g, g = w.heap.size := ⟨_, rfl⟩
            obtain ⟨w1, hw1⟩ : ∃ w1, w1 = w.alloc (.cells #[.int .i64 f, .bool false, .bool wr, .bool h, .bool true, .bool u, .bool d] 28) := ⟨_, rfl⟩
            have b1 : Below w.heap.size w w1 := hw1 ▸ below_new w 28 [.int .i64 f, .bool false, .bool wr, .bool h, .bool true, .bool u, .bool d]
            have r1 : Row w1 g 28 [.int .i64 f, .bool false, .bool wr, .bool h, .bool true, .bool u, .bool d] := by rw [hw1, hg]; exact Row.new w _ _
            have hpl := checkPlace_any (H.out.call b1) r p 0 HR.out HP.out
            rw [HZ.out] at hpl
            have HW := Lib.hid hw1
            have HG := Lib.hid hg
            have R1 := Lib.hid r1
            have B1 := Lib.hid b1
            clear hw1 hg r1 b1
            go_enter Try.func39, Try.ntmps39
            go_upto_region 1 with (fail)
            rw [← HW.out, ← HG.out]
            go_wp2_with fail
            refine hpl.mono ?_
            rintro e w2 ⟨rfl, hb2⟩
            have B2 := Lib.hid (B1.out.trans (hb2.mono B1.out.size))
            have r2 := R1.out.below hb2 R1.out.lt
            have R2 := Lib.hid r2
            obtain ⟨c0, c1, c2, c3, c4, c5, c6⟩ := r2.seven.1
            have H2 := Lib.hid ((H.out.call B1.out).call hb2)
            clear hpl hb2 r2 B1 R1
            go_wp2_with fail
            refine (check_any f false wr h true u d _).mono ?_
            rw [HC.out]
            rintro e w3 ⟨rfl, hb3⟩
            have B3 := Lib.hid (B2.out.trans (hb3.mono B2.out.size))
            have r3 := R2.out.below hb3 R2.out.lt
            clear c0 c1 c2 c3 c4 c5 c6
            obtain ⟨c0, c1, c2, c3, c4, c5, c6⟩ := r3.seven.1
            have H3 := Lib.hid (H2.out.call hb3)
            clear hb3 r3 B2 R2 H2
            go_wp2_with fail
            go_ret
            exact ⟨rfl, B3.out⟩
        · clear hl
          obtain ⟨g, hg⟩ : ∃ g, g = w.heap.size := ⟨_, rfl⟩
          obtain ⟨w1, hw1⟩ : ∃ w1, w1 = w.alloc (.cells #[.int .i64 f, .bool true, .bool wr, .bool h, .bool k, .bool u, .bool d] 28) := ⟨_, rfl⟩
          have b1 : Below w.heap.size w w1 := hw1 ▸ below_new w 28 [.int .i64 f, .bool true, .bool wr, .bool h, .bool k, .bool u, .bool d]
          have r1 : Row w1 g 28 [.int .i64 f, .bool true, .bool wr, .bool h, .bool k, .bool u, .bool d] := by rw [hw1, hg]; exact Row.new w _ _
          have hpl := checkPlace_any (H.out.call b1) r p o HR.out HP.out
          rw [HZ.out] at hpl
          have HW := Lib.hid hw1
          have HG := Lib.hid hg
          have R1 := Lib.hid r1
          have B1 := Lib.hid b1
          clear hw1 hg r1 b1
          go_enter Try.func39, Try.ntmps39
          go_upto_region 1 with (fail)
          rw [← HW.out, ← HG.out]
          go_wp2_with fail
          refine hpl.mono ?_
          rintro e w2 ⟨rfl, hb2⟩
          have B2 := Lib.hid (B1.out.trans (hb2.mono B1.out.size))
          have r2 := R1.out.below hb2 R1.out.lt
          have R2 := Lib.hid r2
          obtain ⟨c0, c1, c2, c3, c4, c5, c6⟩ := r2.seven.1
          have H2 := Lib.hid ((H.out.call B1.out).call hb2)
          clear hpl hb2 r2 B1 R1
          go_wp2_with fail
          refine (check_any f true wr h k u d _).mono ?_
          rw [HC.out]
          rintro e w3 ⟨rfl, hb3⟩
          have B3 := Lib.hid (B2.out.trans (hb3.mono B2.out.size))
          have r3 := R2.out.below hb3 R2.out.lt
          clear c0 c1 c2 c3 c4 c5 c6
          obtain ⟨c0, c1, c2, c3, c4, c5, c6⟩ := r3.seven.1
          have H3 := Lib.hid (H2.out.call hb3)
          clear hb3 r3 B2 R2 H2
          go_wp2_with fail
          go_ret
          exact ⟨rfl, B3.out⟩
      · have HC : Hid (chkI f pr wr h k u d = 0) := by show _ = _; simpa using hc
        clear hc
        rw [Bool.true_and]
        cases he : evB f o
        · rw [if_neg (by simp)]
          have HE := Lib.hid he
          clear he
          cases pr
          · cases k
            · simp [leafy] at hl
            · obtain rfl : o = 0 := by simpa [leafy] using hl
              clear hl
              obtain ⟨g, hg⟩ : ∃ g, g = w.heap.size := ⟨_, rfl⟩
              obtain ⟨w1, hw1⟩ : ∃ w1, w1 = w.alloc (.cells #[.int .i64 f, .bool false, .bool wr, .bool h, .bool true, .bool u, .bool d] 28) := ⟨_, rfl⟩
              have b1 : Below w.heap.size w w1 := hw1 ▸ below_new w 28 [.int .i64 f, .bool false, .bool wr, .bool h, .bool true, .bool u, .bool d]
              have r1 : Row w1 g 28 [.int .i64 f, .bool false, .bool wr, .bool h, .bool true, .bool u, .bool d] := by rw [hw1, hg]; exact Row.new w _ _
              have hpl := checkPlace_any (H.out.call b1) r p 0 HR.out HP.out
              rw [HZ.out] at hpl
              have HW := Lib.hid hw1
              have HG := Lib.hid hg
              have R1 := Lib.hid r1
              have B1 := Lib.hid b1
              clear hw1 hg r1 b1
              go_enter Try.func39, Try.ntmps39
              go_upto_region 1 with (fail)
              rw [← HW.out, ← HG.out]
              go_wp2_with fail
              refine hpl.mono ?_
              rintro e w2 ⟨rfl, hb2⟩
              have B2 := Lib.hid (B1.out.trans (hb2.mono B1.out.size))
              have r2 := R1.out.below hb2 R1.out.lt
              have R2 := Lib.hid r2
              obtain ⟨c0, c1, c2, c3, c4, c5, c6⟩ := r2.seven.1
              have H2 := Lib.hid ((H.out.call B1.out).call hb2)
              clear hpl hb2 r2 B1 R1
              go_wp2_with fail
              refine (check_any f false wr h true u d _).mono ?_
              rw [HC.out]
              rintro e w3 ⟨rfl, hb3⟩
              have B3 := Lib.hid (B2.out.trans (hb3.mono B2.out.size))
              have r3 := R2.out.below hb3 R2.out.lt
              clear c0 c1 c2 c3 c4 c5 c6
              obtain ⟨c0, c1, c2, c3, c4, c5, c6⟩ := r3.seven.1
              have H3 := Lib.hid (H2.out.call hb3)
              clear hb3 r3 B2 R2 H2
              go_wp2_with fail
              refine (even_any f HF.out.1 HF.out.2 _).mono ?_
              rw [HE.out]
              rintro e w4 ⟨rfl, rfl⟩
              go_wp2_with fail
              go_ret
              exact ⟨rfl, B3.out⟩
          · clear hl
            obtain ⟨g, hg⟩ : ∃ g, g = w.heap.size := ⟨_, rfl⟩
            obtain ⟨w1, hw1⟩ : ∃ w1, w1 = w.alloc (.cells #[.int .i64 f, .bool true, .bool wr, .bool h, .bool k, .bool u, .bool d] 28) := ⟨_, rfl⟩
            have b1 : Below w.heap.size w w1 := hw1 ▸ below_new w 28 [.int .i64 f, .bool true, .bool wr, .bool h, .bool k, .bool u, .bool d]
            have r1 : Row w1 g 28 [.int .i64 f, .bool true, .bool wr, .bool h, .bool k, .bool u, .bool d] := by rw [hw1, hg]; exact Row.new w _ _
            have hpl := checkPlace_any (H.out.call b1) r p o HR.out HP.out
            rw [HZ.out] at hpl
            have HW := Lib.hid hw1
            have HG := Lib.hid hg
            have R1 := Lib.hid r1
            have B1 := Lib.hid b1
            clear hw1 hg r1 b1
            go_enter Try.func39, Try.ntmps39
            go_upto_region 1 with (fail)
            rw [← HW.out, ← HG.out]
            go_wp2_with fail
            refine hpl.mono ?_
            rintro e w2 ⟨rfl, hb2⟩
            have B2 := Lib.hid (B1.out.trans (hb2.mono B1.out.size))
            have r2 := R1.out.below hb2 R1.out.lt
            have R2 := Lib.hid r2
            obtain ⟨c0, c1, c2, c3, c4, c5, c6⟩ := r2.seven.1
            have H2 := Lib.hid ((H.out.call B1.out).call hb2)
            clear hpl hb2 r2 B1 R1
            go_wp2_with fail
            refine (check_any f true wr h k u d _).mono ?_
            rw [HC.out]
            rintro e w3 ⟨rfl, hb3⟩
            have B3 := Lib.hid (B2.out.trans (hb3.mono B2.out.size))
            have r3 := R2.out.below hb3 R2.out.lt
            clear c0 c1 c2 c3 c4 c5 c6
            obtain ⟨c0, c1, c2, c3, c4, c5, c6⟩ := r3.seven.1
            have H3 := Lib.hid (H2.out.call hb3)
            clear hb3 r3 B2 R2 H2
            go_wp2_with fail
            refine (even_any f HF.out.1 HF.out.2 _).mono ?_
            rw [HE.out]
            rintro e w4 ⟨rfl, rfl⟩
            go_wp2_with fail
            go_ret
            exact ⟨rfl, B3.out⟩
        · have HE := Lib.hid he
          clear he
          rw [Bool.true_and]
          cases hx : decide (frE f o = 0)
          · rw [if_neg (by simp)]
            obtain ⟨c, ec⟩ : ∃ c, frE f o = c := ⟨_, rfl⟩
            have hcn : (c != 0) = true := by rw [ec] at hx; simpa using hx
            have HX := Lib.hid ec
            clear hx ec
            cases pr
            · cases k
              · simp [leafy] at hl
              · obtain rfl : o = 0 := by simpa [leafy] using hl
                clear hl
                obtain ⟨g, hg⟩ : ∃ g, g = w.heap.size := ⟨_, rfl⟩
                obtain ⟨w1, hw1⟩ : ∃ w1, w1 = w.alloc (.cells #[.int .i64 f, .bool false, .bool wr, .bool h, .bool true, .bool u, .bool d] 28) := ⟨_, rfl⟩
                have b1 : Below w.heap.size w w1 := hw1 ▸ below_new w 28 [.int .i64 f, .bool false, .bool wr, .bool h, .bool true, .bool u, .bool d]
                have r1 : Row w1 g 28 [.int .i64 f, .bool false, .bool wr, .bool h, .bool true, .bool u, .bool d] := by rw [hw1, hg]; exact Row.new w _ _
                have hpl := checkPlace_any (H.out.call b1) r p 0 HR.out HP.out
                rw [HZ.out] at hpl
                have HW := Lib.hid hw1
                have HG := Lib.hid hg
                have R1 := Lib.hid r1
                have B1 := Lib.hid b1
                clear hw1 hg r1 b1
                go_enter Try.func39, Try.ntmps39
                go_upto_region 1 with (fail)
                rw [← HW.out, ← HG.out]
                go_wp2_with fail
                refine hpl.mono ?_
                rintro e w2 ⟨rfl, hb2⟩
                have B2 := Lib.hid (B1.out.trans (hb2.mono B1.out.size))
                have r2 := R1.out.below hb2 R1.out.lt
                have R2 := Lib.hid r2
                obtain ⟨c0, c1, c2, c3, c4, c5, c6⟩ := r2.seven.1
                have H2 := Lib.hid ((H.out.call B1.out).call hb2)
                clear hpl hb2 r2 B1 R1
                go_wp2_with fail
                refine (check_any f false wr h true u d _).mono ?_
                rw [HC.out]
                rintro e w3 ⟨rfl, hb3⟩
                have B3 := Lib.hid (B2.out.trans (hb3.mono B2.out.size))
                have r3 := R2.out.below hb3 R2.out.lt
                clear c0 c1 c2 c3 c4 c5 c6
                obtain ⟨c0, c1, c2, c3, c4, c5, c6⟩ := r3.seven.1
                have H3 := Lib.hid (H2.out.call hb3)
                clear hb3 r3 B2 R2 H2
                go_wp2_with fail
                refine (even_any f HF.out.1 HF.out.2 _).mono ?_
                rw [HE.out]
                rintro e w4 ⟨rfl, rfl⟩
                go_wp2_with fail
                refine (checkFrames_at H3.out f 0 (Or.inl rfl)).mono ?_
                rw [HX.out]
                rintro e w4 ⟨rfl, nd, rfl⟩
                have B4 := Lib.hid (drewN_belowT B3.out nd)
                go_wp2_with fail
                go_ret
                exact ⟨rfl, B4.out⟩
            · clear hl
              obtain ⟨g, hg⟩ : ∃ g, g = w.heap.size := ⟨_, rfl⟩
              obtain ⟨w1, hw1⟩ : ∃ w1, w1 = w.alloc (.cells #[.int .i64 f, .bool true, .bool wr, .bool h, .bool k, .bool u, .bool d] 28) := ⟨_, rfl⟩
              have b1 : Below w.heap.size w w1 := hw1 ▸ below_new w 28 [.int .i64 f, .bool true, .bool wr, .bool h, .bool k, .bool u, .bool d]
              have r1 : Row w1 g 28 [.int .i64 f, .bool true, .bool wr, .bool h, .bool k, .bool u, .bool d] := by rw [hw1, hg]; exact Row.new w _ _
              have hpl := checkPlace_any (H.out.call b1) r p o HR.out HP.out
              rw [HZ.out] at hpl
              have HW := Lib.hid hw1
              have HG := Lib.hid hg
              have R1 := Lib.hid r1
              have B1 := Lib.hid b1
              clear hw1 hg r1 b1
              go_enter Try.func39, Try.ntmps39
              go_upto_region 1 with (fail)
              rw [← HW.out, ← HG.out]
              go_wp2_with fail
              refine hpl.mono ?_
              rintro e w2 ⟨rfl, hb2⟩
              have B2 := Lib.hid (B1.out.trans (hb2.mono B1.out.size))
              have r2 := R1.out.below hb2 R1.out.lt
              have R2 := Lib.hid r2
              obtain ⟨c0, c1, c2, c3, c4, c5, c6⟩ := r2.seven.1
              have H2 := Lib.hid ((H.out.call B1.out).call hb2)
              clear hpl hb2 r2 B1 R1
              go_wp2_with fail
              refine (check_any f true wr h k u d _).mono ?_
              rw [HC.out]
              rintro e w3 ⟨rfl, hb3⟩
              have B3 := Lib.hid (B2.out.trans (hb3.mono B2.out.size))
              have r3 := R2.out.below hb3 R2.out.lt
              clear c0 c1 c2 c3 c4 c5 c6
              obtain ⟨c0, c1, c2, c3, c4, c5, c6⟩ := r3.seven.1
              have H3 := Lib.hid (H2.out.call hb3)
              clear hb3 r3 B2 R2 H2
              go_wp2_with fail
              refine (even_any f HF.out.1 HF.out.2 _).mono ?_
              rw [HE.out]
              rintro e w4 ⟨rfl, rfl⟩
              go_wp2_with fail
              refine (checkFrames_at H3.out f o HO.out).mono ?_
              rw [HX.out]
              rintro e w4 ⟨rfl, nd, rfl⟩
              have B4 := Lib.hid (drewN_belowT B3.out nd)
              go_wp2_with fail
              go_ret
              exact ⟨rfl, B4.out⟩
          · rw [if_pos (by simp)]
            obtain ⟨c, ec⟩ : ∃ c, frE f o = c := ⟨_, rfl⟩
            have hcn : (c != 0) = false := by rw [ec] at hx; simpa using hx
            have HX := Lib.hid ec
            clear hx ec
            cases pr
            · cases k
              · simp [leafy] at hl
              · obtain rfl : o = 0 := by simpa [leafy] using hl
                clear hl
                obtain ⟨g, hg⟩ : ∃ g, g = w.heap.size := ⟨_, rfl⟩
                obtain ⟨w1, hw1⟩ : ∃ w1, w1 = w.alloc (.cells #[.int .i64 f, .bool false, .bool wr, .bool h, .bool true, .bool u, .bool d] 28) := ⟨_, rfl⟩
                have b1 : Below w.heap.size w w1 := hw1 ▸ below_new w 28 [.int .i64 f, .bool false, .bool wr, .bool h, .bool true, .bool u, .bool d]
                have r1 : Row w1 g 28 [.int .i64 f, .bool false, .bool wr, .bool h, .bool true, .bool u, .bool d] := by rw [hw1, hg]; exact Row.new w _ _
                have hpl := checkPlace_any (H.out.call b1) r p 0 HR.out HP.out
                rw [HZ.out] at hpl
                have HW := Lib.hid hw1
                have HG := Lib.hid hg
                have R1 := Lib.hid r1
                have B1 := Lib.hid b1
                clear hw1 hg r1 b1
                go_enter Try.func39, Try.ntmps39
                go_upto_region 1 with (fail)
                rw [← HW.out, ← HG.out]
                go_wp2_with fail
                refine hpl.mono ?_
                rintro e w2 ⟨rfl, hb2⟩
                have B2 := Lib.hid (B1.out.trans (hb2.mono B1.out.size))
                have r2 := R1.out.below hb2 R1.out.lt
                have R2 := Lib.hid r2
                obtain ⟨c0, c1, c2, c3, c4, c5, c6⟩ := r2.seven.1
                have H2 := Lib.hid ((H.out.call B1.out).call hb2)
                clear hpl hb2 r2 B1 R1
                go_wp2_with fail
                refine (check_any f false wr h true u d _).mono ?_
                rw [HC.out]
                rintro e w3 ⟨rfl, hb3⟩
                have B3 := Lib.hid (B2.out.trans (hb3.mono B2.out.size))
                have r3 := R2.out.below hb3 R2.out.lt
                clear c0 c1 c2 c3 c4 c5 c6
                obtain ⟨c0, c1, c2, c3, c4, c5, c6⟩ := r3.seven.1
                have H3 := Lib.hid (H2.out.call hb3)
                clear hb3 r3 B2 R2 H2
                go_wp2_with fail
                refine (even_any f HF.out.1 HF.out.2 _).mono ?_
                rw [HE.out]
                rintro e w4 ⟨rfl, rfl⟩
                go_wp2_with fail
                refine (checkFrames_at H3.out f 0 (Or.inl rfl)).mono ?_
                rw [HX.out]
                rintro e w4 ⟨rfl, nd, rfl⟩
                have B4 := Lib.hid (drewN_belowT B3.out nd)
                go_wp2_with fail
                go_ret
                exact ⟨rfl, B4.out⟩
            · clear hl
              obtain ⟨g, hg⟩ : ∃ g, g = w.heap.size := ⟨_, rfl⟩
              obtain ⟨w1, hw1⟩ : ∃ w1, w1 = w.alloc (.cells #[.int .i64 f, .bool true, .bool wr, .bool h, .bool k, .bool u, .bool d] 28) := ⟨_, rfl⟩
              have b1 : Below w.heap.size w w1 := hw1 ▸ below_new w 28 [.int .i64 f, .bool true, .bool wr, .bool h, .bool k, .bool u, .bool d]
              have r1 : Row w1 g 28 [.int .i64 f, .bool true, .bool wr, .bool h, .bool k, .bool u, .bool d] := by rw [hw1, hg]; exact Row.new w _ _
              have hpl := checkPlace_any (H.out.call b1) r p o HR.out HP.out
              rw [HZ.out] at hpl
              have HW := Lib.hid hw1
              have HG := Lib.hid hg
              have R1 := Lib.hid r1
              have B1 := Lib.hid b1
              clear hw1 hg r1 b1
              go_enter Try.func39, Try.ntmps39
              go_upto_region 1 with (fail)
              rw [← HW.out, ← HG.out]
              go_wp2_with fail
              refine hpl.mono ?_
              rintro e w2 ⟨rfl, hb2⟩
              have B2 := Lib.hid (B1.out.trans (hb2.mono B1.out.size))
              have r2 := R1.out.below hb2 R1.out.lt
              have R2 := Lib.hid r2
              obtain ⟨c0, c1, c2, c3, c4, c5, c6⟩ := r2.seven.1
              have H2 := Lib.hid ((H.out.call B1.out).call hb2)
              clear hpl hb2 r2 B1 R1
              go_wp2_with fail
              refine (check_any f true wr h k u d _).mono ?_
              rw [HC.out]
              rintro e w3 ⟨rfl, hb3⟩
              have B3 := Lib.hid (B2.out.trans (hb3.mono B2.out.size))
              have r3 := R2.out.below hb3 R2.out.lt
              clear c0 c1 c2 c3 c4 c5 c6
              obtain ⟨c0, c1, c2, c3, c4, c5, c6⟩ := r3.seven.1
              have H3 := Lib.hid (H2.out.call hb3)
              clear hb3 r3 B2 R2 H2
              go_wp2_with fail
              refine (even_any f HF.out.1 HF.out.2 _).mono ?_
              rw [HE.out]
              rintro e w4 ⟨rfl, rfl⟩
              go_wp2_with fail
              refine (checkFrames_at H3.out f o HO.out).mono ?_
              rw [HX.out]
              rintro e w4 ⟨rfl, nd, rfl⟩
              have B4 := Lib.hid (drewN_belowT B3.out nd)
              go_wp2_with fail
              go_ret
              exact ⟨rfl, B4.out⟩
  · rw [if_neg hz]
    obtain ⟨z, ez⟩ : ∃ z, plE R r p o = z := ⟨_, rfl⟩
    have hzn : (z != 0) = true := by rw [ez] at hz; simpa using hz
    have HZ := Lib.hid ez
    rw [ez]
    clear hz ez
    obtain ⟨g, hg⟩ : ∃ g, g = w.heap.size := ⟨_, rfl⟩
    obtain ⟨w1, hw1⟩ : ∃ w1, w1 = w.alloc (.cells #[.int .i64 f, .bool pr, .bool wr, .bool h, .bool k, .bool u, .bool d] 28) := ⟨_, rfl⟩
    have b1 : Below w.heap.size w w1 := hw1 ▸ below_new w 28 [.int .i64 f, .bool pr, .bool wr, .bool h, .bool k, .bool u, .bool d]
    have r1 : Row w1 g 28 [.int .i64 f, .bool pr, .bool wr, .bool h, .bool k, .bool u, .bool d] := by rw [hw1, hg]; exact Row.new w _ _
    have hpl := checkPlace_any (H.out.call b1) r p o HR.out HP.out
    rw [HZ.out] at hpl
    have HW := Lib.hid hw1
    have HG := Lib.hid hg
    have R1 := Lib.hid r1
    have B1 := Lib.hid b1
    clear hw1 hg r1 b1
    go_enter Try.func39, Try.ntmps39
    go_upto_region 1 with (fail)
    rw [← HW.out, ← HG.out]
    go_wp2_with fail
    refine hpl.mono ?_
    rintro e w2 ⟨rfl, hb2⟩
    have B2 := Lib.hid (B1.out.trans (hb2.mono B1.out.size))
    have r2 := R1.out.below hb2 R1.out.lt
    have R2 := Lib.hid r2
    obtain ⟨c0, c1, c2, c3, c4, c5, c6⟩ := r2.seven.1
    have H2 := Lib.hid ((H.out.call B1.out).call hb2)
    clear hpl hb2 r2 B1 R1
    go_wp2_with fail
    go_ret
    exact ⟨rfl, B2.out⟩
end
end Go.Proofs.Ytpcpcgbejinlmaa
/- Frames for tables that are given back: a range over slices.Backward. -/
namespace Go.Proofs.Ytpcpcgbejinlmaa
open Go.RowKit Go.Shelf
attribute [local go_sem] Oper.semAt_some
def bkAt (l : List Int) (k : Nat) : Int × Int := ((l.length : Int) - 1 - k, l.getD (l.length - 1 - k) 0)
def bkUp (l : List Int) (k : Nat) : List (Int × Int) := (List.range k).map (bkAt l)
theorem bkUp_succ (l : List Int) (k : Nat) : bkUp l (k + 1) = bkUp l k ++ [bkAt l k] := by simp [bkUp, List.range_succ]
theorem bkUp_length (l : List Int) (k : Nat) : (bkUp l k).length = k := by simp [bkUp]
theorem bkUp_all (l : List Int) : (bkUp l l.length).map (·.2) = l.reverse := by
  apply List.ext_getElem
  · simp [bkUp]
  · intro i h1 h2
    simp [bkUp] at h1
    simp only [bkUp, List.map_map, List.getElem_map, List.getElem_range, Function.comp, bkAt, List.getElem_reverse]
    rw [List.getD_eq_getElem?_getD, List.getElem?_eq_getElem (by omega)]
    rfl
def KpC (g b : Nat) (W W' : World) : Prop := W.heap.size ≤ W'.heap.size ∧ ∀ k, k = g ∨ k = b → k < W.heap.size → W'.heap[k]? = W.heap[k]?
theorem KpC.trans {g b : Nat} {A B C : World} (h : KpC g b A B) (k : KpC g b B C) : KpC g b A C :=
  ⟨Nat.le_trans h.1 k.1, fun i hi hl => (k.2 i hi (Nat.lt_of_lt_of_le hl h.1)).trans (h.2 i hi hl)⟩
theorem KpC.put {g b : Nat} {w : World} (hg : g < w.heap.size) (hb : b < w.heap.size) (W : World) (l : Nat) (o o' : Obj) (hl : w.heap.size ≤ l) (_ : W.heap[l]? = some o) (_ : o.isCells = false) (_ : o.isWalk = false) : KpC g b W (W.putObj l o') :=
  ⟨by simp, fun k hk _ => World.putObj_heap_other (by rcases hk with rfl | rfl <;> omega)⟩
set_option maxRecDepth 100000 in
set_option maxHeartbeats 2000000 in
theorem back1_in (F : Fence) (n : Nat) (hF : F.fn 73) (hro : F.round = none) (hn : 1 ≤ n) (q Bs : Nat) (a : Addr) (cap : Nat) (l : List Int) (hlen : l.length ≤ 100000) (J Jx : List (Int × Int) → World → Prop)
    (hY : ∀ pre x W, J pre W → pre.length < l.length → YieldAt F (n - 1) Try.prog q #[.int .i64 x.1, .int .i64 x.2] W fun e W' =>
      (e = .returned (.bool true) ∧ J (pre ++ [x]) W' ∧ KpC a.block Bs W W') ∨ (e = .returned (.bool false) ∧ Jx (pre ++ [x]) W'))
    (W : World) (hBs : W.cell? ⟨Bs, 0, none⟩ = some (.slice (some a) l.length cap)) (hBl : Bs < W.heap.size) (hab : a.block < W.heap.size) (hc : ∀ j, j < l.length → W.cell? (a.add j) = some (.int .i64 (l.getD j 0))) (h0 : J [] W) :
    CallsIn F n Try.prog 73 #[.func (.yield q) #[] #[], .pointer (some ⟨Bs, 0, none⟩)] W fun e W' => (∃ v, e = .returned v) ∧
      ((∃ ys, ys = bkUp l l.length ∧ J ys W') ∨ (∃ pre, (∃ k, k ≤ l.length ∧ pre = bkUp l k) ∧ Jx pre W')) := by
  refine callsIn_of_wp Try.func73 rfl hF ?_ hro
  simp only [Try.ntmps73, List.size_toArray, List.length_cons, List.length_nil, Nat.reduceAdd, Nat.reduceSub, Array.replicate_succ, Array.replicate_zero, List.push_toArray, List.append_toArray, List.nil_append, List.cons_append]
  obtain ⟨m, hm⟩ : ∃ m, m = l.length := ⟨_, rfl⟩
  have HM := Lib.hid hm
  rw [← hm] at hlen hBs
  gi_wp2
  gi_loopw [3] (fun i wr => ∃ k : Nat, k ≤ l.length ∧ i = .int .i64 ((m : Int) - 1 - k) ∧ J (bkUp l k) wr ∧ KpC a.block Bs W wr)
    (fun i _ => (intOf i + 1).toNat)
  case atStart => exact ⟨0, Nat.zero_le _, by simp [hm], h0, Nat.le_refl _, fun _ _ _ => rfl⟩
  case round =>
    obtain ⟨k, hk, rfl, hJs, hnx⟩ := hrel
    by_cases hlt : k < l.length
    · obtain ⟨j, hj⟩ : ∃ j : Nat, (m : Int) - 1 - k = j := ⟨m - 1 - k, by omega⟩
      have hjl : j < l.length := by omega
      have hcx : wr.cell? (a.add j) = some (.int .i64 (l.getD j 0)) := by
        rw [← hc j hjl]
        refine World.cell?_of_block ?_
        have : (a.add j).block = a.block := by unfold Addr.add; split <;> rfl
        rw [this]
        exact hnx.2 _ (Or.inl rfl) hab
      have hbx : wr.cell? ⟨Bs, 0, none⟩ = some (.slice (some a) m cap) := by
        rw [← hBs]
        exact World.cell?_of_block (hnx.2 _ (Or.inr rfl) hBl)
      have hat : bkAt l k = ((j : Int), l.getD j 0) := by
        unfold bkAt
        rw [← hm, hj, show m - 1 - k = j by omega]
      obtain ⟨fn, tmps, assign, body, hy, hR⟩ := hY _ (bkAt l k) wr hJs (by rw [bkUp_length]; exact hlt)
      rw [hat] at hy
      dsimp only at hy
      rw [hj]
      have hjm : (j : Int) < m := by omega
      have hj0 : (0 : Int) ≤ j := by omega
      have hm5 : (m : Int) ≤ 100000 := by omega
      obtain ⟨x, hx⟩ : ∃ x, x = l.getD j 0 := ⟨_, rfl⟩
      rw [← hx] at hcx hy
      have HX := Lib.hid hx
      have HJ := Lib.hid hj
      clear hx hj hat
      gi_wp2
      refine hR.mono ?_
      rintro e W3 (⟨rfl, hJ3, hk3⟩ | ⟨rfl, hJx3⟩)
      · gi_wp2
        go_roundw
        case rel => exact ⟨k + 1, by omega, by have := HJ.out; go_num, by rw [bkUp_succ]; exact hJ3, hnx.trans hk3⟩
        case measure => have := HJ.out; simp [intOf]
      · gi_wp2
        refine bodyPost_ret (results_none rfl _ _ _) rfl ?_
        exact ⟨⟨_, rfl⟩, .inr ⟨_, ⟨k + 1, by omega, (bkUp_succ _ _).symm⟩, hJx3⟩⟩
    · obtain rfl : k = l.length := by omega
      have e1 : (m : Int) - 1 - (l.length : Nat) = -1 := by have := HM.out; omega
      rw [e1]
      gi_wp2
      go_end0
      exact ⟨⟨_, rfl⟩, .inl ⟨_, rfl, hJs⟩⟩
set_option maxRecDepth 100000 in
set_option maxHeartbeats 1000000 in
theorem back0_in (F : Fence) (n : Nat) (hF : F.fn 73) (hro : F.round = none) (q Bs : Nat) (A : Option Addr) (cap : Nat) (J : List (Int × Int) → World → Prop) (W : World) (hBs : W.cell? ⟨Bs, 0, none⟩ = some (.slice A 0 cap)) (h0 : J [] W) :
    CallsIn F n Try.prog 73 #[.func (.yield q) #[] #[], .pointer (some ⟨Bs, 0, none⟩)] W fun e W' => (∃ v, e = .returned v) ∧ J [] W' := by
  refine callsIn_of_wp Try.func73 rfl hF ?_ hro
  simp only [Try.ntmps73, List.size_toArray, List.length_cons, List.length_nil, Nat.reduceAdd, Nat.reduceSub, Array.replicate_succ, Array.replicate_zero, List.push_toArray, List.append_toArray, List.nil_append, List.cons_append]
  gi_wp2
  gi_loopw [3] (fun i wr => i = .int .i64 (-1) ∧ J [] wr) (fun _ _ => 0)
  case atStart => exact ⟨rfl, h0⟩
  case round =>
    obtain ⟨rfl, hJs⟩ := hrel
    gi_wp2
    go_end0
    exact ⟨⟨_, rfl⟩, hJs⟩
set_option maxHeartbeats 1000000 in
theorem backward_in (F : Fence) (n : Nat) (hF : F.fn 53) (hro : F.round = none) (A : Option Addr) (m cap : Nat) (w : World) :
    CallsIn F n Try.prog 53 #[.slice A m cap] w fun e w' => e = .returned (.func (.func 73) #[] #[.pointer (some ⟨w.heap.size, 0, none⟩)]) ∧ w' = w.alloc (.cells #[.slice A m cap] 44) := by
  refine callsIn_of_wp Try.func53 rfl hF ?_ hro
  simp only [Try.ntmps53, List.size_toArray, List.length_cons, List.length_nil, Nat.reduceAdd, Nat.reduceSub, Array.replicate_succ, Array.replicate_zero, List.push_toArray, List.append_toArray, List.nil_append, List.cons_append]
  gi_wp2
  go_ret
  exact ⟨rfl, rfl⟩
theorem back_stops (F : Fence) (n : Nat) (hF : F.fn 73) (hro : F.round = none) (hn : 1 ≤ n) (Bs g : Nat) (A : Option Addr) (cap : Nat) (l : List Int) (hlen : l.length ≤ 100000) (w : World) (hBl : Bs < w.heap.size)
    (hBs : w.cell? ⟨Bs, 0, none⟩ = some (.slice A l.length cap)) (hA : 0 < l.length → ∃ a, A = some a ∧ a.block = g ∧ g < w.heap.size ∧ ∀ j, j < l.length → w.cell? (a.add j) = some (.int .i64 (l.getD j 0))) :
    SeqStopsK F n Try.prog 73 #[.pointer (some ⟨Bs, 0, none⟩)] (fun x : Int × Int => #[Value.int .i64 x.1, Value.int .i64 x.2]) (KpC g Bs) (fun ys => ys = bkUp l l.length) (fun pre => ∃ k, k ≤ l.length ∧ pre = bkUp l k) l.length w := fun q J Jx W hW _ _ hY h0 => by
  have hc' := (hW.cell (p := ⟨Bs, 0, none⟩) hBl).trans hBs
  by_cases h : 0 < l.length
  · obtain ⟨a, rfl, rfl, hg, hc⟩ := hA h
    have hcs : ∀ j, j < l.length → W.cell? (a.add j) = some (.int .i64 (l.getD j 0)) := fun j hj => by
      rw [← hc j hj]
      have : (a.add j).block = a.block := by unfold Addr.add; split <;> rfl
      exact hW.cell (by rw [this]; exact hg)
    exact back1_in F n hF hro hn q Bs a cap l hlen J Jx hY W hc' (Nat.lt_of_lt_of_le hBl hW.size) (Nat.lt_of_lt_of_le hg hW.size) hcs h0
  · have h0' : l.length = 0 := by omega
    rw [h0'] at hc'
    refine (back0_in F n hF hro q Bs A cap J W hc' h0).mono fun e W' ⟨he, hj⟩ => ⟨he, .inl ⟨[], ?_, hj⟩⟩
    rw [h0']; rfl
section
variable {w W W' : World} {s : Seat} {v v' : Value} {ws L R : List Int}
theorem Tab.step {B : Nat} {row : Option Nat} (h : Tab W s v ws L R) (hm : s.m < B) (hg : W.grownBy W' row) (hr : ∀ r, row = some r → B ≤ r ∧ ∃ o : Obj, W.heap[r]? = some o ∧ o.isCells = false) : Tab W' s v ws L R := by
  have hrow : ∀ {g : Nat} {t : TypeId} {c : Array Value} {p : Nat × Nat}, W.heap[g]? = some (.cells c t p) → some g ≠ row := fun hc e => by
    obtain ⟨-, o, ho, hno⟩ := hr _ e.symm
    rw [hc] at ho
    injection ho with ho
    rw [← ho] at hno
    cases hno
  have em : some s.m ≠ row := fun e => by have := (hr _ e.symm).1; omega
  refine ⟨h.ram.grown hg (hrow h.ram.top) (hrow h.ram.row), ⟨h.bag.top.grown hg (hrow h.bag.top), ?_, h.bag.len⟩, h.top.grown hg (hrow h.top), h.set.heap (hg.block _ h.set.lt em), h.yC, Nat.le_trans h.Cw hg.size⟩
  cases e : v.ownBlock with
  | none => exact h.bag.row.kept hg (Or.inl e)
  | some z =>
    obtain ⟨-, -, cur, hc⟩ := h.own e
    exact h.bag.row.kept hg (Or.inr (by rw [e]; exact hrow hc))
theorem Mv.step {B : Nat} {row : Option Nat} (h : Mv s v w v' W) (hB : w.heap.size ≤ B) (hg : W.grownBy W' row) (hr : ∀ r, row = some r → B ≤ r ∧ ∃ o : Obj, W.heap[r]? = some o ∧ o.isCells = false) : Mv s v w v' W' :=
  ⟨⟨hg.os.trans h.foot.os, hg.tape.trans h.foot.tape, hg.output.trans h.foot.output, Nat.le_trans h.foot.size hg.size, fun k hk hn => (hg.block k (Nat.lt_of_lt_of_le hk h.foot.size) (fun e => by have := (hr k e.symm).1; omega)).trans (h.foot.keep k hk hn)⟩, h.own⟩
theorem tabPut {f : Int} (h : Tab W s v ws L R) (hL : L.length < 5000) : Calls Try.prog 113 #[.pointer (some ⟨s.y, 0, none⟩), .int .i64 f] W fun e W' => e = .returned (.tuple #[]) ∧ ∃ v', Tab W' s v' ws (L ++ [f]) R ∧ Mv s v W v' W' ∧ (∀ (k : Nat) (o : Obj), W.heap[k]? = some o → o.isCells = false → W'.heap[k]? = some o) := by
  refine (bagPut_any h.bag h.yC h.Cw hL f).mono ?_
  rintro e W' ⟨he, v', hb, hk, hs, ho, ht, hu, hn⟩
  have hfoot : Foot (fun k => k = s.y ∨ v.ownBlock = some k) W W' := ⟨ho, ht, hu, hs, fun k hl hx => hk k hl (fun e => hx (Or.inl e)) (fun e => hx (Or.inr e.symm))⟩
  have hrow : ∀ {g : Nat} {t : TypeId} {c : List Value}, Row W g t c → t ≠ 46 → t ≠ 3 → Row W' g t c := fun r h1 h2 => hfoot.row r (by
    rintro (e | e)
    · exact r.apart h.bag.top h1 e
    · obtain ⟨-, -, cur, hc⟩ := h.own e
      unfold Row at r
      rw [r] at hc
      injection hc with hc
      injection hc with _ hc
      exact h2 hc)
  have hcl : ∀ (k : Nat) (o : Obj), W.heap[k]? = some o → o.isCells = false → W'.heap[k]? = some o := fun k o hko hno => by
    rw [← hko]
    refine hfoot.keep k (Array.getElem?_eq_some_iff.1 hko).1 ?_
    rintro (rfl | e)
    · have := h.bag.top
      unfold Row at this
      rw [this] at hko
      injection hko with hko
      rw [← hko] at hno
      cases hno
    · obtain ⟨-, -, cur, hc⟩ := h.own e
      rw [hc] at hko
      injection hko with hko
      rw [← hko] at hno
      cases hno
  refine ⟨he, v', ⟨⟨h.ram.len, h.ram.m8, h.ram.lo, h.ram.hi, h.ram.words, hrow h.ram.top (by decide) (by decide), hrow h.ram.row (by decide) (by decide), h.ram.ne⟩, hb, hrow h.top (by decide) (by decide), ?_, h.yC, Nat.le_trans h.Cw hs⟩, ⟨hfoot.mono fun k hk => ?_, hn⟩, hcl⟩
  · obtain ⟨D, ⟨es, clock, hb0, r⟩, h2⟩ := h.set
    exact ⟨D, ⟨es, clock, hcl _ _ hb0 rfl, r⟩, h2⟩
  · rcases hk with e | e
    · exact Or.inr (Or.inl e)
    · exact Or.inr (Or.inr (Or.inr e))
end
theorem meth_put (k : Nat) (w : World) (a : Addr) : (method (k + 1) 36 (.pointer (some a)) "Put").run Try.prog w = .ok (113, .pointer (some a)) w := by kernel_rfl
theorem meth_get (k : Nat) (w : World) (a : Addr) : (method (k + 1) 36 (.pointer (some a)) "Get").run Try.prog w = .ok (112, .pointer (some a)) w := by kernel_rfl
end Go.Proofs.Ytpcpcgbejinlmaa
