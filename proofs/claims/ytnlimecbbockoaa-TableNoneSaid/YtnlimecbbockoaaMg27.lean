/- The contract of package table's look at a leaf's entry. -/
import Derived.Test.YtnlimecbbockoaaMg26
import Derived.Test.YtnlimecbbockoaaMg05
namespace Go.Proofs.Ytnlimecbbockoaa
open Go.RowKit
/-- May this stand as a leaf? -/
def leafy (o : Int) (pr k : Bool) : Bool := pr || (k && decide (o = 0))
def lfOk (o f : Int) (pr wr h k u d : Bool) : Bool := leafy o pr k && decide (chkI f pr wr h k u d = 0) && evB f o && decide (frE f o = 0)
def lfE (R : List Int) (r p o f : Int) (pr wr h k u d : Bool) : Int := if plE R r p o = 0 then (if lfOk o f pr wr h k u d = true then 0 else 2) else plE R r p o
theorem plE_ok {R : List Int} {r p o : Int} (h : plE R r p o = 0) : r ∈ R ∧ (o = 0 ∨ o = 3 ∨ o = 6) ∧ 0 ≤ p ∧ p ≤ 4095 ∧ p % szO o = 0 := by
  unfold plE at h
  split at h
  · rename_i hr
    have := wrO_ok h
    exact ⟨hr, this.1, this.2.1, this.2.2.1, this.2.2.2⟩
  · omega
theorem drewN_belowT {B : Nat} {w w' : World} (h : Below B w w') (n : Nat) : Below B w (w'.drewN n) := ⟨h.os, h.tape, h.output, h.size, h.block⟩
section
variable {w : World} {s : Seat} {v : Value} {ws L R : List Int}
theorem checkLeaf_nil (r p o f : Int) (pr wr h k u d : Bool) (w : World) : Calls Try.prog 41 #[.pointer none, .int .i64 r, .int .i64 p, .int .i64 o, .agg #[.int .i64 f, .bool pr, .bool wr, .bool h, .bool k, .bool u, .bool d]] w fun e w' => e = .returned (.int .i64 1) ∧ Below w.heap.size w w' := by
  go_enter Try.func41, Try.ntmps41
  go_wp2_with (go_at_call 38; refine (checkPlace_nil _ _ _ _).mono ?_; rintro e w' ⟨rfl, rfl⟩)
  go_ret
  exact ⟨rfl, (Below.refl _ _).alloc (Nat.le_refl _) _⟩
set_option maxRecDepth 100000 in
set_option maxHeartbeats 2000000 in
theorem checkLeaf_any (H0 : Tab w s v ws L R) (r p o f : Int) (pr wr h k u d : Bool) (hr : Fits r) (hp : Fits p) (hf : Fits f) : Calls Try.prog 41 #[.pointer (some ⟨s.x, 0, none⟩), .int .i64 r, .int .i64 p, .int .i64 o, .agg #[.int .i64 f, .bool pr, .bool wr, .bool h, .bool k, .bool u, .bool d]] w fun e w' => e = .returned (.int .i64 (lfE R r p o f pr wr h k u d)) ∧ Below w.heap.size w w' := by
  have H := Lib.hid H0
  have HR := Lib.hid hr
  have HP := Lib.hid hp
  have HF := Lib.hid hf
  clear H0 hr hp hf
  unfold lfE
  by_cases hz : plE R r p o = 0
  · rw [if_pos hz]
    have HZ := Lib.hid hz
    have HO := Lib.hid (plE_ok hz).2.1
    clear hz
    unfold lfOk
    cases hl : leafy o pr k
    · rw [if_neg (by simp)]
      cases pr
      · cases k
        · clear hl
          obtain ⟨g, hg⟩ : ∃ g, g = w.heap.size := ⟨_, rfl⟩
          obtain ⟨w1, hw1⟩ : ∃ w1, w1 = w.alloc (.cells #[.int .i64 f, .bool false, .bool wr, .bool h, .bool false, .bool u, .bool d] 28) := ⟨_, rfl⟩
          have b1 : Below w.heap.size w w1 := hw1 ▸ below_new w 28 [.int .i64 f, .bool false, .bool wr, .bool h, .bool false, .bool u, .bool d]
          have r1 : Row w1 g 28 [.int .i64 f, .bool false, .bool wr, .bool h, .bool false, .bool u, .bool d] := by rw [hw1, hg]; exact Row.new w _ _
          have hpl := checkPlace_any (H.out.call b1) r p o HR.out HP.out
          rw [HZ.out] at hpl
          have HW := Lib.hid hw1
          have HG := Lib.hid hg
          have R1 := Lib.hid r1
          have B1 := Lib.hid b1
          clear hw1 hg r1 b1
          go_enter Try.func41, Try.ntmps41
          go_upto_region 1 with (fail)
          rw [← HW.out, ← HG.out]
          go_wp2_with fail
          refine hpl.mono ?_
          rintro e w2 ⟨rfl, hb2⟩
          have B2 := Lib.hid (B1.out.trans (hb2.mono B1.out.size))
          have r2 := R1.out.below hb2 R1.out.lt
          have R2 := Lib.hid r2
          obtain ⟨c0, c1, c2, c3, c4, c5, c6⟩ := r2.seven.1
          have H2 := Lib.hid ((H.out.call B1.out).call hb2)
          clear hpl hb2 r2 B1 R1
          go_wp2_with fail
          go_ret
          exact ⟨rfl, B2.out⟩
        · have ho : (o == 0) = false := by simp [leafy] at hl; simpa using hl
          clear hl
          obtain ⟨g, hg⟩ : ∃ g, g = w.heap.size := ⟨_, rfl⟩
          obtain ⟨w1, hw1⟩ : ∃ w1, w1 = w.alloc (.cells #[.int .i64 f, .bool false, .bool wr, .bool h, .bool true, .bool u, .bool d] 28) := ⟨_, rfl⟩
          have b1 : Below w.heap.size w w1 := hw1 ▸ below_new w 28 [.int .i64 f, .bool false, .bool wr, .bool h, .bool true, .bool u, .bool d]
          have r1 : Row w1 g 28 [.int .i64 f, .bool false, .bool wr, .bool h, .bool true, .bool u, .bool d] := by rw [hw1, hg]; exact Row.new w _ _
          have hpl := checkPlace_any (H.out.call b1) r p o HR.out HP.out
          rw [HZ.out] at hpl
          have HW := Lib.hid hw1
          have HG := Lib.hid hg
          have R1 := Lib.hid r1
          have B1 := Lib.hid b1
          clear hw1 hg r1 b1
          go_enter Try.func41, Try.ntmps41
          go_upto_region 1 with (fail)
          rw [← HW.out, ← HG.out]
          go_wp2_with fail
          refine hpl.mono ?_
          rintro e w2 ⟨rfl, hb2⟩
          have B2 := Lib.hid (B1.out.trans (hb2.mono B1.out.size))
          have r2 := R1.out.below hb2 R1.out.lt
          have R2 := Lib.hid r2
          obtain ⟨c0, c1, c2, c3, c4, c5, c6⟩ := r2.seven.1
          have H2 := Lib.hid ((H.out.call B1.out).call hb2)
          clear hpl hb2 r2 B1 R1
          go_wp2_with fail
          go_ret
          exact ⟨rfl, B2.out⟩
      · simp [leafy] at hl
    · rw [Bool.true_and]
      cases hc : decide (chkI f pr wr h k u d = 0)
      · rw [if_neg (by simp)]
        obtain ⟨c, ec⟩ : ∃ c, chkI f pr wr h k u d = c := ⟨_, rfl⟩
        have hcn : (c != 0) = true := by rw [ec] at hc; simpa using hc
        have HC := Lib.hid ec
        clear hc ec
        cases pr
        · cases k
          · simp [leafy] at hl
          · obtain rfl : o = 0 := by simpa [leafy] using hl
            clear hl
            obtain ⟨g, hg⟩ : ∃ g, g = w.heap.size := ⟨_, rfl⟩
            obtain ⟨w1, hw1⟩ : ∃ w1, w1 = w.alloc (.cells #[.int .i64 f, .bool false, .bool wr, .bool h, .bool true, .bool u, .bool d] 28) := ⟨_, rfl⟩
            have b1 : Below w.heap.size w w1 := hw1 ▸ below_new w 28 [.int .i64 f, .bool false, .bool wr, .bool h, .bool true, .bool u, .bool d]
            have r1 : Row w1 g 28 [.int .i64 f, .bool false, .bool wr, .bool h, .bool true, .bool u, .bool d] := by rw [hw1, hg]; exact Row.new w _ _
            have hpl := checkPlace_any (H.out.call b1) r p 0 HR.out HP.out
            rw [HZ.out] at hpl
            have HW := Lib.hid hw1
            have HG := Lib.hid hg
            have R1 := Lib.hid r1
            have B1 := Lib.hid b1
            clear hw1 hg r1 b1
            go_enter Try.func41, Try.ntmps41
            go_upto_region 1 with (fail)
            rw [← HW.out, ← HG.out]
            go_wp2_with fail
            refine hpl.mono ?_
            rintro e w2 ⟨rfl, hb2⟩
            have B2 := Lib.hid (B1.out.trans (hb2.mono B1.out.size))
            have r2 := R1.out.below hb2 R1.out.lt
            have R2 := Lib.hid r2
            obtain ⟨c0, c1, c2, c3, c4, c5, c6⟩ := r2.seven.1
            have H2 := Lib.hid ((H.out.call B1.out).call hb2)
            clear hpl hb2 r2 B1 R1
            go_wp2_with fail
            refine (check_any f false wr h true u d _).mono ?_
            rw [HC.out]
            rintro e w3 ⟨rfl, hb3⟩
            have B3 := Lib.hid (B2.out.trans (hb3.mono B2.out.size))
            have r3 := R2.out.below hb3 R2.out.lt
            clear c0 c1 c2 c3 c4 c5 c6
            obtain ⟨c0, c1, c2, c3, c4, c5, c6⟩ := r3.seven.1
            have H3 := Lib.hid (H2.out.call hb3)
            clear hb3 r3 B2 R2 H2
            go_wp2_with fail
            go_ret
            exact ⟨rfl, B3.out⟩
        · clear hl
          obtain ⟨g, hg⟩ : ∃ g, g = w.heap.size := ⟨_, rfl⟩
          obtain ⟨w1, hw1⟩ : ∃ w1, w1 = w.alloc (.cells #[.int .i64 f, .bool true, .bool wr, .bool h, .bool k, .bool u, .bool d] 28) := ⟨_, rfl⟩
          have b1 : Below w.heap.size w w1 := hw1 ▸ below_new w 28 [.int .i64 f, .bool true, .bool wr, .bool h, .bool k, .bool u, .bool d]
          have r1 : Row w1 g 28 [.int .i64 f, .bool true, .bool wr, .bool h, .bool k, .bool u, .bool d] := by rw [hw1, hg]; exact Row.new w _ _
          have hpl := checkPlace_any (H.out.call b1) r p o HR.out HP.out
          rw [HZ.out] at hpl
          have HW := Lib.hid hw1
          have HG := Lib.hid hg
          have R1 := Lib.hid r1
          have B1 := Lib.hid b1
          clear hw1 hg r1 b1
          go_enter Try.func41, Try.ntmps41
          go_upto_region 1 with (fail)
          rw [← HW.out, ← HG.out]
          go_wp2_with fail
          refine hpl.mono ?_
          rintro e w2 ⟨rfl, hb2⟩
          have B2 := Lib.hid (B1.out.trans (hb2.mono B1.out.size))
          have r2 := R1.out.below hb2 R1.out.lt
          have R2 := Lib.hid r2
          obtain ⟨c0, c1, c2, c3, c4, c5, c6⟩ := r2.seven.1
          have H2 := Lib.hid ((H.out.call B1.out).call hb2)
          clear hpl hb2 r2 B1 R1
          go_wp2_with fail
          refine (check_any f true wr h k u d _).mono ?_
          rw [HC.out]
          rintro e w3 ⟨rfl, hb3⟩
          have B3 := Lib.hid (B2.out.trans (hb3.mono B2.out.size))
          have r3 := R2.out.below hb3 R2.out.lt
          clear c0 c1 c2 c3 c4 c5 c6
          obtain ⟨c0, c1, c2, c3, c4, c5, c6⟩ := r3.seven.1
          have H3 := Lib.hid (H2.out.call hb3)
          clear hb3 r3 B2 R2 H2
          go_wp2_with fail
          go_ret
          exact ⟨rfl, B3.out⟩
      · have HC : Hid (chkI f pr wr h k u d = 0) := by show _ = _; simpa using hc
        clear hc
        rw [Bool.true_and]
        cases he : evB f o
        · rw [if_neg (by simp)]
          have HE := Lib.hid he
          clear he
          cases pr
          · cases k
            · simp [leafy] at hl
            · obtain rfl : o = 0 := by simpa [leafy] using hl
              clear hl
              obtain ⟨g, hg⟩ : ∃ g, g = w.heap.size := ⟨_, rfl⟩
              obtain ⟨w1, hw1⟩ : ∃ w1, w1 = w.alloc (.cells #[.int .i64 f, .bool false, .bool wr, .bool h, .bool true, .bool u, .bool d] 28) := ⟨_, rfl⟩
              have b1 : Below w.heap.size w w1 := hw1 ▸ below_new w 28 [.int .i64 f, .bool false, .bool wr, .bool h, .bool true, .bool u, .bool d]
              have r1 : Row w1 g 28 [.int .i64 f, .bool false, .bool wr, .bool h, .bool true, .bool u, .bool d] := by rw [hw1, hg]; exact Row.new w _ _
              have hpl := checkPlace_any (H.out.call b1) r p 0 HR.out HP.out
              rw [HZ.out] at hpl
              have HW := Lib.hid hw1
              have HG := Lib.hid hg
              have R1 := Lib.hid r1
              have B1 := Lib.hid b1
              clear hw1 hg r1 b1
              go_enter Try.func41, Try.ntmps41
              go_upto_region 1 with (fail)
              rw [← HW.out, ← HG.out]
              go_wp2_with fail
              refine hpl.mono ?_
              rintro e w2 ⟨rfl, hb2⟩
              have B2 := Lib.hid (B1.out.trans (hb2.mono B1.out.size))
              have r2 := R1.out.below hb2 R1.out.lt
              have R2 := Lib.hid r2
              obtain ⟨c0, c1, c2, c3, c4, c5, c6⟩ := r2.seven.1
              have H2 := Lib.hid ((H.out.call B1.out).call hb2)
              clear hpl hb2 r2 B1 R1
              go_wp2_with fail
              refine (check_any f false wr h true u d _).mono ?_
              rw [HC.out]
              rintro e w3 ⟨rfl, hb3⟩
              have B3 := Lib.hid (B2.out.trans (hb3.mono B2.out.size))
              have r3 := R2.out.below hb3 R2.out.lt
              clear c0 c1 c2 c3 c4 c5 c6
              obtain ⟨c0, c1, c2, c3, c4, c5, c6⟩ := r3.seven.1
              have H3 := Lib.hid (H2.out.call hb3)
              clear hb3 r3 B2 R2 H2
              go_wp2_with fail
              refine (even_any f HF.out.1 HF.out.2 _).mono ?_
              rw [HE.out]
              rintro e w4 ⟨rfl, rfl⟩
              go_wp2_with fail
              go_ret
              exact ⟨rfl, B3.out⟩
          · clear hl
            obtain ⟨g, hg⟩ : ∃ g, g = w.heap.size := ⟨_, rfl⟩
            obtain ⟨w1, hw1⟩ : ∃ w1, w1 = w.alloc (.cells #[.int .i64 f, .bool true, .bool wr, .bool h, .bool k, .bool u, .bool d] 28) := ⟨_, rfl⟩
            have b1 : Below w.heap.size w w1 := hw1 ▸ below_new w 28 [.int .i64 f, .bool true, .bool wr, .bool h, .bool k, .bool u, .bool d]
            have r1 : Row w1 g 28 [.int .i64 f, .bool true, .bool wr, .bool h, .bool k, .bool u, .bool d] := by rw [hw1, hg]; exact Row.new w _ _
            have hpl := checkPlace_any (H.out.call b1) r p o HR.out HP.out
            rw [HZ.out] at hpl
            have HW := Lib.hid hw1
            have HG := Lib.hid hg
            have R1 := Lib.hid r1
            have B1 := Lib.hid b1
            clear hw1 hg r1 b1
            go_enter Try.func41, Try.ntmps41
            go_upto_region 1 with (fail)
            rw [← HW.out, ← HG.out]
            go_wp2_with fail
            refine hpl.mono ?_
            rintro e w2 ⟨rfl, hb2⟩
            have B2 := Lib.hid (B1.out.trans (hb2.mono B1.out.size))
            have r2 := R1.out.below hb2 R1.out.lt
            have R2 := Lib.hid r2
            obtain ⟨c0, c1, c2, c3, c4, c5, c6⟩ := r2.seven.1
            have H2 := Lib.hid ((H.out.call B1.out).call hb2)
            clear hpl hb2 r2 B1 R1
            go_wp2_with fail
            refine (check_any f true wr h k u d _).mono ?_
            rw [HC.out]
            rintro e w3 ⟨rfl, hb3⟩
            have B3 := Lib.hid (B2.out.trans (hb3.mono B2.out.size))
            have r3 := R2.out.below hb3 R2.out.lt
            clear c0 c1 c2 c3 c4 c5 c6
            obtain ⟨c0, c1, c2, c3, c4, c5, c6⟩ := r3.seven.1
            have H3 := Lib.hid (H2.out.call hb3)
            clear hb3 r3 B2 R2 H2
            go_wp2_with fail
            refine (even_any f HF.out.1 HF.out.2 _).mono ?_
            rw [HE.out]
            rintro e w4 ⟨rfl, rfl⟩
            go_wp2_with fail
            go_ret
            exact ⟨rfl, B3.out⟩
        · have HE := Lib.hid he
          clear he
          rw [Bool.true_and]
          cases hx : decide (frE f o = 0)
          · rw [if_neg (by simp)]
            obtain ⟨c, ec⟩ : ∃ c, frE f o = c := ⟨_, rfl⟩
            have hcn : (c != 0) = true := by rw [ec] at hx; simpa using hx
            have HX := Lib.hid ec
            clear hx ec
            cases pr
            · cases k
              · simp [leafy] at hl
              · obtain rfl : o = 0 := by simpa [leafy] using hl
                clear hl
                obtain ⟨g, hg⟩ : ∃ g, g = w.heap.size := ⟨_, rfl⟩
                obtain ⟨w1, hw1⟩ : ∃ w1, w1 = w.alloc (.cells #[.int .i64 f, .bool false, .bool wr, .bool h, .bool true, .bool u, .bool d] 28) := ⟨_, rfl⟩
                have b1 : Below w.heap.size w w1 := hw1 ▸ below_new w 28 [.int .i64 f, .bool false, .bool wr, .bool h, .bool true, .bool u, .bool d]
                have r1 : Row w1 g 28 [.int .i64 f, .bool false, .bool wr, .bool h, .bool true, .bool u, .bool d] := by rw [hw1, hg]; exact Row.new w _ _
                have hpl := checkPlace_any (H.out.call b1) r p 0 HR.out HP.out
                rw [HZ.out] at hpl
                have HW := Lib.hid hw1
                have HG := Lib.hid hg
                have R1 := Lib.hid r1
                have B1 := Lib.hid b1
                clear hw1 hg r1 b1
                go_enter Try.func41, Try.ntmps41
                go_upto_region 1 with (fail)
                rw [← HW.out, ← HG.out]
                go_wp2_with fail
                refine hpl.mono ?_
                rintro e w2 ⟨rfl, hb2⟩
                have B2 := Lib.hid (B1.out.trans (hb2.mono B1.out.size))
                have r2 := R1.out.below hb2 R1.out.lt
                have R2 := Lib.hid r2
                obtain ⟨c0, c1, c2, c3, c4, c5, c6⟩ := r2.seven.1
                have H2 := Lib.hid ((H.out.call B1.out).call hb2)
                clear hpl hb2 r2 B1 R1
                go_wp2_with fail
                refine (check_any f false wr h true u d _).mono ?_
                rw [HC.out]
                rintro e w3 ⟨rfl, hb3⟩
                have B3 := Lib.hid (B2.out.trans (hb3.mono B2.out.size))
                have r3 := R2.out.below hb3 R2.out.lt
                clear c0 c1 c2 c3 c4 c5 c6
                obtain ⟨c0, c1, c2, c3, c4, c5, c6⟩ := r3.seven.1
                have H3 := Lib.hid (H2.out.call hb3)
                clear hb3 r3 B2 R2 H2
                go_wp2_with fail
                refine (even_any f HF.out.1 HF.out.2 _).mono ?_
                rw [HE.out]
                rintro e w4 ⟨rfl, rfl⟩
                go_wp2_with fail
                refine (checkFrames_at H3.out f 0 (Or.inl rfl)).mono ?_
                rw [HX.out]
                rintro e w4 ⟨rfl, nd, rfl⟩
                have B4 := Lib.hid (drewN_belowT B3.out nd)
                go_wp2_with fail
                go_ret
                exact ⟨rfl, B4.out⟩
            · clear hl
              obtain ⟨g, hg⟩ : ∃ g, g = w.heap.size := ⟨_, rfl⟩
              obtain ⟨w1, hw1⟩ : ∃ w1, w1 = w.alloc (.cells #[.int .i64 f, .bool true, .bool wr, .bool h, .bool k, .bool u, .bool d] 28) := ⟨_, rfl⟩
              have b1 : Below w.heap.size w w1 := hw1 ▸ below_new w 28 [.int .i64 f, .bool true, .bool wr, .bool h, .bool k, .bool u, .bool d]
              have r1 : Row w1 g 28 [.int .i64 f, .bool true, .bool wr, .bool h, .bool k, .bool u, .bool d] := by rw [hw1, hg]; exact Row.new w _ _
              have hpl := checkPlace_any (H.out.call b1) r p o HR.out HP.out
              rw [HZ.out] at hpl
              have HW := Lib.hid hw1
              have HG := Lib.hid hg
              have R1 := Lib.hid r1
              have B1 := Lib.hid b1
              clear hw1 hg r1 b1
              go_enter Try.func41, Try.ntmps41
              go_upto_region 1 with (fail)
              rw [← HW.out, ← HG.out]
              go_wp2_with fail
              refine hpl.mono ?_
              rintro e w2 ⟨rfl, hb2⟩
              have B2 := Lib.hid (B1.out.trans (hb2.mono B1.out.size))
              have r2 := R1.out.below hb2 R1.out.lt
              have R2 := Lib.hid r2
              obtain ⟨c0, c1, c2, c3, c4, c5, c6⟩ := r2.seven.1
              have H2 := Lib.hid ((H.out.call B1.out).call hb2)
              clear hpl hb2 r2 B1 R1
              go_wp2_with fail
              refine (check_any f true wr h k u d _).mono ?_
              rw [HC.out]
              rintro e w3 ⟨rfl, hb3⟩
              have B3 := Lib.hid (B2.out.trans (hb3.mono B2.out.size))
              have r3 := R2.out.below hb3 R2.out.lt
              clear c0 c1 c2 c3 c4 c5 c6
              obtain ⟨c0, c1, c2, c3, c4, c5, c6⟩ := r3.seven.1
              have H3 := Lib.hid (H2.out.call hb3)
              clear hb3 r3 B2 R2 H2
              go_wp2_with fail
              refine (even_any f HF.out.1 HF.out.2 _).mono ?_
              rw [HE.out]
              rintro e w4 ⟨rfl, rfl⟩
              go_wp2_with fail
              refine (checkFrames_at H3.out f o HO.out).mono ?_
              rw [HX.out]
              rintro e w4 ⟨rfl, nd, rfl⟩
              have B4 := Lib.hid (drewN_belowT B3.out nd)
              go_wp2_with fail
              go_ret
              exact ⟨rfl, B4.out⟩
          · rw [if_pos (by simp)]
            obtain ⟨c, ec⟩ : ∃ c, frE f o = c := ⟨_, rfl⟩
            have hcn : (c != 0) = false := by rw [ec] at hx; simpa using hx
            have HX := Lib.hid ec
            clear hx ec
            cases pr
            · cases k
              · simp [leafy] at hl
              · obtain rfl : o = 0 := by simpa [leafy] using hl
                clear hl
                obtain ⟨g, hg⟩ : ∃ g, g = w.heap.size := ⟨_, rfl⟩
                obtain ⟨w1, hw1⟩ : ∃ w1, w1 = w.alloc (.cells #[.int .i64 f, .bool false, .bool wr, .bool h, .bool true, .bool u, .bool d] 28) := ⟨_, rfl⟩
                have b1 : Below w.heap.size w w1 := hw1 ▸ below_new w 28 [.int .i64 f, .bool false, .bool wr, .bool h, .bool true, .bool u, .bool d]
                have r1 : Row w1 g 28 [.int .i64 f, .bool false, .bool wr, .bool h, .bool true, .bool u, .bool d] := by rw [hw1, hg]; exact Row.new w _ _
                have hpl := checkPlace_any (H.out.call b1) r p 0 HR.out HP.out
                rw [HZ.out] at hpl
                have HW := Lib.hid hw1
                have HG := Lib.hid hg
                have R1 := Lib.hid r1
                have B1 := Lib.hid b1
                clear hw1 hg r1 b1
                go_enter Try.func41, Try.ntmps41
                go_upto_region 1 with (fail)
                rw [← HW.out, ← HG.out]
                go_wp2_with fail
                refine hpl.mono ?_
                rintro e w2 ⟨rfl, hb2⟩
                have B2 := Lib.hid (B1.out.trans (hb2.mono B1.out.size))
                have r2 := R1.out.below hb2 R1.out.lt
                have R2 := Lib.hid r2
                obtain ⟨c0, c1, c2, c3, c4, c5, c6⟩ := r2.seven.1
                have H2 := Lib.hid ((H.out.call B1.out).call hb2)
                clear hpl hb2 r2 B1 R1
                go_wp2_with fail
                refine (check_any f false wr h true u d _).mono ?_
                rw [HC.out]
                rintro e w3 ⟨rfl, hb3⟩
                have B3 := Lib.hid (B2.out.trans (hb3.mono B2.out.size))
                have r3 := R2.out.below hb3 R2.out.lt
                clear c0 c1 c2 c3 c4 c5 c6
                obtain ⟨c0, c1, c2, c3, c4, c5, c6⟩ := r3.seven.1
                have H3 := Lib.hid (H2.out.call hb3)
                clear hb3 r3 B2 R2 H2
                go_wp2_with fail
                refine (even_any f HF.out.1 HF.out.2 _).mono ?_
                rw [HE.out]
                rintro e w4 ⟨rfl, rfl⟩
                go_wp2_with fail
                refine (checkFrames_at H3.out f 0 (Or.inl rfl)).mono ?_
                rw [HX.out]
                rintro e w4 ⟨rfl, nd, rfl⟩
                have B4 := Lib.hid (drewN_belowT B3.out nd)
                go_wp2_with fail
                go_ret
                exact ⟨rfl, B4.out⟩
            · clear hl
              obtain ⟨g, hg⟩ : ∃ g, g = w.heap.size := ⟨_, rfl⟩
              obtain ⟨w1, hw1⟩ : ∃ w1, w1 = w.alloc (.cells #[.int .i64 f, .bool true, .bool wr, .bool h, .bool k, .bool u, .bool d] 28) := ⟨_, rfl⟩
              have b1 : Below w.heap.size w w1 := hw1 ▸ below_new w 28 [.int .i64 f, .bool true, .bool wr, .bool h, .bool k, .bool u, .bool d]
              have r1 : Row w1 g 28 [.int .i64 f, .bool true, .bool wr, .bool h, .bool k, .bool u, .bool d] := by rw [hw1, hg]; exact Row.new w _ _
              have hpl := checkPlace_any (H.out.call b1) r p o HR.out HP.out
              rw [HZ.out] at hpl
              have HW := Lib.hid hw1
              have HG := Lib.hid hg
              have R1 := Lib.hid r1
              have B1 := Lib.hid b1
              clear hw1 hg r1 b1
              go_enter Try.func41, Try.ntmps41
              go_upto_region 1 with (fail)
              rw [← HW.out, ← HG.out]
              go_wp2_with fail
              refine hpl.mono ?_
              rintro e w2 ⟨rfl, hb2⟩
              have B2 := Lib.hid (B1.out.trans (hb2.mono B1.out.size))
              have r2 := R1.out.below hb2 R1.out.lt
              have R2 := Lib.hid r2
              obtain ⟨c0, c1, c2, c3, c4, c5, c6⟩ := r2.seven.1
              have H2 := Lib.hid ((H.out.call B1.out).call hb2)
              clear hpl hb2 r2 B1 R1
              go_wp2_with fail
              refine (check_any f true wr h k u d _).mono ?_
              rw [HC.out]
              rintro e w3 ⟨rfl, hb3⟩
              have B3 := Lib.hid (B2.out.trans (hb3.mono B2.out.size))
              have r3 := R2.out.below hb3 R2.out.lt
              clear c0 c1 c2 c3 c4 c5 c6
              obtain ⟨c0, c1, c2, c3, c4, c5, c6⟩ := r3.seven.1
              have H3 := Lib.hid (H2.out.call hb3)
              clear hb3 r3 B2 R2 H2
              go_wp2_with fail
              refine (even_any f HF.out.1 HF.out.2 _).mono ?_
              rw [HE.out]
              rintro e w4 ⟨rfl, rfl⟩
              go_wp2_with fail
              refine (checkFrames_at H3.out f o HO.out).mono ?_
              rw [HX.out]
              rintro e w4 ⟨rfl, nd, rfl⟩
              have B4 := Lib.hid (drewN_belowT B3.out nd)
              go_wp2_with fail
              go_ret
              exact ⟨rfl, B4.out⟩
  · rw [if_neg hz]
    obtain ⟨z, ez⟩ : ∃ z, plE R r p o = z := ⟨_, rfl⟩
    have hzn : (z != 0) = true := by rw [ez] at hz; simpa using hz
    have HZ := Lib.hid ez
    rw [ez]
    clear hz ez
    obtain ⟨g, hg⟩ : ∃ g, g = w.heap.size := ⟨_, rfl⟩
    obtain ⟨w1, hw1⟩ : ∃ w1, w1 = w.alloc (.cells #[.int .i64 f, .bool pr, .bool wr, .bool h, .bool k, .bool u, .bool d] 28) := ⟨_, rfl⟩
    have b1 : Below w.heap.size w w1 := hw1 ▸ below_new w 28 [.int .i64 f, .bool pr, .bool wr, .bool h, .bool k, .bool u, .bool d]
    have r1 : Row w1 g 28 [.int .i64 f, .bool pr, .bool wr, .bool h, .bool k, .bool u, .bool d] := by rw [hw1, hg]; exact Row.new w _ _
    have hpl := checkPlace_any (H.out.call b1) r p o HR.out HP.out
    rw [HZ.out] at hpl
    have HW := Lib.hid hw1
    have HG := Lib.hid hg
    have R1 := Lib.hid r1
    have B1 := Lib.hid b1
    clear hw1 hg r1 b1
    go_enter Try.func41, Try.ntmps41
    go_upto_region 1 with (fail)
    rw [← HW.out, ← HG.out]
    go_wp2_with fail
    refine hpl.mono ?_
    rintro e w2 ⟨rfl, hb2⟩
    have B2 := Lib.hid (B1.out.trans (hb2.mono B1.out.size))
    have r2 := R1.out.below hb2 R1.out.lt
    have R2 := Lib.hid r2
    obtain ⟨c0, c1, c2, c3, c4, c5, c6⟩ := r2.seven.1
    have H2 := Lib.hid ((H.out.call B1.out).call hb2)
    clear hpl hb2 r2 B1 R1
    go_wp2_with fail
    go_ret
    exact ⟨rfl, B2.out⟩
end
end Go.Proofs.Ytnlimecbbockoaa
