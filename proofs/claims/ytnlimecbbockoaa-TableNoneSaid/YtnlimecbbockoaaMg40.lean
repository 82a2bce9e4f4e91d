/- All that a root has: through, Leaves, tables, Count. -/
import Derived.Test.YtnlimecbbockoaaMg39
import Derived.Test.YtnlimecbbockoaaMg35
namespace Go.Proofs.Ytnlimecbbockoaa
open Go.RowKit
open Sem
@[go_sem] theorem store_func {P : Program} {w : World} (a : Addr) (m : Mode) (f : Fn) (t c : Array Value) : (store a (.func f t c) m).run P w = stored P w a (.func f t c) m := run_store P w a _ m rfl
/-- A root's leaves, a root's tables. -/
def thL (ws R : List Int) (r : Int) : List Mp := if r ∈ R then (lvs ws 3 r 0).map mpOf else []
def thT (ws R : List Int) (r : Int) : List Int := if r ∈ R then tabs ws 3 r else []
section
variable {w W : World} {s : Seat} {v : Value} {ws L R : List Int} {bl : Nat}
set_option maxRecDepth 100000 in
set_option maxHeartbeats 800000 in
theorem throughL (hT : Tab w s v ws L R) (hb : Below w.heap.size w W) (hlo : w.heap.size ≤ bl) (hbl : Row W bl 53 [.slice none 0 0]) (r : Int) (hr : Fits r) (hg : r ∈ R → Good ws 3 r) (hlen : ws.length = 4096) :
    Calls Try.prog 35 #[.pointer (some ⟨s.x, 0, none⟩), .int .i64 r, .func (.func 36) #[] #[], .func (.func 37) #[] #[.pointer (some ⟨bl, 0, none⟩)]] W fun e W' => e = .returned (.tuple #[]) ∧ Below w.heap.size w W' ∧ ∃ vl, Row W' bl 53 [vl] ∧ Ms W' w.heap.size vl (thL ws R r) := by
  obtain ⟨q, hq⟩ : ∃ q, q = W.heap.size := ⟨_, rfl⟩
  obtain ⟨W1, hW1⟩ : ∃ W1, W1 = W.alloc (.cells #[.pointer (some ⟨s.x, 0, none⟩)] 34) := ⟨_, rfl⟩
  obtain ⟨W2, hW2⟩ : ∃ W2, W2 = W1.alloc (.cells #[.func (.func 36) #[] #[]] 93) := ⟨_, rfl⟩
  obtain ⟨W3, hW3⟩ : ∃ W3, W3 = W2.alloc (.cells #[.func (.func 37) #[] #[.pointer (some ⟨bl, 0, none⟩)]] 96) := ⟨_, rfl⟩
  have s1 : W1.heap.size = q + 1 := by rw [hW1, hq]; simp
  have s2 : W2.heap.size = q + 1 + 1 := by rw [hW2, World.size_alloc, s1]
  have b1 : Below W.heap.size W W1 := hW1 ▸ below_new W _ _
  have b2 : Below W1.heap.size W1 W2 := hW2 ▸ below_new W1 _ _
  have b3 : Below W2.heap.size W2 W3 := hW3 ▸ below_new W2 _ _
  have r4 : Row W1 q 34 [.pointer (some ⟨s.x, 0, none⟩)] := by rw [hW1, hq]; exact Row.new W _ _
  have r3 : Row W2 (q + 1) 93 [.func (.func 36) #[] #[]] := by rw [hW2, ← s1]; exact Row.new W1 _ _
  have r5 : Row W3 (q + 1 + 1) 96 [.func (.func 37) #[] #[.pointer (some ⟨bl, 0, none⟩)]] := by rw [hW3, ← s2]; exact Row.new W2 _ _
  have b13 : Below W.heap.size W W3 := (b1.trans (b2.mono b1.size)).trans (b3.mono (b1.trans (b2.mono b1.size)).size)
  have r43 : Row W3 q 34 [.pointer (some ⟨s.x, 0, none⟩)] := (r4.below b2 r4.lt).below b3 (r4.below b2 r4.lt).lt
  have r33 : Row W3 (q + 1) 93 [.func (.func 36) #[] #[]] := r3.below b3 r3.lt
  have hbl3 := hbl.below b13 hbl.lt
  have hB3 := hb.trans (b13.mono hb.size)
  have hck := checkRoot_any (hT.call hB3) r hr
  have e4 : W3.cell? ⟨q, 0, none⟩ = some (.pointer (some ⟨s.x, 0, none⟩)) := r43.cell 0
  have HT := Lib.hid hT
  have HQ := Lib.hid hq
  have HW1 := Lib.hid hW1
  have HW2 := Lib.hid hW2
  have HW3 := Lib.hid hW3
  have HS1 := Lib.hid s1
  have HS2 := Lib.hid s2
  have HR3 := Lib.hid r33
  have HR4 := Lib.hid r43
  have HR5 := Lib.hid r5
  have HBL := Lib.hid hbl3
  have HB3 := Lib.hid hB3
  have HLO := Lib.hid hlo
  have HG := Lib.hid hg
  have HLEN := Lib.hid hlen
  clear hT hq hW1 hW2 hW3 s1 s2 b1 b2 b3 r4 r3 r5 b13 r43 r33 hbl3 hB3 hlo hg hlen hb hbl
  by_cases hin : r ∈ R
  · rw [show rtE R r = 0 from if_pos hin] at hck
    rw [show thL ws R r = (lvs ws 3 r 0).map mpOf from if_pos hin]
    have HIN := Lib.hid hin
    clear hin
    go_enter Try.func35, Try.ntmps35
    go_upto_region 1 with (fail)
    rw [← HW1.out, ← HW2.out, ← HW3.out, ← HQ.out]
    go_wp2_with fail
    refine hck.mono ?_
    rintro e W4 ⟨rfl, hb4⟩
    obtain ⟨b6, hb6⟩ : ∃ b6, b6 = W4.heap.size := ⟨_, rfl⟩
    obtain ⟨W4b, hW4b⟩ : ∃ W4b, W4b = W4.alloc (.cells #[.nilFunc] 117) := ⟨_, rfl⟩
    obtain ⟨W5, hW5⟩ : ∃ W5, W5 = W4b.setCell ⟨b6, 0, none⟩ (.func (.func 58) #[] #[.pointer (some ⟨q + 1, 0, none⟩), .pointer (some ⟨q, 0, none⟩), .pointer (some ⟨q + 1 + 1, 0, none⟩), .pointer (some ⟨b6, 0, none⟩)]) := ⟨_, rfl⟩
    have b4b : Below W4.heap.size W4 W4b := hW4b ▸ below_new W4 _ _
    have r4b : Row W4b b6 117 [.nilFunc] := by rw [hW4b, hb6]; exact Row.new W4 _ _
    have b5 : Below W4.heap.size W4 W5 := by rw [hW5]; exact b4b.setCell (p := ⟨b6, 0, none⟩) (show W4.heap.size ≤ b6 by omega) _
    have b35 : Below W3.heap.size W3 W5 := hb4.trans (b5.mono hb4.size)
    have r6 : Row W5 b6 117 [.func (.func 58) #[] #[.pointer (some ⟨q + 1, 0, none⟩), .pointer (some ⟨q, 0, none⟩), .pointer (some ⟨q + 1 + 1, 0, none⟩), .pointer (some ⟨b6, 0, none⟩)]] := by rw [hW5]; exact r4b.set_ 0 _
    have f4 : W4b.frozen? ⟨b6, 0, none⟩ = false := r4b.frozen 0
    have z4 : W4b.cell? ⟨b6, 0, none⟩ = some .nilFunc := r4b.cell 0
    have HW4B := Lib.hid hW4b
    have e6 := r6.cell 0
    have hth : ThL w W5 s (q + 1) q (q + 1 + 1) b6 bl [] := ⟨HB3.out.trans (b35.mono HB3.out.size), HR3.out.below b35 HR3.out.lt, HR4.out.below b35 HR4.out.lt, HR5.out.below b35 HR5.out.lt, r6, HLO.out, _, HBL.out.below b35 HBL.out.lt, Ms.nil _ _⟩
    have hbe := belowL3 HT.out hth r 0 (HG.out HIN.out) HLEN.out (by omega) (by omega) (by simp)
    rw [List.nil_append] at hbe
    have HB6 := Lib.hid hb6
    have HW5 := Lib.hid hW5
    clear hb6 hW5 hW4b b4b r4b b5 b35 r6 hth hb4 hck e4
    go_upto_region 3 with (fail)
    rw [← HB6.out, ← HW4B.out]
    go_upto_region 4 with (fail)
    rw [← HW5.out]
    go_wp2_with fail
    refine hbe.mono ?_
    rintro e W6 ⟨rfl, h6⟩
    have H6 := Lib.hid h6
    clear hbe h6
    go_wp2_with fail
    go_end0
    exact ⟨rfl, H6.out.bel, H6.out.acc⟩
  · rw [show rtE R r = 3 from if_neg hin] at hck
    rw [show thL ws R r = [] from if_neg hin]
    clear hin
    go_enter Try.func35, Try.ntmps35
    go_upto_region 1 with (fail)
    rw [← HW1.out, ← HW2.out, ← HW3.out, ← HQ.out]
    go_wp2_with fail
    refine hck.mono ?_
    rintro e W4 ⟨rfl, hb4⟩
    have HB4 := Lib.hid hb4
    clear hck e4 hb4
    go_wp2_with fail
    (try simp only [Exit.inBlock, Exit.then])
    refine bodyPost_ret (results_none rfl _ _ _) rfl ?_
    exact ⟨rfl, HB3.out.trans (HB4.out.mono HB3.out.size), _, HBL.out.below HB4.out HBL.out.lt, Ms.nil _ _⟩
set_option maxRecDepth 100000 in
set_option maxHeartbeats 800000 in
theorem leaves_any (h : Tab w s v ws L R) (r : Int) (hr : Fits r) (hg : r ∈ R → Good ws 3 r) (hlen : ws.length = 4096) :
    Calls Try.prog 15 #[.pointer (some ⟨s.x, 0, none⟩), .int .i64 r] w fun e w' => ∃ A c, e = .returned (.slice A (thL ws R r).length c) ∧ Ms w' w.heap.size (.slice A (thL ws R r).length c) (thL ws R r) ∧ Below w.heap.size w w' := by
  obtain ⟨bl, hbl⟩ : ∃ bl, bl = w.heap.size := ⟨_, rfl⟩
  obtain ⟨W, hW⟩ : ∃ W, W = w.alloc (.cells #[.slice none 0 0] 53) := ⟨_, rfl⟩
  have b1 : Below w.heap.size w W := hW ▸ below_new w _ _
  have r1 : Row W bl 53 [.slice none 0 0] := by rw [hW, hbl]; exact Row.new w _ _
  have hth := throughL h b1 (by omega) r1 r hr hg hlen
  have HW := Lib.hid hW
  have HBL := Lib.hid hbl
  clear h b1 r1 hg hlen hW hbl
  go_enter Try.func15, Try.ntmps15
  go_upto_region 2 with (fail)
  rw [← HW.out, ← HBL.out]
  go_wp2_with fail
  refine hth.mono ?_
  rintro e W' ⟨rfl, hb, vl, hrow, hown⟩
  obtain ⟨A, c, rfl⟩ := hown.form
  have c0 := hrow.cell 0
  have HO := Lib.hid hown
  have HB := Lib.hid hb
  clear hth hb hrow hown
  go_wp2_with fail
  go_ret
  exact ⟨A, c, rfl, HO.out, HB.out⟩
end
section
variable {w W : World} {s : Seat} {v : Value} {ws L R : List Int} {bl : Nat}
set_option maxRecDepth 100000 in
set_option maxHeartbeats 800000 in
theorem throughT (hT : Tab w s v ws L R) (hb : Below w.heap.size w W) (hlo : w.heap.size ≤ bl) (hbl : Row W bl 44 [.slice none 0 0]) (r : Int) (hr : Fits r) (hg : r ∈ R → Good ws 3 r) (hlen : ws.length = 4096) :
    Calls Try.prog 35 #[.pointer (some ⟨s.x, 0, none⟩), .int .i64 r, .func (.func 56) #[] #[.pointer (some ⟨bl, 0, none⟩)], .func (.func 57) #[] #[]] W fun e W' => e = .returned (.tuple #[]) ∧ Below w.heap.size w W' ∧ ∃ vl, Row W' bl 44 [vl] ∧ W'.ownsRow w.heap.size 3 1 vl ((thT ws R r)).length (((thT ws R r)).map (Value.int .i64)) := by
  obtain ⟨q, hq⟩ : ∃ q, q = W.heap.size := ⟨_, rfl⟩
  obtain ⟨W1, hW1⟩ : ∃ W1, W1 = W.alloc (.cells #[.pointer (some ⟨s.x, 0, none⟩)] 34) := ⟨_, rfl⟩
  obtain ⟨W2, hW2⟩ : ∃ W2, W2 = W1.alloc (.cells #[.func (.func 56) #[] #[.pointer (some ⟨bl, 0, none⟩)]] 93) := ⟨_, rfl⟩
  obtain ⟨W3, hW3⟩ : ∃ W3, W3 = W2.alloc (.cells #[.func (.func 57) #[] #[]] 96) := ⟨_, rfl⟩
  have s1 : W1.heap.size = q + 1 := by rw [hW1, hq]; simp
  have s2 : W2.heap.size = q + 1 + 1 := by rw [hW2, World.size_alloc, s1]
  have b1 : Below W.heap.size W W1 := hW1 ▸ below_new W _ _
  have b2 : Below W1.heap.size W1 W2 := hW2 ▸ below_new W1 _ _
  have b3 : Below W2.heap.size W2 W3 := hW3 ▸ below_new W2 _ _
  have r4 : Row W1 q 34 [.pointer (some ⟨s.x, 0, none⟩)] := by rw [hW1, hq]; exact Row.new W _ _
  have r3 : Row W2 (q + 1) 93 [.func (.func 56) #[] #[.pointer (some ⟨bl, 0, none⟩)]] := by rw [hW2, ← s1]; exact Row.new W1 _ _
  have r5 : Row W3 (q + 1 + 1) 96 [.func (.func 57) #[] #[]] := by rw [hW3, ← s2]; exact Row.new W2 _ _
  have b13 : Below W.heap.size W W3 := (b1.trans (b2.mono b1.size)).trans (b3.mono (b1.trans (b2.mono b1.size)).size)
  have r43 : Row W3 q 34 [.pointer (some ⟨s.x, 0, none⟩)] := (r4.below b2 r4.lt).below b3 (r4.below b2 r4.lt).lt
  have r33 : Row W3 (q + 1) 93 [.func (.func 56) #[] #[.pointer (some ⟨bl, 0, none⟩)]] := r3.below b3 r3.lt
  have hbl3 := hbl.below b13 hbl.lt
  have hB3 := hb.trans (b13.mono hb.size)
  have hck := checkRoot_any (hT.call hB3) r hr
  have e4 : W3.cell? ⟨q, 0, none⟩ = some (.pointer (some ⟨s.x, 0, none⟩)) := r43.cell 0
  have HT := Lib.hid hT
  have HQ := Lib.hid hq
  have HW1 := Lib.hid hW1
  have HW2 := Lib.hid hW2
  have HW3 := Lib.hid hW3
  have HS1 := Lib.hid s1
  have HS2 := Lib.hid s2
  have HR3 := Lib.hid r33
  have HR4 := Lib.hid r43
  have HR5 := Lib.hid r5
  have HBL := Lib.hid hbl3
  have HB3 := Lib.hid hB3
  have HLO := Lib.hid hlo
  have HG := Lib.hid hg
  have HLEN := Lib.hid hlen
  clear hT hq hW1 hW2 hW3 s1 s2 b1 b2 b3 r4 r3 r5 b13 r43 r33 hbl3 hB3 hlo hg hlen hb hbl
  by_cases hin : r ∈ R
  · rw [show rtE R r = 0 from if_pos hin] at hck
    rw [show thT ws R r = tabs ws 3 r from if_pos hin]
    have HIN := Lib.hid hin
    clear hin
    go_enter Try.func35, Try.ntmps35
    go_upto_region 1 with (fail)
    rw [← HW1.out, ← HW2.out, ← HW3.out, ← HQ.out]
    go_wp2_with fail
    refine hck.mono ?_
    rintro e W4 ⟨rfl, hb4⟩
    obtain ⟨b6, hb6⟩ : ∃ b6, b6 = W4.heap.size := ⟨_, rfl⟩
    obtain ⟨W4b, hW4b⟩ : ∃ W4b, W4b = W4.alloc (.cells #[.nilFunc] 117) := ⟨_, rfl⟩
    obtain ⟨W5, hW5⟩ : ∃ W5, W5 = W4b.setCell ⟨b6, 0, none⟩ (.func (.func 58) #[] #[.pointer (some ⟨q + 1, 0, none⟩), .pointer (some ⟨q, 0, none⟩), .pointer (some ⟨q + 1 + 1, 0, none⟩), .pointer (some ⟨b6, 0, none⟩)]) := ⟨_, rfl⟩
    have b4b : Below W4.heap.size W4 W4b := hW4b ▸ below_new W4 _ _
    have r4b : Row W4b b6 117 [.nilFunc] := by rw [hW4b, hb6]; exact Row.new W4 _ _
    have b5 : Below W4.heap.size W4 W5 := by rw [hW5]; exact b4b.setCell (p := ⟨b6, 0, none⟩) (show W4.heap.size ≤ b6 by omega) _
    have b35 : Below W3.heap.size W3 W5 := hb4.trans (b5.mono hb4.size)
    have r6 : Row W5 b6 117 [.func (.func 58) #[] #[.pointer (some ⟨q + 1, 0, none⟩), .pointer (some ⟨q, 0, none⟩), .pointer (some ⟨q + 1 + 1, 0, none⟩), .pointer (some ⟨b6, 0, none⟩)]] := by rw [hW5]; exact r4b.set_ 0 _
    have f4 : W4b.frozen? ⟨b6, 0, none⟩ = false := r4b.frozen 0
    have z4 : W4b.cell? ⟨b6, 0, none⟩ = some .nilFunc := r4b.cell 0
    have HW4B := Lib.hid hW4b
    have e6 := r6.cell 0
    have hth : ThT w W5 s (q + 1) q (q + 1 + 1) b6 bl [] := ⟨HB3.out.trans (b35.mono HB3.out.size), HR3.out.below b35 HR3.out.lt, HR4.out.below b35 HR4.out.lt, HR5.out.below b35 HR5.out.lt, r6, HLO.out, _, HBL.out.below b35 HBL.out.lt, World.ownsRow_nil _ _ _ _⟩
    have hbe := belowT3 HT.out hth r 0 (HG.out HIN.out) HLEN.out (by omega) (by omega) (by simp)
    rw [List.nil_append] at hbe
    have HB6 := Lib.hid hb6
    have HW5 := Lib.hid hW5
    clear hb6 hW5 hW4b b4b r4b b5 b35 r6 hth hb4 hck e4
    go_upto_region 3 with (fail)
    rw [← HB6.out, ← HW4B.out]
    go_upto_region 4 with (fail)
    rw [← HW5.out]
    go_wp2_with fail
    refine hbe.mono ?_
    rintro e W6 ⟨rfl, h6⟩
    have H6 := Lib.hid h6
    clear hbe h6
    go_wp2_with fail
    go_end0
    exact ⟨rfl, H6.out.bel, H6.out.acc⟩
  · rw [show rtE R r = 3 from if_neg hin] at hck
    rw [show thT ws R r = [] from if_neg hin]
    clear hin
    go_enter Try.func35, Try.ntmps35
    go_upto_region 1 with (fail)
    rw [← HW1.out, ← HW2.out, ← HW3.out, ← HQ.out]
    go_wp2_with fail
    refine hck.mono ?_
    rintro e W4 ⟨rfl, hb4⟩
    have HB4 := Lib.hid hb4
    clear hck e4 hb4
    go_wp2_with fail
    (try simp only [Exit.inBlock, Exit.then])
    refine bodyPost_ret (results_none rfl _ _ _) rfl ?_
    exact ⟨rfl, HB3.out.trans (HB4.out.mono HB3.out.size), _, HBL.out.below HB4.out HBL.out.lt, World.ownsRow_nil _ _ _ _⟩
set_option maxRecDepth 100000 in
set_option maxHeartbeats 800000 in
theorem tabs_any (h : Tab w s v ws L R) (r : Int) (hr : Fits r) (hg : r ∈ R → Good ws 3 r) (hlen : ws.length = 4096) :
    Calls Try.prog 34 #[.pointer (some ⟨s.x, 0, none⟩), .int .i64 r] w fun e w' => ∃ A c, e = .returned (.slice A (thT ws R r).length c) ∧ w'.ownsRow w.heap.size 3 1 (.slice A (thT ws R r).length c) ((thT ws R r)).length (((thT ws R r)).map (Value.int .i64)) ∧ Below w.heap.size w w' := by
  obtain ⟨bl, hbl⟩ : ∃ bl, bl = w.heap.size := ⟨_, rfl⟩
  obtain ⟨W, hW⟩ : ∃ W, W = w.alloc (.cells #[.slice none 0 0] 44) := ⟨_, rfl⟩
  have b1 : Below w.heap.size w W := hW ▸ below_new w _ _
  have r1 : Row W bl 44 [.slice none 0 0] := by rw [hW, hbl]; exact Row.new w _ _
  have hth := throughT h b1 (by omega) r1 r hr hg hlen
  have HW := Lib.hid hW
  have HBL := Lib.hid hbl
  clear h b1 r1 hg hlen hW hbl
  go_enter Try.func34, Try.ntmps34
  go_upto_region 2 with (fail)
  rw [← HW.out, ← HBL.out]
  go_wp2_with fail
  refine hth.mono ?_
  rintro e W' ⟨rfl, hb, vl, hrow, hown⟩
  obtain ⟨A, c, rfl⟩ := own_form hown
  have c0 := hrow.cell 0
  have HO := Lib.hid hown
  have HB := Lib.hid hb
  clear hth hb hrow hown
  go_wp2_with fail
  go_ret
  exact ⟨A, c, rfl, HO.out, HB.out⟩
end
section
variable {w : World} {s : Seat} {v : Value} {ws L R : List Int}
set_option maxRecDepth 100000 in
theorem count_any (h : Tab w s v ws L R) (r : Int) (hr : Fits r) (hg : r ∈ R → Good ws 3 r) (hlen : ws.length = 4096) :
    Calls Try.prog 14 #[.pointer (some ⟨s.x, 0, none⟩), .int .i64 r] w fun e w' => e = .returned (.int .i64 (thT ws R r).length) ∧ Below w.heap.size w w' := by
  have ht := tabs_any h r hr hg hlen
  clear h hg hlen
  go_enter Try.func14, Try.ntmps14
  go_wp2_with fail
  refine ht.mono ?_
  rintro e w1 ⟨A, c, rfl, -, hb⟩
  have HB := Lib.hid hb
  clear ht hb
  go_wp2_with fail
  go_ret
  exact ⟨rfl, HB.out⟩
theorem through_nil (r : Int) (f1 f2 : Fn) (a1 a2 : Array Value) (w : World) : Calls Try.prog 35 #[.pointer none, .int .i64 r, .func f1 #[] a1, .func f2 #[] a2] w fun e w' => e = .returned (.tuple #[]) ∧ Below w.heap.size w w' := by
  have hck := fun w => checkRoot_nil r w
  go_enter Try.func35, Try.ntmps35
  go_wp2_with fail
  refine (hck _).mono ?_
  rintro e w1 ⟨rfl, rfl⟩
  go_wp2_with fail
  (try simp only [Exit.inBlock, Exit.then])
  refine bodyPost_ret (results_none rfl _ _ _) rfl ?_
  exact ⟨rfl, (((Below.refl _ _).alloc (Nat.le_refl _) _).alloc (by simp) _).alloc (by simp; omega) _⟩
theorem leaves_nil (r : Int) (w : World) : Calls Try.prog 15 #[.pointer none, .int .i64 r] w fun e w' => e = .returned (.slice none 0 0) ∧ Below w.heap.size w w' := by
  obtain ⟨bl, hbl⟩ : ∃ bl, bl = w.heap.size := ⟨_, rfl⟩
  obtain ⟨W, hW⟩ : ∃ W, W = w.alloc (.cells #[.slice none 0 0] 53) := ⟨_, rfl⟩
  have b1 : Below w.heap.size w W := hW ▸ below_new w _ _
  have r1 : Row W bl 53 [.slice none 0 0] := by rw [hW, hbl]; exact Row.new w _ _
  have HW := Lib.hid hW
  have HBL := Lib.hid hbl
  have HB1 := Lib.hid b1
  clear hW hbl b1
  go_enter Try.func15, Try.ntmps15
  go_upto_region 2 with (fail)
  rw [← HW.out, ← HBL.out]
  go_wp2_with fail
  refine (through_nil r _ _ _ _ _).mono ?_
  rintro e W' ⟨rfl, hb⟩
  have c0 := (r1.below hb r1.lt).cell 0
  have HB := Lib.hid (HB1.out.trans (hb.mono HB1.out.size))
  clear r1 hb
  go_wp2_with fail
  go_ret
  exact ⟨rfl, HB.out⟩
theorem count_nil (r : Int) (w : World) : Calls Try.prog 14 #[.pointer none, .int .i64 r] w fun e w' => e = .returned (.int .i64 0) ∧ Below w.heap.size w w' := by
  have ht : Calls Try.prog 34 #[.pointer none, .int .i64 r] w fun e w' => e = .returned (.slice none 0 0) ∧ Below w.heap.size w w' := by
    obtain ⟨bl, hbl⟩ : ∃ bl, bl = w.heap.size := ⟨_, rfl⟩
    obtain ⟨W, hW⟩ : ∃ W, W = w.alloc (.cells #[.slice none 0 0] 44) := ⟨_, rfl⟩
    have b1 : Below w.heap.size w W := hW ▸ below_new w _ _
    have r1 : Row W bl 44 [.slice none 0 0] := by rw [hW, hbl]; exact Row.new w _ _
    have HW := Lib.hid hW
    have HBL := Lib.hid hbl
    have HB1 := Lib.hid b1
    clear hW hbl b1
    go_enter Try.func34, Try.ntmps34
    go_upto_region 2 with (fail)
    rw [← HW.out, ← HBL.out]
    go_wp2_with fail
    refine (through_nil r _ _ _ _ _).mono ?_
    rintro e W' ⟨rfl, hb⟩
    have c0 := (r1.below hb r1.lt).cell 0
    have HB := Lib.hid (HB1.out.trans (hb.mono HB1.out.size))
    clear r1 hb
    go_wp2_with fail
    go_ret
    exact ⟨rfl, HB.out⟩
  go_enter Try.func14, Try.ntmps14
  go_wp2_with fail
  refine ht.mono ?_
  rintro e w1 ⟨rfl, hb⟩
  have HB := Lib.hid hb
  clear ht hb
  go_wp2_with fail
  go_ret
  exact ⟨rfl, HB.out⟩
end
end Go.Proofs.Ytnlimecbbockoaa
