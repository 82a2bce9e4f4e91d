/- The contract of findJust. -/
import Derived.Test.YtnlimecbbockoaaMg24
namespace Go.Proofs.Ytnlimecbbockoaa
open Go.RowKit
/-- What is wrong with a leaf that is to stand just there. -/
def fjE (r : Fd) (o : Int) : Int := if r.er = 0 then (if (r.lv : Int) * 3 = o then 0 else 6) else r.er
theorem fol_lv {ws : List Int} {root p : Int} (h : (fol ws root p).er = 0) : (fol ws root p).lv ≤ 3 := by
  unfold fol at h ⊢
  split
  · rename_i hc
    rw [if_pos hc] at h
    exact ((wk_fine ws p 3 root).ok h).1
  · simp
section
variable {w : World} {s : Seat} {v : Value} {ws L R : List Int}
set_option maxRecDepth 100000 in
set_option maxHeartbeats 1600000 in
theorem findJust_bad (h : Tab w s v ws L R) (root p o : Int) (he : (fol ws root p).er ≠ 0) : Calls Try.prog 39 #[.pointer (some ⟨s.x, 0, none⟩), .int .i64 root, .int .i64 p, .int .i64 o] w fun e w' => e = .returned (.tuple #[zeroSt, .int .i64 (fol ws root p).er]) ∧ Below w.heap.size w w' := by
  obtain ⟨g, hg⟩ : ∃ g, g = w.heap.size := ⟨_, rfl⟩
  obtain ⟨w1, hw1⟩ : ∃ w1, w1 = w.alloc (.cells #[.int .i64 0, .bool false, .bool false, .bool false, .bool false, .bool false, .bool false, .int .i64 0, .int .i64 0, .slice none 0 0, .slice none 0 0] 75) := ⟨_, rfl⟩
  have b1 : Below w.heap.size w w1 := hw1 ▸ below_new w 75 [.int .i64 0, .bool false, .bool false, .bool false, .bool false, .bool false, .bool false, .int .i64 0, .int .i64 0, .slice none 0 0, .slice none 0 0]
  have r1 : Row w1 g 75 [.int .i64 0, .bool false, .bool false, .bool false, .bool false, .bool false, .bool false, .int .i64 0, .int .i64 0, .slice none 0 0, .slice none 0 0] := by rw [hw1, hg]; exact Row.new w _ _
  have H1 := h.call b1
  have hfi := find_bad H1 root p he
  obtain ⟨z, ez⟩ : ∃ z, z = (fol ws root p).er := ⟨_, rfl⟩
  have hz : (z != 0) = true := by rw [ez]; simpa using he
  rw [← ez] at hfi ⊢
  clear ez he
  have HW := Lib.hid hw1
  have HG := Lib.hid hg
  have B1 := Lib.hid b1
  have R1 := Lib.hid r1
  clear hw1 hg b1 r1 H1 h
  go_enter Try.func39, Try.ntmps39
  go_upto_region 1 with (fail)
  rw [← HW.out, ← HG.out]
  go_wp2_with fail
  refine hfi.mono ?_
  unfold zeroSt
  rintro e w2 ⟨rfl, hb2⟩
  obtain ⟨q, hq⟩ : ∃ q, q = w2.heap.size := ⟨_, rfl⟩
  obtain ⟨w3, hw3⟩ : ∃ w3, w3 = w2.alloc (.cells #[.int .i64 0, .bool false, .bool false, .bool false, .bool false, .bool false, .bool false, .int .i64 0, .int .i64 0, .slice none 0 0, .slice none 0 0] 75) := ⟨_, rfl⟩
  have b3 : Below w1.heap.size w1 w3 := by rw [hw3]; exact hb2.alloc hb2.size _
  have l3 : Row w3 q 75 [.int .i64 0, .bool false, .bool false, .bool false, .bool false, .bool false, .bool false, .int .i64 0, .int .i64 0, .slice none 0 0, .slice none 0 0] := by rw [hw3, hq]; exact Row.new w2 _ _
  have HW3 := Lib.hid hw3
  have HQ := Lib.hid hq
  have B3 := Lib.hid (B1.out.trans (b3.mono B1.out.size))
  have r3 := R1.out.below b3 R1.out.lt
  have hne : ¬ g = q := by have := R1.out.lt; have := hb2.size; rw [hq]; omega
  have hne2 : ¬ q = g := fun e => hne e.symm
  obtain ⟨⟨c0, c1, c2, c3, c4, c5, c6, c7, c8, c9, c10⟩, hf⟩ := r3.eleven
  obtain ⟨⟨d0, d1, d2, d3, d4, d5, d6, d7, d8, d9, d10⟩, -⟩ := l3.eleven
  clear hfi hb2 hw3 b3 r3 l3 R1 B1 hq
  go_upto_region 2 with (fail)
  rw [← HW3.out, ← HQ.out]
  go_wp2_with fail
  exact bodyPost_ret (v := .tuple #[zeroSt, .int .i64 z]) (by simp [results, Try.results39, go_sem, zeroSt, *]) rfl ⟨rfl, below_11 B3.out (by have := HG.out; omega)⟩
set_option maxRecDepth 100000 in
set_option maxHeartbeats 1600000 in
theorem findJust_no (h : Tab w s v ws L R) (root p o : Int) (he : (fol ws root p).er = 0) (hl : ((fol ws root p).lv : Int) * 3 ≠ o) : Calls Try.prog 39 #[.pointer (some ⟨s.x, 0, none⟩), .int .i64 root, .int .i64 p, .int .i64 o] w fun e w' => e = .returned (.tuple #[zeroSt, .int .i64 6]) ∧ Below w.heap.size w w' := by
  obtain ⟨g, hg⟩ : ∃ g, g = w.heap.size := ⟨_, rfl⟩
  obtain ⟨w1, hw1⟩ : ∃ w1, w1 = w.alloc (.cells #[.int .i64 0, .bool false, .bool false, .bool false, .bool false, .bool false, .bool false, .int .i64 0, .int .i64 0, .slice none 0 0, .slice none 0 0] 75) := ⟨_, rfl⟩
  have b1 : Below w.heap.size w w1 := hw1 ▸ below_new w 75 [.int .i64 0, .bool false, .bool false, .bool false, .bool false, .bool false, .bool false, .int .i64 0, .int .i64 0, .slice none 0 0, .slice none 0 0]
  have r1 : Row w1 g 75 [.int .i64 0, .bool false, .bool false, .bool false, .bool false, .bool false, .bool false, .int .i64 0, .int .i64 0, .slice none 0 0, .slice none 0 0] := by rw [hw1, hg]; exact Row.new w _ _
  have H1 := h.call b1
  have hfi := find_ok H1 root p he
  unfold Stand at hfi
  have hlv := fol_lv he
  have hlV : lfV (fol ws root p) = ((fol ws root p).lv : Int) := by simp [lfV, he]
  obtain ⟨r, hr⟩ : ∃ r, r = fol ws root p := ⟨_, rfl⟩
  rw [← hr] at hfi he hl hlv hlV
  obtain ⟨f, ef⟩ : ∃ y, y = lfF r := ⟨_, rfl⟩
  rw [← ef] at hfi
  clear ef
  obtain ⟨y0, ey0⟩ : ∃ y, y = lfB r 0 := ⟨_, rfl⟩
  rw [← ey0] at hfi
  clear ey0
  obtain ⟨y1, ey1⟩ : ∃ y, y = lfB r 1 := ⟨_, rfl⟩
  rw [← ey1] at hfi
  clear ey1
  obtain ⟨y7, ey7⟩ : ∃ y, y = lfB r 7 := ⟨_, rfl⟩
  rw [← ey7] at hfi
  clear ey7
  obtain ⟨y9, ey9⟩ : ∃ y, y = lfB r 9 := ⟨_, rfl⟩
  rw [← ey9] at hfi
  clear ey9
  obtain ⟨y5, ey5⟩ : ∃ y, y = lfB r 5 := ⟨_, rfl⟩
  rw [← ey5] at hfi
  clear ey5
  obtain ⟨y6, ey6⟩ : ∃ y, y = lfB r 6 := ⟨_, rfl⟩
  rw [← ey6] at hfi
  clear ey6
  obtain ⟨lv, elv⟩ : ∃ y, y = lfV r := ⟨_, rfl⟩
  rw [← elv] at hfi
  obtain ⟨fr, efr⟩ : ∃ y, y = lfP r p := ⟨_, rfl⟩
  rw [← efr] at hfi
  clear efr
  have hl0 : 0 ≤ lv ∧ lv ≤ 3 := by rw [elv, hlV]; omega
  have hlo : lv * 3 ≠ o := by rw [elv, hlV]; exact hl
  have hlb : (lv * 3 != o) = true := by simpa using hlo
  obtain ⟨hl0, hl1⟩ := hl0
  clear elv hlV hl hlv hlo he hr
  have HW := Lib.hid hw1
  have HG := Lib.hid hg
  have B1 := Lib.hid b1
  have R1 := Lib.hid r1
  clear hw1 hg b1 r1 H1 h
  go_enter Try.func39, Try.ntmps39
  go_upto_region 1 with (fail)
  rw [← HW.out, ← HG.out]
  go_wp2_with fail
  refine hfi.mono ?_
  rintro e w2 ⟨A, m, c, A', m', c', rfl, hi, hi', hb2, hn, hn', hcap⟩
  have HCAP := Lib.hid hcap
  clear hcap
  obtain ⟨q, hq⟩ : ∃ q, q = w2.heap.size := ⟨_, rfl⟩
  obtain ⟨w3, hw3⟩ : ∃ w3, w3 = w2.alloc (.cells #[.int .i64 f, .bool y0, .bool y1, .bool y7, .bool y9, .bool y5, .bool y6, .int .i64 lv, .int .i64 fr, .slice A m c, .slice A' m' c'] 75) := ⟨_, rfl⟩
  have b3 : Below w1.heap.size w1 w3 := by rw [hw3]; exact hb2.alloc hb2.size _
  have l3 : Row w3 q 75 [.int .i64 f, .bool y0, .bool y1, .bool y7, .bool y9, .bool y5, .bool y6, .int .i64 lv, .int .i64 fr, .slice A m c, .slice A' m' c'] := by rw [hw3, hq]; exact Row.new w2 _ _
  have HW3 := Lib.hid hw3
  have HQ := Lib.hid hq
  have B3 := Lib.hid (B1.out.trans (b3.mono B1.out.size))
  have r3 := R1.out.below b3 R1.out.lt
  have hne : ¬ g = q := by have := R1.out.lt; have := hb2.size; rw [hq]; omega
  have hne2 : ¬ q = g := fun e => hne e.symm
  obtain ⟨⟨c0, c1, c2, c3, c4, c5, c6, c7, c8, c9, c10⟩, hf⟩ := r3.eleven
  obtain ⟨⟨d0, d1, d2, d3, d4, d5, d6, d7, d8, d9, d10⟩, -⟩ := l3.eleven
  clear hfi hb2 hw3 b3 r3 l3 R1 B1 hq hi hi' hn hn'
  go_upto_region 2 with (fail)
  rw [← HW3.out, ← HQ.out]
  go_wp2_with fail
  exact bodyPost_ret (v := .tuple #[zeroSt, .int .i64 6]) (by simp [results, Try.results39, go_sem, zeroSt, *]) rfl ⟨rfl, below_11 B3.out (by have := HG.out; omega)⟩
set_option maxRecDepth 100000 in
set_option maxHeartbeats 1600000 in
theorem findJust_ok (h : Tab w s v ws L R) (root p o : Int) (he : (fol ws root p).er = 0) (hl : ((fol ws root p).lv : Int) * 3 = o) : Calls Try.prog 39 #[.pointer (some ⟨s.x, 0, none⟩), .int .i64 root, .int .i64 p, .int .i64 o] w (Stand w (fol ws root p) p) := by
  obtain ⟨g, hg⟩ : ∃ g, g = w.heap.size := ⟨_, rfl⟩
  obtain ⟨w1, hw1⟩ : ∃ w1, w1 = w.alloc (.cells #[.int .i64 0, .bool false, .bool false, .bool false, .bool false, .bool false, .bool false, .int .i64 0, .int .i64 0, .slice none 0 0, .slice none 0 0] 75) := ⟨_, rfl⟩
  have b1 : Below w.heap.size w w1 := hw1 ▸ below_new w 75 [.int .i64 0, .bool false, .bool false, .bool false, .bool false, .bool false, .bool false, .int .i64 0, .int .i64 0, .slice none 0 0, .slice none 0 0]
  have r1 : Row w1 g 75 [.int .i64 0, .bool false, .bool false, .bool false, .bool false, .bool false, .bool false, .int .i64 0, .int .i64 0, .slice none 0 0, .slice none 0 0] := by rw [hw1, hg]; exact Row.new w _ _
  have H1 := h.call b1
  have hfi := find_ok H1 root p he
  unfold Stand at hfi ⊢
  have hlv := fol_lv he
  have hlV : lfV (fol ws root p) = ((fol ws root p).lv : Int) := by simp [lfV, he]
  obtain ⟨r, hr⟩ : ∃ r, r = fol ws root p := ⟨_, rfl⟩
  rw [← hr] at hfi he hl hlv hlV ⊢
  obtain ⟨f, ef⟩ : ∃ y, y = lfF r := ⟨_, rfl⟩
  rw [← ef] at hfi ⊢
  clear ef
  obtain ⟨y0, ey0⟩ : ∃ y, y = lfB r 0 := ⟨_, rfl⟩
  rw [← ey0] at hfi ⊢
  clear ey0
  obtain ⟨y1, ey1⟩ : ∃ y, y = lfB r 1 := ⟨_, rfl⟩
  rw [← ey1] at hfi ⊢
  clear ey1
  obtain ⟨y7, ey7⟩ : ∃ y, y = lfB r 7 := ⟨_, rfl⟩
  rw [← ey7] at hfi ⊢
  clear ey7
  obtain ⟨y9, ey9⟩ : ∃ y, y = lfB r 9 := ⟨_, rfl⟩
  rw [← ey9] at hfi ⊢
  clear ey9
  obtain ⟨y5, ey5⟩ : ∃ y, y = lfB r 5 := ⟨_, rfl⟩
  rw [← ey5] at hfi ⊢
  clear ey5
  obtain ⟨y6, ey6⟩ : ∃ y, y = lfB r 6 := ⟨_, rfl⟩
  rw [← ey6] at hfi ⊢
  clear ey6
  obtain ⟨lv, elv⟩ : ∃ y, y = lfV r := ⟨_, rfl⟩
  rw [← elv] at hfi ⊢
  obtain ⟨fr, efr⟩ : ∃ y, y = lfP r p := ⟨_, rfl⟩
  rw [← efr] at hfi ⊢
  clear efr
  have hl0 : 0 ≤ lv ∧ lv ≤ 3 := by rw [elv, hlV]; omega
  have hlo : lv * 3 = o := by rw [elv, hlV]; exact hl
  have hlb : (lv * 3 != o) = false := by simpa using hlo
  obtain ⟨hl0, hl1⟩ := hl0
  clear elv hlV hl hlv hlo he hr
  have HW := Lib.hid hw1
  have HG := Lib.hid hg
  have B1 := Lib.hid b1
  have R1 := Lib.hid r1
  clear hw1 hg b1 r1 H1 h
  go_enter Try.func39, Try.ntmps39
  go_upto_region 1 with (fail)
  rw [← HW.out, ← HG.out]
  go_wp2_with fail
  refine hfi.mono ?_
  rintro e w2 ⟨A, m, c, A', m', c', rfl, hi, hi', hb2, hn, hn', hcap⟩
  have HCAP := Lib.hid hcap
  clear hcap
  obtain ⟨q, hq⟩ : ∃ q, q = w2.heap.size := ⟨_, rfl⟩
  obtain ⟨w3, hw3⟩ : ∃ w3, w3 = w2.alloc (.cells #[.int .i64 f, .bool y0, .bool y1, .bool y7, .bool y9, .bool y5, .bool y6, .int .i64 lv, .int .i64 fr, .slice A m c, .slice A' m' c'] 75) := ⟨_, rfl⟩
  have b3 : Below w1.heap.size w1 w3 := by rw [hw3]; exact hb2.alloc hb2.size _
  have l3 : Row w3 q 75 [.int .i64 f, .bool y0, .bool y1, .bool y7, .bool y9, .bool y5, .bool y6, .int .i64 lv, .int .i64 fr, .slice A m c, .slice A' m' c'] := by rw [hw3, hq]; exact Row.new w2 _ _
  have HW3 := Lib.hid hw3
  have HQ := Lib.hid hq
  have B3 := Lib.hid (B1.out.trans (b3.mono B1.out.size))
  have r3 := R1.out.below b3 R1.out.lt
  have hne : ¬ g = q := by have := R1.out.lt; have := hb2.size; rw [hq]; omega
  have hne2 : ¬ q = g := fun e => hne e.symm
  obtain ⟨⟨c0, c1, c2, c3, c4, c5, c6, c7, c8, c9, c10⟩, hf⟩ := r3.eleven
  obtain ⟨⟨d0, d1, d2, d3, d4, d5, d6, d7, d8, d9, d10⟩, -⟩ := l3.eleven
  have HI : Hid (IntsAt w3 w3.heap.size A m r.ts) := by rw [hw3]; exact hi.call ((Below.refl _ _).alloc (Nat.le_refl _) _)
  have HI' : Hid (IntsAt w3 w3.heap.size A' m' (dgL p)) := by rw [hw3]; exact hi'.call ((Below.refl _ _).alloc (Nat.le_refl _) _)
  have HX : Hid (∀ a, A = some a → g ≠ a.block) := fun a e => by have := hn a e; have := R1.out.lt; omega
  have HX' : Hid (∀ a, A' = some a → g ≠ a.block) := fun a e => by have := hn' a e; have := R1.out.lt; omega
  have HN : Hid (Fresh w A) := Fresh.mono hn B1.out.size
  have HN' : Hid (Fresh w A') := Fresh.mono hn' B1.out.size
  clear hfi hb2 hw3 b3 r3 l3 R1 B1 hq hi hi' hn hn'
  go_upto_region 2 with (fail)
  rw [← HW3.out, ← HQ.out]
  go_wp2_with fail
  exact bodyPost_ret (v := .tuple #[.agg #[.int .i64 f, .bool y0, .bool y1, .bool y7, .bool y9, .bool y5, .bool y6, .int .i64 lv, .int .i64 fr, .slice A m c, .slice A' m' c'], .int .i64 0]) (by simp [results, Try.results39, go_sem, *]) rfl ⟨A, m, c, A', m', c', rfl, ints_11 HI.out (fun a e => HX.out a e), ints_11 HI'.out (fun a e => HX'.out a e), below_11 B3.out (by have := HG.out; omega), HN.out, HN'.out, HCAP.out⟩
end
end Go.Proofs.Ytnlimecbbockoaa
