/- The contract of findJust. -/
import Derived.Test.YtpcpcgbejinlmaaMk19
import Derived.Test.YtpcpcgbejinlmaaMk18
namespace Go.Proofs.Ytpcpcgbejinlmaa
open Go.RowKit
def fjE (r : Fd) (o : Int) : Int := if r.er = 0 then (if (r.lv : Int) * 3 = o then 0 else 6) else r.er
theorem fol_lv {ws : List Int} {root p : Int} (h : (fol ws root p).er = 0) : (fol ws root p).lv ≤ 3 := by
  unfold fol at h ⊢
  split
  · rename_i hc
    rw [if_pos hc] at h
    exact ((wk_fine ws p 3 root).ok h).1
  · simp
section
variable {w : World} {s : Seat} {v : Value} {ws L R : List Int}
set_option maxRecDepth 100000 in
set_option maxHeartbeats 1600000 in
theorem findJust_bad (h : Tab w s v ws L R) (root p o : Int) (he : (fol ws root p).er ≠ 0) : Calls Try.prog 37 #[.pointer (some ⟨s.x, 0, none⟩), .int .i64 root, .int .i64 p, .int .i64 o] w fun e w' => e = .returned (.tuple #[zeroSt, .int .i64 (fol ws root p).er]) ∧ Below w.heap.size w w' := by
  obtain ⟨g, hg⟩ : ∃ g, g = w.heap.size := ⟨_, rfl⟩
  obtain ⟨w1, hw1⟩ : ∃ w1, w1 = w.alloc (.cells #[.int .i64 0, .bool false, .bool false, .bool false, .bool false, .bool false, .bool false, .int .i64 0, .int .i64 0, .slice none 0 0, .slice none 0 0] 74) := ⟨_, rfl⟩
  have b1 : Below w.heap.size w w1 := hw1 ▸ below_new w 74 [.int .i64 0, .bool false, .bool false, .bool false, .bool false, .bool false, .bool false, .int .i64 0, .int .i64 0, .slice none 0 0, .slice none 0 0]
  have r1 : Row w1 g 74 [.int .i64 0, .bool false, .bool false, .bool false, .bool false, .bool false, .bool false, .int .i64 0, .int .i64 0, .slice none 0 0, .slice none 0 0] := by rw [hw1, hg]; exact Row.new w _ _
  have H1 := h.call b1
  have hfi := find_bad H1 root p he
  obtain ⟨z, ez⟩ : ∃ z, z = (fol ws root p).er := ⟨_, rfl⟩
  have hz : (z != 0) = true := by rw [ez]; simpa using he
  rw [← ez] at hfi ⊢
  clear ez he
  have HW := Lib.hid hw1
  have HG := Lib.hid hg
  have B1 := Lib.hid b1
  have R1 := Lib.hid r1
  clear hw1 hg b1 r1 H1 h
  go_enter Try.func37, Try.ntmps37
  go_upto_region 1 with (fail)
  rw [← HW.out, ← HG.out]
  go_wp2_with fail
  refine hfi.mono ?_
  unfold zeroSt
  rintro e w2 ⟨rfl, hb2⟩
  obtain ⟨q, hq⟩ : ∃ q, q = w2.heap.size := ⟨_, rfl⟩
  obtain ⟨w3, hw3⟩ : ∃ w3, w3 = w2.alloc (.cells #[.int .i64 0, .bool false, .bool false, .bool false, .bool false, .bool false, .bool false, .int .i64 0, .int .i64 0, .slice none 0 0, .slice none 0 0] 74) := ⟨_, rfl⟩
  have b3 : Below w1.heap.size w1 w3 := by rw [hw3]; exact hb2.alloc hb2.size _
  have l3 : Row w3 q 74 [.int .i64 0, .bool false, .bool false, .bool false, .bool false, .bool false, .bool false, .int .i64 0, .int .i64 0, .slice none 0 0, .slice none 0 0] := by rw [hw3, hq]; exact Row.new w2 _ _
  have HW3 := Lib.hid hw3
  have HQ := Lib.hid hq
  have B3 := Lib.hid (B1.out.trans (b3.mono B1.out.size))
  have r3 := R1.out.below b3 R1.out.lt
  have hne : ¬ g = q := by have := R1.out.lt; have := hb2.size; rw [hq]; omega
  have hne2 : ¬ q = g := fun e => hne e.symm
  obtain ⟨⟨c0, c1, c2, c3, c4, c5, c6, c7, c8, c9, c10⟩, hf⟩ := r3.eleven
  obtain ⟨⟨d0, d1, d2, d3, d4, d5, d6, d7, d8, d9, d10⟩, -⟩ := l3.eleven
  clear hfi hb2 hw3 b3 r3 l3 R1 B1 hq
  go_upto_region 2 with (fail)
  rw [← HW3.out, ← HQ.out]
  go_wp2_with fail
  exact bodyPost_ret (v := .tuple #[zeroSt, .int .i64 z]) (by simp [results, Try.results37, go_sem, zeroSt, *]) rfl ⟨rfl, below_11 B3.out (by have := HG.out; omega)⟩
set_option maxRecDepth 100000 in
set_option maxHeartbeats 1600000 in
theorem findJust_no (h : Tab w s v ws L R) (root p o : Int) (he : (fol ws root p).er = 0) (hl : ((fol ws root p).lv : Int) * 3 ≠ o) : Calls Try.prog 37 #[.pointer (some ⟨s.x, 0, none⟩), .int .i64 root, .int .i64 p, .int .i64 o] w fun e w' => e = .returned (.tuple #[zeroSt, .int .i64 6]) ∧ Below w.heap.size w w' := by
  obtain ⟨g, hg⟩ : ∃ g, g = w.heap.size := ⟨_, rfl⟩
  obtain ⟨w1, hw1⟩ : ∃ w1, w1 = w.alloc (.cells #[.int .i64 0, .bool false, .bool false, .bool false, .bool false, .bool false, .bool false, .int .i64 0, .int .i64 0, .slice none 0 0, .slice none 0 0] 74) := ⟨_, rfl⟩
  have b1 : Below w.heap.size w w1 := hw1 ▸ below_new w 74 [.int .i64 0, .bool false, .bool false, .bool false, .bool false, .bool false, .bool false, .int .i64 0, .int .i64 0, .slice none 0 0, .slice none 0 0]
  have r1 : Row w1 g 74 [.int .i64 0, .bool false, .bool false, .bool false, .bool false, .bool false, .bool false, .int .i64 0, .int .i64 0, .slice none 0 0, .slice none 0 0] := by rw [hw1, hg]; exact Row.new w _ _
  have H1 := h.call b1
  have hfi := find_ok H1 root p he
  unfold Stand at hfi
  have hlv := fol_lv he
  have hlV : lfV (fol ws root p) = ((fol ws root p).lv : Int) := by simp [lfV, he]
  obtain ⟨r, hr⟩ : ∃ r, r = fol ws root p := ⟨_, rfl⟩
  rw [← hr] at hfi he hl hlv hlV
  obtain ⟨f, ef⟩ : ∃ y, y = lfF r := ⟨_, rfl⟩
  rw [← ef] at hfi
  clear ef
  obtain ⟨y0, ey0⟩ : ∃ y, y = lfB r 0 := ⟨_, rfl⟩
  rw [← ey0] at hfi
  clear ey0
  obtain ⟨y1, ey1⟩ : ∃ y, y = lfB r 1 := ⟨_, rfl⟩
  rw [← ey1] at hfi
  clear ey1
  obtain ⟨y7, ey7⟩ : ∃ y, y = lfB r 7 := ⟨_, rfl⟩
  rw [← ey7] at hfi
  clear ey7
  obtain ⟨y9, ey9⟩ : ∃ y, y = lfB r 9 := ⟨_, rfl⟩
  rw [← ey9] at hfi
  clear ey9
  obtain ⟨y5, ey5⟩ : ∃ y, y = lfB r 5 := ⟨_, rfl⟩
  rw [← ey5] at hfi
  clear ey5
  obtain ⟨y6, ey6⟩ : ∃ y, y = lfB r 6 := ⟨_, rfl⟩
  rw [← ey6] at hfi
  clear ey6
  obtain ⟨lv, elv⟩ : ∃ y, y = lfV r := ⟨_, rfl⟩
  rw [← elv] at hfi
  obtain ⟨fr, efr⟩ : ∃ y, y = lfP r p := ⟨_, rfl⟩
  rw [← efr] at hfi
  clear efr
  have hl0 : 0 ≤ lv ∧ lv ≤ 3 := by rw [elv, hlV]; omega
  have hlo : lv * 3 ≠ o := by rw [elv, hlV]; exact hl
  have hlb : (lv * 3 != o) = true := by simpa using hlo
  obtain ⟨hl0, hl1⟩ := hl0
  clear elv hlV hl hlv hlo he hr
  have HW := Lib.hid hw1
  have HG := Lib.hid hg
  have B1 := Lib.hid b1
  have R1 := Lib.hid r1
  clear hw1 hg b1 r1 H1 h
  go_enter Try.func37, Try.ntmps37
  go_upto_region 1 with (fail)
  rw [← HW.out, ← HG.out]
  go_wp2_with fail
  refine hfi.mono ?_
  rintro e w2 ⟨A, m, c, A', m', c', rfl, hi, hi', hb2, hn, hn', hcap⟩
  have HCAP := Lib.hid hcap
  clear hcap
  obtain ⟨q, hq⟩ : ∃ q, q = w2.heap.size := ⟨_, rfl⟩
  obtain ⟨w3, hw3⟩ : ∃ w3, w3 = w2.alloc (.cells #[.int .i64 f, .bool y0, .bool y1, .bool y7, .bool y9, .bool y5, .bool y6, .int .i64 lv, .int .i64 fr, .slice A m c, .slice A' m' c'] 74) := ⟨_, rfl⟩
  have b3 : Below w1.heap.size w1 w3 := by rw [hw3]; exact hb2.alloc hb2.size _
  have l3 : Row w3 q 74 [.int .i64 f, .bool y0, .bool y1, .bool y7, .bool y9, .bool y5, .bool y6, .int .i64 lv, .int .i64 fr, .slice A m c, .slice A' m' c'] := by rw [hw3, hq]; exact Row.new w2 _ _
  have HW3 := Lib.hid hw3
  have HQ := Lib.hid hq
  have B3 := Lib.hid (B1.out.trans (b3.mono B1.out.size))
  have r3 := R1.out.below b3 R1.out.lt
  have hne : ¬ g = q := by have := R1.out.lt; have := hb2.size; rw [hq]; omega
  have hne2 : ¬ q = g := fun e => hne e.symm
  obtain ⟨⟨c0, c1, c2, c3, c4, c5, c6, c7, c8, c9, c10⟩, hf⟩ := r3.eleven
  obtain ⟨⟨d0, d1, d2, d3, d4, d5, d6, d7, d8, d9, d10⟩, -⟩ := l3.eleven
  clear hfi hb2 hw3 b3 r3 l3 R1 B1 hq hi hi' hn hn'
  go_upto_region 2 with (fail)
  rw [← HW3.out, ← HQ.out]
  go_wp2_with fail
  exact bodyPost_ret (v := .tuple #[zeroSt, .int .i64 6]) (by simp [results, Try.results37, go_sem, zeroSt, *]) rfl ⟨rfl, below_11 B3.out (by have := HG.out; omega)⟩
set_option maxRecDepth 100000 in
set_option maxHeartbeats 1600000 in
theorem findJust_ok (h : Tab w s v ws L R) (root p o : Int) (he : (fol ws root p).er = 0) (hl : ((fol ws root p).lv : Int) * 3 = o) : Calls Try.prog 37 #[.pointer (some ⟨s.x, 0, none⟩), .int .i64 root, .int .i64 p, .int .i64 o] w (Stand w (fol ws root p) p) := by
  obtain ⟨g, hg⟩ : ∃ g, g = w.heap.size := ⟨_, rfl⟩
  obtain ⟨w1, hw1⟩ : ∃ w1, w1 = w.alloc (.cells #[.int .i64 0, .bool false, .bool false, .bool false, .bool false, .bool false, .bool false, .int .i64 0, .int .i64 0, .slice none 0 0, .slice none 0 0] 74) := ⟨_, rfl⟩
  have b1 : Below w.heap.size w w1 := hw1 ▸ below_new w 74 [.int .i64 0, .bool false, .bool false, .bool false, .bool false, .bool false, .bool false, .int .i64 0, .int .i64 0, .slice none 0 0, .slice none 0 0]
  have r1 : Row w1 g 74 [.int .i64 0, .bool false, .bool false, .bool false, .bool false, .bool false, .bool false, .int .i64 0, .int .i64 0, .slice none 0 0, .slice none 0 0] := by rw [hw1, hg]; exact Row.new w _ _
  have H1 := h.call b1
  have hfi := find_ok H1 root p he
  unfold Stand at hfi ⊢
  have hlv := fol_lv he
  have hlV : lfV (fol ws root p) = ((fol ws root p).lv : Int) := by simp [lfV, he]
  obtain ⟨r, hr⟩ : ∃ r, r = fol ws root p := ⟨_, rfl⟩
  rw [← hr] at hfi he hl hlv hlV ⊢
  obtain ⟨f, ef⟩ : ∃ y, y = lfF r := ⟨_, rfl⟩
  rw [← ef] at hfi ⊢
  clear ef
  obtain ⟨y0, ey0⟩ : ∃ y, y = lfB r 0 := ⟨_, rfl⟩
  rw [← ey0] at hfi ⊢
  clear ey0
  obtain ⟨y1, ey1⟩ : ∃ y, y = lfB r 1 := ⟨_, rfl⟩
  rw [← ey1] at hfi ⊢
  clear ey1
  obtain ⟨y7, ey7⟩ : ∃ y, y = lfB r 7 := ⟨_, rfl⟩
  rw [← ey7] at hfi ⊢
  clear ey7
  obtain ⟨y9, ey9⟩ : ∃ y, y = lfB r 9 := ⟨_, rfl⟩
  rw [← ey9] at hfi ⊢
  clear ey9
  obtain ⟨y5, ey5⟩ : ∃ y, y = lfB r 5 := ⟨_, rfl⟩
  rw [← ey5] at hfi ⊢
  clear ey5
  obtain ⟨y6, ey6⟩ : ∃ y, y = lfB r 6 := ⟨_, rfl⟩
  rw [← ey6] at hfi ⊢
  clear ey6
  obtain ⟨lv, elv⟩ : ∃ y, y = lfV r := ⟨_, rfl⟩
  rw [← elv] at hfi ⊢
  obtain ⟨fr, efr⟩ : ∃ y, y = lfP r p := ⟨_, rfl⟩
  rw [← efr] at hfi ⊢
  clear efr
  have hl0 : 0 ≤ lv ∧ lv ≤ 3 := by rw [elv, hlV]; omega
  have hlo : lv * 3 = o := by rw [elv, hlV]; exact hl
  have hlb : (lv * 3 != o) = false := by simpa using hlo
  obtain ⟨hl0, hl1⟩ := hl0
  clear elv hlV hl hlv hlo he hr
  have HW := Lib.hid hw1
  have HG := Lib.hid hg
  have B1 := Lib.hid b1
  have R1 := Lib.hid r1
  clear hw1 hg b1 r1 H1 h
  go_enter Try.func37, Try.ntmps37
  go_upto_region 1 with (fail)
  rw [← HW.out, ← HG.out]
  go_wp2_with fail
  refine hfi.mono ?_
  rintro e w2 ⟨A, m, c, A', m', c', rfl, hi, hi', hb2, hn, hn', hcap⟩
  have HCAP := Lib.hid hcap
  clear hcap
  obtain ⟨q, hq⟩ : ∃ q, q = w2.heap.size := ⟨_, rfl⟩
  obtain ⟨w3, hw3⟩ : ∃ w3, w3 = w2.alloc (.cells #[.int .i64 f, .bool y0, .bool y1, .bool y7, .bool y9, .bool y5, .bool y6, .int .i64 lv, .int .i64 fr, .slice A m c, .slice A' m' c'] 74) := ⟨_, rfl⟩
  have b3 : Below w1.heap.size w1 w3 := by rw [hw3]; exact hb2.alloc hb2.size _
  have l3 : Row w3 q 74 [.int .i64 f, .bool y0, .bool y1, .bool y7, .bool y9, .bool y5, .bool y6, .int .i64 lv, .int .i64 fr, .slice A m c, .slice A' m' c'] := by rw [hw3, hq]; exact Row.new w2 _ _
  have HW3 := Lib.hid hw3
  have HQ := Lib.hid hq
  have B3 := Lib.hid (B1.out.trans (b3.mono B1.out.size))
  have r3 := R1.out.below b3 R1.out.lt
  have hne : ¬ g = q := by have := R1.out.lt; have := hb2.size; rw [hq]; omega
  have hne2 : ¬ q = g := fun e => hne e.symm
  obtain ⟨⟨c0, c1, c2, c3, c4, c5, c6, c7, c8, c9, c10⟩, hf⟩ := r3.eleven
  obtain ⟨⟨d0, d1, d2, d3, d4, d5, d6, d7, d8, d9, d10⟩, -⟩ := l3.eleven
  have HI : Hid (IntsAt w3 w3.heap.size A m r.ts) := by rw [hw3]; exact hi.call ((Below.refl _ _).alloc (Nat.le_refl _) _)
  have HI' : Hid (IntsAt w3 w3.heap.size A' m' (dgL p)) := by rw [hw3]; exact hi'.call ((Below.refl _ _).alloc (Nat.le_refl _) _)
  have HX : Hid (∀ a, A = some a → g ≠ a.block) := fun a e => by have := hn a e; have := R1.out.lt; omega
  have HX' : Hid (∀ a, A' = some a → g ≠ a.block) := fun a e => by have := hn' a e; have := R1.out.lt; omega
  have HN : Hid (Fresh w A) := Fresh.mono hn B1.out.size
  have HN' : Hid (Fresh w A') := Fresh.mono hn' B1.out.size
  clear hfi hb2 hw3 b3 r3 l3 R1 B1 hq hi hi' hn hn'
  go_upto_region 2 with (fail)
  rw [← HW3.out, ← HQ.out]
  go_wp2_with fail
  exact bodyPost_ret (v := .tuple #[.agg #[.int .i64 f, .bool y0, .bool y1, .bool y7, .bool y9, .bool y5, .bool y6, .int .i64 lv, .int .i64 fr, .slice A m c, .slice A' m' c'], .int .i64 0]) (by simp [results, Try.results37, go_sem, *]) rfl ⟨A, m, c, A', m', c', rfl, ints_11 HI.out (fun a e => HX.out a e), ints_11 HI'.out (fun a e => HX'.out a e), below_11 B3.out (by have := HG.out; omega), HN.out, HN'.out, HCAP.out⟩
end
end Go.Proofs.Ytpcpcgbejinlmaa
/- The contracts of package table on a place, on a leaf's entry, on the laying of an entry. -/
namespace Go.Proofs.Ytpcpcgbejinlmaa
open Go.RowKit
def plE (R : List Int) (r p o : Int) : Int := if r ∈ R then wrO p o else 3
theorem evB_of {p o : Int} (ho : o = 0 ∨ o = 3 ∨ o = 6) : evB p o = decide (p % szO o = 0) := by
  rcases ho with rfl | rfl | rfl <;> simp [evB, ordB, szO]
section
variable {w : World} {s : Seat} {v : Value} {ws L R : List Int}
theorem Tab.ramTurned {w' : World} {ws' : List Int} (h : Tab w s v ws L R) (h' : RamAt w' s.a s.b 102 4096 ws') (g : w.grownBy w' (some s.b)) : Tab w' s v ws' L R := by
  have e1 : some s.y ≠ some s.b := fun e => by injection e with e; exact h.bag.top.apart h.ram.row (by decide) e
  have e2 : some s.x ≠ some s.b := fun e => by injection e with e; exact h.top.apart h.ram.row (by decide) e
  have e3 : s.m ≠ s.b := fun e => h.set.apart h.ram.row e.symm
  have e4 : v.ownBlock ≠ some s.b := fun e => by
    obtain ⟨-, -, cur, hc⟩ := h.own e
    have hr := h.ram.row
    unfold Row at hr
    rw [hr] at hc
    injection hc with hc
    injection hc with _ hc
    exact absurd hc (by decide)
  refine ⟨h', ⟨h.bag.top.grown g e1, ?_, h.bag.len⟩, h.top.grown g e2, h.set.heap (g.block _ h.set.lt (fun e => e3 (by injection e))), h.yC, Nat.le_trans h.Cw g.size⟩
  cases e : v.ownBlock with
  | none => exact h.bag.row.kept g (Or.inl e)
  | some z => exact h.bag.row.kept g (Or.inr e4)
theorem keepC {v v' : World} {g b i : Nat} {x : Value} (h : v.cell? ⟨g, i, none⟩ = some x) (hg : v.grownBy v' (some b)) (hne : g ≠ b) : v'.cell? ⟨g, i, none⟩ = some x :=
  (World.cell?_of_block (a := ⟨g, i, none⟩) (hg.block g (World.block_lt_of_cell? v _ h) (by intro e; injection e with e; exact hne e))).trans h
theorem keep8 {v v' : World} {x g b : Nat} {y0 x0 x1 x2 x3 x4 x5 x6 : Value} (h : v.cell? ⟨x, 0, none⟩ = some y0 ∧ v.cell? ⟨g, 0, none⟩ = some x0 ∧ v.cell? ⟨g, 1, none⟩ = some x1 ∧ v.cell? ⟨g, 2, none⟩ = some x2 ∧ v.cell? ⟨g, 3, none⟩ = some x3 ∧ v.cell? ⟨g, 4, none⟩ = some x4 ∧ v.cell? ⟨g, 5, none⟩ = some x5 ∧ v.cell? ⟨g, 6, none⟩ = some x6)
    (hg : v.grownBy v' (some b)) (hx : x ≠ b) (hne : g ≠ b) : v'.cell? ⟨x, 0, none⟩ = some y0 ∧ v'.cell? ⟨g, 0, none⟩ = some x0 ∧ v'.cell? ⟨g, 1, none⟩ = some x1 ∧ v'.cell? ⟨g, 2, none⟩ = some x2 ∧ v'.cell? ⟨g, 3, none⟩ = some x3 ∧ v'.cell? ⟨g, 4, none⟩ = some x4 ∧ v'.cell? ⟨g, 5, none⟩ = some x5 ∧ v'.cell? ⟨g, 6, none⟩ = some x6 :=
  ⟨keepC h.1 hg hx, keepC h.2.1 hg hne, keepC h.2.2.1 hg hne, keepC h.2.2.2.1 hg hne, keepC h.2.2.2.2.1 hg hne, keepC h.2.2.2.2.2.1 hg hne, keepC h.2.2.2.2.2.2.1 hg hne, keepC h.2.2.2.2.2.2.2 hg hne⟩
set_option maxHeartbeats 1000000 in
theorem tput_any (h : Tab w s v ws L R) (t i f : Int) (p wr hu k u d : Bool) : Calls Try.prog 28 #[.pointer (some ⟨s.x, 0, none⟩), .int .i64 t, .int .i64 i, .agg #[.int .i64 f, .bool p, .bool wr, .bool hu, .bool k, .bool u, .bool d]] w
    fun e w' => e = .returned (.tuple #[]) ∧ Tab w' s v (ptL ws t i (chkI f p wr hu k u d) (packI f p wr hu k u d)) L R ∧ w.grownBy w' (some s.b) := by
  have b1 := below_new w 28 [.int .i64 f, .bool p, .bool wr, .bool hu, .bool k, .bool u, .bool d]
  have r1 := Row.new w 28 [.int .i64 f, .bool p, .bool wr, .bool hu, .bool k, .bool u, .bool d]
  obtain ⟨g, hg⟩ : ∃ g, g = w.heap.size := ⟨_, rfl⟩
  obtain ⟨w1, hw1⟩ : ∃ w1, w1 = w.alloc (.cells #[.int .i64 f, .bool p, .bool wr, .bool hu, .bool k, .bool u, .bool d] 28) := ⟨_, rfl⟩
  have B1 : Below w.heap.size w w1 := hw1 ▸ b1
  have R1 : Row w1 g 28 [.int .i64 f, .bool p, .bool wr, .bool hu, .bool k, .bool u, .bool d] := by rw [hw1, hg]; exact r1
  have H1 := h.call B1
  have HB := Lib.hid B1
  have HH := Lib.hid h
  have HW := Lib.hid hw1
  have HG := Lib.hid hg
  obtain ⟨c0, c1, c2, c3, c4, c5, c6⟩ := R1.seven.1
  obtain ⟨x0, -, -⟩ := H1.cells
  have hp := put_entry (w := w1.drew) (H1.ram.drewN 1) t i f p wr hu k u d
  have hxb : s.x ≠ s.b := H1.top.apart H1.ram.row (by decide)
  have hgb : g ≠ s.b := R1.apart H1.ram.row (by decide)
  have HT := Lib.hid H1
  clear b1 r1 hw1 hg B1 R1 H1 h
  go_enter Try.func28, Try.ntmps28
  go_upto_region 1 with (fail)
  rw [← HW.out, ← HG.out]
  have hs1 : w1.drew.cell? ⟨s.x, 0, none⟩ = some (.pointer (some ⟨s.a, 0, none⟩)) ∧ w1.drew.cell? ⟨g, 0, none⟩ = some (.int .i64 f) ∧ w1.drew.cell? ⟨g, 1, none⟩ = some (.bool p) ∧ w1.drew.cell? ⟨g, 2, none⟩ = some (.bool wr) ∧ w1.drew.cell? ⟨g, 3, none⟩ = some (.bool hu) ∧ w1.drew.cell? ⟨g, 4, none⟩ = some (.bool k) ∧ w1.drew.cell? ⟨g, 5, none⟩ = some (.bool u) ∧ w1.drew.cell? ⟨g, 6, none⟩ = some (.bool d) := ⟨x0, c0, c1, c2, c3, c4, c5, c6⟩
  go_region_held3 (fun z => z.cell? ⟨s.x, 0, none⟩ = some (.pointer (some ⟨s.a, 0, none⟩)) ∧ z.cell? ⟨g, 0, none⟩ = some (.int .i64 f) ∧ z.cell? ⟨g, 1, none⟩ = some (.bool p) ∧ z.cell? ⟨g, 2, none⟩ = some (.bool wr) ∧ z.cell? ⟨g, 3, none⟩ = some (.bool hu) ∧ z.cell? ⟨g, 4, none⟩ = some (.bool k) ∧ z.cell? ⟨g, 5, none⟩ = some (.bool u) ∧ z.cell? ⟨g, 6, none⟩ = some (.bool d))
    (first | exact hs1 | exact keep8 hs1 g2 hxb hgb) ((go_at_call 50; refine hp.mono ?_; rintro e w2 ⟨rfl, h2, g2⟩))
  have HH2 := Lib.hid (And.intro h2 g2)
  clear h2 g2 hs1 hp x0 c0 c1 c2 c3 c4 c5 c6
  go_wp2
  go_end0
  have G2 : w1.grownBy w2 (some s.b) := ⟨HH2.out.2.os, HH2.out.2.tape, HH2.out.2.output, HH2.out.2.size, HH2.out.2.block⟩
  exact ⟨rfl, HT.out.ramTurned HH2.out.1 G2, grown_trans1 (grown_of_below HB.out) G2⟩
theorem checkPlace_any (h : Tab w s v ws L R) (r p o : Int) (hr : Fits r) (hp : Fits p) : Calls Try.prog 36 #[.pointer (some ⟨s.x, 0, none⟩), .int .i64 r, .int .i64 p, .int .i64 o] w fun e w' => e = .returned (.int .i64 (plE R r p o)) ∧ Below w.heap.size w w' := by
  have hc := checkRoot_any h r hr
  unfold rtE at hc
  unfold plE
  have HP := Lib.hid hp
  clear h hr hp
  by_cases hm : r ∈ R
  · rw [if_pos hm] at hc ⊢
    clear hm
    by_cases ho : o = 0 ∨ o = 3 ∨ o = 6
    · by_cases h0 : p < 0
      · have hw : wrO p o = 3 := by simp [wrO, ho, h0]
        rw [hw]
        clear hw
        rcases ho with rfl | rfl | rfl
        all_goals
          go_enter Try.func36, Try.ntmps36
          go_wp2_with fail
          refine hc.mono ?_
          rintro e w1 ⟨rfl, hb⟩
          have HB := Lib.hid hb
          clear hb hc
          go_wp2
          go_ret
          exact ⟨rfl, HB.out⟩
      · by_cases h1 : 4096 ≤ p
        · have hw : wrO p o = 3 := by unfold wrO; rw [if_neg (fun k => k ho), if_pos (by omega)]
          rw [hw]
          clear hw
          rcases ho with rfl | rfl | rfl
          all_goals
            go_enter Try.func36, Try.ntmps36
            go_wp2_with fail
            refine hc.mono ?_
            rintro e w1 ⟨rfl, hb⟩
            have HB := Lib.hid hb
            clear hb hc
            go_wp2
            go_ret
            exact ⟨rfl, HB.out⟩
        · have he := evB_of (p := p) ho
          by_cases hz : p % szO o = 0
          · have hw : wrO p o = 0 := by unfold wrO; rw [if_neg (fun k => k ho), if_neg (by omega), if_pos hz]
            have he' : evB p o = true := by rw [he]; simpa using hz
            rw [hw]
            clear hw hz he
            rcases ho with rfl | rfl | rfl
            all_goals
              go_enter Try.func36, Try.ntmps36
              go_wp2_with fail
              refine hc.mono ?_
              rintro e w1 ⟨rfl, hb⟩
              have HB := Lib.hid hb
              clear hb hc
              go_wp2_with (go_at_call 52; refine (even_any _ HP.out.1 HP.out.2 _).mono ?_; rw [he']; rintro e w' ⟨rfl, rfl⟩)
              go_ret
              exact ⟨rfl, HB.out⟩
          · have hw : wrO p o = 2 := by unfold wrO; rw [if_neg (fun k => k ho), if_neg (by omega), if_neg hz]
            have he' : evB p o = false := by rw [he]; simpa using hz
            rw [hw]
            clear hw hz he
            rcases ho with rfl | rfl | rfl
            all_goals
              go_enter Try.func36, Try.ntmps36
              go_wp2_with fail
              refine hc.mono ?_
              rintro e w1 ⟨rfl, hb⟩
              have HB := Lib.hid hb
              clear hb hc
              go_wp2_with (go_at_call 52; refine (even_any _ HP.out.1 HP.out.2 _).mono ?_; rw [he']; rintro e w' ⟨rfl, rfl⟩)
              go_ret
              exact ⟨rfl, HB.out⟩
    · have hw : wrO p o = 2 := by simp [wrO, ho]
      rw [hw]
      have k0 : (o != 0) = true := by simp; omega
      have k3 : (o != 3) = true := by simp; omega
      have k6 : (o != 6) = true := by simp; omega
      clear hw ho
      go_enter Try.func36, Try.ntmps36
      go_wp2_with fail
      refine hc.mono ?_
      rintro e w1 ⟨rfl, hb⟩
      have HB := Lib.hid hb
      clear hb hc
      go_wp2
      go_ret
      exact ⟨rfl, HB.out⟩
  · rw [if_neg hm] at hc ⊢
    clear hm
    go_enter Try.func36, Try.ntmps36
    go_wp2_with fail
    refine hc.mono ?_
    rintro e w1 ⟨rfl, hb⟩
    have HB := Lib.hid hb
    clear hb hc
    go_wp2
    go_ret
    exact ⟨rfl, HB.out⟩
end
end Go.Proofs.Ytpcpcgbejinlmaa
