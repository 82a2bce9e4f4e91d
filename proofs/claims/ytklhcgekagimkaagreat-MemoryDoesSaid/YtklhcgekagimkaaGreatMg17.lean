/- The least and the greatest order of a row of blocks: byOrder, MinFunc, MaxFunc. -/
import Derived.Test.YtklhcgekagimkaaGreatMg16
namespace Go.Proofs.YtklhcgekagimkaaGreat
open Go.RowKit

/-- The best of a row by order, the first of those that are as good. -/
def bst1 (great : Bool) (b : Option (Nat × Nat)) (x : Nat × Nat) : Option (Nat × Nat) := match b with
  | none => some x
  | some y => if great = true ∧ y.2 < x.2 ∨ great = false ∧ x.2 < y.2 then some x else some y
def bstB (great : Bool) (l : List (Nat × Nat)) : Option (Nat × Nat) := l.foldl (bst1 great) none
theorem bstB_snoc (great : Bool) (l : List (Nat × Nat)) (x : Nat × Nat) : bstB great (l ++ [x]) = bst1 great (bstB great l) x := by
  unfold bstB; rw [List.foldl_append]; rfl
theorem bstB_take {great : Bool} {l : List (Nat × Nat)} {i : Nat} {y : Nat × Nat} (hi : i < l.length) (h : bstB great (l.take i) = some y) :
    bstB great (l.take (i + 1)) = if great = true ∧ y.2 < (l.getD i (0, 0)).2 ∨ great = false ∧ (l.getD i (0, 0)).2 < y.2 then some (l.getD i (0, 0)) else some y := by
  rw [take_snoc l (0, 0) i hi, bstB_snoc, h]; rfl
theorem bstB_one {great : Bool} {l : List (Nat × Nat)} (hi : 0 < l.length) : bstB great (l.take 1) = some (l.getD 0 (0, 0)) := by
  rw [take_snoc l (0, 0) 0 hi]; rfl
theorem cmp_lt {x y : Nat} (h : x < y) : Lib.compareInt x y = -1 := by unfold Lib.compareInt; rw [if_pos (by omega)]
theorem cmp_gt {x y : Nat} (h : y < x) : Lib.compareInt x y = 1 := by unfold Lib.compareInt; rw [if_neg (by omega), if_pos (by omega)]
theorem cmp_eq {x y : Nat} (h : x = y) : Lib.compareInt x y = 0 := by unfold Lib.compareInt; rw [if_neg (by omega), if_neg (by omega)]
theorem byOrder_any (x y : Nat × Nat) (W : World) : Calls Tryz.prog 114 #[.agg #[.int .i64 x.1, .int .i64 x.2], .agg #[.int .i64 y.1, .int .i64 y.2]] W fun e w' => e = .returned (.int .i64 (Lib.compareInt x.2 y.2)) ∧ Below W.heap.size W w' := by
  have hcon := fun W' => Tryz.cmp_Compare_int x.2 y.2 W'
  generalize Lib.compareInt x.2 y.2 = r at hcon ⊢
  go_enter Tryz.func114, Tryz.ntmps114
  go_wp2_with (go_at_call 98; refine (hcon _).mono ?_; rintro e w' ⟨rfl, rfl⟩)
  go_ret
  exact ⟨rfl, ((Below.refl _ _).alloc (Nat.le_refl _) _).alloc (by simp) _⟩
set_option maxHeartbeats 1000000 in
set_option maxRecDepth 100000 in
theorem MinFunc_any {w : World} {A : Option Addr} {M : List (Nat × Nat)} {c : Nat} (h : BlkRow w A M) (hM : M.length ≤ 4096) (h0 : 0 < M.length) :
    Calls Tryz.prog 113 #[.slice A M.length c, .func (.func 114) #[] #[]] w fun e w' => ∃ x, bstB false M = some x ∧ e = .returned (.agg #[.int .i64 x.1, .int .i64 x.2]) ∧ Below w.heap.size w w' := by
  have HR := Lib.hid h
  obtain ⟨ga, rfl, hga, hcells⟩ := h.at_ h0
  obtain ⟨b0, b1⟩ := hcells 0 h0
  simp only [Nat.zero_mul, Nat.zero_add] at b0 b1
  have HB1 := Lib.hid (bstB_one (great := false) h0)
  have HMM : Hid (M.take M.length = M) := List.take_length
  obtain ⟨x, hx⟩ : ∃ x, x = M.getD 0 (0, 0) := ⟨_, rfl⟩
  rw [← hx] at b0 b1 HB1
  obtain ⟨n, en⟩ : ∃ n, n = M.length := ⟨_, rfl⟩
  have HN := Lib.hid en
  rw [← en] at hM h0 HMM ⊢
  clear hcells hx en h
  obtain ⟨x1, hx1⟩ : ∃ x1, x1 = x.1 := ⟨_, rfl⟩
  obtain ⟨x2, hx2⟩ : ∃ x2, x2 = x.2 := ⟨_, rfl⟩
  rw [← hx1] at b0
  rw [← hx2] at b1
  have HX : Hid (x = (x1, x2)) := by show _ = _; rw [hx1, hx2]
  clear hx1 hx2
  go_enter Tryz.func113, Tryz.ntmps113
  go_wp2_with fail
  have g1 := (Lrow.new w 92 [.int .i64 0, .int .i64 0]).alloc (.cells #[.int .i64 x1, .int .i64 x2] 92)
  have g2 := Lrow.new (w.alloc (.cells #[.int .i64 0, .int .i64 0] 92)) 92 [.int .i64 x1, .int .i64 x2]
  have g3 := ((Below.refl w.heap.size w).alloc (Nat.le_refl _) (.cells #[.int .i64 0, .int .i64 0] 92)).alloc (by simp) (.cells #[.int .i64 x1, .int .i64 x2] 92)
  rw [World.size_alloc] at g2
  have G1 := Lib.hid g1
  have G2 := Lib.hid g2
  have G3 := Lib.hid g3
  clear g1 g2 g3 b0 b1
  generalize (w.alloc (.cells #[.int .i64 0, .int .i64 0] 92)).alloc (.cells #[.int .i64 x1, .int .i64 x2] 92) = w1 at G1 G2 G3 ⊢
  obtain ⟨q0, hq0⟩ : ∃ q, q = w.heap.size := ⟨_, rfl⟩
  obtain ⟨q1, hq1⟩ : ∃ q, q = w.heap.size + 1 := ⟨_, rfl⟩
  rw [← hq1] at G2 ⊢
  rw [← hq0] at G1 ⊢
  have HQ0 := Lib.hid hq0
  have HQ1 := Lib.hid hq1
  clear hq0 hq1
  go_loopw [6] (fun i wr => ∃ (j : Nat) (y : Nat × Nat), 1 ≤ j ∧ j ≤ n ∧ i = .int .i64 j ∧ bstB false (M.take j) = some y ∧ Lrow wr q1 92 [.int .i64 y.1, .int .i64 y.2] ∧ Lrow wr q0 92 [.int .i64 0, .int .i64 0] ∧ Below w.heap.size w wr) (fun i _ => n - (intOf i).toNat)
  case atStart => exact ⟨1, x, Nat.le_refl _, h0, rfl, HB1.out, by rw [HX.out]; exact G2.out, G1.out, G3.out⟩
  case round =>
    obtain ⟨j, y, hj1, hj, rfl, hby, hr1, hr0, hb⟩ := hrel
    by_cases hlt : j < n
    · obtain ⟨ga', ega, _, hcl⟩ := (HR.out.below hb).at_ (by rw [← HN.out]; exact h0)
      injection ega with ega
      injection ega with ega
      subst ega
      obtain ⟨d0, d1⟩ := hcl j (by rw [← HN.out]; exact hlt)
      have HNX := Lib.hid (bstB_take (great := false) (by rw [← HN.out]; exact hlt) hby)
      obtain ⟨z, hz⟩ : ∃ z, z = M.getD j (0, 0) := ⟨_, rfl⟩
      rw [← hz] at d0 d1 HNX
      obtain ⟨z1, hz1⟩ : ∃ z1, z1 = z.1 := ⟨_, rfl⟩
      obtain ⟨z2, hz2⟩ : ∃ z2, z2 = z.2 := ⟨_, rfl⟩
      obtain ⟨y1, hy1⟩ : ∃ y1, y1 = y.1 := ⟨_, rfl⟩
      obtain ⟨y2, hy2⟩ : ∃ y2, y2 = y.2 := ⟨_, rfl⟩
      rw [← hz1] at d0
      rw [← hz2] at d1 HNX
      rw [← hy1, ← hy2] at hr1
      rw [← hy2] at HNX
      have HZ : Hid (z = (z1, z2)) := by show _ = _; rw [hz1, hz2]
      have HY : Hid (y = (y1, y2)) := by show _ = _; rw [hy1, hy2]
      clear hz hz1 hz2 hy1 hy2 hcl hby
      have hs1 := And.intro d0 (And.intro d1 (And.intro (hr1.cell 0) (hr1.cell 1)))
      have HR1 := Lib.hid hr1
      have HR0 := Lib.hid hr0
      have HB := Lib.hid hb
      clear d0 d1 hr1 hr0
      have hgr : ga < wr.heap.size := Nat.lt_of_lt_of_le hga hb.size
      clear hb
      have hbo := fun W => byOrder_any (z1, z2) (y1, y2) W
      dsimp only at hbo
      by_cases hc : z2 < y2
      · have hr : Lib.compareInt (z2 : Int) (y2 : Int) < 0 := by
          rw [cmp_lt hc]; decide
        generalize Lib.compareInt (z2 : Int) (y2 : Int) = r at hbo hr
        have HBO := Lib.hid hbo
        have HC : Hid (bstB false (M.take (j + 1)) = some (z1, z2)) := by
          show _ = _
          rw [HNX.out, if_pos (Or.inr ⟨rfl, hc⟩), HZ.out]
        clear hbo hc
        go_wp2_with fail
        go_region_held3 (fun v => v.cell? ⟨ga, j * 2, none⟩ = some (.int .i64 z1) ∧ v.cell? ⟨ga, j * 2 + 1, none⟩ = some (.int .i64 z2) ∧ v.cell? ⟨q1, 0, none⟩ = some (.int .i64 y1) ∧ v.cell? ⟨q1, 1, none⟩ = some (.int .i64 y2)) (first | exact hs1 | exact hs2)
          (first | (go_at_call 114; refine (HBO.out _).mono ?_; rintro e w2 ⟨rfl, hb2⟩; have hk2 := (HR1.out.drewN 1).call hb2; have hs2 : w2.cell? ⟨ga, j * 2, none⟩ = some (.int .i64 z1) ∧ w2.cell? ⟨ga, j * 2 + 1, none⟩ = some (.int .i64 z2) ∧ w2.cell? ⟨q1, 0, none⟩ = some (.int .i64 y1) ∧ w2.cell? ⟨q1, 1, none⟩ = some (.int .i64 y2) := ⟨(hb2.cell (p := ⟨ga, j * 2, none⟩) hgr).trans hs1.1, (hb2.cell (p := ⟨ga, j * 2 + 1, none⟩) hgr).trans hs1.2.1, hk2.cell 0, hk2.cell 1⟩))
        have HB2 := Lib.hid ((below_dN HB.out 1).trans (hb2.mono HB.out.size))
        have HR02 := Lib.hid ((HR0.out.drewN 1).call hb2)
        have hf0 := hk2.frozen 0
        have hf1 := hk2.frozen 1
        obtain ⟨d0, d1, d2, d3⟩ := hs2
        have HK3 : Hid (Lrow ((w2.setCell ⟨q1, 0, none⟩ (.int .i64 z1)).setCell ⟨q1, 1, none⟩ (.int .i64 z2)) q1 92 [.int .i64 z1, .int .i64 z2]) := (hk2.set_ 0 (.int .i64 z1)).set_ 1 (.int .i64 z2)
        have hq01 : q0 ≠ q1 := by have := HQ0.out; have := HQ1.out; omega
        have HR03 : Hid (Lrow ((w2.setCell ⟨q1, 0, none⟩ (.int .i64 z1)).setCell ⟨q1, 1, none⟩ (.int .i64 z2)) q0 92 [.int .i64 0, .int .i64 0]) := (HR02.out.far hq01 _).far hq01 _
        have HB3 : Hid (Below w.heap.size w ((w2.setCell ⟨q1, 0, none⟩ (.int .i64 z1)).setCell ⟨q1, 1, none⟩ (.int .i64 z2))) := (HB2.out.setCell (p := ⟨q1, 0, none⟩) (by show w.heap.size ≤ q1; have := HQ1.out; omega) _).setCell (p := ⟨q1, 1, none⟩) (by show w.heap.size ≤ q1; have := HQ1.out; omega) _
        clear hb2 hk2 hs1 hq01 HR02 HB2
        go_wp2
        go_roundw
        case rel => exact ⟨j + 1, (z1, z2), by omega, by omega, by go_num, HC.out, HK3.out, HR03.out, HB3.out⟩
        case measure => simp [intOf]; omega
      · have hr : 0 ≤ Lib.compareInt (z2 : Int) (y2 : Int) := by
          unfold Lib.compareInt; rw [if_neg (by omega : ¬ (z2 : Int) < y2)]; split <;> omega
        generalize Lib.compareInt (z2 : Int) (y2 : Int) = r at hbo hr
        have HBO := Lib.hid hbo
        have HC : Hid (bstB false (M.take (j + 1)) = some (y1, y2)) := by
          show _ = _
          rw [HNX.out, if_neg (by rintro (⟨h, _⟩ | ⟨_, h⟩); cases h; exact hc h), HY.out]
        clear hbo hc
        go_wp2_with fail
        go_region_held3 (fun v => v.cell? ⟨ga, j * 2, none⟩ = some (.int .i64 z1) ∧ v.cell? ⟨ga, j * 2 + 1, none⟩ = some (.int .i64 z2) ∧ v.cell? ⟨q1, 0, none⟩ = some (.int .i64 y1) ∧ v.cell? ⟨q1, 1, none⟩ = some (.int .i64 y2)) (first | exact hs1 | exact hs2)
          (first | (go_at_call 114; refine (HBO.out _).mono ?_; rintro e w2 ⟨rfl, hb2⟩; have hk2 := (HR1.out.drewN 1).call hb2; have hs2 : w2.cell? ⟨ga, j * 2, none⟩ = some (.int .i64 z1) ∧ w2.cell? ⟨ga, j * 2 + 1, none⟩ = some (.int .i64 z2) ∧ w2.cell? ⟨q1, 0, none⟩ = some (.int .i64 y1) ∧ w2.cell? ⟨q1, 1, none⟩ = some (.int .i64 y2) := ⟨(hb2.cell (p := ⟨ga, j * 2, none⟩) hgr).trans hs1.1, (hb2.cell (p := ⟨ga, j * 2 + 1, none⟩) hgr).trans hs1.2.1, hk2.cell 0, hk2.cell 1⟩))
        have HB2 := Lib.hid ((below_dN HB.out 1).trans (hb2.mono HB.out.size))
        have HR02 := Lib.hid ((HR0.out.drewN 1).call hb2)
        have HK2 := Lib.hid hk2
        clear hb2 hk2 hs1 hs2
        go_wp2
        go_roundw
        case rel => exact ⟨j + 1, (y1, y2), by omega, by omega, by go_num, HC.out, HK2.out, HR02.out, HB2.out⟩
        case measure => simp [intOf]; omega
    · obtain rfl : j = n := by omega
      rw [HMM.out] at hby
      have HBY := Lib.hid hby
      have hc0 := hr1.cell 0
      have hc1 := hr1.cell 1
      have e0 := hr0.cell 0
      have e1 := hr0.cell 1
      have f0 := hr0.frozen 0
      have f1 := hr0.frozen 1
      have hq01 : q0 ≠ q1 := by have := HQ0.out; have := HQ1.out; omega
      have HB3 : Hid (Below w.heap.size w ((wr.setCell ⟨q0, 0, none⟩ (.int .i64 y.1)).setCell ⟨q0, 1, none⟩ (.int .i64 y.2))) := (hb.setCell (p := ⟨q0, 0, none⟩) (by show w.heap.size ≤ q0; have := HQ0.out; omega) _).setCell (p := ⟨q0, 1, none⟩) (by show w.heap.size ≤ q0; have := HQ0.out; omega) _
      have k3 : Lrow ((wr.setCell ⟨q0, 0, none⟩ (.int .i64 y.1)).setCell ⟨q0, 1, none⟩ (.int .i64 y.2)) q0 92 [.int .i64 y.1, .int .i64 y.2] := (hr0.set_ 0 (.int .i64 y.1)).set_ 1 (.int .i64 y.2)
      have K3 := Lib.hid k3
      clear hby hb hr1 hr0 k3
      go_wp2
      have k0 := K3.out.cell 0
      have k1 := K3.out.cell 1
      clear hc0 hc1 e0 e1 f0 f1
      generalize (wr.setCell ⟨q0, 0, none⟩ (.int .i64 y.1)).setCell ⟨q0, 1, none⟩ (.int .i64 y.2) = w9 at HB3 k0 k1 ⊢
      exact bodyPost_ret (v := .agg #[.int .i64 y.1, .int .i64 y.2]) (by simp [results, Tryz.results113, go_sem, *]) rfl ⟨y, HBY.out, rfl, HB3.out⟩
set_option maxHeartbeats 1000000 in
set_option maxRecDepth 100000 in
theorem MaxFunc_any {w : World} {A : Option Addr} {M : List (Nat × Nat)} {c : Nat} (h : BlkRow w A M) (hM : M.length ≤ 4096) (h0 : 0 < M.length) :
    Calls Tryz.prog 115 #[.slice A M.length c, .func (.func 114) #[] #[]] w fun e w' => ∃ x, bstB true M = some x ∧ e = .returned (.agg #[.int .i64 x.1, .int .i64 x.2]) ∧ Below w.heap.size w w' := by
  have HR := Lib.hid h
  obtain ⟨ga, rfl, hga, hcells⟩ := h.at_ h0
  obtain ⟨b0, b1⟩ := hcells 0 h0
  simp only [Nat.zero_mul, Nat.zero_add] at b0 b1
  have HB1 := Lib.hid (bstB_one (great := true) h0)
  have HMM : Hid (M.take M.length = M) := List.take_length
  obtain ⟨x, hx⟩ : ∃ x, x = M.getD 0 (0, 0) := ⟨_, rfl⟩
  rw [← hx] at b0 b1 HB1
  obtain ⟨n, en⟩ : ∃ n, n = M.length := ⟨_, rfl⟩
  have HN := Lib.hid en
  rw [← en] at hM h0 HMM ⊢
  clear hcells hx en h
  obtain ⟨x1, hx1⟩ : ∃ x1, x1 = x.1 := ⟨_, rfl⟩
  obtain ⟨x2, hx2⟩ : ∃ x2, x2 = x.2 := ⟨_, rfl⟩
  rw [← hx1] at b0
  rw [← hx2] at b1
  have HX : Hid (x = (x1, x2)) := by show _ = _; rw [hx1, hx2]
  clear hx1 hx2
  go_enter Tryz.func115, Tryz.ntmps115
  go_wp2_with fail
  have g1 := (Lrow.new w 92 [.int .i64 0, .int .i64 0]).alloc (.cells #[.int .i64 x1, .int .i64 x2] 92)
  have g2 := Lrow.new (w.alloc (.cells #[.int .i64 0, .int .i64 0] 92)) 92 [.int .i64 x1, .int .i64 x2]
  have g3 := ((Below.refl w.heap.size w).alloc (Nat.le_refl _) (.cells #[.int .i64 0, .int .i64 0] 92)).alloc (by simp) (.cells #[.int .i64 x1, .int .i64 x2] 92)
  rw [World.size_alloc] at g2
  have G1 := Lib.hid g1
  have G2 := Lib.hid g2
  have G3 := Lib.hid g3
  clear g1 g2 g3 b0 b1
  generalize (w.alloc (.cells #[.int .i64 0, .int .i64 0] 92)).alloc (.cells #[.int .i64 x1, .int .i64 x2] 92) = w1 at G1 G2 G3 ⊢
  obtain ⟨q0, hq0⟩ : ∃ q, q = w.heap.size := ⟨_, rfl⟩
  obtain ⟨q1, hq1⟩ : ∃ q, q = w.heap.size + 1 := ⟨_, rfl⟩
  rw [← hq1] at G2 ⊢
  rw [← hq0] at G1 ⊢
  have HQ0 := Lib.hid hq0
  have HQ1 := Lib.hid hq1
  clear hq0 hq1
  go_loopw [6] (fun i wr => ∃ (j : Nat) (y : Nat × Nat), 1 ≤ j ∧ j ≤ n ∧ i = .int .i64 j ∧ bstB true (M.take j) = some y ∧ Lrow wr q1 92 [.int .i64 y.1, .int .i64 y.2] ∧ Lrow wr q0 92 [.int .i64 0, .int .i64 0] ∧ Below w.heap.size w wr) (fun i _ => n - (intOf i).toNat)
  case atStart => exact ⟨1, x, Nat.le_refl _, h0, rfl, HB1.out, by rw [HX.out]; exact G2.out, G1.out, G3.out⟩
  case round =>
    obtain ⟨j, y, hj1, hj, rfl, hby, hr1, hr0, hb⟩ := hrel
    by_cases hlt : j < n
    · obtain ⟨ga', ega, _, hcl⟩ := (HR.out.below hb).at_ (by rw [← HN.out]; exact h0)
      injection ega with ega
      injection ega with ega
      subst ega
      obtain ⟨d0, d1⟩ := hcl j (by rw [← HN.out]; exact hlt)
      have HNX := Lib.hid (bstB_take (great := true) (by rw [← HN.out]; exact hlt) hby)
      obtain ⟨z, hz⟩ : ∃ z, z = M.getD j (0, 0) := ⟨_, rfl⟩
      rw [← hz] at d0 d1 HNX
      obtain ⟨z1, hz1⟩ : ∃ z1, z1 = z.1 := ⟨_, rfl⟩
      obtain ⟨z2, hz2⟩ : ∃ z2, z2 = z.2 := ⟨_, rfl⟩
      obtain ⟨y1, hy1⟩ : ∃ y1, y1 = y.1 := ⟨_, rfl⟩
      obtain ⟨y2, hy2⟩ : ∃ y2, y2 = y.2 := ⟨_, rfl⟩
      rw [← hz1] at d0
      rw [← hz2] at d1 HNX
      rw [← hy1, ← hy2] at hr1
      rw [← hy2] at HNX
      have HZ : Hid (z = (z1, z2)) := by show _ = _; rw [hz1, hz2]
      have HY : Hid (y = (y1, y2)) := by show _ = _; rw [hy1, hy2]
      clear hz hz1 hz2 hy1 hy2 hcl hby
      have hs1 := And.intro d0 (And.intro d1 (And.intro (hr1.cell 0) (hr1.cell 1)))
      have HR1 := Lib.hid hr1
      have HR0 := Lib.hid hr0
      have HB := Lib.hid hb
      clear d0 d1 hr1 hr0
      have hgr : ga < wr.heap.size := Nat.lt_of_lt_of_le hga hb.size
      clear hb
      have hbo := fun W => byOrder_any (z1, z2) (y1, y2) W
      dsimp only at hbo
      by_cases hc : y2 < z2
      · have hr : (0 : Int) < Lib.compareInt (z2 : Int) (y2 : Int) := by
          rw [cmp_gt hc]; decide
        generalize Lib.compareInt (z2 : Int) (y2 : Int) = r at hbo hr
        have HBO := Lib.hid hbo
        have HC : Hid (bstB true (M.take (j + 1)) = some (z1, z2)) := by
          show _ = _
          rw [HNX.out, if_pos (Or.inl ⟨rfl, hc⟩), HZ.out]
        clear hbo hc
        go_wp2_with fail
        go_region_held3 (fun v => v.cell? ⟨ga, j * 2, none⟩ = some (.int .i64 z1) ∧ v.cell? ⟨ga, j * 2 + 1, none⟩ = some (.int .i64 z2) ∧ v.cell? ⟨q1, 0, none⟩ = some (.int .i64 y1) ∧ v.cell? ⟨q1, 1, none⟩ = some (.int .i64 y2)) (first | exact hs1 | exact hs2)
          (first | (go_at_call 114; refine (HBO.out _).mono ?_; rintro e w2 ⟨rfl, hb2⟩; have hk2 := (HR1.out.drewN 1).call hb2; have hs2 : w2.cell? ⟨ga, j * 2, none⟩ = some (.int .i64 z1) ∧ w2.cell? ⟨ga, j * 2 + 1, none⟩ = some (.int .i64 z2) ∧ w2.cell? ⟨q1, 0, none⟩ = some (.int .i64 y1) ∧ w2.cell? ⟨q1, 1, none⟩ = some (.int .i64 y2) := ⟨(hb2.cell (p := ⟨ga, j * 2, none⟩) hgr).trans hs1.1, (hb2.cell (p := ⟨ga, j * 2 + 1, none⟩) hgr).trans hs1.2.1, hk2.cell 0, hk2.cell 1⟩))
        have HB2 := Lib.hid ((below_dN HB.out 1).trans (hb2.mono HB.out.size))
        have HR02 := Lib.hid ((HR0.out.drewN 1).call hb2)
        have hf0 := hk2.frozen 0
        have hf1 := hk2.frozen 1
        obtain ⟨d0, d1, d2, d3⟩ := hs2
        have HK3 : Hid (Lrow ((w2.setCell ⟨q1, 0, none⟩ (.int .i64 z1)).setCell ⟨q1, 1, none⟩ (.int .i64 z2)) q1 92 [.int .i64 z1, .int .i64 z2]) := (hk2.set_ 0 (.int .i64 z1)).set_ 1 (.int .i64 z2)
        have hq01 : q0 ≠ q1 := by have := HQ0.out; have := HQ1.out; omega
        have HR03 : Hid (Lrow ((w2.setCell ⟨q1, 0, none⟩ (.int .i64 z1)).setCell ⟨q1, 1, none⟩ (.int .i64 z2)) q0 92 [.int .i64 0, .int .i64 0]) := (HR02.out.far hq01 _).far hq01 _
        have HB3 : Hid (Below w.heap.size w ((w2.setCell ⟨q1, 0, none⟩ (.int .i64 z1)).setCell ⟨q1, 1, none⟩ (.int .i64 z2))) := (HB2.out.setCell (p := ⟨q1, 0, none⟩) (by show w.heap.size ≤ q1; have := HQ1.out; omega) _).setCell (p := ⟨q1, 1, none⟩) (by show w.heap.size ≤ q1; have := HQ1.out; omega) _
        clear hb2 hk2 hs1 hq01 HR02 HB2
        go_wp2
        go_roundw
        case rel => exact ⟨j + 1, (z1, z2), by omega, by omega, by go_num, HC.out, HK3.out, HR03.out, HB3.out⟩
        case measure => simp [intOf]; omega
      · have hr : Lib.compareInt (z2 : Int) (y2 : Int) ≤ 0 := by
          rcases Nat.lt_or_ge z2 y2 with h | h; (rw [cmp_lt h]; decide); (rw [cmp_eq (by omega)]; decide)
        generalize Lib.compareInt (z2 : Int) (y2 : Int) = r at hbo hr
        have HBO := Lib.hid hbo
        have HC : Hid (bstB true (M.take (j + 1)) = some (y1, y2)) := by
          show _ = _
          rw [HNX.out, if_neg (by rintro (⟨_, h⟩ | ⟨h, _⟩); exact hc h; cases h), HY.out]
        clear hbo hc
        go_wp2_with fail
        go_region_held3 (fun v => v.cell? ⟨ga, j * 2, none⟩ = some (.int .i64 z1) ∧ v.cell? ⟨ga, j * 2 + 1, none⟩ = some (.int .i64 z2) ∧ v.cell? ⟨q1, 0, none⟩ = some (.int .i64 y1) ∧ v.cell? ⟨q1, 1, none⟩ = some (.int .i64 y2)) (first | exact hs1 | exact hs2)
          (first | (go_at_call 114; refine (HBO.out _).mono ?_; rintro e w2 ⟨rfl, hb2⟩; have hk2 := (HR1.out.drewN 1).call hb2; have hs2 : w2.cell? ⟨ga, j * 2, none⟩ = some (.int .i64 z1) ∧ w2.cell? ⟨ga, j * 2 + 1, none⟩ = some (.int .i64 z2) ∧ w2.cell? ⟨q1, 0, none⟩ = some (.int .i64 y1) ∧ w2.cell? ⟨q1, 1, none⟩ = some (.int .i64 y2) := ⟨(hb2.cell (p := ⟨ga, j * 2, none⟩) hgr).trans hs1.1, (hb2.cell (p := ⟨ga, j * 2 + 1, none⟩) hgr).trans hs1.2.1, hk2.cell 0, hk2.cell 1⟩))
        have HB2 := Lib.hid ((below_dN HB.out 1).trans (hb2.mono HB.out.size))
        have HR02 := Lib.hid ((HR0.out.drewN 1).call hb2)
        have HK2 := Lib.hid hk2
        clear hb2 hk2 hs1 hs2
        go_wp2
        go_roundw
        case rel => exact ⟨j + 1, (y1, y2), by omega, by omega, by go_num, HC.out, HK2.out, HR02.out, HB2.out⟩
        case measure => simp [intOf]; omega
    · obtain rfl : j = n := by omega
      rw [HMM.out] at hby
      have HBY := Lib.hid hby
      have hc0 := hr1.cell 0
      have hc1 := hr1.cell 1
      have e0 := hr0.cell 0
      have e1 := hr0.cell 1
      have f0 := hr0.frozen 0
      have f1 := hr0.frozen 1
      have hq01 : q0 ≠ q1 := by have := HQ0.out; have := HQ1.out; omega
      have HB3 : Hid (Below w.heap.size w ((wr.setCell ⟨q0, 0, none⟩ (.int .i64 y.1)).setCell ⟨q0, 1, none⟩ (.int .i64 y.2))) := (hb.setCell (p := ⟨q0, 0, none⟩) (by show w.heap.size ≤ q0; have := HQ0.out; omega) _).setCell (p := ⟨q0, 1, none⟩) (by show w.heap.size ≤ q0; have := HQ0.out; omega) _
      have k3 : Lrow ((wr.setCell ⟨q0, 0, none⟩ (.int .i64 y.1)).setCell ⟨q0, 1, none⟩ (.int .i64 y.2)) q0 92 [.int .i64 y.1, .int .i64 y.2] := (hr0.set_ 0 (.int .i64 y.1)).set_ 1 (.int .i64 y.2)
      have K3 := Lib.hid k3
      clear hby hb hr1 hr0 k3
      go_wp2
      have k0 := K3.out.cell 0
      have k1 := K3.out.cell 1
      clear hc0 hc1 e0 e1 f0 f1
      generalize (wr.setCell ⟨q0, 0, none⟩ (.int .i64 y.1)).setCell ⟨q0, 1, none⟩ (.int .i64 y.2) = w9 at HB3 k0 k1 ⊢
      exact bodyPost_ret (v := .agg #[.int .i64 y.1, .int .i64 y.2]) (by simp [results, Tryz.results115, go_sem, *]) rfl ⟨y, HBY.out, rfl, HB3.out⟩
end Go.Proofs.YtklhcgekagimkaaGreat
