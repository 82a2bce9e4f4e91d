/- The program's reservations: which one was touched longest ago. -/
import Derived.Test.YtfalmjibpkkjaaaC3
namespace Go.Proofs.Ytfalmjibpkkjaaa
open Go.RowKit
def tAt (L : List Rv) (j : Nat) : Int := (L.map fun x => x.t).getD j 0
/-- Of the first j + 1: where the oldest stands. -/
def oldK (L : List Rv) : Nat → Nat
  | 0 => 0
  | j + 1 => if tAt L (j + 1) < tAt L (oldK L j) then j + 1 else oldK L j
theorem oldK_succ (L : List Rv) (j : Nat) : oldK L (j + 1) = if tAt L (j + 1) < tAt L (oldK L j) then j + 1 else oldK L j := rfl
theorem oldK_le (L : List Rv) : ∀ j, oldK L j ≤ j
  | 0 => Nat.le_refl _
  | j + 1 => by
    have := oldK_le L j
    unfold oldK
    split <;> omega
theorem tAt_get {L : List Rv} {j : Nat} (h : j < L.length) : tAt L j = L[j].t := by
  unfold tAt
  rw [List.getD_eq_getElem?_getD, List.getElem?_map, List.getElem?_eq_getElem h]; rfl
def cmpU (a b : Int) : Int := if a < b then -1 else if b < a then 1 else 0
theorem isNaN_u (a : Int) (w : World) : Calls Try.prog 57 #[.int .u64 a] w fun e w' => e = .returned (.bool false) ∧ w = w' := by
  go_enter Try.func57, Try.ntmps57
  go_wp2
  go_ret
  exact ⟨by simp, rfl⟩
theorem compare_u (a b : Int) (w : World) : Calls Try.prog 49 #[.int .u64 a, .int .u64 b] w fun e w' => e = .returned (.int .i64 (cmpU a b)) ∧ w' = w := by
  unfold cmpU
  by_cases h : a < b
  · rw [if_pos h]
    go_enter Try.func49, Try.ntmps49
    go_wp2_with (go_at_call 57; refine (isNaN_u _ _).mono ?_; rintro e w1 ⟨rfl, rfl⟩)
    go_ret
    exact ⟨rfl, rfl⟩
  · rw [if_neg h]
    by_cases k : b < a
    · rw [if_pos k]
      go_enter Try.func49, Try.ntmps49
      go_wp2_with (go_at_call 57; refine (isNaN_u _ _).mono ?_; rintro e w1 ⟨rfl, rfl⟩)
      go_ret
      exact ⟨rfl, rfl⟩
    · rw [if_neg k]
      go_enter Try.func49, Try.ntmps49
      go_wp2_with (go_at_call 57; refine (isNaN_u _ _).mono ?_; rintro e w1 ⟨rfl, rfl⟩)
      go_ret
      exact ⟨rfl, rfl⟩
section
variable {w w' : World} {B : Nat} {T : ObT} {S S' : Rs} {n : Nat} {s p f : Int}
theorem ObAt.lookup_y (h : ObAt B w T S) (hb : Bnd n S) {y : Rv} (hy : y ∈ S.L) : (Instr.lookup 71 (.map (some T.bk)) (.agg #[.int .i64 y.s, .int .i64 y.p]) false).run Try.prog w = .ok (.pointer (some ⟨T.a y.s y.p, 0, none⟩)) w := by
  have ok := hb.ok y hy
  have hpe : pd y.p = y.p := pd_even ok.p8
  have := ok.s0
  have := ok.s1
  have := ok.p0
  have := ok.p1
  have h1 := h.look1 (s := y.s) (p := y.p) (by unfold Fits; omega) (by unfold Fits; omega) (hb.atP hy rfl hpe.symm)
  rw [hpe] at h1
  exact h1
set_option maxRecDepth 100000 in
set_option maxHeartbeats 2000000 in
theorem sooner_r (h : ObAt B w T S) (hb : Bnd n S) {cb : Nat} (hc : Lrow w cb 23 [.pointer (some ⟨T.s, 0, none⟩)]) {x y : Rv} (hx : x ∈ S.L) (hy : y ∈ S.L) :
    Calls Try.prog 48 #[.agg #[.int .i64 x.s, .int .i64 x.p], .agg #[.int .i64 y.s, .int .i64 y.p], .pointer (some ⟨cb, 0, none⟩)] w fun e w' => e = .returned (.int .i64 (cmpU x.t y.t)) ∧ Below w.heap.size w w' := by
  obtain ⟨W1, hW1⟩ : ∃ W1, W1 = w.alloc (.cells #[.int .i64 x.s, .int .i64 x.p] 66) := ⟨_, rfl⟩
  obtain ⟨W, hW⟩ : ∃ W, W = W1.alloc (.cells #[.int .i64 y.s, .int .i64 y.p] 66) := ⟨_, rfl⟩
  obtain ⟨b0, hb0⟩ : ∃ b0, b0 = w.heap.size := ⟨_, rfl⟩
  have bW1 : Below w.heap.size w W1 := by rw [hW1]; exact below_new _ _
  have bW2 : Below W1.heap.size W1 W := by rw [hW]; exact below_new _ _
  have bW : Below w.heap.size w W := bW1.trans (bW2.mono bW1.size)
  have s1 : W1.heap.size = b0 + 1 := by rw [hW1, hb0]; simp
  have r0 : Lrow W b0 66 [.int .i64 x.s, .int .i64 x.p] := by rw [hb0]; exact (by rw [hW1]; exact Lrow.new w _ _ : Lrow W1 w.heap.size 66 [.int .i64 x.s, .int .i64 x.p]).call bW2
  have r1 : Lrow W (b0 + 1) 66 [.int .i64 y.s, .int .i64 y.p] := by rw [← s1, hW]; exact Lrow.new W1 _ _
  have h2 := h.call bW
  have l0 : ∀ k, (Instr.lookup 71 (.map (some T.bk)) (.agg #[.int .i64 x.s, .int .i64 x.p]) false).run Try.prog (W.drewN k) = .ok (.pointer (some ⟨T.a x.s x.p, 0, none⟩)) (W.drewN k) := fun k => (h2.drewN k).lookup_y hb hx
  have l1 : ∀ k, (Instr.lookup 71 (.map (some T.bk)) (.agg #[.int .i64 y.s, .int .i64 y.p]) false).run Try.prog (W.drewN k) = .ok (.pointer (some ⟨T.a y.s y.p, 0, none⟩)) (W.drewN k) := fun k => (h2.drewN k).lookup_y hb hy
  have c0 := h2.c0
  have cb0 := (hc.call bW).cell 0
  have x0 := r0.cell 0
  have x1 := r0.cell 1
  have y0 := r1.cell 0
  have y1 := r1.cell 1
  have tx : W.cell? ⟨T.a x.s x.p, 4, none⟩ = some (.int .u64 x.t) := (h2.row x hx).cell 4
  have ty : W.cell? ⟨T.a y.s y.p, 4, none⟩ = some (.int .u64 y.t) := (h2.row y hy).cell 4
  have l00 := l0 0
  have l10 := l1 0
  change (Instr.lookup _ _ _ false).run _ W = .ok _ W at l00 l10
  have hcmp := fun w => compare_u x.t y.t w
  have HW := Lib.hid (And.intro hW (And.intro hW1 hb0))
  have HB : Hid (∀ k, Below w.heap.size w (W.drewN k)) := fun k => below_dN bW k
  generalize T.a x.s x.p = qx at *
  generalize T.a y.s y.p = qy at *
  generalize T.s = ts at *
  generalize T.bk = bk at *
  generalize x.s = xs at *
  generalize x.p = xp at *
  generalize y.s = ys at *
  generalize y.p = yp at *
  generalize cmpU x.t y.t = r at *
  generalize x.t = xt at *
  generalize y.t = yt at *
  clear h hb hc hx hy bW1 bW2 bW r0 r1 h2 hW hW1 s1 hb0
  go_enter Try.func48, Try.ntmps48
  go_upto_region 1 with (fail)
  rw [← HW.out.2.1, ← HW.out.1, ← HW.out.2.2]
  go_wp2_with fail
  go_quiet ((go_at_call 49; exact Calls.quiet_of_same (hcmp _)))
  go_wp2
  go_ret
  exact ⟨rfl, HB.out _⟩
end
end Go.Proofs.Ytfalmjibpkkjaaa
