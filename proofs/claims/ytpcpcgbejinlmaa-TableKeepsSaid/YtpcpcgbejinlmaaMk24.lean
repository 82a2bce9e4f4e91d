/- Eight entries in a row: how they lie; the eight parts of a leaf. -/
import Derived.Test.YtpcpcgbejinlmaaMk19
import Derived.Deep.MidRow
import Derived.Deep.WholeRow
import Derived.StillTailTactics
namespace Go.Proofs.Ytpcpcgbejinlmaa
open Go.RowKit
structure En where
  f : Int
  p : Bool
  w : Bool
  h : Bool
  k : Bool
  u : Bool
  d : Bool
def En.zero : En := ⟨0, false, false, false, false, false, false⟩
def encell (e : En) : List Value := [.int .i64 e.f, .bool e.p, .bool e.w, .bool e.h, .bool e.k, .bool e.u, .bool e.d]
def encells : List En → List Value
  | [] => []
  | m :: r => encell m ++ encells r
theorem encell_length (e : En) : (encell e).length = 7 := rfl
theorem encells_length (L : List En) : (encells L).length = L.length * 7 := by
  induction L with
  | nil => rfl
  | cons m r ih => simp only [encells, List.length_append, ih, List.length_cons, encell_length]; omega
theorem encell_one (m : En) : ∀ u ∈ encell m, u.oneCell' = true := by
  intro u hu; simp [encell] at hu; rcases hu with rfl | rfl | rfl | rfl | rfl | rfl | rfl <;> rfl
theorem encells_at : ∀ (L : List En) (j : Nat) (hj : j < L.length) (i : Nat), i < 7 → (encells L)[j * 7 + i]? = (encell L[j])[i]?
  | [], _, hj, _, _ => absurd hj (Nat.not_lt_zero _)
  | m :: r, 0, _, i, hi => by
    simp only [encells, Nat.zero_mul, Nat.zero_add]
    rw [List.getElem?_append_left (by simp [encell]; omega)]; rfl
  | m :: r, j + 1, hj, i, hi => by
    simp only [encells]
    rw [List.getElem?_append_right (by simp [encell]; omega), show (j + 1) * 7 + i - (encell m).length = j * 7 + i by simp [encell]; omega]
    have := encells_at r j (by simpa using hj) i hi
    simpa using this
theorem encells_splice : ∀ (L : List En) (j : Nat) (x : En), j < L.length → splice (encells L) (j * 7) (encell x) = encells (L.set j x)
  | [], _, _, hj => absurd hj (Nat.not_lt_zero _)
  | m :: r, 0, x, _ => by
    simp only [List.set_cons_zero, encells, splice, Nat.zero_mul, List.take_zero, List.nil_append, Nat.zero_add, encell_length]
    congr 1
  | m :: r, j + 1, x, hj => by
    have ih := encells_splice r j x (by simpa using hj)
    simp only [List.set_cons_succ, encells]
    rw [← ih]
    unfold splice
    rw [encell_length]
    have e1 : (encell m ++ encells r).take ((j + 1) * 7) = encell m ++ (encells r).take (j * 7) := by
      rw [show (j + 1) * 7 = (encell m).length + j * 7 by simp [encell]; omega, List.take_length_add_append]
    have e2 : (encell m ++ encells r).drop ((j + 1) * 7 + 7) = (encells r).drop (j * 7 + 7) := by
      rw [show (j + 1) * 7 + 7 = (encell m).length + (j * 7 + 7) by simp [encell]; omega, List.drop_length_add_append]
    rw [e1, e2]
    simp
theorem encells_set (L : List En) (j i : Nat) (v : Value) (x : En) (hj : j < L.length) (hi : i < 7) (hx : encell x = (encell L[j]).set i v) : (encells L).set (j * 7 + i) v = encells (L.set j x) := by
  rw [← encells_splice L j x hj, hx]
  have hlen := encells_length L
  apply List.ext_getElem?
  intro q
  rw [List.getElem?_set, splice_get _ _ _ (by rw [List.length_set, encell_length]; omega), List.length_set, encell_length]
  by_cases h1 : q < j * 7
  · rw [if_pos h1, if_neg (by omega)]
  · rw [if_neg h1]
    by_cases h2 : q < j * 7 + 7
    · rw [if_pos h2, List.getElem?_set]
      obtain ⟨t, rfl⟩ : ∃ t, q = j * 7 + t := ⟨q - j * 7, by omega⟩
      by_cases h3 : i = t
      · subst h3
        rw [if_pos rfl, if_pos (by omega), if_pos (by omega), if_pos (by rw [encell_length]; omega)]
      · rw [if_neg (by omega), if_neg (by omega), encells_at L j hj t (by omega), show j * 7 + t - j * 7 = t by omega]
    · rw [if_neg h2, if_neg (by omega)]
theorem encells_part (L : List En) (j : Nat) (hj : j < L.length) : ((encells L).drop (j * 7)).take 7 = encell L[j] := by
  apply List.ext_getElem?
  intro q
  by_cases hq : q < 7
  · rw [List.getElem?_take_of_lt hq, List.getElem?_drop, encells_at L j hj q hq]
  · rw [List.getElem?_eq_none (by simp; omega), List.getElem?_eq_none (by rw [encell_length]; omega)]
def ens (g : Nat → En) : List En := (List.range 8).map g
theorem ens_length (g : Nat → En) : (ens g).length = 8 := by simp [ens]
theorem ens_get (g : Nat → En) (j : Nat) (hj : j < (ens g).length) : (ens g)[j] = g j := by simp [ens]
def upd {α : Type} (g : Nat → α) (j : Nat) (x : α) : Nat → α := fun k => if k = j then x else g k
theorem ens_set (g : Nat → En) (j : Nat) (x : En) : (ens g).set j x = ens (upd g j x) := by
  apply List.ext_getElem
  · simp [ens]
  · intro q h1 h2
    simp [ens, upd, List.getElem_set]
    by_cases h : j = q
    · simp [h]
    · have h' : ¬ q = j := fun e => h e.symm
      simp [h, h']
theorem ens_congr {g g' : Nat → En} (h : ∀ k, k < 8 → g k = g' k) : ens g = ens g' := by
  unfold ens
  apply List.map_congr_left
  intro k hk
  exact h k (List.mem_range.1 hk)
def Row8 (w : World) (b : Nat) (g : Nat → En) : Prop := Row w b 79 (encells (ens g))
section
variable {w : World} {b : Nat} {g : Nat → En}
theorem Row8.cell (h : Row8 w b g) {j i : Nat} (hj : j < 8) (hi : i < 7) : w.cell? ⟨b, j * 7 + i, none⟩ = (encell (g j))[i]? := by
  rw [Row.cell h, encells_at _ j (by rw [ens_length]; exact hj) i hi, ens_get]
theorem Row8.store (h : Row8 w b g) {j : Nat} (hj : j < 8) (x : En) : Row8 (w.setCells b (j * 7) (encell x)) b (upd g j x) ∧ w.grownBy (w.setCells b (j * 7) (encell x)) (some b) := by
  obtain ⟨k1, k2⟩ := row_setCells b 79 (encell x) (j * 7) w (encells (ens g)) h (by rw [encells_length, ens_length, encell_length]; omega)
  rw [encells_splice _ j x (by rw [ens_length]; exact hj), ens_set] at k1
  exact ⟨k1, k2⟩
theorem Row8.set (h : Row8 w b g) {j i : Nat} (hj : j < 8) (hi : i < 7) (u : Value) (x : En) (hx : encell x = (encell (g j)).set i u) : Row8 (w.setCell ⟨b, j * 7 + i, none⟩ u) b (upd g j x) := by
  have := Row.set_ h (j * 7 + i) u
  rwa [encells_set _ j i u x (by rw [ens_length]; exact hj) hi (by rw [ens_get]; exact hx), ens_set] at this
end
theorem under8 : Try.prog.underlying 79 = some (.array 8 28) := by kernel_rfl
theorem info8 : (Try.prog.info? 79).map (·.size) = some 56 := by kernel_rfl
theorem encells_one (L : List En) : ∀ u ∈ encells L, u.oneCell' = true := by
  induction L with
  | nil => intro u hu; cases hu
  | cons m r ih =>
    intro u hu
    simp only [encells, List.mem_append] at hu
    rcases hu with hu | hu
    · exact encell_one m u hu
    · exact ih u hu
theorem splice_whole {α : Type} {L cs : List α} (h : cs.length = L.length) : splice L 0 cs = cs := by
  unfold splice
  rw [List.take_zero, List.nil_append, Nat.zero_add, h, List.drop_length, List.append_nil]
theorem Row8.grown1 {w w' : World} {b : Nat} {g : Nat → En} {row : Option Nat} (h : Row8 w b g) (hg : w.grownBy w' row) (hb : some b ≠ row) : Row8 w' b g := Row.grown h hg hb
theorem Row8.there0 {w : World} {b : Nat} {g : Nat → En} (h : Row8 w b g) : w.there b 0 56 := fun i hi => by
  rw [Nat.zero_add]
  refine ⟨?_, Row.frozen h _⟩
  rw [Row.cell h, List.getElem?_eq_getElem (by rw [encells_length, ens_length]; omega)]
  rfl
def pt (f : Int) (p w k u d : Bool) (lv : Int) (i : Nat) : En := ⟨f + i * szO ((lv - 1) * 3), p, w, decide (1 < lv), k, u, d⟩
section
variable {w : World}
set_option maxRecDepth 100000 in
set_option maxHeartbeats 400000 in
theorem parts_any (f : Int) (p ww h k u d : Bool) (lv fr : Int) (hl : lv = 1 ∨ lv = 2) (f0 : 0 ≤ f) (f1 : f < 1048576) : Calls Try.prog 27 #[.agg #[.int .i64 f, .bool p, .bool ww, .bool h, .bool k, .bool u, .bool d, .int .i64 lv, .int .i64 fr]] w fun e w' =>
    e = .returned (.agg (encells (ens (pt f p ww k u d lv))).toArray) ∧ Below w.heap.size w w' := by
  obtain ⟨g, hg⟩ : ∃ g, g = w.heap.size := ⟨_, rfl⟩
  obtain ⟨wa, hwa⟩ : ∃ wa, wa = w.alloc (.cells #[.int .i64 f, .bool p, .bool ww, .bool h, .bool k, .bool u, .bool d, .int .i64 lv, .int .i64 fr] 30) := ⟨_, rfl⟩
  obtain ⟨w1, hw1⟩ : ∃ w1, w1 = (wa.alloc (.cells (encells (ens fun _ => En.zero)).toArray 79)).alloc (.cells (encells (ens fun _ => En.zero)).toArray 79) := ⟨_, rfl⟩
  have hga : wa.heap.size = g + 1 := by rw [hwa, hg]; simp
  have r0 : Row w1 g 30 [.int .i64 f, .bool p, .bool ww, .bool h, .bool k, .bool u, .bool d, .int .i64 lv, .int .i64 fr] := by
    rw [hw1]; refine Row.alloc (Row.alloc ?_ _) _; rw [hwa, hg]; exact Row.new w _ _
  have r1 : Row8 w1 (g + 1) (fun _ => En.zero) := by
    rw [hw1, ← hga]; exact Row.alloc (Row.new wa _ _) _
  have r2 : Row8 w1 (g + 1 + 1) (fun _ => En.zero) := by
    have := Row.new (wa.alloc (.cells (encells (ens fun _ => En.zero)).toArray 79)) 79 (encells (ens fun _ => En.zero))
    rw [hw1]; unfold Row8; rw [show g + 1 + 1 = (wa.alloc (.cells (encells (ens fun _ => En.zero)).toArray 79)).heap.size by simp [hga]]; exact this
  have b1 : Below g w w1 := by
    rw [hw1]; exact ((show Below g w wa by rw [hwa, hg]; exact (Below.refl _ _).alloc (Nat.le_refl _) _).alloc (by omega) _).alloc (by simp; omega) _
  have hz : (wa.alloc (.cells #[.int .i64 0, .bool false, .bool false, .bool false, .bool false, .bool false, .bool false, .int .i64 0, .bool false, .bool false, .bool false, .bool false, .bool false, .bool false, .int .i64 0, .bool false, .bool false, .bool false, .bool false, .bool false, .bool false, .int .i64 0, .bool false, .bool false, .bool false, .bool false, .bool false, .bool false, .int .i64 0, .bool false, .bool false, .bool false, .bool false, .bool false, .bool false, .int .i64 0, .bool false, .bool false, .bool false, .bool false, .bool false, .bool false, .int .i64 0, .bool false, .bool false, .bool false, .bool false, .bool false, .bool false, .int .i64 0, .bool false, .bool false, .bool false, .bool false, .bool false, .bool false] 79)).alloc (.cells #[.int .i64 0, .bool false, .bool false, .bool false, .bool false, .bool false, .bool false, .int .i64 0, .bool false, .bool false, .bool false, .bool false, .bool false, .bool false, .int .i64 0, .bool false, .bool false, .bool false, .bool false, .bool false, .bool false, .int .i64 0, .bool false, .bool false, .bool false, .bool false, .bool false, .bool false, .int .i64 0, .bool false, .bool false, .bool false, .bool false, .bool false, .bool false, .int .i64 0, .bool false, .bool false, .bool false, .bool false, .bool false, .bool false, .int .i64 0, .bool false, .bool false, .bool false, .bool false, .bool false, .bool false, .int .i64 0, .bool false, .bool false, .bool false, .bool false, .bool false, .bool false] 79) = w1 := by rw [hw1]; rfl
  have HW := Lib.hid hz
  have HA := Lib.hid hwa
  have HG := Lib.hid hg
  have R0 := Lib.hid r0
  have R1 := Lib.hid r1
  have R2 := Lib.hid r2
  have B1 := Lib.hid b1
  have HGA := Lib.hid hga
  clear hz hwa hg r0 r1 r2 b1 hw1 hga
  obtain ⟨q1, hq1⟩ : ∃ q, q = g + 1 := ⟨_, rfl⟩
  obtain ⟨q2, hq2⟩ : ∃ q, q = q1 + 1 := ⟨_, rfl⟩
  have HQ1 := Lib.hid hq1
  have HQ2 := Lib.hid hq2
  have R1' : Hid (Row8 w1 q1 (fun _ => En.zero)) := hq1 ▸ R1.out
  have R2' : Hid (Row8 w1 q2 (fun _ => En.zero)) := by show Row8 w1 q2 _; rw [hq2, hq1]; exact R2.out
  have c7 : w1.cell? ⟨g, 7, none⟩ = some (.int .i64 lv) := R0.out.cell 7
  have hadd : ∀ i, (⟨q2, 0, none⟩ : Addr).add i = ⟨q2, i, none⟩ := fun i => add_zero_off q2 i
  have ne1 : ¬ g = q2 := by omega
  have ne2 : ¬ q1 = q2 := by omega
  clear hq1 hq2 R1 R2
  rcases hl with rfl | rfl
  · go_enter Try.func27, Try.ntmps27
    go_upto_region 2 with (fail)
    rw [← HA.out, HW.out, ← HG.out, ← HQ1.out, ← HQ2.out]
    clear HW HA HGA
    go_wp2
    clear c7
    go_loopw [9] (fun i wx => ∃ j : Nat, j ≤ 8 ∧ i = .int .i64 j ∧ Row8 wx q2 (fun k' => if k' < j then pt f p ww k u d 1 k' else En.zero) ∧ w1.grownBy wx (some q2)) (fun i _ => 8 - (intOf i).toNat)
    case atStart => exact ⟨0, by omega, rfl, by simpa using R2'.out, World.grownBy.refl _ _⟩
    case round =>
      obtain ⟨j, hj, rfl, hr, hgr⟩ := hrel
      by_cases hj8 : j < 8
      · obtain ⟨c0, c1, c2, c3, c4, c5, c6, -⟩ := (R0.out.grown hgr (by simpa using ne1)).nine9
        have e0 : wr.cell? ⟨q2, j * 7, none⟩ = some (.int .i64 0) := by have := hr.cell hj8 (show 0 < 7 by omega); simpa [encell, En.zero] using this
        have e1 : wr.cell? ⟨q2, j * 7 + 1, none⟩ = some (.bool false) := by have := hr.cell hj8 (show 1 < 7 by omega); simpa [encell, En.zero] using this
        have e2 : wr.cell? ⟨q2, j * 7 + 2, none⟩ = some (.bool false) := by have := hr.cell hj8 (show 2 < 7 by omega); simpa [encell, En.zero] using this
        have e3 : wr.cell? ⟨q2, j * 7 + 3, none⟩ = some (.bool false) := by have := hr.cell hj8 (show 3 < 7 by omega); simpa [encell, En.zero] using this
        have e4 : wr.cell? ⟨q2, j * 7 + 4, none⟩ = some (.bool false) := by have := hr.cell hj8 (show 4 < 7 by omega); simpa [encell, En.zero] using this
        have e5 : wr.cell? ⟨q2, j * 7 + 5, none⟩ = some (.bool false) := by have := hr.cell hj8 (show 5 < 7 by omega); simpa [encell, En.zero] using this
        have e6 : wr.cell? ⟨q2, j * 7 + 6, none⟩ = some (.bool false) := by have := hr.cell hj8 (show 6 < 7 by omega); simpa [encell, En.zero] using this
        have ef : ∀ o, wr.frozen? ⟨q2, o, none⟩ = false := fun o => Row.frozen hr o
        obtain ⟨w2, hw2⟩ : ∃ w2, w2 = (((((((wr.setCell ⟨q2, j * 7, none⟩ (.int .i64 f)).setCell ⟨q2, j * 7 + 1, none⟩ (.bool p)).setCell ⟨q2, j * 7 + 2, none⟩ (.bool ww)).setCell ⟨q2, j * 7 + 3, none⟩ (.bool h)).setCell ⟨q2, j * 7 + 4, none⟩ (.bool k)).setCell ⟨q2, j * 7 + 5, none⟩ (.bool u)).setCell ⟨q2, j * 7 + 6, none⟩ (.bool d)) := ⟨_, rfl⟩
        have hst := hr.store hj8 ⟨f, p, ww, h, k, u, d⟩
        have r2 : Row8 w2 q2 (upd (fun k' => if k' < j then pt f p ww k u d 1 k' else En.zero) j ⟨f, p, ww, h, k, u, d⟩) := by rw [hw2]; exact hst.1
        have g2 : wr.grownBy w2 (some q2) := by rw [hw2]; exact hst.2
        have HR2 := Lib.hid r2
        have HG2 := Lib.hid (grown_trans1 hgr g2)
        have HW2 := Lib.hid hw2
        have d0 : w2.cell? ⟨q2, j * 7, none⟩ = some (.int .i64 f) := by have := r2.cell hj8 (show 0 < 7 by omega); simpa [encell, upd] using this
        have df : ∀ o, w2.frozen? ⟨q2, o, none⟩ = false := fun o => Row.frozen r2 o
        clear hr hgr hst r2 g2 hw2
        go_upto_region 7 with (fail)
        rw [← HW2.out]
        clear e0 e1 e2 e3 e4 e5 e6 ef c0 c1 c2 c3 c4 c5 c6
        have hw0 : IntKind.i64.wrap 0 = 0 := by decide
        have hws : IntKind.i64.wrap (j : Int) = (j : Int) := IntWalk.i64_in _ (by omega)
        have hwf : IntKind.i64.wrap (f + (j : Int)) = f + (j : Int) := IntWalk.i64_in _ (by omega)
        go_wp2_with fail
        go_still_tail 11, (by kernel_rfl)
        change wpList _ _ _ _ _ w2.drew
        obtain ⟨w3, e3⟩ : ∃ w3, w3 = w2.drew := ⟨_, rfl⟩
        have d0' : w3.cell? ⟨q2, j * 7, none⟩ = some (.int .i64 f) := e3 ▸ d0
        have df' : ∀ o, w3.frozen? ⟨q2, o, none⟩ = false := e3 ▸ df
        have HR3 : Hid (Row8 w3 q2 (upd (fun k' => if k' < j then pt f p ww k u d 1 k' else En.zero) j ⟨f, p, ww, h, k, u, d⟩)) := e3 ▸ HR2.out
        have HG3 : Hid (w1.grownBy w3 (some q2)) := by rw [e3]; exact ⟨HG2.out.os, HG2.out.tape, HG2.out.output, HG2.out.size, HG2.out.block⟩
        rw [← e3]
        clear e3 d0 df HR2 HG2
        obtain ⟨w4, e4⟩ : ∃ w4, w4 = w3.setCell ⟨q2, j * 7, none⟩ (.int .i64 (f + (j : Int))) := ⟨_, rfl⟩
        have r4 : Row8 w4 q2 (upd (upd (fun k' => if k' < j then pt f p ww k u d 1 k' else En.zero) j ⟨f, p, ww, h, k, u, d⟩) j ⟨f + (j : Int), p, ww, h, k, u, d⟩) := by
          rw [e4]; exact HR3.out.set hj8 (show 0 < 7 by omega) _ ⟨f + (j : Int), p, ww, h, k, u, d⟩ (by simp [encell, upd])
        have HG4 : Hid (w1.grownBy w4 (some q2)) := by rw [e4]; exact grown_trans1 HG3.out (grown_set _ _ _ _)
        have HR4 := Lib.hid r4
        have d3' : w4.cell? ⟨q2, j * 7 + 3, none⟩ = some (.bool h) := by have := r4.cell hj8 (show 3 < 7 by omega); simpa [encell, upd] using this
        have df4 : ∀ o, w4.frozen? ⟨q2, o, none⟩ = false := fun o => Row.frozen r4 o
        have HW4 := Lib.hid e4
        clear r4 e4 HR3 HG3
        go_upto_region 8 with (fail)
        rw [← HW4.out]
        clear d0' df' HW4
        have HR5 : Hid (Row8 (w4.setCell ⟨q2, j * 7 + 3, none⟩ (.bool false)) q2 (fun k' => if k' < j + 1 then pt f p ww k u d 1 k' else En.zero)) := by
          have := HR4.out.set hj8 (show 3 < 7 by omega) (.bool false) ⟨f + (j : Int), p, ww, false, k, u, d⟩ (by simp [encell, upd])
          show Row _ _ _ _
          rw [ens_congr (g' := upd (upd (upd (fun k' => if k' < j then pt f p ww k u d 1 k' else En.zero) j ⟨f, p, ww, h, k, u, d⟩) j ⟨f + (j : Int), p, ww, h, k, u, d⟩) j ⟨f + (j : Int), p, ww, false, k, u, d⟩) (fun q _ => ?_)]
          · exact this
          · simp only [upd]
            by_cases e1 : q = j
            · subst e1; simp [pt, szO]
            · by_cases e2 : q < j
              · simp [e1, e2, Nat.lt_succ_of_lt e2]
              · simp [e1, e2, show ¬ q < j + 1 by omega]
        have HG5 : Hid (w1.grownBy (w4.setCell ⟨q2, j * 7 + 3, none⟩ (.bool false)) (some q2)) := grown_trans1 HG4.out (grown_set _ _ _ _)
        go_wp2_with fail
        go_roundw
        case rel => exact ⟨j + 1, by omega, by go_num, HR5.out, HG5.out⟩
        case measure => simp [intOf]; omega
      · obtain rfl : j = 8 := by omega
        have hrow : Row8 wr q2 (pt f p ww k u d 1) := by
          have := hr
          unfold Row8 at this ⊢
          rwa [ens_congr (g' := pt f p ww k u d 1) (fun q hq => by simp [hq])] at this
        have r1 := R1'.out.grown1 hgr (by simpa using ne2)
        have hr0 : Row w1 q1 79 (encells (ens fun _ => En.zero)) := R1'.out
        obtain ⟨w5, h5⟩ : ∃ w5, w5 = wr.setCells q1 0 (encells (ens (pt f p ww k u d 1))) := ⟨_, rfl⟩
        obtain ⟨k1, k2⟩ := row_setCells q1 79 (encells (ens (pt f p ww k u d 1))) 0 wr _ r1 (by simp [encells_length, ens_length])
        rw [splice_whole (by simp [encells_length, ens_length]), ← h5] at k1
        rw [← h5] at k2
        have HK := Lib.hid k1
        have HB5 : Hid (Below w.heap.size w w5) := by
          have b0 := HG.out ▸ B1.out
          have b1 := b0.grown hgr b0.size (fun r e => by injection e with e; have := HQ1.out; have := HQ2.out; have := HG.out; omega)
          exact b1.grown k2 b1.size (fun r e => by injection e with e; have := HQ1.out; have := HG.out; omega)
        have HW5 := Lib.hid h5
        go_upto_region 10 with (fail)
        apply wp_region_lit
        refine wpList_load_row rfl _ _ rfl q2 rfl 79 (encells (ens (pt f p ww k u d 1))).toArray (0, 0) _ hrow under8 rfl (by simp [info8, encells_length, ens_length]) ?_
        refine wpList_store_mid rfl _ _ _ rfl q1 0 (encells (ens (pt f p ww k u d 1))).toArray rfl rfl (by simpa [encells_length, ens_length] using r1.there0) (by simp [info8, encells_length, ens_length]) (by simpa using encells_one _) ?_
        rw [show wr.setCells q1 0 (encells (ens (pt f p ww k u d 1))).toArray.toList = w5 from HW5.out.symm]
        go_wp2_with fail
        exact bodyPost_ret (v := .agg (encells (ens (pt f p ww k u d 1))).toArray) (results_cell_row rfl _ _ q1 79 _ (0, 0) _ rfl HK.out under8 rfl (by simp [info8, encells_length, ens_length])) rfl ⟨rfl, HB5.out⟩
  · go_enter Try.func27, Try.ntmps27
    go_upto_region 2 with (fail)
    rw [← HA.out, HW.out, ← HG.out, ← HQ1.out, ← HQ2.out]
    clear HW HA HGA
    go_wp2
    clear c7
    go_loopw [9] (fun i wx => ∃ j : Nat, j ≤ 8 ∧ i = .int .i64 j ∧ Row8 wx q2 (fun k' => if k' < j then pt f p ww k u d 2 k' else En.zero) ∧ w1.grownBy wx (some q2)) (fun i _ => 8 - (intOf i).toNat)
    case atStart => exact ⟨0, by omega, rfl, by simpa using R2'.out, World.grownBy.refl _ _⟩
    case round =>
      obtain ⟨j, hj, rfl, hr, hgr⟩ := hrel
      by_cases hj8 : j < 8
      · obtain ⟨c0, c1, c2, c3, c4, c5, c6, -⟩ := (R0.out.grown hgr (by simpa using ne1)).nine9
        have e0 : wr.cell? ⟨q2, j * 7, none⟩ = some (.int .i64 0) := by have := hr.cell hj8 (show 0 < 7 by omega); simpa [encell, En.zero] using this
        have e1 : wr.cell? ⟨q2, j * 7 + 1, none⟩ = some (.bool false) := by have := hr.cell hj8 (show 1 < 7 by omega); simpa [encell, En.zero] using this
        have e2 : wr.cell? ⟨q2, j * 7 + 2, none⟩ = some (.bool false) := by have := hr.cell hj8 (show 2 < 7 by omega); simpa [encell, En.zero] using this
        have e3 : wr.cell? ⟨q2, j * 7 + 3, none⟩ = some (.bool false) := by have := hr.cell hj8 (show 3 < 7 by omega); simpa [encell, En.zero] using this
        have e4 : wr.cell? ⟨q2, j * 7 + 4, none⟩ = some (.bool false) := by have := hr.cell hj8 (show 4 < 7 by omega); simpa [encell, En.zero] using this
        have e5 : wr.cell? ⟨q2, j * 7 + 5, none⟩ = some (.bool false) := by have := hr.cell hj8 (show 5 < 7 by omega); simpa [encell, En.zero] using this
        have e6 : wr.cell? ⟨q2, j * 7 + 6, none⟩ = some (.bool false) := by have := hr.cell hj8 (show 6 < 7 by omega); simpa [encell, En.zero] using this
        have ef : ∀ o, wr.frozen? ⟨q2, o, none⟩ = false := fun o => Row.frozen hr o
        obtain ⟨w2, hw2⟩ : ∃ w2, w2 = (((((((wr.setCell ⟨q2, j * 7, none⟩ (.int .i64 f)).setCell ⟨q2, j * 7 + 1, none⟩ (.bool p)).setCell ⟨q2, j * 7 + 2, none⟩ (.bool ww)).setCell ⟨q2, j * 7 + 3, none⟩ (.bool h)).setCell ⟨q2, j * 7 + 4, none⟩ (.bool k)).setCell ⟨q2, j * 7 + 5, none⟩ (.bool u)).setCell ⟨q2, j * 7 + 6, none⟩ (.bool d)) := ⟨_, rfl⟩
        have hst := hr.store hj8 ⟨f, p, ww, h, k, u, d⟩
        have r2 : Row8 w2 q2 (upd (fun k' => if k' < j then pt f p ww k u d 2 k' else En.zero) j ⟨f, p, ww, h, k, u, d⟩) := by rw [hw2]; exact hst.1
        have g2 : wr.grownBy w2 (some q2) := by rw [hw2]; exact hst.2
        have HR2 := Lib.hid r2
        have HG2 := Lib.hid (grown_trans1 hgr g2)
        have HW2 := Lib.hid hw2
        have d0 : w2.cell? ⟨q2, j * 7, none⟩ = some (.int .i64 f) := by have := r2.cell hj8 (show 0 < 7 by omega); simpa [encell, upd] using this
        have df : ∀ o, w2.frozen? ⟨q2, o, none⟩ = false := fun o => Row.frozen r2 o
        clear hr hgr hst r2 g2 hw2
        go_upto_region 7 with (fail)
        rw [← HW2.out]
        clear e0 e1 e2 e3 e4 e5 e6 ef c0 c1 c2 c3 c4 c5 c6
        have hw0 : IntKind.i64.wrap 3 = 3 := by decide
        have hws : IntKind.i64.wrap ((j : Int) * 8) = (j : Int) * 8 := IntWalk.i64_in _ (by omega)
        have hwf : IntKind.i64.wrap (f + (j : Int) * 8) = f + (j : Int) * 8 := IntWalk.i64_in _ (by omega)
        go_wp2_with fail
        go_still_tail 11, (by kernel_rfl)
        change wpList _ _ _ _ _ w2.drew
        obtain ⟨w3, e3⟩ : ∃ w3, w3 = w2.drew := ⟨_, rfl⟩
        have d0' : w3.cell? ⟨q2, j * 7, none⟩ = some (.int .i64 f) := e3 ▸ d0
        have df' : ∀ o, w3.frozen? ⟨q2, o, none⟩ = false := e3 ▸ df
        have HR3 : Hid (Row8 w3 q2 (upd (fun k' => if k' < j then pt f p ww k u d 2 k' else En.zero) j ⟨f, p, ww, h, k, u, d⟩)) := e3 ▸ HR2.out
        have HG3 : Hid (w1.grownBy w3 (some q2)) := by rw [e3]; exact ⟨HG2.out.os, HG2.out.tape, HG2.out.output, HG2.out.size, HG2.out.block⟩
        rw [← e3]
        clear e3 d0 df HR2 HG2
        obtain ⟨w4, e4⟩ : ∃ w4, w4 = w3.setCell ⟨q2, j * 7, none⟩ (.int .i64 (f + (j : Int) * 8)) := ⟨_, rfl⟩
        have r4 : Row8 w4 q2 (upd (upd (fun k' => if k' < j then pt f p ww k u d 2 k' else En.zero) j ⟨f, p, ww, h, k, u, d⟩) j ⟨f + (j : Int) * 8, p, ww, h, k, u, d⟩) := by
          rw [e4]; exact HR3.out.set hj8 (show 0 < 7 by omega) _ ⟨f + (j : Int) * 8, p, ww, h, k, u, d⟩ (by simp [encell, upd])
        have HG4 : Hid (w1.grownBy w4 (some q2)) := by rw [e4]; exact grown_trans1 HG3.out (grown_set _ _ _ _)
        have HR4 := Lib.hid r4
        have d3' : w4.cell? ⟨q2, j * 7 + 3, none⟩ = some (.bool h) := by have := r4.cell hj8 (show 3 < 7 by omega); simpa [encell, upd] using this
        have df4 : ∀ o, w4.frozen? ⟨q2, o, none⟩ = false := fun o => Row.frozen r4 o
        have HW4 := Lib.hid e4
        clear r4 e4 HR3 HG3
        go_upto_region 8 with (fail)
        rw [← HW4.out]
        clear d0' df' HW4
        have HR5 : Hid (Row8 (w4.setCell ⟨q2, j * 7 + 3, none⟩ (.bool true)) q2 (fun k' => if k' < j + 1 then pt f p ww k u d 2 k' else En.zero)) := by
          have := HR4.out.set hj8 (show 3 < 7 by omega) (.bool true) ⟨f + (j : Int) * 8, p, ww, true, k, u, d⟩ (by simp [encell, upd])
          show Row _ _ _ _
          rw [ens_congr (g' := upd (upd (upd (fun k' => if k' < j then pt f p ww k u d 2 k' else En.zero) j ⟨f, p, ww, h, k, u, d⟩) j ⟨f + (j : Int) * 8, p, ww, h, k, u, d⟩) j ⟨f + (j : Int) * 8, p, ww, true, k, u, d⟩) (fun q _ => ?_)]
          · exact this
          · simp only [upd]
            by_cases e1 : q = j
            · subst e1; simp [pt, szO]
            · by_cases e2 : q < j
              · simp [e1, e2, Nat.lt_succ_of_lt e2]
              · simp [e1, e2, show ¬ q < j + 1 by omega]
        have HG5 : Hid (w1.grownBy (w4.setCell ⟨q2, j * 7 + 3, none⟩ (.bool true)) (some q2)) := grown_trans1 HG4.out (grown_set _ _ _ _)
        go_wp2_with fail
        go_roundw
        case rel => exact ⟨j + 1, by omega, by go_num, HR5.out, HG5.out⟩
        case measure => simp [intOf]; omega
      · obtain rfl : j = 8 := by omega
        have hrow : Row8 wr q2 (pt f p ww k u d 2) := by
          have := hr
          unfold Row8 at this ⊢
          rwa [ens_congr (g' := pt f p ww k u d 2) (fun q hq => by simp [hq])] at this
        have r1 := R1'.out.grown1 hgr (by simpa using ne2)
        have hr0 : Row w1 q1 79 (encells (ens fun _ => En.zero)) := R1'.out
        obtain ⟨w5, h5⟩ : ∃ w5, w5 = wr.setCells q1 0 (encells (ens (pt f p ww k u d 2))) := ⟨_, rfl⟩
        obtain ⟨k1, k2⟩ := row_setCells q1 79 (encells (ens (pt f p ww k u d 2))) 0 wr _ r1 (by simp [encells_length, ens_length])
        rw [splice_whole (by simp [encells_length, ens_length]), ← h5] at k1
        rw [← h5] at k2
        have HK := Lib.hid k1
        have HB5 : Hid (Below w.heap.size w w5) := by
          have b0 := HG.out ▸ B1.out
          have b1 := b0.grown hgr b0.size (fun r e => by injection e with e; have := HQ1.out; have := HQ2.out; have := HG.out; omega)
          exact b1.grown k2 b1.size (fun r e => by injection e with e; have := HQ1.out; have := HG.out; omega)
        have HW5 := Lib.hid h5
        go_upto_region 10 with (fail)
        apply wp_region_lit
        refine wpList_load_row rfl _ _ rfl q2 rfl 79 (encells (ens (pt f p ww k u d 2))).toArray (0, 0) _ hrow under8 rfl (by simp [info8, encells_length, ens_length]) ?_
        refine wpList_store_mid rfl _ _ _ rfl q1 0 (encells (ens (pt f p ww k u d 2))).toArray rfl rfl (by simpa [encells_length, ens_length] using r1.there0) (by simp [info8, encells_length, ens_length]) (by simpa using encells_one _) ?_
        rw [show wr.setCells q1 0 (encells (ens (pt f p ww k u d 2))).toArray.toList = w5 from HW5.out.symm]
        go_wp2_with fail
        exact bodyPost_ret (v := .agg (encells (ens (pt f p ww k u d 2))).toArray) (results_cell_row rfl _ _ q1 79 _ (0, 0) _ rfl HK.out under8 rfl (by simp [info8, encells_length, ens_length])) rfl ⟨rfl, HB5.out⟩
end
end Go.Proofs.Ytpcpcgbejinlmaa
/- Eight entries put together: the contract of merged. -/
namespace Go.Proofs.Ytpcpcgbejinlmaa
open Go.RowKit
theorem index8 (g : Nat → En) (j : Nat) (hj : j < 8) (w : World) : (Instr.index 79 (.agg (encells (ens g)).toArray) (.int .i64 j)).run Try.prog w = .ok (.agg (encell (g j)).toArray) w := by
  have hp : ((encells (ens g)).drop (j * 7)).take 7 = encell (g j) := by rw [encells_part _ j (by rw [ens_length]; exact hj), ens_get]
  have hs : (sizeOf 28).run Try.prog w = .ok 7 w := by kernel_rfl
  have hu : (underlying 79).run Try.prog w = .ok (.array 8 28) w := run_underlying under8 w
  have hag : (isAgg 28).run Try.prog w = .ok true w := by kernel_rfl
  simp [Instr.index, asIntOf, hu, hs, hag, part, hj, hp, Result.andThen]
theorem wpList_index_run {P : Program} {w : World} {ops : Array Oper} {rest : List Oper} {o : Oper} {a : Act} {Q : Exit → Act → World → Prop} (hg : o.guard = none) (t : TypeId) (x i : Operand) (ho : o.op = .index t x i)
    (v iv u : Value) (hx : a.eval x = v) (hi : a.eval i = iv) (hr : (Instr.index t v iv).run P w = .ok u w) (h : wpList P ops Q rest (a.put o.dst u) w) : wpList P ops Q (o :: rest) a w := by
  refine wpList_plain hg fun K' hK' => ?_
  unfold Oper.wp execOp
  simp only [ho, hx, hi, hr, Sem.run_bind, Result.andThen_ok]
  exact hK' _ _ h
def mgOk (E : Nat → En) : Bool := evB (E 0).f 3 && (List.range 8).all fun i => (E i).p && ((E i).w == (E 0).w) && decide ((E i).f = (E 0).f + i)
theorem mg_bad {E : Nat → En} {j : Nat} (hj : j < 8) (h : ¬ ((E j).p = true ∧ (E j).w = (E 0).w ∧ (E j).f = (E 0).f + (j : Int))) : mgOk E = false := by
  cases e : mgOk E
  · rfl
  · unfold mgOk at e
    rw [Bool.and_eq_true, List.all_eq_true] at e
    have := e.2 j (List.mem_range.2 hj)
    simp at this
    exact absurd ⟨this.1.1, this.1.2, this.2⟩ h
theorem mg_good {E : Nat → En} (h0 : evB (E 0).f 3 = true) (h : ∀ k, k < 8 → (E k).p = true ∧ (E k).w = (E 0).w ∧ (E k).f = (E 0).f + (k : Int)) : mgOk E = true := by
  unfold mgOk
  rw [Bool.and_eq_true, List.all_eq_true]
  refine ⟨h0, fun i hi => ?_⟩
  obtain ⟨a, b, c⟩ := h i (List.mem_range.1 hi)
  simp [a, b, c]
def anU (E : Nat → En) (n : Nat) : Bool := (List.range n).any fun k => (E k).u
def anD (E : Nat → En) (n : Nat) : Bool := (List.range n).any fun k => (E k).d
theorem anU_succ (E : Nat → En) (n : Nat) : anU E (n + 1) = (anU E n || (E n).u) := by simp [anU, List.range_succ]
theorem anD_succ (E : Nat → En) (n : Nat) : anD E (n + 1) = (anD E n || (E n).d) := by simp [anD, List.range_succ]
def Merg (w : World) (E : Nat → En) (e : Ending) (w' : World) : Prop :=
  (mgOk E = false ∧ e = .returned (.tuple #[agg0, .int .i64 5]) ∨ mgOk E = true ∧ e = .returned (.tuple #[.agg #[.int .i64 (E 0).f, .bool true, .bool (E 0).w, .bool true, .bool false, .bool (anU E 8), .bool (anD E 8)], .int .i64 0])) ∧ Below w.heap.size w w'
section
variable {w : World}
set_option maxRecDepth 100000 in
set_option maxHeartbeats 800000 in
theorem merged_any (E : Nat → En) (h0 : 0 ≤ (E 0).f) (h1 : (E 0).f < 1048576) : Calls Try.prog 30 #[.agg (encells (ens E)).toArray] w (Merg w E) := by
  obtain ⟨g, hg⟩ : ∃ g, g = w.heap.size := ⟨_, rfl⟩
  obtain ⟨q, hq⟩ : ∃ q, q = g + 1 := ⟨_, rfl⟩
  obtain ⟨wa, hwa⟩ : ∃ wa, wa = w.alloc (.cells (encells (ens E)).toArray 79) := ⟨_, rfl⟩
  obtain ⟨w1, hw1⟩ : ∃ w1, w1 = wa.alloc (.cells #[.int .i64 0, .bool false, .bool false, .bool false, .bool false, .bool false, .bool false] 28) := ⟨_, rfl⟩
  have hga : wa.heap.size = q := by rw [hwa, hq, hg]; simp
  have r0 : Row8 w1 g E := by rw [hw1]; refine Row.alloc ?_ _; rw [hwa, hg]; exact Row.new w _ _
  have r1 : Row w1 q 28 [.int .i64 0, .bool false, .bool false, .bool false, .bool false, .bool false, .bool false] := by rw [hw1, ← hga]; exact Row.new wa _ _
  have b1 : Below g w w1 := by rw [hw1]; exact (show Below g w wa by rw [hwa, hg]; exact (Below.refl _ _).alloc (Nat.le_refl _) _).alloc (by omega) _
  have hs1 : w1.heap.size = q + 1 := by rw [hw1]; simp [hga]
  obtain ⟨f0, hf0⟩ : ∃ f0, f0 = (E 0).f := ⟨_, rfl⟩
  obtain ⟨y0, hy0⟩ : ∃ y0, y0 = (E 0).w := ⟨_, rfl⟩
  have c0 : w1.cell? ⟨g, 0, none⟩ = some (.int .i64 f0) := by have := r0.cell (show 0 < 8 by omega) (show 0 < 7 by omega); simpa [encell, hf0] using this
  have c2 : w1.cell? ⟨g, 2, none⟩ = some (.bool y0) := by have := r0.cell (show 0 < 8 by omega) (show 2 < 7 by omega); simpa [encell, hy0] using this
  obtain ⟨w2, hw2⟩ : ∃ w2, w2 = w1.alloc (.cells #[.int .i64 f0, .bool true, .bool y0, .bool true, .bool false, .bool false, .bool false] 28) := ⟨_, rfl⟩
  obtain ⟨q2, hq2⟩ : ∃ q2, q2 = q + 1 := ⟨_, rfl⟩
  have R0 : Hid (Row8 w2 g E) := by show Row8 w2 g E; rw [hw2]; exact Row.alloc r0 _
  have R1 : Hid (Row w2 q 28 [.int .i64 0, .bool false, .bool false, .bool false, .bool false, .bool false, .bool false]) := by show Row _ _ _ _; rw [hw2]; exact r1.alloc _
  have r2 : Row w2 q2 28 [.int .i64 f0, .bool true, .bool y0, .bool true, .bool false, .bool false, .bool false] := by rw [hw2, hq2, ← hs1]; exact Row.new w1 _ _
  have B2 : Hid (Below g w w2) := by show Below _ _ _; rw [hw2]; exact b1.alloc (by omega) _
  have HG := Lib.hid hg
  have HQ := Lib.hid hq
  have HQ2 := Lib.hid hq2
  have HA := Lib.hid hwa
  have HW1 := Lib.hid hw1
  have HW2 := Lib.hid hw2
  have HS1 := Lib.hid hs1
  have R2 := Lib.hid r2
  have HF := Lib.hid hf0
  have HY := Lib.hid hy0
  have H01 : Hid (0 ≤ f0 ∧ f0 < 1048576) := by show _ ∧ _; rw [hf0]; exact ⟨h0, h1⟩
  have n1 : ¬ q = q2 := by omega
  have n2 : ¬ q2 = q := by omega
  obtain ⟨⟨a0, a1, a2, a3, a4, a5, a6⟩, af⟩ := R1.out.seven
  obtain ⟨b0, b1', b2, b3, b4, b5, b6⟩ := r2.seven.1
  clear hg hq hq2 hga hwa hw1 hw2 r0 r1 r2 b1 hs1 hf0 hy0 h0 h1
  go_enter Try.func30, Try.ntmps30
  go_upto_region 1 with (fail)
  rw [← HA.out, ← HW1.out, ← HG.out, ← HQ.out]
  go_upto_region 2 with (fail)
  rw [← HW2.out, HS1.out, ← HQ2.out]
  clear c0 c2
  cases hev : evB f0 3
  · have HN : Hid (mgOk E = false) := by show _ = _; unfold mgOk; rw [← HF.out, hev]; rfl
    go_wp2_with fail
    refine (even_any f0 (by have := H01.out; omega) (by have := H01.out; omega) _).mono ?_
    rw [hev]
    rintro e w' ⟨rfl, rfl⟩
    clear b0 b1' b2 b3 b4 b5 b6
    go_wp2_with fail
    exact bodyPost_ret (v := .tuple #[.agg #[.int .i64 0, .bool false, .bool false, .bool false, .bool false, .bool false, .bool false], .int .i64 5]) (by simp [results, Try.results30, go_sem, *]) rfl ⟨Or.inl ⟨HN.out, rfl⟩, below_7 (HG.out ▸ B2.out) (by have := HG.out; have := HQ.out; omega)⟩
  · go_wp2_with fail
    refine (even_any f0 (by have := H01.out; omega) (by have := H01.out; omega) _).mono ?_
    rw [hev]
    rintro e w' ⟨rfl, rfl⟩
    go_upto_region 4 with (fail)
    apply wp_region_lit
    refine wpList_load_row rfl _ _ rfl g rfl 79 (encells (ens E)).toArray (0, 0) _ R0.out under8 rfl (by simp [info8, encells_length, ens_length]) ?_
    have HEV := Lib.hid hev
    clear a0 a1 a2 a3 a4 a5 a6 af b0 b1' b2 b3 b4 b5 b6 HA HW1 HW2 HS1 hev
    go_wp2_with fail
    go_loopw [20] (fun i wx => ∃ (j : Nat) (uu dd : Bool), j ≤ 8 ∧ i = .int .i64 j ∧ Row wx q2 28 [.int .i64 f0, .bool true, .bool y0, .bool true, .bool false, .bool uu, .bool dd] ∧ Row wx q 28 [.int .i64 0, .bool false, .bool false, .bool false, .bool false, .bool false, .bool false] ∧ (∀ k, k < j → (E k).p = true ∧ (E k).w = y0 ∧ (E k).f = f0 + (k : Int)) ∧ Below g w wx ∧ uu = anU E j ∧ dd = anD E j) (fun i _ => 8 - (intOf i).toNat)
    case atStart => exact ⟨0, false, false, by omega, rfl, R2.out, R1.out, fun k hk => absurd hk (Nat.not_lt_zero _), B2.out, rfl, rfl⟩
    case round =>
      obtain ⟨j, uu, dd, hj, rfl, hr2, hr1, hok, hb, huu, hdd⟩ := hrel
      have HUU := Lib.hid huu
      have HDD := Lib.hid hdd
      clear huu hdd
      by_cases hj8 : j < 8
      · have hidx := index8 E j hj8
        obtain ⟨x, hx⟩ : ∃ x, x = E j := ⟨_, rfl⟩
        rw [← hx] at hidx
        have HX := Lib.hid hx
        obtain ⟨ef, ep, ew, eh, ek, eu, ed⟩ := x
        simp only [encell] at hidx
        obtain ⟨w3, hw3⟩ : ∃ w3, w3 = wr.alloc (.cells #[.int .i64 ef, .bool ep, .bool ew, .bool eh, .bool ek, .bool eu, .bool ed] 28) := ⟨_, rfl⟩
        obtain ⟨q3, hq3⟩ : ∃ q3, q3 = wr.heap.size := ⟨_, rfl⟩
        have hl2 := hr2.lt
        have hl1 := hr1.lt
        have r3 : Row w3 q3 28 [.int .i64 ef, .bool ep, .bool ew, .bool eh, .bool ek, .bool eu, .bool ed] := by rw [hw3, hq3]; exact Row.new wr _ _
        have R23 : Hid (Row w3 q2 28 [.int .i64 f0, .bool true, .bool y0, .bool true, .bool false, .bool uu, .bool dd]) := by show Row _ _ _ _; rw [hw3]; exact hr2.alloc _
        have R13 : Hid (Row w3 q 28 [.int .i64 0, .bool false, .bool false, .bool false, .bool false, .bool false, .bool false]) := by show Row _ _ _ _; rw [hw3]; exact hr1.alloc _
        have B3 : Hid (Below g w w3) := by show Below _ _ _; rw [hw3]; exact hb.alloc (by have := HQ.out; omega) _
        have m1 : ¬ q2 = q3 := by omega
        have m2 : ¬ q3 = q2 := by omega
        have HW3 := Lib.hid hw3
        have HQ3 := Lib.hid hq3
        have HOK := Lib.hid hok
        clear hx hw3 hq3 hl2 hl1 hr2 hr1 hok hb
        go_upto_region 7 with (refine wpList_index_run rfl _ _ _ rfl _ _ _ rfl rfl (hidx _) ?_)
        rw [← HW3.out, ← HQ3.out]
        cases ep
        · have HBAD : Hid (mgOk E = false) := mg_bad hj8 (by rw [← HX.out, ← HY.out, ← HF.out]; simp)
          obtain ⟨⟨a0, a1, a2, a3, a4, a5, a6⟩, af⟩ := R13.out.seven
          obtain ⟨e0, e1, e2, e3, e4, e5, e6⟩ := r3.seven.1
          obtain ⟨b0, b1', b2, b3, b4, b5, b6⟩ := R23.out.seven.1
          go_wp2_with fail
          exact bodyPost_ret (v := .tuple #[.agg #[.int .i64 0, .bool false, .bool false, .bool false, .bool false, .bool false, .bool false], .int .i64 5]) (by simp [results, Try.results30, go_sem, *]) rfl ⟨Or.inl ⟨HBAD.out, rfl⟩, below_7 (HG.out ▸ B3.out) (by have := HG.out; have := HQ.out; omega)⟩
        · by_cases hew : ew = y0
          · subst hew
            by_cases hef : ef = f0 + (j : Int)
            · have hef' : (ef != f0 + (j : Int)) = false := by simpa using hef
              have hwf : IntKind.i64.wrap (f0 + (j : Int)) = f0 + (j : Int) := IntWalk.i64_in _ (by have := H01.out; omega)
              have HXE := Lib.hid hef
              obtain ⟨e0, e1, e2, e3, e4, e5, e6⟩ := r3.seven.1
              obtain ⟨⟨b0, b1', b2, b3, b4, b5, b6⟩, bf⟩ := R23.out.seven
              have hqq : q ≠ q2 := n1
              have hgq : g ≤ q2 := by have := HQ.out; have := HQ2.out; omega
              clear hef
              cases uu
              all_goals cases dd
              all_goals
                go_wp2_with fail
                go_roundw
                case rel => exact ⟨j + 1, _, _, by omega, by go_num, (R23.out.set_ 5 _).set_ 6 _, (R13.out.far (p := ⟨q2, 5, none⟩) hqq _).far (p := ⟨q2, 6, none⟩) hqq _, (fun k hk => by
                  by_cases e : k = j
                  · subst e; rw [← HX.out]; exact ⟨rfl, rfl, HXE.out⟩
                  · exact HOK.out k (by omega)), (B3.out.setCell (p := ⟨q2, 5, none⟩) hgq _).setCell (p := ⟨q2, 6, none⟩) hgq _, by rw [anU_succ, ← HUU.out, ← HX.out]; rfl, by rw [anD_succ, ← HDD.out, ← HX.out]; rfl⟩
                case measure => simp [intOf]; omega
            · have hef' : (ef != f0 + (j : Int)) = true := by simpa using hef
              have hwf : IntKind.i64.wrap (f0 + (j : Int)) = f0 + (j : Int) := IntWalk.i64_in _ (by have := H01.out; omega)
              have HBAD : Hid (mgOk E = false) := mg_bad hj8 (by rw [← HX.out, ← HY.out, ← HF.out]; exact fun h => hef h.2.2)
              obtain ⟨⟨a0, a1, a2, a3, a4, a5, a6⟩, af⟩ := R13.out.seven
              obtain ⟨e0, e1, e2, e3, e4, e5, e6⟩ := r3.seven.1
              obtain ⟨b0, b1', b2, b3, b4, b5, b6⟩ := R23.out.seven.1
              go_wp2_with fail
              exact bodyPost_ret (v := .tuple #[.agg #[.int .i64 0, .bool false, .bool false, .bool false, .bool false, .bool false, .bool false], .int .i64 5]) (by simp [results, Try.results30, go_sem, *]) rfl ⟨Or.inl ⟨HBAD.out, rfl⟩, below_7 (HG.out ▸ B3.out) (by have := HG.out; have := HQ.out; omega)⟩
          · have hew' : (ew != y0) = true := by simpa using hew
            have HBAD : Hid (mgOk E = false) := mg_bad hj8 (by rw [← HX.out, ← HY.out, ← HF.out]; exact fun h => hew h.2.1)
            obtain ⟨⟨a0, a1, a2, a3, a4, a5, a6⟩, af⟩ := R13.out.seven
            obtain ⟨e0, e1, e2, e3, e4, e5, e6⟩ := r3.seven.1
            obtain ⟨b0, b1', b2, b3, b4, b5, b6⟩ := R23.out.seven.1
            go_wp2_with fail
            exact bodyPost_ret (v := .tuple #[.agg #[.int .i64 0, .bool false, .bool false, .bool false, .bool false, .bool false, .bool false], .int .i64 5]) (by simp [results, Try.results30, go_sem, *]) rfl ⟨Or.inl ⟨HBAD.out, rfl⟩, below_7 (HG.out ▸ B3.out) (by have := HG.out; have := HQ.out; omega)⟩
      · obtain rfl : j = 8 := by omega
        have HOKK : Hid (mgOk E = true) := mg_good (HF.out ▸ HEV.out) (fun k hk => by
          have := hok k hk
          rw [HY.out, HF.out] at this
          exact this)
        obtain ⟨⟨a0, a1, a2, a3, a4, a5, a6⟩, af⟩ := hr1.seven
        obtain ⟨b0, b1', b2, b3, b4, b5, b6⟩ := hr2.seven.1
        have HB := Lib.hid hb
        clear hr1 hr2 hb hok
        go_wp2_with fail
        exact bodyPost_ret (v := .tuple #[.agg #[.int .i64 f0, .bool true, .bool y0, .bool true, .bool false, .bool uu, .bool dd], .int .i64 0]) (by simp [results, Try.results30, go_sem, *]) rfl ⟨Or.inr ⟨HOKK.out, by rw [HF.out, HY.out, HUU.out, HDD.out]⟩, below_7 (HG.out ▸ HB.out) (by have := HG.out; have := HQ.out; omega)⟩
end
end Go.Proofs.Ytpcpcgbejinlmaa
