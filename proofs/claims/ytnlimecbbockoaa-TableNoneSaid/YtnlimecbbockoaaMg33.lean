/- Eight entries in a row: how they lie; the eight parts of a leaf. -/
import Derived.Test.YtnlimecbbockoaaMg24
import Derived.Deep.MidRow
import Derived.Deep.WholeRow
import Derived.StillTailTactics
namespace Go.Proofs.Ytnlimecbbockoaa
open Go.RowKit
/-- An entry. -/
structure En where
  f : Int
  p : Bool
  w : Bool
  h : Bool
  k : Bool
  u : Bool
  d : Bool
def En.zero : En := ⟨0, false, false, false, false, false, false⟩
def encell (e : En) : List Value := [.int .i64 e.f, .bool e.p, .bool e.w, .bool e.h, .bool e.k, .bool e.u, .bool e.d]
def encells : List En → List Value
  | [] => []
  | m :: r => encell m ++ encells r
theorem encell_length (e : En) : (encell e).length = 7 := rfl
theorem encells_length (L : List En) : (encells L).length = L.length * 7 := by
  induction L with
  | nil => rfl
  | cons m r ih => simp only [encells, List.length_append, ih, List.length_cons, encell_length]; omega
theorem encell_one (m : En) : ∀ u ∈ encell m, u.oneCell' = true := by
  intro u hu; simp [encell] at hu; rcases hu with rfl | rfl | rfl | rfl | rfl | rfl | rfl <;> rfl
theorem encells_at : ∀ (L : List En) (j : Nat) (hj : j < L.length) (i : Nat), i < 7 → (encells L)[j * 7 + i]? = (encell L[j])[i]?
  | [], _, hj, _, _ => absurd hj (Nat.not_lt_zero _)
  | m :: r, 0, _, i, hi => by
    simp only [encells, Nat.zero_mul, Nat.zero_add]
    rw [List.getElem?_append_left (by simp [encell]; omega)]; rfl
  | m :: r, j + 1, hj, i, hi => by
    simp only [encells]
    rw [List.getElem?_append_right (by simp [encell]; omega), show (j + 1) * 7 + i - (encell m).length = j * 7 + i by simp [encell]; omega]
    have := encells_at r j (by simpa using hj) i hi
    simpa using this
theorem encells_splice : ∀ (L : List En) (j : Nat) (x : En), j < L.length → splice (encells L) (j * 7) (encell x) = encells (L.set j x)
  | [], _, _, hj => absurd hj (Nat.not_lt_zero _)
  | m :: r, 0, x, _ => by
    simp only [List.set_cons_zero, encells, splice, Nat.zero_mul, List.take_zero, List.nil_append, Nat.zero_add, encell_length]
    congr 1
  | m :: r, j + 1, x, hj => by
    have ih := encells_splice r j x (by simpa using hj)
    simp only [List.set_cons_succ, encells]
    rw [← ih]
    unfold splice
    rw [encell_length]
    have e1 : (encell m ++ encells r).take ((j + 1) * 7) = encell m ++ (encells r).take (j * 7) := by
      rw [show (j + 1) * 7 = (encell m).length + j * 7 by simp [encell]; omega, List.take_length_add_append]
    have e2 : (encell m ++ encells r).drop ((j + 1) * 7 + 7) = (encells r).drop (j * 7 + 7) := by
      rw [show (j + 1) * 7 + 7 = (encell m).length + (j * 7 + 7) by simp [encell]; omega, List.drop_length_add_append]
    rw [e1, e2]
    simp
theorem encells_set (L : List En) (j i : Nat) (v : Value) (x : En) (hj : j < L.length) (hi : i < 7) (hx : encell x = (encell L[j]).set i v) : (encells L).set (j * 7 + i) v = encells (L.set j x) := by
  rw [← encells_splice L j x hj, hx]
  have hlen := encells_length L
  apply List.ext_getElem?
  intro q
  rw [List.getElem?_set, splice_get _ _ _ (by rw [List.length_set, encell_length]; omega), List.length_set, encell_length]
  by_cases h1 : q < j * 7
  · rw [if_pos h1, if_neg (by omega)]
  · rw [if_neg h1]
    by_cases h2 : q < j * 7 + 7
    · rw [if_pos h2, List.getElem?_set]
      obtain ⟨t, rfl⟩ : ∃ t, q = j * 7 + t := ⟨q - j * 7, by omega⟩
      by_cases h3 : i = t
      · subst h3
        rw [if_pos rfl, if_pos (by omega), if_pos (by omega), if_pos (by rw [encell_length]; omega)]
      · rw [if_neg (by omega), if_neg (by omega), encells_at L j hj t (by omega), show j * 7 + t - j * 7 = t by omega]
    · rw [if_neg h2, if_neg (by omega)]
/-- A part of an array of entries. -/
theorem encells_part (L : List En) (j : Nat) (hj : j < L.length) : ((encells L).drop (j * 7)).take 7 = encell L[j] := by
  apply List.ext_getElem?
  intro q
  by_cases hq : q < 7
  · rw [List.getElem?_take_of_lt hq, List.getElem?_drop, encells_at L j hj q hq]
  · rw [List.getElem?_eq_none (by simp; omega), List.getElem?_eq_none (by rw [encell_length]; omega)]
/-- Eight entries as they lie. -/
def ens (g : Nat → En) : List En := (List.range 8).map g
theorem ens_length (g : Nat → En) : (ens g).length = 8 := by simp [ens]
theorem ens_get (g : Nat → En) (j : Nat) (hj : j < (ens g).length) : (ens g)[j] = g j := by simp [ens]
def upd {α : Type} (g : Nat → α) (j : Nat) (x : α) : Nat → α := fun k => if k = j then x else g k
theorem ens_set (g : Nat → En) (j : Nat) (x : En) : (ens g).set j x = ens (upd g j x) := by
  apply List.ext_getElem
  · simp [ens]
  · intro q h1 h2
    simp [ens, upd, List.getElem_set]
    by_cases h : j = q
    · simp [h]
    · have h' : ¬ q = j := fun e => h e.symm
      simp [h, h']
theorem ens_congr {g g' : Nat → En} (h : ∀ k, k < 8 → g k = g' k) : ens g = ens g' := by
  unfold ens
  apply List.map_congr_left
  intro k hk
  exact h k (List.mem_range.1 hk)
/-- A row of eight entries. -/
def Row8 (w : World) (b : Nat) (g : Nat → En) : Prop := Row w b 80 (encells (ens g))
section
variable {w : World} {b : Nat} {g : Nat → En}
theorem Row8.cell (h : Row8 w b g) {j i : Nat} (hj : j < 8) (hi : i < 7) : w.cell? ⟨b, j * 7 + i, none⟩ = (encell (g j))[i]? := by
  rw [Row.cell h, encells_at _ j (by rw [ens_length]; exact hj) i hi, ens_get]
theorem Row8.there (h : Row8 w b g) {j : Nat} (hj : j < 8) : w.there b (j * 7) 7 := fun i hi => ⟨by
  rw [h.cell hj hi]
  rw [List.getElem?_eq_getElem (by rw [encell_length]; exact hi)]
  rfl, Row.frozen h _⟩
theorem Row8.store (h : Row8 w b g) {j : Nat} (hj : j < 8) (x : En) : Row8 (w.setCells b (j * 7) (encell x)) b (upd g j x) ∧ w.grownBy (w.setCells b (j * 7) (encell x)) (some b) := by
  obtain ⟨k1, k2⟩ := row_setCells b 80 (encell x) (j * 7) w (encells (ens g)) h (by rw [encells_length, ens_length, encell_length]; omega)
  rw [encells_splice _ j x (by rw [ens_length]; exact hj), ens_set] at k1
  exact ⟨k1, k2⟩
theorem Row8.set (h : Row8 w b g) {j i : Nat} (hj : j < 8) (hi : i < 7) (u : Value) (x : En) (hx : encell x = (encell (g j)).set i u) : Row8 (w.setCell ⟨b, j * 7 + i, none⟩ u) b (upd g j x) := by
  have := Row.set_ h (j * 7 + i) u
  rwa [encells_set _ j i u x (by rw [ens_length]; exact hj) hi (by rw [ens_get]; exact hx), ens_set] at this
end
theorem info_en : (Try.prog.info? 28).map (·.size) = some 7 := by kernel_rfl
theorem under8 : Try.prog.underlying 80 = some (.array 8 28) := by kernel_rfl
theorem info8 : (Try.prog.info? 80).map (·.size) = some 56 := by kernel_rfl
theorem encells_one (L : List En) : ∀ u ∈ encells L, u.oneCell' = true := by
  induction L with
  | nil => intro u hu; cases hu
  | cons m r ih =>
    intro u hu
    simp only [encells, List.mem_append] at hu
    rcases hu with hu | hu
    · exact encell_one m u hu
    · exact ih u hu
theorem splice_whole {α : Type} {L cs : List α} (h : cs.length = L.length) : splice L 0 cs = cs := by
  unfold splice
  rw [List.take_zero, List.nil_append, Nat.zero_add, h, List.drop_length, List.append_nil]
theorem Row8.grown1 {w w' : World} {b : Nat} {g : Nat → En} {row : Option Nat} (h : Row8 w b g) (hg : w.grownBy w' row) (hb : some b ≠ row) : Row8 w' b g := Row.grown h hg hb
theorem Row8.there0 {w : World} {b : Nat} {g : Nat → En} (h : Row8 w b g) : w.there b 0 56 := fun i hi => by
  rw [Nat.zero_add]
  refine ⟨?_, Row.frozen h _⟩
  rw [Row.cell h, List.getElem?_eq_getElem (by rw [encells_length, ens_length]; omega)]
  rfl
/-- The parts of a leaf. -/
def pt (f : Int) (p w k u d : Bool) (lv : Int) (i : Nat) : En := ⟨f + i * szO ((lv - 1) * 3), p, w, decide (1 < lv), k, u, d⟩
section
variable {w : World}
set_option maxRecDepth 100000 in
set_option maxHeartbeats 400000 in
theorem parts_any (f : Int) (p ww h k u d : Bool) (lv fr : Int) (hl : lv = 1 ∨ lv = 2) (f0 : 0 ≤ f) (f1 : f < 1048576) : Calls Try.prog 29 #[.agg #[.int .i64 f, .bool p, .bool ww, .bool h, .bool k, .bool u, .bool d, .int .i64 lv, .int .i64 fr]] w fun e w' =>
    e = .returned (.agg (encells (ens (pt f p ww k u d lv))).toArray) ∧ Below w.heap.size w w' := by
  obtain ⟨g, hg⟩ : ∃ g, g = w.heap.size := ⟨_, rfl⟩
  obtain ⟨wa, hwa⟩ : ∃ wa, wa = w.alloc (.cells #[.int .i64 f, .bool p, .bool ww, .bool h, .bool k, .bool u, .bool d, .int .i64 lv, .int .i64 fr] 30) := ⟨_, rfl⟩
  obtain ⟨w1, hw1⟩ : ∃ w1, w1 = (wa.alloc (.cells (encells (ens fun _ => En.zero)).toArray 80)).alloc (.cells (encells (ens fun _ => En.zero)).toArray 80) := ⟨_, rfl⟩
  have hga : wa.heap.size = g + 1 := by rw [hwa, hg]; simp
  have r0 : Row w1 g 30 [.int .i64 f, .bool p, .bool ww, .bool h, .bool k, .bool u, .bool d, .int .i64 lv, .int .i64 fr] := by
    rw [hw1]; refine Row.alloc (Row.alloc ?_ _) _; rw [hwa, hg]; exact Row.new w _ _
  have r1 : Row8 w1 (g + 1) (fun _ => En.zero) := by
    rw [hw1, ← hga]; exact Row.alloc (Row.new wa _ _) _
  have r2 : Row8 w1 (g + 1 + 1) (fun _ => En.zero) := by
    have := Row.new (wa.alloc (.cells (encells (ens fun _ => En.zero)).toArray 80)) 80 (encells (ens fun _ => En.zero))
    rw [hw1]; unfold Row8; rw [show g + 1 + 1 = (wa.alloc (.cells (encells (ens fun _ => En.zero)).toArray 80)).heap.size by simp [hga]]; exact this
  have b1 : Below g w w1 := by
    rw [hw1]; exact ((show Below g w wa by rw [hwa, hg]; exact (Below.refl _ _).alloc (Nat.le_refl _) _).alloc (by omega) _).alloc (by simp; omega) _
  have hz : (wa.alloc (.cells #[.int .i64 0, .bool false, .bool false, .bool false, .bool false, .bool false, .bool false, .int .i64 0, .bool false, .bool false, .bool false, .bool false, .bool false, .bool false, .int .i64 0, .bool false, .bool false, .bool false, .bool false, .bool false, .bool false, .int .i64 0, .bool false, .bool false, .bool false, .bool false, .bool false, .bool false, .int .i64 0, .bool false, .bool false, .bool false, .bool false, .bool false, .bool false, .int .i64 0, .bool false, .bool false, .bool false, .bool false, .bool false, .bool false, .int .i64 0, .bool false, .bool false, .bool false, .bool false, .bool false, .bool false, .int .i64 0, .bool false, .bool false, .bool false, .bool false, .bool false, .bool false] 80)).alloc (.cells #[.int .i64 0, .bool false, .bool false, .bool false, .bool false, .bool false, .bool false, .int .i64 0, .bool false, .bool false, .bool false, .bool false, .bool false, .bool false, .int .i64 0, .bool false, .bool false, .bool false, .bool false, .bool false, .bool false, .int .i64 0, .bool false, .bool false, .bool false, .bool false, .bool false, .bool false, .int .i64 0, .bool false, .bool false, .bool false, .bool false, .bool false, .bool false, .int .i64 0, .bool false, .bool false, .bool false, .bool false, .bool false, .bool false, .int .i64 0, .bool false, .bool false, .bool false, .bool false, .bool false, .bool false, .int .i64 0, .bool false, .bool false, .bool false, .bool false, .bool false, .bool false] 80) = w1 := by rw [hw1]; rfl
  have HW := Lib.hid hz
  have HA := Lib.hid hwa
  have HG := Lib.hid hg
  have R0 := Lib.hid r0
  have R1 := Lib.hid r1
  have R2 := Lib.hid r2
  have B1 := Lib.hid b1
  have HGA := Lib.hid hga
  clear hz hwa hg r0 r1 r2 b1 hw1 hga
  obtain ⟨q1, hq1⟩ : ∃ q, q = g + 1 := ⟨_, rfl⟩
  obtain ⟨q2, hq2⟩ : ∃ q, q = q1 + 1 := ⟨_, rfl⟩
  have HQ1 := Lib.hid hq1
  have HQ2 := Lib.hid hq2
  have R1' : Hid (Row8 w1 q1 (fun _ => En.zero)) := hq1 ▸ R1.out
  have R2' : Hid (Row8 w1 q2 (fun _ => En.zero)) := by show Row8 w1 q2 _; rw [hq2, hq1]; exact R2.out
  have c7 : w1.cell? ⟨g, 7, none⟩ = some (.int .i64 lv) := R0.out.cell 7
  have hadd : ∀ i, (⟨q2, 0, none⟩ : Addr).add i = ⟨q2, i, none⟩ := fun i => add_zero_off q2 i
  have ne1 : ¬ g = q2 := by omega
  have ne2 : ¬ q1 = q2 := by omega
  clear hq1 hq2 R1 R2
  rcases hl with rfl | rfl
  · go_enter Try.func29, Try.ntmps29
    go_upto_region 2 with (fail)
    rw [← HA.out, HW.out, ← HG.out, ← HQ1.out, ← HQ2.out]
    clear HW HA HGA
    go_wp2
    clear c7
    go_loopw [9] (fun i wx => ∃ j : Nat, j ≤ 8 ∧ i = .int .i64 j ∧ Row8 wx q2 (fun k' => if k' < j then pt f p ww k u d 1 k' else En.zero) ∧ w1.grownBy wx (some q2)) (fun i _ => 8 - (intOf i).toNat)
    case atStart => exact ⟨0, by omega, rfl, by simpa using R2'.out, World.grownBy.refl _ _⟩
    case round =>
      obtain ⟨j, hj, rfl, hr, hgr⟩ := hrel
      by_cases hj8 : j < 8
      · obtain ⟨c0, c1, c2, c3, c4, c5, c6, -⟩ := (R0.out.grown hgr (by simpa using ne1)).nine9
        have e0 : wr.cell? ⟨q2, j * 7, none⟩ = some (.int .i64 0) := by have := hr.cell hj8 (show 0 < 7 by omega); simpa [encell, En.zero] using this
        have e1 : wr.cell? ⟨q2, j * 7 + 1, none⟩ = some (.bool false) := by have := hr.cell hj8 (show 1 < 7 by omega); simpa [encell, En.zero] using this
        have e2 : wr.cell? ⟨q2, j * 7 + 2, none⟩ = some (.bool false) := by have := hr.cell hj8 (show 2 < 7 by omega); simpa [encell, En.zero] using this
        have e3 : wr.cell? ⟨q2, j * 7 + 3, none⟩ = some (.bool false) := by have := hr.cell hj8 (show 3 < 7 by omega); simpa [encell, En.zero] using this
        have e4 : wr.cell? ⟨q2, j * 7 + 4, none⟩ = some (.bool false) := by have := hr.cell hj8 (show 4 < 7 by omega); simpa [encell, En.zero] using this
        have e5 : wr.cell? ⟨q2, j * 7 + 5, none⟩ = some (.bool false) := by have := hr.cell hj8 (show 5 < 7 by omega); simpa [encell, En.zero] using this
        have e6 : wr.cell? ⟨q2, j * 7 + 6, none⟩ = some (.bool false) := by have := hr.cell hj8 (show 6 < 7 by omega); simpa [encell, En.zero] using this
        have ef : ∀ o, wr.frozen? ⟨q2, o, none⟩ = false := fun o => Row.frozen hr o
        obtain ⟨w2, hw2⟩ : ∃ w2, w2 = (((((((wr.setCell ⟨q2, j * 7, none⟩ (.int .i64 f)).setCell ⟨q2, j * 7 + 1, none⟩ (.bool p)).setCell ⟨q2, j * 7 + 2, none⟩ (.bool ww)).setCell ⟨q2, j * 7 + 3, none⟩ (.bool h)).setCell ⟨q2, j * 7 + 4, none⟩ (.bool k)).setCell ⟨q2, j * 7 + 5, none⟩ (.bool u)).setCell ⟨q2, j * 7 + 6, none⟩ (.bool d)) := ⟨_, rfl⟩
        have hst := hr.store hj8 ⟨f, p, ww, h, k, u, d⟩
        have r2 : Row8 w2 q2 (upd (fun k' => if k' < j then pt f p ww k u d 1 k' else En.zero) j ⟨f, p, ww, h, k, u, d⟩) := by rw [hw2]; exact hst.1
        have g2 : wr.grownBy w2 (some q2) := by rw [hw2]; exact hst.2
        have HR2 := Lib.hid r2
        have HG2 := Lib.hid (grown_trans1 hgr g2)
        have HW2 := Lib.hid hw2
        have d0 : w2.cell? ⟨q2, j * 7, none⟩ = some (.int .i64 f) := by have := r2.cell hj8 (show 0 < 7 by omega); simpa [encell, upd] using this
        have df : ∀ o, w2.frozen? ⟨q2, o, none⟩ = false := fun o => Row.frozen r2 o
        clear hr hgr hst r2 g2 hw2
        go_upto_region 7 with (fail)
        rw [← HW2.out]
        clear e0 e1 e2 e3 e4 e5 e6 ef c0 c1 c2 c3 c4 c5 c6
        have hw0 : IntKind.i64.wrap 0 = 0 := by decide
        have hws : IntKind.i64.wrap (j : Int) = (j : Int) := IntWalk.i64_in _ (by omega)
        have hwf : IntKind.i64.wrap (f + (j : Int)) = f + (j : Int) := IntWalk.i64_in _ (by omega)
        go_wp2_with fail
        go_still_tail 11, (by kernel_rfl)
        change wpList _ _ _ _ _ w2.drew
        obtain ⟨w3, e3⟩ : ∃ w3, w3 = w2.drew := ⟨_, rfl⟩
        have d0' : w3.cell? ⟨q2, j * 7, none⟩ = some (.int .i64 f) := e3 ▸ d0
        have df' : ∀ o, w3.frozen? ⟨q2, o, none⟩ = false := e3 ▸ df
        have HR3 : Hid (Row8 w3 q2 (upd (fun k' => if k' < j then pt f p ww k u d 1 k' else En.zero) j ⟨f, p, ww, h, k, u, d⟩)) := e3 ▸ HR2.out
        have HG3 : Hid (w1.grownBy w3 (some q2)) := by rw [e3]; exact ⟨HG2.out.os, HG2.out.tape, HG2.out.output, HG2.out.size, HG2.out.block⟩
        rw [← e3]
        clear e3 d0 df HR2 HG2
        obtain ⟨w4, e4⟩ : ∃ w4, w4 = w3.setCell ⟨q2, j * 7, none⟩ (.int .i64 (f + (j : Int))) := ⟨_, rfl⟩
        have r4 : Row8 w4 q2 (upd (upd (fun k' => if k' < j then pt f p ww k u d 1 k' else En.zero) j ⟨f, p, ww, h, k, u, d⟩) j ⟨f + (j : Int), p, ww, h, k, u, d⟩) := by
          rw [e4]; exact HR3.out.set hj8 (show 0 < 7 by omega) _ ⟨f + (j : Int), p, ww, h, k, u, d⟩ (by simp [encell, upd])
        have HG4 : Hid (w1.grownBy w4 (some q2)) := by rw [e4]; exact grown_trans1 HG3.out (grown_set _ _ _ _)
        have HR4 := Lib.hid r4
        have d3' : w4.cell? ⟨q2, j * 7 + 3, none⟩ = some (.bool h) := by have := r4.cell hj8 (show 3 < 7 by omega); simpa [encell, upd] using this
        have df4 : ∀ o, w4.frozen? ⟨q2, o, none⟩ = false := fun o => Row.frozen r4 o
        have HW4 := Lib.hid e4
        clear r4 e4 HR3 HG3
        go_upto_region 8 with (fail)
        rw [← HW4.out]
        clear d0' df' HW4
        have HR5 : Hid (Row8 (w4.setCell ⟨q2, j * 7 + 3, none⟩ (.bool false)) q2 (fun k' => if k' < j + 1 then pt f p ww k u d 1 k' else En.zero)) := by
          have := HR4.out.set hj8 (show 3 < 7 by omega) (.bool false) ⟨f + (j : Int), p, ww, false, k, u, d⟩ (by simp [encell, upd])
          show Row _ _ _ _
          rw [ens_congr (g' := upd (upd (upd (fun k' => if k' < j then pt f p ww k u d 1 k' else En.zero) j ⟨f, p, ww, h, k, u, d⟩) j ⟨f + (j : Int), p, ww, h, k, u, d⟩) j ⟨f + (j : Int), p, ww, false, k, u, d⟩) (fun q _ => ?_)]
          · exact this
          · simp only [upd]
            by_cases e1 : q = j
            · subst e1; simp [pt, szO]
            · by_cases e2 : q < j
              · simp [e1, e2, Nat.lt_succ_of_lt e2]
              · simp [e1, e2, show ¬ q < j + 1 by omega]
        have HG5 : Hid (w1.grownBy (w4.setCell ⟨q2, j * 7 + 3, none⟩ (.bool false)) (some q2)) := grown_trans1 HG4.out (grown_set _ _ _ _)
        go_wp2_with fail
        go_roundw
        case rel => exact ⟨j + 1, by omega, by go_num, HR5.out, HG5.out⟩
        case measure => simp [intOf]; omega
      · obtain rfl : j = 8 := by omega
        have hrow : Row8 wr q2 (pt f p ww k u d 1) := by
          have := hr
          unfold Row8 at this ⊢
          rwa [ens_congr (g' := pt f p ww k u d 1) (fun q hq => by simp [hq])] at this
        have r1 := R1'.out.grown1 hgr (by simpa using ne2)
        have hr0 : Row w1 q1 80 (encells (ens fun _ => En.zero)) := R1'.out
        obtain ⟨w5, h5⟩ : ∃ w5, w5 = wr.setCells q1 0 (encells (ens (pt f p ww k u d 1))) := ⟨_, rfl⟩
        obtain ⟨k1, k2⟩ := row_setCells q1 80 (encells (ens (pt f p ww k u d 1))) 0 wr _ r1 (by simp [encells_length, ens_length])
        rw [splice_whole (by simp [encells_length, ens_length]), ← h5] at k1
        rw [← h5] at k2
        have HK := Lib.hid k1
        have HB5 : Hid (Below w.heap.size w w5) := by
          have b0 := HG.out ▸ B1.out
          have b1 := b0.grown hgr b0.size (fun r e => by injection e with e; have := HQ1.out; have := HQ2.out; have := HG.out; omega)
          exact b1.grown k2 b1.size (fun r e => by injection e with e; have := HQ1.out; have := HG.out; omega)
        have HW5 := Lib.hid h5
        go_upto_region 10 with (fail)
        apply wp_region_lit
        refine wpList_load_row rfl _ _ rfl q2 rfl 80 (encells (ens (pt f p ww k u d 1))).toArray (0, 0) _ hrow under8 rfl (by simp [info8, encells_length, ens_length]) ?_
        refine wpList_store_mid rfl _ _ _ rfl q1 0 (encells (ens (pt f p ww k u d 1))).toArray rfl rfl (by simpa [encells_length, ens_length] using r1.there0) (by simp [info8, encells_length, ens_length]) (by simpa using encells_one _) ?_
        rw [show wr.setCells q1 0 (encells (ens (pt f p ww k u d 1))).toArray.toList = w5 from HW5.out.symm]
        go_wp2_with fail
        exact bodyPost_ret (v := .agg (encells (ens (pt f p ww k u d 1))).toArray) (results_cell_row rfl _ _ q1 80 _ (0, 0) _ rfl HK.out under8 rfl (by simp [info8, encells_length, ens_length])) rfl ⟨rfl, HB5.out⟩
  · go_enter Try.func29, Try.ntmps29
    go_upto_region 2 with (fail)
    rw [← HA.out, HW.out, ← HG.out, ← HQ1.out, ← HQ2.out]
    clear HW HA HGA
    go_wp2
    clear c7
    go_loopw [9] (fun i wx => ∃ j : Nat, j ≤ 8 ∧ i = .int .i64 j ∧ Row8 wx q2 (fun k' => if k' < j then pt f p ww k u d 2 k' else En.zero) ∧ w1.grownBy wx (some q2)) (fun i _ => 8 - (intOf i).toNat)
    case atStart => exact ⟨0, by omega, rfl, by simpa using R2'.out, World.grownBy.refl _ _⟩
    case round =>
      obtain ⟨j, hj, rfl, hr, hgr⟩ := hrel
      by_cases hj8 : j < 8
      · obtain ⟨c0, c1, c2, c3, c4, c5, c6, -⟩ := (R0.out.grown hgr (by simpa using ne1)).nine9
        have e0 : wr.cell? ⟨q2, j * 7, none⟩ = some (.int .i64 0) := by have := hr.cell hj8 (show 0 < 7 by omega); simpa [encell, En.zero] using this
        have e1 : wr.cell? ⟨q2, j * 7 + 1, none⟩ = some (.bool false) := by have := hr.cell hj8 (show 1 < 7 by omega); simpa [encell, En.zero] using this
        have e2 : wr.cell? ⟨q2, j * 7 + 2, none⟩ = some (.bool false) := by have := hr.cell hj8 (show 2 < 7 by omega); simpa [encell, En.zero] using this
        have e3 : wr.cell? ⟨q2, j * 7 + 3, none⟩ = some (.bool false) := by have := hr.cell hj8 (show 3 < 7 by omega); simpa [encell, En.zero] using this
        have e4 : wr.cell? ⟨q2, j * 7 + 4, none⟩ = some (.bool false) := by have := hr.cell hj8 (show 4 < 7 by omega); simpa [encell, En.zero] using this
        have e5 : wr.cell? ⟨q2, j * 7 + 5, none⟩ = some (.bool false) := by have := hr.cell hj8 (show 5 < 7 by omega); simpa [encell, En.zero] using this
        have e6 : wr.cell? ⟨q2, j * 7 + 6, none⟩ = some (.bool false) := by have := hr.cell hj8 (show 6 < 7 by omega); simpa [encell, En.zero] using this
        have ef : ∀ o, wr.frozen? ⟨q2, o, none⟩ = false := fun o => Row.frozen hr o
        obtain ⟨w2, hw2⟩ : ∃ w2, w2 = (((((((wr.setCell ⟨q2, j * 7, none⟩ (.int .i64 f)).setCell ⟨q2, j * 7 + 1, none⟩ (.bool p)).setCell ⟨q2, j * 7 + 2, none⟩ (.bool ww)).setCell ⟨q2, j * 7 + 3, none⟩ (.bool h)).setCell ⟨q2, j * 7 + 4, none⟩ (.bool k)).setCell ⟨q2, j * 7 + 5, none⟩ (.bool u)).setCell ⟨q2, j * 7 + 6, none⟩ (.bool d)) := ⟨_, rfl⟩
        have hst := hr.store hj8 ⟨f, p, ww, h, k, u, d⟩
        have r2 : Row8 w2 q2 (upd (fun k' => if k' < j then pt f p ww k u d 2 k' else En.zero) j ⟨f, p, ww, h, k, u, d⟩) := by rw [hw2]; exact hst.1
        have g2 : wr.grownBy w2 (some q2) := by rw [hw2]; exact hst.2
        have HR2 := Lib.hid r2
        have HG2 := Lib.hid (grown_trans1 hgr g2)
        have HW2 := Lib.hid hw2
        have d0 : w2.cell? ⟨q2, j * 7, none⟩ = some (.int .i64 f) := by have := r2.cell hj8 (show 0 < 7 by omega); simpa [encell, upd] using this
        have df : ∀ o, w2.frozen? ⟨q2, o, none⟩ = false := fun o => Row.frozen r2 o
        clear hr hgr hst r2 g2 hw2
        go_upto_region 7 with (fail)
        rw [← HW2.out]
        clear e0 e1 e2 e3 e4 e5 e6 ef c0 c1 c2 c3 c4 c5 c6
        have hw0 : IntKind.i64.wrap 3 = 3 := by decide
        have hws : IntKind.i64.wrap ((j : Int) * 8) = (j : Int) * 8 := IntWalk.i64_in _ (by omega)
        have hwf : IntKind.i64.wrap (f + (j : Int) * 8) = f + (j : Int) * 8 := IntWalk.i64_in _ (by omega)
        go_wp2_with fail
        go_still_tail 11, (by kernel_rfl)
        change wpList _ _ _ _ _ w2.drew
        obtain ⟨w3, e3⟩ : ∃ w3, w3 = w2.drew := ⟨_, rfl⟩
        have d0' : w3.cell? ⟨q2, j * 7, none⟩ = some (.int .i64 f) := e3 ▸ d0
        have df' : ∀ o, w3.frozen? ⟨q2, o, none⟩ = false := e3 ▸ df
        have HR3 : Hid (Row8 w3 q2 (upd (fun k' => if k' < j then pt f p ww k u d 2 k' else En.zero) j ⟨f, p, ww, h, k, u, d⟩)) := e3 ▸ HR2.out
        have HG3 : Hid (w1.grownBy w3 (some q2)) := by rw [e3]; exact ⟨HG2.out.os, HG2.out.tape, HG2.out.output, HG2.out.size, HG2.out.block⟩
        rw [← e3]
        clear e3 d0 df HR2 HG2
        obtain ⟨w4, e4⟩ : ∃ w4, w4 = w3.setCell ⟨q2, j * 7, none⟩ (.int .i64 (f + (j : Int) * 8)) := ⟨_, rfl⟩
        have r4 : Row8 w4 q2 (upd (upd (fun k' => if k' < j then pt f p ww k u d 2 k' else En.zero) j ⟨f, p, ww, h, k, u, d⟩) j ⟨f + (j : Int) * 8, p, ww, h, k, u, d⟩) := by
          rw [e4]; exact HR3.out.set hj8 (show 0 < 7 by omega) _ ⟨f + (j : Int) * 8, p, ww, h, k, u, d⟩ (by simp [encell, upd])
        have HG4 : Hid (w1.grownBy w4 (some q2)) := by rw [e4]; exact grown_trans1 HG3.out (grown_set _ _ _ _)
        have HR4 := Lib.hid r4
        have d3' : w4.cell? ⟨q2, j * 7 + 3, none⟩ = some (.bool h) := by have := r4.cell hj8 (show 3 < 7 by omega); simpa [encell, upd] using this
        have df4 : ∀ o, w4.frozen? ⟨q2, o, none⟩ = false := fun o => Row.frozen r4 o
        have HW4 := Lib.hid e4
        clear r4 e4 HR3 HG3
        go_upto_region 8 with (fail)
        rw [← HW4.out]
        clear d0' df' HW4
        have HR5 : Hid (Row8 (w4.setCell ⟨q2, j * 7 + 3, none⟩ (.bool true)) q2 (fun k' => if k' < j + 1 then pt f p ww k u d 2 k' else En.zero)) := by
          have := HR4.out.set hj8 (show 3 < 7 by omega) (.bool true) ⟨f + (j : Int) * 8, p, ww, true, k, u, d⟩ (by simp [encell, upd])
          show Row _ _ _ _
          rw [ens_congr (g' := upd (upd (upd (fun k' => if k' < j then pt f p ww k u d 2 k' else En.zero) j ⟨f, p, ww, h, k, u, d⟩) j ⟨f + (j : Int) * 8, p, ww, h, k, u, d⟩) j ⟨f + (j : Int) * 8, p, ww, true, k, u, d⟩) (fun q _ => ?_)]
          · exact this
          · simp only [upd]
            by_cases e1 : q = j
            · subst e1; simp [pt, szO]
            · by_cases e2 : q < j
              · simp [e1, e2, Nat.lt_succ_of_lt e2]
              · simp [e1, e2, show ¬ q < j + 1 by omega]
        have HG5 : Hid (w1.grownBy (w4.setCell ⟨q2, j * 7 + 3, none⟩ (.bool true)) (some q2)) := grown_trans1 HG4.out (grown_set _ _ _ _)
        go_wp2_with fail
        go_roundw
        case rel => exact ⟨j + 1, by omega, by go_num, HR5.out, HG5.out⟩
        case measure => simp [intOf]; omega
      · obtain rfl : j = 8 := by omega
        have hrow : Row8 wr q2 (pt f p ww k u d 2) := by
          have := hr
          unfold Row8 at this ⊢
          rwa [ens_congr (g' := pt f p ww k u d 2) (fun q hq => by simp [hq])] at this
        have r1 := R1'.out.grown1 hgr (by simpa using ne2)
        have hr0 : Row w1 q1 80 (encells (ens fun _ => En.zero)) := R1'.out
        obtain ⟨w5, h5⟩ : ∃ w5, w5 = wr.setCells q1 0 (encells (ens (pt f p ww k u d 2))) := ⟨_, rfl⟩
        obtain ⟨k1, k2⟩ := row_setCells q1 80 (encells (ens (pt f p ww k u d 2))) 0 wr _ r1 (by simp [encells_length, ens_length])
        rw [splice_whole (by simp [encells_length, ens_length]), ← h5] at k1
        rw [← h5] at k2
        have HK := Lib.hid k1
        have HB5 : Hid (Below w.heap.size w w5) := by
          have b0 := HG.out ▸ B1.out
          have b1 := b0.grown hgr b0.size (fun r e => by injection e with e; have := HQ1.out; have := HQ2.out; have := HG.out; omega)
          exact b1.grown k2 b1.size (fun r e => by injection e with e; have := HQ1.out; have := HG.out; omega)
        have HW5 := Lib.hid h5
        go_upto_region 10 with (fail)
        apply wp_region_lit
        refine wpList_load_row rfl _ _ rfl q2 rfl 80 (encells (ens (pt f p ww k u d 2))).toArray (0, 0) _ hrow under8 rfl (by simp [info8, encells_length, ens_length]) ?_
        refine wpList_store_mid rfl _ _ _ rfl q1 0 (encells (ens (pt f p ww k u d 2))).toArray rfl rfl (by simpa [encells_length, ens_length] using r1.there0) (by simp [info8, encells_length, ens_length]) (by simpa using encells_one _) ?_
        rw [show wr.setCells q1 0 (encells (ens (pt f p ww k u d 2))).toArray.toList = w5 from HW5.out.symm]
        go_wp2_with fail
        exact bodyPost_ret (v := .agg (encells (ens (pt f p ww k u d 2))).toArray) (results_cell_row rfl _ _ q1 80 _ (0, 0) _ rfl HK.out under8 rfl (by simp [info8, encells_length, ens_length])) rfl ⟨rfl, HB5.out⟩
end
end Go.Proofs.Ytnlimecbbockoaa
