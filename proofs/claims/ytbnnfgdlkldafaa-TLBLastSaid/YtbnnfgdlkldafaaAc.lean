/- Contracts of package slices on lines: Delete, Clone, Backward. -/
import Derived.Test.YtbnnfgdlkldafaaAa
import Derived.Test.YtbnnfgdlkldafaaAb
import Derived.Shelf.Abstract
import Derived.Shelf.RegionOpen
import Derived.OwnWalkIn
import Derived.TacticsInMore
import Derived.LoopNIn
import Derived.LoopIn
import Derived.Lib.SliceRun
import Derived.Laws.IdiomCopy
import Derived.Laws.CopyOwn
import Derived.Deep.RegionLaw
import Derived.Deep.LoopGhost
namespace Go.Proofs.Ytbnnfgdlkldafaa
open Go.RowKit Go.Shelf
theorem splice_get {α : Type} (L : List α) (o : Nat) (cs : List α) (h : o + cs.length ≤ L.length) (i : Nat) :
    (splice L o cs)[i]? = if i < o then L[i]? else if i < o + cs.length then cs[i - o]? else L[i]? := by
  have hm : min o L.length = o := by omega
  unfold splice
  by_cases h1 : i < o
  · rw [List.getElem?_append_left (by rw [List.length_take, hm]; exact h1), List.getElem?_take_of_lt h1, if_pos h1]
  · rw [List.getElem?_append_right (by rw [List.length_take, hm]; omega), List.length_take, hm, if_neg h1]
    by_cases h2 : i < o + cs.length
    · rw [List.getElem?_append_left (by omega), if_pos h2]
    · rw [List.getElem?_append_right (by omega), if_neg h2, List.getElem?_drop]
      congr 1; omega
theorem splice_cons {α : Type} (L : List α) (o : Nat) (v : α) (r : List α) (h : o + (v :: r).length ≤ L.length) : splice (L.set o v) (o + 1) r = splice L o (v :: r) := by
  simp only [List.length_cons] at h
  apply List.ext_getElem?
  intro i
  rw [splice_get _ _ _ (by rw [List.length_set]; omega), splice_get _ _ _ (by simp only [List.length_cons]; omega)]
  simp only [List.length_cons, List.getElem?_set]
  rcases Nat.lt_trichotomy i o with h1 | h1 | h1
  · simp [h1, show i < o + 1 by omega, show ¬ o = i by omega]
  · subst h1
    simp [show i < L.length by omega]
  · obtain ⟨j, rfl⟩ : ∃ j, i = o + 1 + j := ⟨i - (o + 1), by omega⟩
    rw [if_neg (by omega : ¬ o + 1 + j < o + 1), if_neg (by omega : ¬ o = o + 1 + j), if_neg (by omega : ¬ o + 1 + j < o), show o + 1 + j - (o + 1) = j by omega, show o + 1 + j - o = j + 1 by omega, List.getElem?_cons_succ]
    by_cases h3 : o + 1 + j < o + 1 + r.length
    · rw [if_pos h3, if_pos (by omega : o + 1 + j < o + (r.length + 1))]
    · rw [if_neg h3, if_neg (by omega : ¬ o + 1 + j < o + (r.length + 1))]
theorem splice_nil {α : Type} (L : List α) (o : Nat) : splice L o [] = L := by simp [splice]
theorem grown_alloc {a w : World} {row : Option Nat} (h : a.grownBy w row) (o : Obj) : a.grownBy (w.alloc o) row :=
  ⟨h.os, h.tape, h.output, Nat.le_trans h.size (by simp), fun i hi hne => (Below.heap_alloc w o i (Nat.lt_of_lt_of_le hi h.size)).trans (h.block i hi hne)⟩
theorem grown_more {a w w' : World} {g : Nat} (h : a.grownBy w (some g)) {row : Option Nat} (k : w.grownBy w' row) (hr : ∀ r, row = some r → r = g ∨ a.heap.size ≤ r) : a.grownBy w' (some g) :=
  ⟨k.os.trans h.os, k.tape.trans h.tape, k.output.trans h.output, Nat.le_trans h.size k.size, fun i hi hne =>
    (k.block i (Nat.lt_of_lt_of_le hi h.size) (fun e => by rcases hr i e.symm with rfl | hr; exact hne rfl; omega)).trans (h.block i hi hne)⟩

theorem grown_trans1 {a w w' : World} {g : Nat} (h : a.grownBy w (some g)) (k : w.grownBy w' (some g)) : a.grownBy w' (some g) := grown_more h k fun r e => Or.inl (by injection e with e; exact e.symm)
theorem row_setCells (g : Nat) (t : TypeId) : ∀ (vs : List Value) (o : Nat) (w : World) (L : List Value), Lrow w g t L → o + vs.length ≤ L.length →
    Lrow (w.setCells g o vs) g t (splice L o vs) ∧ w.grownBy (w.setCells g o vs) (some g)
  | [], o, w, L, h, _ => ⟨by rw [splice_nil]; exact h, World.grownBy.refl w _⟩
  | v :: r, o, w, L, h, hl => by
    have ih := row_setCells g t r (o + 1) (w.setCell ⟨g, o, none⟩ v) (L.set o v) (h.set_ o v) (by simp at hl ⊢; omega)
    rw [splice_cons L o v r hl] at ih
    exact ⟨ih.1, grown_trans1 (grown_set w g o v) ih.2⟩

theorem grown_drewN (w : World) (q : Nat) (row : Option Nat) : w.grownBy (w.drewN q) row := ⟨rfl, rfl, rfl, Nat.le_refl _, fun _ _ _ => rfl⟩
theorem splice_mid {α : Type} (X Y Z : List α) (o n : Nat) (h1 : o = X.length) (h2 : n = Y.length) (V : List α) (h3 : V.length = n) : splice (X ++ Y ++ Z) o V = X ++ V ++ Z := by
  subst h1 h2
  unfold splice
  rw [List.append_assoc, List.take_left, h3, ← List.drop_drop, List.drop_left, List.drop_left, List.append_assoc]
def zcell : List Value := [.int .i64 0, .int .i64 0, .int .i64 0, .int .i64 0, .bool false]
theorem zero_cached (w : World) : (zeroValue 31).run Try.prog w = .ok (.agg #[.int .i64 0, .int .i64 0, .int .i64 0, .int .i64 0, .bool false]) w := by kernel_rfl
theorem zcell_one : ∀ u ∈ zcell, u.oneCell' = true := by
  intro u hu; simp [zcell] at hu; rcases hu with rfl | rfl <;> rfl
theorem clear5_run {w : World} {g : Nat} {t : TypeId} {L : List Value} (h : Lrow w g t L) (o c : Nat) (hl : o + 5 ≤ L.length) (ty : TypeId) :
    (Builtin.clear_ #[35] ty #[.slice (some ⟨g, o, none⟩) 1 c]).run Try.prog w = .ok (.tuple #[]) (w.setCells g o zcell) := by
  have hst := run_storeCells_cells (P := Try.prog) g o zcell 0 w (by intro j hj; rw [Nat.add_zero, h.cell, List.getElem?_eq_getElem (by simp [zcell] at hj; omega)]; rfl) (by intro j _; exact h.frozen _) zcell_one
  simp only [Nat.add_zero] at hst
  have hz : (Builtin.zeroCells (Value.agg #[.int .i64 0, .int .i64 0, .int .i64 0, .int .i64 0, .bool false]).cells 1).toList = zcell := by kernel_rfl
  simp [Builtin.clear_, run_underlying cached_slice, hz, hst]
/-- An appending whose run is known, as one step of a region that draws. -/
theorem step_append_run {P : Program} {ops : Array Oper} {o : Oper} {a : Act} {w : World} {K : Act → World → Prop} {Q : Exit → Act → World → Prop} {E : Prop}
    (hg : o.guard = none) (d x : Operand) (t : TypeId) (hop : o.op = Op.call { callee := Callee.builtin Builtin.append, args := #[d, x], argTypes := #[t, t] })
    (v u : Value) (hd : a.eval d = v) (hx : a.eval x = u) {v' : Value} {w' : World} (hr : (Builtin.append_ #[t, t] o.type #[v, u]).run P w = .ok v' w') (hK : K (a.put o.dst v') w') :
    if Region.wanted o (yielded ops a.tmps) = true then Oper.wp P o a w K Q else E := by
  have hw : Region.wanted o (yielded ops a.tmps) = true := by simp [Region.wanted, hg]
  rw [if_pos hw]
  unfold Oper.wp
  simp [execOp, hop, resolve, invoke, builtin, hd, hx, hr, Result.andThen]
  exact hK
theorem wpList_append_run {P : Program} {w : World} {ops : Array Oper} {rest : List Oper} {o : Oper} {a : Act} {Q : Exit → Act → World → Prop}
    (hg : o.guard = none) (d x : Operand) (t : TypeId) (hop : o.op = Op.call { callee := Callee.builtin Builtin.append, args := #[d, x], argTypes := #[t, t] })
    (v u : Value) (hd : a.eval d = v) (hx : a.eval x = u) {v' : Value} {w' : World} (hr : (Builtin.append_ #[t, t] o.type #[v, u]).run P w = .ok v' w') (h : wpList P ops Q rest (a.put o.dst v') w') : wpList P ops Q (o :: rest) a w := by
  refine wpList_plain hg fun K' hK' => ?_
  unfold Oper.wp
  simp [execOp, hop, resolve, invoke, builtin, hd, hx, hr, Result.andThen]
  exact hK' _ _ h
/-- The slice of what is moved to the left. -/
def behind (g cap j : Nat) : Addr := if cap = j then ⟨g, 0, none⟩ else ⟨g, j * 5, none⟩
section
variable {w : World} {g cap i n : Nat} {L : List Cd} {R : List Value}
set_option maxHeartbeats 4000000 in
set_option maxRecDepth 100000 in
theorem delete_any (h : Lrow w g 31 (ccells L ++ R)) (hi : i < L.length) (hlc : L.length ≤ cap) (hcm : cap ≤ maxLen) (hL : L.length ≤ 100000) :
    Calls Try.prog 29 #[.slice (some ⟨g, 0, none⟩) L.length cap, .int .i64 i, .int .i64 (i + 1 : Nat)] w fun e w' => e = .returned (.slice (some ⟨g, 0, none⟩) (L.length - 1) cap) ∧ Lrow w' g 31 (ccells (L.eraseIdx i) ++ (zcell ++ R)) ∧ w.grownBy w' (some g) := by
  obtain ⟨i0, hi0, hz0, hz1, hz2⟩ := info_parts info_cached
  obtain ⟨m, hm⟩ : ∃ m, m = L.length := ⟨_, rfl⟩
  have hdl : (L.drop (i + 1)).length = m - (i + 1) := by rw [List.length_drop, hm]
  have hel : (L.eraseIdx i).length = m - 1 := by rw [List.length_eraseIdx, if_pos hi, hm]
  obtain ⟨news, hnews⟩ : ∃ news, news = ccells (L.drop (i + 1)) := ⟨_, rfl⟩
  have hnl : news.length = (m - (i + 1)) * 5 := by rw [hnews, ccells_length, hdl]
  have hsrc : ∀ t u, news[t]? = some u → w.drew.cell? ((behind g cap (i + 1)).add t) = some u := fun t u hu => by
    have ht := (List.getElem?_eq_some_iff.1 hu).1
    unfold behind
    by_cases hc : cap = i + 1
    · omega
    · rw [if_neg hc, add_lit2]
      have : w.drew.cell? ⟨g, (i + 1) * 5 + t, none⟩ = (ccells L ++ R)[(i + 1) * 5 + t]? := h.cell _
      rw [this, List.getElem?_append_left (by rw [ccells_length]; omega)]
      rw [hnews, ← ccells_drop, List.getElem?_drop] at hu
      exact hu
  have hone : ∀ u ∈ news, u.oneCell' = true := fun u hu => by rw [hnews] at hu; exact ccells_ones _ u hu
  have hrun := fun ty => run_append_room_cells (P := Try.prog) w.drew 35 ty 31 i0 cached_slice hi0 g 0 i cap (behind g cap (i + 1)) (m - (i + 1)) (cap - (i + 1)) news (by rw [hz1]; exact hnl) hsrc hone (by omega)
    (fun j hj => by
      have : w.drew.cell? ⟨g, 0 + i * i0.size + j, none⟩ = (ccells L ++ R)[0 + i * i0.size + j]? := h.cell _
      rw [this, hz1, List.getElem?_eq_getElem (by rw [List.length_append, ccells_length]; omega)]; rfl)
    (fun j _ => h.frozen _)
  rw [hz1, Nat.zero_add, show i + (m - (i + 1)) = m - 1 by omega] at hrun
  obtain ⟨W1, hW1⟩ : ∃ W1, W1 = w.drew.setCells g (i * 5) news := ⟨_, rfl⟩
  rw [← hW1] at hrun
  have e0 : ccells L ++ R = ccells (L.take i) ++ ccells ((L.drop i).take (m - 1 - i)) ++ (ccells (L.drop (m - 1)) ++ R) := by
    rw [← List.append_assoc, ← ccells_append, ← ccells_append]
    congr 2
    have e2 : L.drop (m - 1) = (L.drop i).drop (m - 1 - i) := by rw [List.drop_drop]; congr 1; omega
    rw [e2, List.append_assoc, List.take_append_drop, List.take_append_drop]
  have e1 : splice (ccells L ++ R) (i * 5) news = ccells (L.eraseIdx i) ++ (ccells (L.drop (m - 1)) ++ R) := by
    rw [e0, splice_mid _ _ _ _ ((m - 1 - i) * 5) (by rw [ccells_length, List.length_take]; congr 1; omega) (by rw [ccells_length, List.length_take, List.length_drop]; congr 1; omega) _ (by rw [hnl]; congr 1; omega), hnews, ← ccells_append, List.eraseIdx_eq_take_drop_succ]
  obtain ⟨h1, g1⟩ := row_setCells g _ news (i * 5) w.drew _ h (by rw [List.length_append, ccells_length]; omega)
  rw [← hW1, e1] at h1
  rw [← hW1] at g1
  obtain ⟨W2, hW2⟩ : ∃ W2, W2 = W1.setCells g ((m - 1) * 5) zcell := ⟨_, rfl⟩
  have hcl := fun ty => clear5_run h1 ((m - 1) * 5) (cap - (m - 1)) (by simp only [List.length_append, ccells_length, hel, List.length_drop]; omega) ty
  rw [← hW2] at hcl
  obtain ⟨h2, g2⟩ := row_setCells g _ zcell ((m - 1) * 5) W1 _ h1 (by simp only [List.length_append, ccells_length, hel, List.length_drop, zcell, List.length_cons, List.length_nil]; omega)
  rw [← hW2, ← List.append_assoc, splice_mid _ _ _ _ 5 (by rw [ccells_length, hel]) (by rw [ccells_length, List.length_drop]; omega) _ rfl, List.append_assoc] at h2
  rw [← hW2] at g2
  have GR : Hid (w.grownBy W2 (some g)) := grown_trans1 (grown_trans1 (grown_drewN w 1 (some g)) g1) g2
  have H2 := Lib.hid h2
  have hms : m ≤ 100000 := by omega
  have him : i < m := by omega
  have hmc : m ≤ cap := by omega
  have hne : ¬ cap = m - 1 := by omega
  have hic : i ≤ cap := by omega
  have hjc : i + 1 ≤ cap := by omega
  have hmi : m - (m - 1) = 1 := by omega
  rw [← hm]
  have HM := Lib.hid hm
  have hcap : cap ≤ 9223372036854775807 := by unfold maxLen at hcm; omega
  obtain ⟨m1, hm1⟩ : ∃ m1, m1 = m - 1 := ⟨_, rfl⟩
  rw [← hm1] at hcl hrun hne hmi ⊢
  have him1 : i ≤ m1 := by omega
  have hm1m : m1 + 1 = m := by omega
  subst hm1m
  have e9 : m1 + 1 - m1 = 1 := by omega
  have hi0c : (0 : Int) ≤ (i : Int) + 1 := by omega
  have hbe : (some (behind g cap (i + 1)) : Option Addr) = if cap = i + 1 then some ⟨g, 0, none⟩ else some ⟨g, (i + 1) * 5, none⟩ := by unfold behind; split <;> rfl
  rw [hbe, show m1 + 1 - (i + 1) = m1 - i by omega] at hrun
  clear hbe
  clear hm hdl hel hnews hnl hsrc hone e0 e1 h1 g1 h2 g2 hW1 hW2 h hi hL hlc hcm hm1 hms
  go_enter Try.func29, Try.ntmps29
  go_wp2_with fail
  go_region_law (refine step_append_run rfl (.tmp 22) (.tmp 25) 35 rfl _ _ (by simp [Act.eval, Act.put]) (by simp [Act.eval, Act.put]) (hrun _) ?_)
  go_wp2
  all_goals
    go_ret
    exact ⟨rfl, H2.out, GR.out⟩
end
/-- Lines that lie behind an address, to be read. -/
def Ln (w : World) (B : Nat) (A : Option Addr) (L : List Cd) : Prop := 0 < L.length → ∃ g, A = some ⟨g, 0, none⟩ ∧ g < w.heap.size ∧ B ≤ g ∧ ∀ j (hj : j < L.length), CdAt w ⟨g, j * 5, none⟩ L[j]
theorem Cs.ln {w : World} {B c : Nat} {A : Option Addr} {L : List Cd} (h : Cs w B (.slice A L.length c) L) : Ln w B A L := fun hn => by
  obtain ⟨g, R, e, hB, hr, _⟩ := h.row hn
  exact ⟨g, e, hr.lt, hB, fun j hj => hr.line j hj⟩
theorem Ln.keep {w w' : World} {B : Nat} {A : Option Addr} {L : List Cd} (h : Ln w B A L) (hs : w.heap.size ≤ w'.heap.size) (hk : ∀ g, A = some ⟨g, 0, none⟩ → g < w.heap.size → w'.heap[g]? = w.heap[g]?) : Ln w' B A L := fun hn => by
  obtain ⟨g, e, hl, hB, hc⟩ := h hn
  exact ⟨g, e, Nat.lt_of_lt_of_le hl hs, hB, fun j hj => (hc j hj).heap (hk g e hl)⟩
theorem Ln.call {w w' : World} {B : Nat} {A : Option Addr} {L : List Cd} (h : Ln w B A L) (hb : Below w.heap.size w w') : Ln w' B A L := h.keep hb.size fun g _ hl => hb.block g hl
theorem Cs.made (w : World) : Cs (w.alloc (.cells #[] 31)) w.heap.size (.slice (some ⟨w.heap.size, 0, none⟩) 0 0) [] :=
  World.ownsRow_made w #[] 0 (Nat.le_refl _) (Nat.zero_le _) rfl
set_option maxHeartbeats 1000000 in
theorem clone_any {w : World} {B c : Nat} {A : Option Addr} {L : List Cd} (h : Cs w B (.slice A L.length c) L) (hL : L.length ≤ 100000) :
    Calls Try.prog 25 #[.slice A L.length c] w fun e w' => ∃ A' c', e = .returned (.slice A' L.length c') ∧ Cs w' w.heap.size (.slice A' L.length c') L ∧ Below w.heap.size w w' := by
  have q := fun w a n c n' c' => Lib.run_eql_slice_nil (P := Try.prog) w 35 31 a n c n' c' cached_slice
  cases A with
  | none =>
    have h0 : L.length = 0 := by
      rcases h.2 with ⟨h1, h2⟩ | ⟨g, cap, cur, h1, _⟩
      · exact h2
      · cases h1
    obtain rfl : L = [] := List.eq_nil_of_length_eq_zero h0
    clear h h0 hL
    go_enter Try.func25, Try.ntmps25
    go_wp2
    go_ret
    exact ⟨none, 0, rfl, Cs.nil _ _, Below.refl _ _⟩
  | some a =>
    have hw := below_new w (.cells #[] 31)
    obtain ⟨W1, hW1⟩ : ∃ W1, W1 = w.alloc (.cells #[] 31) := ⟨_, rfl⟩
    obtain ⟨b, hb⟩ : ∃ b, b = w.heap.size := ⟨_, rfl⟩
    have hm := Cs.made w
    rw [← hW1, ← hb] at hm
    rw [← hW1] at hw
    have hs : ∀ j u, (ccells L)[j]? = some u → W1.cell? (a.add j) = some u := fun j u hu => by
      have hn : 0 < L.length := by
        have := (List.getElem?_eq_some_iff.1 hu).1
        rw [ccells_length] at this; omega
      obtain ⟨g, R, e, hB, hr, _⟩ := h.row hn
      injection e with e
      subst e
      rw [add_offs, ← hu]
      have := (hr.call hw).cell j
      rw [this, List.getElem?_append_left (List.getElem?_eq_some_iff.1 hu).1]
    obtain ⟨A', c', W2, hrun, hcs, hg, ho⟩ := app_run hm (by have := hw.size; omega) a c L hs (by simpa using hL)
    rw [List.nil_append] at hcs
    simp only [List.length_nil, Nat.zero_add] at hrun hcs
    have HB : Hid (Below w.heap.size w W2) := hw.grown hg hw.size (fun k e => by injection e with e; change b = k at e; omega)
    have HC := Lib.hid hcs
    have HBB := Lib.hid hb
    rw [hW1, hb] at hrun
    clear hm hw hs hcs hg ho h hL hW1 hb
    go_enter Try.func25, Try.ntmps25
    go_wp2_with (at_builtin; refine wpList_append_run rfl _ _ 35 rfl (.slice (some ⟨w.heap.size, 0, none⟩) 0 0) (.slice (some a) L.length c) rfl rfl hrun ?_)
    go_ret
    exact ⟨A', c', rfl, by rw [← HBB.out]; exact HC.out, HB.out⟩
/-! A range over the lines, from the last one. -/
def bkAt (L : List Cd) (k : Nat) : Nat × Cd := (L.length - 1 - k, L.getD (L.length - 1 - k) ⟨0, 0, 0, 0, false⟩)
def bkUp (L : List Cd) (k : Nat) : List (Nat × Cd) := (List.range k).map (bkAt L)
theorem bkUp_succ (L : List Cd) (k : Nat) : bkUp L (k + 1) = bkUp L k ++ [bkAt L k] := by simp [bkUp, List.range_succ]
theorem bkUp_length (L : List Cd) (k : Nat) : (bkUp L k).length = k := by simp [bkUp]
theorem bkUp_split (L : List Cd) {k : Nat} (h : k < L.length) : ∃ rest, bkUp L L.length = bkUp L k ++ bkAt L k :: rest := by
  refine ⟨(bkUp L L.length).drop (k + 1), ?_⟩
  have e : (bkUp L L.length).take (k + 1) = bkUp L k ++ [bkAt L k] := by
    rw [← bkUp_succ]
    unfold bkUp
    rw [← List.map_take, List.take_range, Nat.min_eq_left (by omega)]
  calc bkUp L L.length = (bkUp L L.length).take (k + 1) ++ (bkUp L L.length).drop (k + 1) := (List.take_append_drop _ _).symm
    _ = _ := by rw [e]; simp
abbrev encB (x : Nat × Cd) : Array Value := #[.int .i64 x.1, cv x.2]
/-- What the way back from the last line wants of the world when some have come. -/
def BkC (Bs : Nat) (A : Option Addr) (c : Nat) (L : List Cd) (pre : List (Nat × Cd)) (W : World) : Prop :=
  W.cell? ⟨Bs, 0, none⟩ = some (.slice A L.length c) ∧ ∀ j (hj : j + pre.length < L.length), ∃ g, A = some ⟨g, 0, none⟩ ∧ CdAt W ⟨g, j * 5, none⟩ (L[j]'(by omega))
attribute [local go_sem] Oper.semAt_some
theorem backward_in (F : Fence) (n : Nat) (hF : F.fn 33) (hro : F.round = none) (A : Option Addr) (m cap : Nat) (w : World) :
    CallsIn F n Try.prog 33 #[.slice A m cap] w fun e w' => e = .returned (.func (.func 36) #[] #[.pointer (some ⟨w.heap.size, 0, none⟩)]) ∧ w' = w.alloc (.cells #[.slice A m cap] 35) := by
  refine callsIn_of_wp Try.func33 rfl hF ?_ hro
  simp only [Try.ntmps33, List.size_toArray, List.length_cons, List.length_nil, Nat.reduceAdd, Nat.reduceSub, Array.replicate_succ, Array.replicate_zero, List.push_toArray, List.append_toArray, List.nil_append, List.cons_append]
  gi_wp2
  go_ret
  exact ⟨rfl, rfl⟩
set_option maxRecDepth 100000 in
set_option maxHeartbeats 2000000 in
theorem back9 (n Bs : Nat) (A : Option Addr) (cap : Nat) (L : List Cd) (hlen : L.length ≤ 100000) :
    SeqO n Try.prog 36 #[.pointer (some ⟨Bs, 0, none⟩)] encB (BkC Bs A cap L) (bkUp L L.length) := fun q J Jx W hJ hJx hC hY h0 => by
  refine callsIn_of_wp Try.func36 rfl trivial ?_ rfl
  simp only [Try.ntmps36, List.size_toArray, List.length_cons, List.length_nil, Nat.reduceAdd, Nat.reduceSub, Array.replicate_succ, Array.replicate_zero, List.push_toArray, List.append_toArray, List.nil_append, List.cons_append]
  obtain ⟨m, hm⟩ : ∃ m, m = L.length := ⟨_, rfl⟩
  have HM := Lib.hid hm
  have hBs := (hC _ _ h0).1
  rw [← hm] at hlen hBs
  gi_wp2
  gi_loopw [3] (fun i wr => ∃ k : Nat, k ≤ L.length ∧ i = .int .i64 ((m : Int) - 1 - k) ∧ J (bkUp L k) wr)
    (fun i _ => (intOf i + 1).toNat)
  case atStart => exact ⟨0, Nat.zero_le _, by simp [hm], h0⟩
  case round =>
    obtain ⟨k, hk, rfl, hJs⟩ := hrel
    by_cases hlt : k < L.length
    · obtain ⟨j, hj⟩ : ∃ j : Nat, (m : Int) - 1 - k = j := ⟨m - 1 - k, by omega⟩
      have hjl : j < L.length := by omega
      obtain ⟨hbx, hcx⟩ := hC _ _ hJs
      obtain ⟨g, rfl, c0, c1, c2, c3, c4⟩ := hcx j (by rw [bkUp_length]; omega)
      rw [← hm] at hbx
      have hat : bkAt L k = (j, L[j]) := by
        unfold bkAt
        rw [← hm, show m - 1 - k = j by omega, List.getD_eq_getElem?_getD, List.getElem?_eq_getElem hjl]; rfl
      obtain ⟨rest, hsp⟩ := bkUp_split L hlt
      obtain ⟨fn, tmps, assign, body, hy, hR⟩ := yieldAny (n - 1) (hY _ _ rest wr hsp hJs)
      rw [hat] at hy
      dsimp only [encB, cv] at hy
      rw [hj]
      have hjm : (j : Int) < m := by omega
      have hj0 : (0 : Int) ≤ j := by omega
      have hm5 : (m : Int) ≤ 100000 := by omega
      obtain ⟨⟨s, p, o, f, b⟩, hx⟩ : ∃ x, x = L[j] := ⟨_, rfl⟩
      rw [← hx] at c0 c1 c2 c3 c4 hy
      dsimp only at c0 c1 c2 c3 c4 hy
      have HX := Lib.hid hx
      have HJ := Lib.hid hj
      clear hx hj hat hcx hsp
      gi_wp2
      refine ⟨fun h => (by cases h), hR.mono ?_⟩
      rintro e W3 ⟨-, (⟨rfl, hJ3⟩ | ⟨rfl, hJx3⟩)⟩
      · gi_wp2
        go_roundw
        case rel => exact ⟨k + 1, by omega, by have := HJ.out; go_num, by rw [bkUp_succ]; exact hJ3⟩
        case measure => have := HJ.out; simp [intOf]
      · gi_wp2
        refine bodyPost_ret (results_none rfl _ _ _) rfl ?_
        exact ⟨⟨_, rfl⟩, .inr ⟨_, hJx3⟩⟩
    · obtain rfl : k = L.length := by omega
      have e1 : (m : Int) - 1 - (L.length : Nat) = -1 := by have := HM.out; omega
      rw [e1]
      gi_wp2
      go_end0
      exact ⟨⟨_, rfl⟩, .inl hJs⟩
end Go.Proofs.Ytbnnfgdlkldafaa
