/- The program's areas: a search by whatever function; a list from which some are struck, in place. -/
import Derived.Test.YtnppnoabhpkmkaaGreatMg09
import Derived.Shelf.Abstract
import Derived.Deep.LoopGhost
import Derived.Test.YtnppnoabhpkmkaaGreatMg11
namespace Go.Proofs.YtnppnoabhpkmkaaGreat
open Go.RowKit
/-- A function value that tells of an area. -/
def Asks (g : Nat) (cb : Array Value) (pr : Ar → Bool) (W : World) : Prop := ∀ f t k p o z, Calls Tryz.prog g (#[.agg #[.int .i64 f, .int .i64 t, .int .i64 k, .int .i64 p, .int .i64 o, .int .i64 z]] ++ cb) W fun e w' => e = .returned (.bool (pr ⟨f, t, k, p, o, z⟩)) ∧ Below W.heap.size W w'
section
variable {B c : Nat} {w : World} {A : Option Addr} {l : List Ar} {g : Nat} {cb : Array Value} {pr : Ar → Bool}
set_option maxHeartbeats 1000000 in
theorem index_any {D : Nat} {R : List Ar} (h : LsD D w A R) (hD : D ≤ w.heap.size) (hl : R.length ≤ 100000) (eg : ∀ args w, (callFunc g args).run Tryz.prog w = .ok (.enter g args) w) (hg : ∀ W, Below w.heap.size w W → Asks g cb pr W) :
    Calls Tryz.prog 113 #[.slice A R.length c, .func (.func g) #[] cb] w fun e w' => Below w.heap.size w w' ∧ ((e = .returned (.int .i64 (-1)) ∧ ∀ x ∈ R, pr x = false) ∨ ∃ j : Nat, ∃ hj : j < R.length, e = .returned (.int .i64 j) ∧ pr R[j] = true ∧ ∀ x ∈ R.take j, pr x = false) := by
  obtain ⟨m, hm⟩ : ∃ m, m = R.length := ⟨_, rfl⟩
  rw [← hm] at hl
  have HO := Lib.hid h
  have HM := Lib.hid hm
  have HG := Lib.hid hg
  have e0 : (Value.slice A R.length c) = .slice A m c := by rw [hm]
  rw [e0]
  clear h hm hg e0
  go_enter Tryz.func113, Tryz.ntmps113
  go_wp2_with fail
  go_loopw [8] (fun i wr => ∃ j : Nat, j ≤ m ∧ i = .int .i64 j ∧ (∀ x ∈ R.take j, pr x = false) ∧ Below w.heap.size w wr) (fun i _ => m - (RowKit.intOf i).toNat)
  case atStart => exact ⟨0, Nat.zero_le _, rfl, fun x hx => by simp at hx, Below.refl _ _⟩
  case round =>
    obtain ⟨j, hj, rfl, hk, hwr⟩ := hrel
    by_cases hlt : j < m
    · have hjl : j < R.length := by rw [← HM.out]; exact hlt
      obtain ⟨gb, eA, hgb, hat⟩ := HO.out.below (hwr.mono hD) (by omega)
      subst eA
      obtain ⟨d0, d1, d2, d3, d4, d5⟩ := ar_at (hat j hjl)
      have HT : Hid (R.take (j + 1) = R.take j ++ [R[j]]) := List.take_succ_eq_append_getElem hjl
      obtain ⟨x, hx⟩ : ∃ x, x = R[j] := ⟨_, rfl⟩
      rw [← hx] at d0 d1 d2 d3 d4 d5 HT
      obtain ⟨b, hb⟩ : ∃ b, b = pr x := ⟨_, rfl⟩
      have HBB := Lib.hid hb
      have HX := Lib.hid hx
      have hgr := HG.out wr hwr x.f x.t x.h x.p x.o x.x
      obtain ⟨f, t, hh, p, o, z⟩ := x
      dsimp only at d0 d1 d2 d3 d4 d5 hgr
      rw [← hb] at hgr
      have j0 : (0 : Int) ≤ j := by omega
      have j1 : (j : Int) < m := by omega
      have HW := Lib.hid hwr
      have HK := Lib.hid hk
      clear hat hgb hx hwr hk hb
      cases b
      · go_wp2_with (first | (go_at_fn g; refine hgr.mono ?_; rintro e w1 ⟨rfl, hb1⟩) | go_in)
        go_roundw
        case rel =>
          refine ⟨j + 1, by omega, by go_num, fun y hy => ?_, HW.out.trans (hb1.mono HW.out.size)⟩
          rw [HT.out, List.mem_append, List.mem_singleton] at hy
          rcases hy with hy | rfl
          · exact HK.out y hy
          · exact HBB.out.symm
        case measure => simp [RowKit.intOf]; omega
      · go_wp2_with (first | (go_at_fn g; refine hgr.mono ?_; rintro e w1 ⟨rfl, hb1⟩) | go_in)
        go_ret
        have hjl : j < R.length := by rw [← HM.out]; exact hlt
        exact ⟨HW.out.trans (hb1.mono HW.out.size), Or.inr ⟨j, hjl, rfl, by rw [← HX.out]; exact HBB.out.symm, HK.out⟩⟩
    · obtain rfl : j = m := by omega
      rw [List.take_of_length_le (by rw [← HM.out]; exact Nat.le_refl _)] at hk
      have HK := Lib.hid hk
      have HW := Lib.hid hwr
      clear hk hwr
      go_wp2_with fail
      go_ret
      exact ⟨HW.out, Or.inl ⟨rfl, HK.out⟩⟩
theorem contains_any {D : Nat} {R : List Ar} (h : LsD D w A R) (hD : D ≤ w.heap.size) (hl : R.length ≤ 100000) (eg : ∀ args w, (callFunc g args).run Tryz.prog w = .ok (.enter g args) w) (hg : ∀ W, Below w.heap.size w W → Asks g cb pr W) :
    Calls Tryz.prog 96 #[.slice A R.length c, .func (.func g) #[] cb] w fun e w' => e = .returned (.bool (R.any pr)) ∧ Below w.heap.size w w' := by
  have hi := index_any (c := c) h hD hl eg hg
  obtain ⟨b, hb⟩ : ∃ b, b = R.any pr := ⟨_, rfl⟩
  rw [← hb]
  have HB := Lib.hid hb
  obtain ⟨m, hm⟩ : ∃ m, m = R.length := ⟨_, rfl⟩
  have e0 : (Value.slice A R.length c) = .slice A m c := by rw [hm]
  rw [e0] at hi ⊢
  clear h hD hl hg hb hm e0
  go_enter Tryz.func96, Tryz.ntmps96
  go_wp2_with fail
  refine hi.mono ?_
  rintro e w1 ⟨hb1, ⟨rfl, ha⟩ | ⟨j, hj, rfl, h1, h2⟩⟩
  · have HA : Hid (b = false) := by
      show _ = _
      rw [HB.out, List.any_eq_false]
      intro x hx; rw [ha x hx]; simp
    clear ha
    go_wp2_with fail
    go_ret
    exact ⟨ret_bool (by rw [HA.out]), hb1⟩
  · have HA : Hid (b = true) := by
      show _ = _
      rw [HB.out, List.any_eq_true]
      exact ⟨_, List.getElem_mem hj, h1⟩
    have j0 : (0 : Int) ≤ j := by omega
    clear h1 h2 hj
    go_wp2_with fail
    go_ret
    exact ⟨ret_bool (by rw [HA.out]), hb1⟩
end
theorem bel_grown {w w' : World} (h : Below w.heap.size w w') (row : Option Nat) : w.grownBy w' row := ⟨h.os, h.tape, h.output, h.size, fun k hk _ => h.block k hk⟩
/-! A cell, six cells, of a row of areas are written. -/
section
variable {B gb n c : Nat} {w : World} {L : List Ar}
theorem put6 {i : Nat} {x x' : Ar} (h : EAr.Own B w (.slice (some ⟨gb, 0, none⟩) n c) (L.set i x)) (hi : i < L.length) {q : Nat} (hq : q < 6) {u : Value} (hx : EAr.enc x' = (EAr.enc x).set q u) :
    (∃ v, w.cell? ⟨gb, i * 6 + q, none⟩ = some v) ∧ w.frozen? ⟨gb, i * 6 + q, none⟩ = false ∧ EAr.Own B (w.setCell ⟨gb, i * 6 + q, none⟩ u) (.slice (some ⟨gb, 0, none⟩) n c) (L.set i x') := by
  have hi' : i < (L.set i x).length := by rw [List.length_set]; exact hi
  have hp := h.put (j := i) (q := q) hi' hq (u := u) (x := x') (by rw [List.getElem_set_self]; exact hx) rfl
  rw [List.set_set] at hp
  obtain ⟨g', e, _, _, _, hat⟩ := h.some_ (by omega)
  injection e with e
  injection e with e _ _
  subst e
  have h0 := hat i hi' q hq
  have hlt : q < (EAr.enc (L.set i x)[i]).length := by rw [EAr.len]; exact hq
  rw [List.getElem?_eq_getElem hlt] at h0
  exact ⟨⟨_, h0⟩, hp.1 _, hp.2⟩
def st6 (w : World) (gb o : Nat) (x : Ar) : World := (((((w.setCell ⟨gb, o, none⟩ (.int .i64 x.f)).setCell ⟨gb, o + 1, none⟩ (.int .i64 x.t)).setCell ⟨gb, o + 2, none⟩ (.int .i64 x.h)).setCell ⟨gb, o + 3, none⟩ (.int .i64 x.p)).setCell ⟨gb, o + 4, none⟩ (.int .i64 x.o)).setCell ⟨gb, o + 5, none⟩ (.int .i64 x.x)
theorem store6 (h : EAr.Own B w (.slice (some ⟨gb, 0, none⟩) n c) L) {i : Nat} (hi : i < L.length) (x : Ar) :
    ((∃ v, w.cell? ⟨gb, i * 6, none⟩ = some v) ∧ w.frozen? ⟨gb, i * 6, none⟩ = false) ∧
    ((∃ v, (w.setCell ⟨gb, i * 6, none⟩ (.int .i64 x.f)).cell? ⟨gb, i * 6 + 1, none⟩ = some v) ∧ (w.setCell ⟨gb, i * 6, none⟩ (.int .i64 x.f)).frozen? ⟨gb, i * 6 + 1, none⟩ = false) ∧
    ((∃ v, ((w.setCell ⟨gb, i * 6, none⟩ (.int .i64 x.f)).setCell ⟨gb, i * 6 + 1, none⟩ (.int .i64 x.t)).cell? ⟨gb, i * 6 + 2, none⟩ = some v) ∧ ((w.setCell ⟨gb, i * 6, none⟩ (.int .i64 x.f)).setCell ⟨gb, i * 6 + 1, none⟩ (.int .i64 x.t)).frozen? ⟨gb, i * 6 + 2, none⟩ = false) ∧
    ((∃ v, (((w.setCell ⟨gb, i * 6, none⟩ (.int .i64 x.f)).setCell ⟨gb, i * 6 + 1, none⟩ (.int .i64 x.t)).setCell ⟨gb, i * 6 + 2, none⟩ (.int .i64 x.h)).cell? ⟨gb, i * 6 + 3, none⟩ = some v) ∧ (((w.setCell ⟨gb, i * 6, none⟩ (.int .i64 x.f)).setCell ⟨gb, i * 6 + 1, none⟩ (.int .i64 x.t)).setCell ⟨gb, i * 6 + 2, none⟩ (.int .i64 x.h)).frozen? ⟨gb, i * 6 + 3, none⟩ = false) ∧
    ((∃ v, ((((w.setCell ⟨gb, i * 6, none⟩ (.int .i64 x.f)).setCell ⟨gb, i * 6 + 1, none⟩ (.int .i64 x.t)).setCell ⟨gb, i * 6 + 2, none⟩ (.int .i64 x.h)).setCell ⟨gb, i * 6 + 3, none⟩ (.int .i64 x.p)).cell? ⟨gb, i * 6 + 4, none⟩ = some v) ∧ ((((w.setCell ⟨gb, i * 6, none⟩ (.int .i64 x.f)).setCell ⟨gb, i * 6 + 1, none⟩ (.int .i64 x.t)).setCell ⟨gb, i * 6 + 2, none⟩ (.int .i64 x.h)).setCell ⟨gb, i * 6 + 3, none⟩ (.int .i64 x.p)).frozen? ⟨gb, i * 6 + 4, none⟩ = false) ∧
    ((∃ v, (((((w.setCell ⟨gb, i * 6, none⟩ (.int .i64 x.f)).setCell ⟨gb, i * 6 + 1, none⟩ (.int .i64 x.t)).setCell ⟨gb, i * 6 + 2, none⟩ (.int .i64 x.h)).setCell ⟨gb, i * 6 + 3, none⟩ (.int .i64 x.p)).setCell ⟨gb, i * 6 + 4, none⟩ (.int .i64 x.o)).cell? ⟨gb, i * 6 + 5, none⟩ = some v) ∧ (((((w.setCell ⟨gb, i * 6, none⟩ (.int .i64 x.f)).setCell ⟨gb, i * 6 + 1, none⟩ (.int .i64 x.t)).setCell ⟨gb, i * 6 + 2, none⟩ (.int .i64 x.h)).setCell ⟨gb, i * 6 + 3, none⟩ (.int .i64 x.p)).setCell ⟨gb, i * 6 + 4, none⟩ (.int .i64 x.o)).frozen? ⟨gb, i * 6 + 5, none⟩ = false) ∧
    EAr.Own B (st6 w gb (i * 6) x) (.slice (some ⟨gb, 0, none⟩) n c) (L.set i x) ∧ w.grownBy (st6 w gb (i * 6) x) (some gb) := by
  have h0 : EAr.Own B w (.slice (some ⟨gb, 0, none⟩) n c) (L.set i L[i]) := by rw [List.set_getElem_self]; exact h
  obtain ⟨a0, b0, h1⟩ := put6 h0 hi (q := 0) (by decide) (u := .int .i64 x.f) (x' := { L[i] with f := x.f }) rfl
  obtain ⟨a1, b1, h2⟩ := put6 h1 hi (q := 1) (by decide) (u := .int .i64 x.t) (x' := { L[i] with f := x.f, t := x.t }) rfl
  obtain ⟨a2, b2, h3⟩ := put6 h2 hi (q := 2) (by decide) (u := .int .i64 x.h) (x' := { L[i] with f := x.f, t := x.t, h := x.h }) rfl
  obtain ⟨a3, b3, h4⟩ := put6 h3 hi (q := 3) (by decide) (u := .int .i64 x.p) (x' := { L[i] with f := x.f, t := x.t, h := x.h, p := x.p }) rfl
  obtain ⟨a4, b4, h5⟩ := put6 h4 hi (q := 4) (by decide) (u := .int .i64 x.o) (x' := { L[i] with f := x.f, t := x.t, h := x.h, p := x.p, o := x.o }) rfl
  obtain ⟨a5, b5, h6⟩ := put6 h5 hi (q := 5) (by decide) (u := .int .i64 x.x) (x' := x) rfl
  exact ⟨⟨a0, b0⟩, ⟨a1, b1⟩, ⟨a2, b2⟩, ⟨a3, b3⟩, ⟨a4, b4⟩, ⟨a5, b5⟩, h6, grown_trans1 (grown_trans1 (grown_trans1 (grown_trans1 (grown_trans1 (grown_set _ _ _ _) (grown_set _ _ _ _)) (grown_set _ _ _ _)) (grown_set _ _ _ _)) (grown_set _ _ _ _)) (grown_set _ _ _ _)⟩
end
theorem zeroAr (w : World) : (zeroValue 93).run Tryz.prog w = .ok (.agg #[.int .i64 0, .int .i64 0, .int .i64 0, .int .i64 0, .int .i64 0, .int .i64 0]) w := by kernel_rfl
theorem zeros6 (n : Nat) : (Builtin.zeroCells (Value.agg #[.int .i64 0, .int .i64 0, .int .i64 0, .int .i64 0, .int .i64 0, .int .i64 0]).cells n).toList = List.replicate (n * 6) (.int .i64 0) := by
  have hc : (Value.agg #[.int .i64 0, .int .i64 0, .int .i64 0, .int .i64 0, .int .i64 0, .int .i64 0]).cells = #[.int .i64 0, .int .i64 0, .int .i64 0, .int .i64 0, .int .i64 0, .int .i64 0] := rfl
  rw [hc]
  unfold Builtin.zeroCells
  apply List.ext_getElem
  · simp
  · intro i h1 h2
    have h6 : i % 6 < 6 := Nat.mod_lt _ (by decide)
    simp only [Array.toList_map, Array.toList_range, List.getElem_map, List.getElem_range, List.getElem_replicate]
    show (#[Value.int .i64 0, .int .i64 0, .int .i64 0, .int .i64 0, .int .i64 0, .int .i64 0])[i % 6]! = _
    rcases (show i % 6 = 0 ∨ i % 6 = 1 ∨ i % 6 = 2 ∨ i % 6 = 3 ∨ i % 6 = 4 ∨ i % 6 = 5 by omega) with e | e | e | e | e | e <;> rw [e] <;> rfl
theorem clear6_run {w : World} {g : Nat} {t : TypeId} {L : List Value} (h : Lrow w g t L) (o m c : Nat) (hm : 0 < m) (hl : o + m * 6 ≤ L.length) :
    ∃ w2, (∀ ty, (Builtin.clear_ #[60] ty #[.slice (some ⟨g, o, none⟩) m c]).run Tryz.prog w = .ok (.tuple #[]) w2) ∧ Lrow w2 g t (splice L o (List.replicate (m * 6) (.int .i64 0))) ∧ w.grownBy w2 (some g) := by
  obtain ⟨k1, k2⟩ := row_setCells g t (List.replicate (m * 6) (.int .i64 0)) o w L h (by simpa using hl)
  refine ⟨_, fun ty => ?_, k1, k2⟩
  have hst := run_storeCells_cells (P := Tryz.prog) g o (List.replicate (m * 6) (.int .i64 0)) 0 w (by intro j hj; rw [Nat.add_zero, h.cell, List.getElem?_eq_getElem (by simp at hj; omega)]; rfl) (by intro j _; exact h.frozen _) (by intro v hv; rw [List.eq_of_mem_replicate hv]; rfl)
  simp only [Nat.add_zero] at hst
  obtain ⟨m, rfl⟩ : ∃ k, m = k + 1 := ⟨m - 1, by omega⟩
  simp [Builtin.clear_, zeros6, hst]
theorem own_take {B gb n c i : Nat} {w : World} {L : List Ar} (h : EAr.Own B w (.slice (some ⟨gb, 0, none⟩) n c) L) (hi : i ≤ L.length) : EAr.Own B w (.slice (some ⟨gb, 0, none⟩) (L.take i).length c) (L.take i) := by
  have hn : n = L.length := by obtain ⟨_, _, e⟩ := h.form; injection e
  subst hn
  obtain ⟨rest, r1, r2, r3, r4, r5⟩ := own_row h rfl
  have e : EAr.cells L = EAr.cells (L.take i) ++ EAr.cells (L.drop i) := by rw [← EAr.cells_append, List.take_append_drop]
  rw [e, List.append_assoc] at r1
  have hl : (L.take i).length = i := by rw [List.length_take]; omega
  refine own_of_row r1 r2 (by omega) r4 (EAr.cells_length _) ?_
  rw [List.length_append, EAr.cells_length, EAr.cells_length, List.length_drop, hl]
  rw [EAr.cells_length] at r5
  have e6 : EAr.sz = 6 := rfl
  have e7 : EAr.el = EAr.el := rfl
  rw [e6] at r5 ⊢
  show i * 6 + ((L.length - i) * 6 + rest.length) = c * 6
  omega
section
variable {B c g gb : Nat} {w : World} {cb : Array Value} {pr : Ar → Bool}
set_option maxRecDepth 100000 in
set_option maxHeartbeats 4000000 in
theorem delete_ar {R : List Ar} (h : EAr.Own B w (.slice (some ⟨gb, 0, none⟩) R.length c) R) (hl : R.length ≤ 4096) (eg : ∀ args w, (callFunc g args).run Tryz.prog w = .ok (.enter g args) w) (hg : ∀ W, Asks g cb pr W) :
    Calls Tryz.prog 116 #[.slice (some ⟨gb, 0, none⟩) R.length c, .func (.func g) #[] cb] w fun e w' => e = .returned (.slice (some ⟨gb, 0, none⟩) (R.filter fun x => !pr x).length c) ∧ EAr.Own B w' (.slice (some ⟨gb, 0, none⟩) (R.filter fun x => !pr x).length c) (R.filter fun x => !pr x) ∧ w.grownBy w' (some gb) := by
  have hi := index_any (c := c) (LsD.of (D := w.heap.size) h (Nat.le_refl _)) (Nat.le_refl _) (by omega) eg (fun W _ => hg W)
  obtain ⟨n, hn⟩ : ∃ n, n = R.length := ⟨_, rfl⟩
  obtain ⟨S, hS⟩ : ∃ S, S = R.filter fun x => !pr x := ⟨_, rfl⟩
  obtain ⟨k, hk⟩ : ∃ k, k = S.length := ⟨_, rfl⟩
  rw [← hS, ← hk]
  have HN := Lib.hid hn
  have HS := Lib.hid hS
  have HK := Lib.hid hk
  have e0 : (Value.slice (some ⟨gb, 0, none⟩) R.length c) = .slice (some ⟨gb, 0, none⟩) n c := by rw [hn]
  rw [e0] at hi h ⊢
  have HO := Lib.hid h
  have HG := Lib.hid hg
  have HL := Lib.hid hl
  have hgb : Hid (gb < w.heap.size) := by
    obtain ⟨vs, r, _⟩ := h.block (g := gb) rfl
    exact r.lt
  have hnc : Hid (n ≤ c) := by
    rw [hn] at h
    obtain ⟨rest, r1, r2, r3, r4, r5⟩ := own_row h rfl
    show n ≤ c
    rw [hn]; exact r3
  clear h hg hl hn hS hk e0
  go_enter Tryz.func116, Tryz.ntmps116
  go_wp2_with fail
  refine hi.mono ?_
  rintro e w1 ⟨hb1, ⟨rfl, ha⟩ | ⟨j0, hj0, rfl, h1, h2⟩⟩
  · have e1 : Hid (S = R) := by
      show S = R
      rw [HS.out]
      exact List.filter_eq_self.2 fun x hx => by rw [ha x hx]; rfl
    have HB := Lib.hid hb1
    clear ha hb1 hi
    go_wp2_with fail
    go_ret
    have e2 : k = n := by rw [HK.out, e1.out, HN.out]
    rw [e2]
    refine ⟨rfl, ?_, bel_grown HB.out _⟩
    rw [e1.out]
    exact HO.out.call HB.out
  · have HB := Lib.hid hb1
    have H0 : Hid (R.take j0 = (R.take (j0 + 1)).filter fun x => !pr x) := by
      show _ = _
      rw [List.take_succ_eq_append_getElem hj0, List.filter_append, List.filter_eq_self.2 (fun x hx => by rw [h2 x hx]; rfl)]
      simp [h1]
    have hj0n : j0 < n := by rw [HN.out]; exact hj0
    have hne : ((j0 : Int) == -1) = false := by simp
    have n4 : n ≤ 4096 := by rw [HN.out]; exact HL.out
    clear hi h1 h2 hb1 hj0
    go_wp2_with fail
    go_loopw [5, 6] (fun v5 v6 wr => ∃ i j : Nat, v5 = .int .i64 i ∧ v6 = .int .i64 j ∧ i < j ∧ j ≤ n ∧ (∃ L : List Ar, L.length = n ∧ EAr.Own B wr (.slice (some ⟨gb, 0, none⟩) n c) L ∧ L.take i = (R.take j).filter (fun x => !pr x) ∧ L.drop j = R.drop j) ∧ w.grownBy wr (some gb)) (fun _ v6 _ => n - (RowKit.intOf v6).toNat)
    case atStart => exact ⟨j0, j0 + 1, rfl, by go_num, by omega, by omega, ⟨R, HN.out.symm, HO.out.call HB.out, H0.out, rfl⟩, bel_grown HB.out _⟩
    case round =>
      obtain ⟨i, j, rfl, rfl, hij, hjn, ⟨L, hLn, ho, ht, hd⟩, hgr⟩ := hrel
      have hin : i < n := by omega
      by_cases hlt : j < n
      · have hjR : j < R.length := by rw [← HN.out]; exact hlt
        have hjL : j < L.length := by rw [hLn]; exact hlt
        have hx : L[j] = R[j] := by
          have e : (L.drop j)[0]? = (R.drop j)[0]? := by rw [hd]
          rw [List.getElem?_drop, List.getElem?_drop, Nat.add_zero, List.getElem?_eq_getElem hjL, List.getElem?_eq_getElem hjR] at e
          injection e
        have HT : Hid (R.take (j + 1) = R.take j ++ [R[j]]) := List.take_succ_eq_append_getElem hjR
        obtain ⟨g', eg', -, -, -, hat⟩ := ho.some_ (by omega)
        obtain rfl : gb = g' := by injection eg' with eg'; injection eg' with eg'
        clear eg'
        have ha : EAr.At wr gb (j * 6) L[j] := hat j hjL
        rw [hx] at ha
        obtain ⟨x, hxx⟩ : ∃ x, x = R[j] := ⟨_, rfl⟩
        rw [← hxx] at ha HT
        obtain ⟨d0, d1, d2, d3, d4, d5⟩ := ar_at ha
        obtain ⟨b, hb⟩ : ∃ b, b = pr x := ⟨_, rfl⟩
        obtain ⟨W2, hW2⟩ : ∃ W2, W2 = wr.alloc (.cells #[.int .i64 x.f, .int .i64 x.t, .int .i64 x.h, .int .i64 x.p, .int .i64 x.o, .int .i64 x.x] 93) := ⟨_, rfl⟩
        obtain ⟨q, hq⟩ : ∃ q, q = wr.heap.size := ⟨_, rfl⟩
        have hb2 : Below wr.heap.size wr W2 := by rw [hW2]; exact below_new _ _
        have r2 : Lrow W2 q 93 [.int .i64 x.f, .int .i64 x.t, .int .i64 x.h, .int .i64 x.p, .int .i64 x.o, .int .i64 x.x] := by rw [hW2, hq]; exact Lrow.new wr _ [.int .i64 x.f, .int .i64 x.t, .int .i64 x.h, .int .i64 x.p, .int .i64 x.o, .int .i64 x.x]
        have hgc := HG.out W2 x.f x.t x.h x.p x.o x.x
        have HB3 : Hid (∀ w3, Below W2.heap.size W2 w3 → EAr.Own B w3 (.slice (some ⟨gb, 0, none⟩) n c) L ∧ w.grownBy w3 (some gb) ∧ Lrow w3 q 93 [.int .i64 x.f, .int .i64 x.t, .int .i64 x.h, .int .i64 x.p, .int .i64 x.o, .int .i64 x.x]) := fun w3 h3 => ⟨ho.call (hb2.trans (h3.mono hb2.size)), grown_trans1 hgr (bel_grown (hb2.trans (h3.mono hb2.size)) _), r2.call h3⟩
        have HSS := Lib.hid (fun w3 (h3 : EAr.Own B w3 (.slice (some ⟨gb, 0, none⟩) n c) L) => store6 h3 (i := i) (by omega) x)
        have HX := Lib.hid (And.intro hb (And.intro hLn (And.intro ht hd)))
        have HRX : Hid (R[j]? = some x) := by show _ = _; rw [List.getElem?_eq_getElem hjR, hxx]
        have c0 := r2.cell 0
        have c1 := r2.cell 1
        have c2 := r2.cell 2
        have c3 := r2.cell 3
        have c4 := r2.cell 4
        have c5 := r2.cell 5
        have j0' : (0 : Int) ≤ j := by omega
        have jn' : (j : Int) < n := by omega
        have i0' : (0 : Int) ≤ i := by omega
        have in' : (i : Int) < n := by omega
        obtain ⟨f, t, hh, p, o, z⟩ := x
        dsimp only at d0 d1 d2 d3 d4 d5 c0 c1 c2 c3 c4 c5 hgc hW2
        rw [← hb] at hgc
        have HW2 := Lib.hid hW2
        have HQ := Lib.hid hq
        have HC := Lib.hid hgc
        clear hat ha ho hgr hd ht hx hxx hb hb2 r2 hq hW2 hgc hjR hjL hLn
        go_wp2_with fail
        rw [← HW2.out, ← HQ.out]
        cases b
        · refine HC.out.mono ?_
          rintro e w3 ⟨rfl, hb3⟩
          obtain ⟨o3, g3, r3⟩ := HB3.out w3 hb3
          obtain ⟨⟨⟨v0, s0⟩, t0⟩, ⟨⟨v1, s1⟩, t1⟩, ⟨⟨v2, s2⟩, t2⟩, ⟨⟨v3, s3⟩, t3⟩, ⟨⟨v4, s4⟩, t4⟩, ⟨⟨v5, s5⟩, t5⟩, o4, g4⟩ := HSS.out w3 o3
          have x0 := r3.cell 0
          have x1 := r3.cell 1
          have x2 := r3.cell 2
          have x3 := r3.cell 3
          have x4 := r3.cell 4
          have x5 := r3.cell 5
          have H4 := Lib.hid (And.intro o4 (grown_trans1 g3 g4))
          have hadd : ∀ i, (⟨gb, 0, none⟩ : Addr).add i = ⟨gb, i, none⟩ := fun i => addr_add gb i
          clear o3 g3 r3 o4 g4 hb3 c0 c1 c2 c3 c4 c5 d0 d1 d2 d3 d4 d5
          go_wp2_with fail
          go_roundw
          case rel =>
            obtain ⟨hb, hLn, ht, hd⟩ := HX.out
            refine ⟨i + 1, j + 1, by go_num, by go_num, by omega, by omega, ⟨L.set i ⟨f, t, hh, p, o, z⟩, by rw [List.length_set]; exact hLn, H4.out.1, ?_, ?_⟩, H4.out.2⟩
            · rw [List.take_succ_eq_append_getElem (by rw [List.length_set]; omega), List.getElem_set_self, List.take_set_of_le (Nat.le_refl _), ht, HT.out, List.filter_append]
              congr 1
              simp [← hb]
            · rw [List.drop_set_of_lt (by omega), ← List.drop_drop, ← List.drop_drop, hd]
          case measure => simp [RowKit.intOf]; omega
        · refine HC.out.mono ?_
          rintro e w3 ⟨rfl, hb3⟩
          obtain ⟨o3, g3, r3⟩ := HB3.out w3 hb3
          have H4 := Lib.hid (And.intro o3 g3)
          clear o3 g3 r3 hb3 c0 c1 c2 c3 c4 c5 d0 d1 d2 d3 d4 d5
          go_wp2_with fail
          go_roundw
          case rel =>
            obtain ⟨hb, hLn, ht, hd⟩ := HX.out
            refine ⟨i, j + 1, rfl, by go_num, by omega, by omega, ⟨L, hLn, H4.out.1, ?_, ?_⟩, H4.out.2⟩
            · rw [ht, HT.out, List.filter_append]
              simp [← hb]
            · rw [← List.drop_drop, ← List.drop_drop, hd]
          case measure => simp [RowKit.intOf]; omega
      · obtain rfl : j = n := by omega
        have hS : L.take i = S := by rw [ht, HS.out, List.take_of_length_le (by rw [← HN.out]; exact Nat.le_refl _)]
        have hki : k = i := by rw [HK.out, ← hS, List.length_take]; omega
        obtain ⟨rest, r1, r2, r3, r4, r5⟩ := own_row (by rw [← hLn] at ho; exact ho) rfl
        rw [EAr.cells_length, hLn] at r5
        obtain ⟨w2, hcl, hr2, hg2⟩ := clear6_run r1 (i * 6) (j - i) (c - i) (by omega) (by rw [List.length_append, EAr.cells_length, hLn]; show _ ≤ j * 6 + _; omega)
        have HR2 : Hid (EAr.Own B w2 (.slice (some ⟨gb, 0, none⟩) k c) S) := by
          have e : splice (EAr.cells L ++ rest) (i * 6) (List.replicate ((j - i) * 6) (.int .i64 0)) = EAr.cells S ++ (List.replicate ((j - i) * 6) (.int .i64 0) ++ rest) := by
            rw [← hS, EAr.cells_take]
            unfold splice
            have e6 : EAr.sz = 6 := rfl
            rw [List.length_replicate, List.take_append_of_le_length (by rw [EAr.cells_length, hLn, e6]; omega), List.drop_append, List.drop_of_length_le (by rw [EAr.cells_length, hLn, e6]; omega), EAr.cells_length, hLn, e6, show i * 6 + (j - i) * 6 - j * 6 = 0 by omega]
            simp
          rw [e] at hr2
          have hkl : k = S.length := HK.out
          show EAr.Own B w2 (.slice (some ⟨gb, 0, none⟩) k c) S
          rw [hkl]
          refine own_of_row hr2 r2 (by rw [← hkl]; have := hnc.out; omega) r4 (EAr.cells_length _) ?_
          rw [EAr.cells_length, List.length_append, List.length_replicate, ← hkl]
          have e6 : EAr.sz = 6 := rfl
          rw [e6] at r5 ⊢
          have := hnc.out
          omega
        have HG2 := Lib.hid (grown_trans1 hgr hg2)
        have i0' : (0 : Int) ≤ i := by omega
        have in' : (i : Int) ≤ j := by omega
        have ic' : ¬ (c = i) := by have := hnc.out; omega
        have jc' : j ≤ c := hnc.out
        have HKI := Lib.hid hki
        clear ho ht hd hgr hLn hS r1 r2 r3 r4 r5 hr2 hg2 hki
        go_wp2_with fail
        go_ret
        exact ⟨by rw [HKI.out]; rfl, HR2.out, HG2.out⟩
theorem delete_nil (eg : ∀ args w, (callFunc g args).run Tryz.prog w = .ok (.enter g args) w) (hg : ∀ W, Asks g cb pr W) :
    Calls Tryz.prog 116 #[.slice none 0 0, .func (.func g) #[] cb] w fun e w' => e = .returned (.slice none 0 0) ∧ Below w.heap.size w w' := by
  have hi := index_any (c := 0) (A := none) (R := []) (w := w) (D := w.heap.size) (fun h => absurd h (Nat.lt_irrefl 0)) (Nat.le_refl _) (by decide) eg (fun W _ => hg W)
  have hi : Calls Tryz.prog 113 #[.slice none 0 0, .func (.func g) #[] cb] w fun e w' => e = .returned (.int .i64 (-1)) ∧ Below w.heap.size w w' := hi.mono (by
    rintro e w1 ⟨hb1, ⟨rfl, -⟩ | ⟨j, hj, -, -, -⟩⟩
    · exact ⟨rfl, hb1⟩
    · exact absurd hj (Nat.not_lt_zero _))
  clear hg
  go_enter Tryz.func116, Tryz.ntmps116
  go_wp2_with fail
  refine hi.mono ?_
  rintro e w1 ⟨rfl, hb1⟩
  clear hi
  go_wp2_with fail
  go_ret
  exact ⟨rfl, hb1⟩
end
end Go.Proofs.YtnppnoabhpkmkaaGreat
/- The program's areas: a copy. -/
namespace Go.Proofs.YtnppnoabhpkmkaaGreat
open Go.RowKit
def hugeOwn (x : Ar) : Bool := decide (1 < szO x.h) && !decide (shr x.h)
def cpG (p : Pg) : Pg := if 1 < szO p.h ∧ ¬ shr p.h then zP else p
theorem jd_filter {q : Ar → Bool} : ∀ {l : List Ar} {lo : Int}, Jd lo l → Jd lo (l.filter q)
  | [], _, h => h
  | a :: r, lo, h => by
    obtain ⟨h1, h2, h3, h4⟩ := h
    have ih := jd_filter (q := q) h4
    have := h2.1
    rw [List.filter_cons]
    split
    · refine ⟨h1, h2, fun b hb => ?_, ih⟩
      cases r with
      | nil => simp at hb
      | cons c s =>
        rw [List.filter_cons] at hb
        obtain ⟨k1, k2, k3, k4⟩ := h4
        split at hb
        · obtain rfl : c = b := by simpa using hb
          exact h3 c rfl
        · have hm := List.mem_of_mem_head? hb
          have := ((jd_lst k4).2 b (List.mem_filter.1 hm).1).1
          have := k2.1
          intro hj
          have := hj.1
          omega
    · exact ih.mono (by omega)
theorem pgs_filter : ∀ {l : List Ar} {lo : Int}, Jd lo l → ∀ i, pgs (l.filter fun x => !hugeOwn x) i = cpG (pgs l i)
  | [], _, _, _ => rfl
  | a :: r, lo, h, i => by
    obtain ⟨h1, h2, h3, h4⟩ := h
    have ih := pgs_filter h4 i
    have h5 := h2.1
    have hE : pgs (a :: r) i = if a.f ≤ i ∧ i < a.t then a.pg i else pgs r i := rfl
    rw [hE, List.filter_cons]
    by_cases c : a.f ≤ i ∧ i < a.t
    · rw [if_pos c]
      cases e : hugeOwn a with
      | true =>
        rw [if_neg (by simp), (jd_filter h4).far c.2]
        unfold hugeOwn at e
        simp only [Bool.and_eq_true, decide_eq_true_eq, Bool.not_eq_true', decide_eq_false_iff_not] at e
        unfold cpG
        rw [if_pos (show 1 < szO (a.pg i).h ∧ ¬ shr (a.pg i).h from e)]
      | false =>
        rw [if_pos (by simp)]
        show (if a.f ≤ i ∧ i < a.t then a.pg i else _) = _
        rw [if_pos c]
        unfold hugeOwn at e
        unfold cpG
        rw [if_neg (fun k => by
          have k : 1 < szO a.h ∧ ¬ shr a.h := k
          simp [k.1, k.2] at e)]
    · rw [if_neg c]
      cases e : hugeOwn a with
      | true => rw [if_neg (by simp)]; exact ih
      | false =>
        rw [if_pos (by simp)]
        show (if a.f ≤ i ∧ i < a.t then a.pg i else _) = _
        rw [if_neg c]; exact ih
theorem PsOk.cp {P : Int → Pg} (h : PsOk P) : PsOk (cpP P) := by
  refine ⟨fun i => ?_, fun i hi => ?_, fun i => ?_⟩
  · show PgOk (cpP P i)
    rcases cpP_or P i with e | e <;> rw [e]
    · exact h.ok i
    · exact zP_ok
  · show cpP P i = zP
    rcases cpP_or P i with e | e <;> rw [e]
    exact h.far i hi
  · show 0 ≤ (cpP P i).x ∧ (cpP P i).x ≤ 4096
    rcases cpP_or P i with e | e <;> rw [e]
    · exact h.sm i
    · exact ⟨by show (0 : Int) ≤ 0; omega, by show (0 : Int) ≤ 4096; omega⟩
theorem Whole.cp {P : Int → Pg} {l : List Ar} (h : Whole P l) : Whole (cpP P) (l.filter fun x => !hugeOwn x) := ⟨jd_filter h.jd, fun i => by rw [pgs_filter h.jd, h.pg]; rfl, h.ok.cp⟩
section
variable {B c xa : Nat} {w : World} {A : Option Addr} {l : List Ar} {P : Int → Pg}
theorem cp1_is (W : World) : Asks 117 #[] hugeOwn W := by
  intro f t k p o z
  have hg := fun w => isGreat_is ⟨f, t, k, p, o, z⟩ w
  change ∀ w, Calls Tryz.prog _ #[.agg #[.int .i64 f, .int .i64 t, .int .i64 k, .int .i64 p, .int .i64 o, .int .i64 z]] w (fun e w' => e = .returned (.bool (decide (1 < szO k))) ∧ Below w.heap.size w w') at hg
  have ho := fun w => ofObj_is k w
  show Calls Tryz.prog 117 #[.agg #[.int .i64 f, .int .i64 t, .int .i64 k, .int .i64 p, .int .i64 o, .int .i64 z]] W fun e w' => e = .returned (.bool (decide (1 < szO k) && !decide (shr k))) ∧ Below W.heap.size W w'
  obtain ⟨W1, hW1⟩ : ∃ W1, W1 = W.alloc (.cells #[.int .i64 f, .int .i64 t, .int .i64 k, .int .i64 p, .int .i64 o, .int .i64 z] 93) := ⟨_, rfl⟩
  obtain ⟨q, hq⟩ : ∃ q, q = W.heap.size := ⟨_, rfl⟩
  have hb1 : Below W.heap.size W W1 := by rw [hW1]; exact below_new _ _
  have hr1 : Lrow W1 q 93 [.int .i64 f, .int .i64 t, .int .i64 k, .int .i64 p, .int .i64 o, .int .i64 z] := by rw [hW1, hq]; exact Lrow.new W _ [.int .i64 f, .int .i64 t, .int .i64 k, .int .i64 p, .int .i64 o, .int .i64 z]
  have c0 := hr1.cell 0
  have c1 := hr1.cell 1
  have c2 := hr1.cell 2
  have c3 := hr1.cell 3
  have c4 := hr1.cell 4
  have c5 := hr1.cell 5
  have HW := Lib.hid (And.intro hW1 hq)
  have HB := Lib.hid hb1
  have HR := Lib.hid hr1
  obtain ⟨b, hb⟩ : ∃ b, b = decide (1 < szO k) := ⟨_, rfl⟩
  obtain ⟨d, hd⟩ : ∃ d, d = decide (shr k) := ⟨_, rfl⟩
  rw [← hb] at hg ⊢
  rw [← hd] at ho ⊢
  clear hW1 hq hb1 hr1 hb hd
  go_enter Tryz.func117, Tryz.ntmps117
  go_upto_region 1 with (fail)
  rw [← HW.out.1, ← HW.out.2]
  cases b
  · go_wp2_with (first | (go_at_call 114; refine (hg _).mono ?_; rintro e w1 ⟨rfl, hb2⟩) | (go_at_call 111; refine (ho _).mono ?_; rintro e w1 ⟨rfl, rfl⟩))
    go_ret
    exact ⟨rfl, HB.out.trans (hb2.mono HB.out.size)⟩
  · go_wp2_with (go_at_call 114; refine (hg _).mono ?_; rintro e w1 ⟨rfl, hb2⟩; have e2 := (HR.out.call hb2).cell 2)
    go_wp2_with (go_at_call 111; refine (ho _).mono ?_; rintro e w2 ⟨rfl, rfl⟩)
    go_ret
    exact ⟨rfl, HB.out.trans (hb2.mono HB.out.size)⟩
/-- A new one like it. -/
def Cloned (Q : Int → Pg) (w : World) (e : Ending) (w' : World) : Prop := ∃ xb A c l, e = .returned (.pointer (some ⟨xb, 0, none⟩)) ∧ AtX w.heap.size w' xb A c l Q ∧ Below w.heap.size w w'
theorem clone_pr (h : AtX B w xa A c l P) : Calls Tryz.prog 115 #[.pointer (some ⟨xa, 0, none⟩)] w (fun e w' => ∃ xb A c, e = .returned (.pointer (some ⟨xb, 0, none⟩)) ∧ AtX w.heap.size w' xb A c l P ∧ Below w.heap.size w w') := by
  have hc := clone_is h.own (Nat.le_trans h.len (by decide))
  have c0 := h.c0
  have HX := Lib.hid h.wh
  obtain ⟨n, hn⟩ : ∃ n, n = l.length := ⟨_, rfl⟩
  rw [← hn] at hc c0
  have HN := Lib.hid hn
  clear h hn
  go_enter Tryz.func115, Tryz.ntmps115
  go_wp2_with fail
  refine hc.mono ?_
  rintro e w1 ⟨A', c', rfl, ho, hb⟩
  have HO := Lib.hid ho
  have HB := Lib.hid hb
  rw [← HN.out]
  clear ho hb hc
  go_wp2_with fail
  go_ret
  have hl : Lrow (w1.alloc (.cells #[.slice A' n c'] 106)) w1.heap.size 106 [.slice A' l.length c'] := by rw [HN.out]; exact Lrow.new w1 _ [.slice A' l.length c']
  have hb2 : Below w1.heap.size w1 (w1.alloc (.cells #[.slice A' n c'] 106)) := below_new _ _
  exact ⟨w1.heap.size, A', c', rfl, ⟨hl, HO.out.call hb2, HX.out, HB.out.size, Nat.le_trans HB.out.size hb2.size⟩, HB.out.trans (hb2.mono HB.out.size)⟩
set_option maxRecDepth 100000 in
theorem copy_pr (h : AtX B w xa A c l P) : Calls Tryz.prog 103 #[.pointer (some ⟨xa, 0, none⟩)] w (Cloned (cpP P) w) := by
  have hc := clone_pr h
  have h4 := h.len
  have eg : ∀ args w, (callFunc 117 args).run Tryz.prog w = .ok (.enter 117 args) w := fun args w => by kernel_rfl
  have HEG := Lib.hid eg
  clear h eg
  go_enter Tryz.func103, Tryz.ntmps103
  go_wp2_with fail
  refine hc.mono ?_
  rintro e w1 ⟨xb, A', c', rfl, hx, hb⟩
  clear hc
  have HB := Lib.hid hb
  have HH := Lib.hid h4
  cases A' with
  | none =>
    have hlc : l = [] ∧ c' = 0 := by
      rcases hx.own.2 with ⟨h1, h2⟩ | ⟨g, cap, cur, h1, _⟩
      · injection h1 with _ _ h1
        exact ⟨List.eq_nil_of_length_eq_zero h2, h1⟩
      · cases h1
    obtain ⟨hl, hc'⟩ := hlc
    subst hl hc'
    have hd := delete_nil (w := w1) HEG.out cp1_is
    have c0 : w1.cell? ⟨xb, 0, none⟩ = some (.slice none 0 0) := hx.c0
    have HX := Lib.hid hx
    clear hx hb h4
    go_wp2_with fail
    refine hd.mono ?_
    rintro e w2 ⟨rfl, hb2⟩
    have hx2 := HX.out.call hb2
    have f2 := hx2.top.frozen 0
    have c2 : w2.cell? ⟨xb, 0, none⟩ = some (.slice none 0 0) := hx2.c0
    obtain ⟨W3, hW3⟩ : ∃ W3, W3 = w2.setCell ⟨xb, 0, none⟩ (.slice none 0 0) := ⟨_, rfl⟩
    have HF : Hid (Cloned (cpP P) w (.returned (.pointer (some ⟨xb, 0, none⟩))) W3) := by
      have t3 : Lrow W3 xb 106 [.slice none 0 0] := by rw [hW3]; exact hx2.top.set_ 0 _
      have b2 : Below w.heap.size w w2 := HB.out.trans (hb2.mono HB.out.size)
      have b3 : Below w.heap.size w W3 := by rw [hW3]; exact b2.setCell (show w.heap.size ≤ xb from hx2.lo) _
      exact ⟨xb, none, 0, [], rfl, ⟨t3, own_nil _ _, HX.out.wh.cp, hx2.lo, b3.size⟩, b3⟩
    have HW3 := Lib.hid hW3
    clear hd c0 hx2 hb2 hW3
    go_wp2_with fail
    rw [← HW3.out]
    go_ret
    exact HF.out
  | some a =>
    obtain ⟨gb, hgb⟩ : ∃ g, a = ⟨g, 0, none⟩ := by
      rcases hx.own.2 with ⟨h1, h2⟩ | ⟨g, cap, cur, h1, _⟩
      · cases h1
      · injection h1 with h1
        injection h1 with h1
        exact ⟨g, h1⟩
    subst hgb
    have hd := delete_ar hx.own h4 HEG.out cp1_is
    have c0 := hx.c0
    obtain ⟨n, hn⟩ : ∃ n, n = l.length := ⟨_, rfl⟩
    obtain ⟨S, hS⟩ : ∃ S, S = l.filter fun x => !hugeOwn x := ⟨_, rfl⟩
    obtain ⟨m, hm⟩ : ∃ m, m = S.length := ⟨_, rfl⟩
    have HQ : Hid (Whole (cpP P) S) := by show Whole _ _; rw [hS]; exact hx.wh.cp
    have HGB : Hid (w.heap.size ≤ gb) := by obtain ⟨vs, r, hB⟩ := hx.own.block (g := gb) rfl; exact hB
    have HT := Lib.hid hx.top
    have HXB := Lib.hid hx.lo
    have HNX : Hid (xb ≠ gb) := by
      obtain ⟨vs, r, _⟩ := hx.own.block (g := gb) rfl
      exact hx.top.apart r (by decide)
    rw [← hS, ← hm, ← hn] at hd
    rw [← hn] at c0
    have HM := Lib.hid hm
    clear hx hb h4 hn hS hm
    go_wp2_with fail
    refine hd.mono ?_
    rintro e w2 ⟨rfl, ho, hg⟩
    have nxg := HNX.out
    have ht2 := HT.out.grown hg (fun e => by injection e with e; exact nxg e)
    have c2 := ht2.cell 0
    have f2 := ht2.frozen 0
    obtain ⟨W3, hW3⟩ : ∃ W3, W3 = w2.setCell ⟨xb, 0, none⟩ (.slice (some ⟨gb, 0, none⟩) m c') := ⟨_, rfl⟩
    have HF : Hid (Cloned (cpP P) w (.returned (.pointer (some ⟨xb, 0, none⟩))) W3) := by
      have t3 : Lrow W3 xb 106 [.slice (some ⟨gb, 0, none⟩) S.length c'] := by rw [hW3, ← HM.out]; exact ht2.set_ 0 _
      have o3 : EAr.Own w.heap.size W3 (.slice (some ⟨gb, 0, none⟩) S.length c') S := by
        rw [HM.out] at ho
        refine ho.heap fun g e => ?_
        obtain rfl : gb = g := by injection e
        rw [hW3]
        exact Below.heap_setCell w2 _ _ gb (fun e => nxg e.symm)
      have b2 : Below w.heap.size w w2 := HB.out.grown hg HB.out.size (fun k e => by injection e with e; subst e; exact HGB.out)
      have b3 : Below w.heap.size w W3 := by rw [hW3]; exact b2.setCell (show w.heap.size ≤ xb from HXB.out) _
      exact ⟨xb, _, _, S, rfl, ⟨t3, o3, HQ.out, HXB.out, b3.size⟩, b3⟩
    have HW3 := Lib.hid hW3
    clear hd c0 ho hg ht2 hW3 nxg
    go_wp2_with fail
    rw [← HW3.out]
    go_ret
    exact HF.out
end
end Go.Proofs.YtnppnoabhpkmkaaGreat
