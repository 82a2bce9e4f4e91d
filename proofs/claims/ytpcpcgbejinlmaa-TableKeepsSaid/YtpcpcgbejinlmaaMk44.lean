/- The reference's list by the document: a copy of it, one entry turned. -/
import Derived.Test.YtpcpcgbejinlmaaMk43
namespace Go.Proofs.Ytpcpcgbejinlmaa
open Go.RowKit
theorem mcells_set : ∀ (L : List Mp) (j q : Nat) (u : Value) (m : Mp) (hj : j < L.length), q < 9 → mcell m = (mcell L[j]).set q u → mcells (L.set j m) = (mcells L).set (j * 9 + q) u
  | y :: r, 0, q, u, m, _, hq, hx => by
    have hx : mcell m = (mcell y).set q u := hx
    rw [List.set_cons_zero]
    show mcell m ++ mcells r = (mcell y ++ mcells r).set _ u
    rw [hx, Nat.zero_mul, Nat.zero_add, List.set_append_left _ _ (by show q < 9; exact hq)]
  | y :: r, j + 1, q, u, m, hj, hq, hx => by
    have hj' : j < r.length := by simpa using hj
    have ih := mcells_set r j q u m hj' hq hx
    rw [List.set_cons_succ]
    show mcell y ++ mcells (r.set j m) = (mcell y ++ mcells r).set _ u
    have e : (mcell y).length = 9 := rfl
    rw [ih, List.set_append_right _ _ (by rw [e]; omega), e]
    congr 2
    omega
section
variable {w w' : World} {C : Nat} {L : List Mp}
theorem Ms.blk {A : Option Addr} {n c : Nat} (h : Ms w C (.slice A n c) L) (h0 : 0 < L.length) : n = L.length ∧ ∃ g, A = some ⟨g, 0, none⟩ ∧ C ≤ g ∧ g < w.heap.size := by
  have hn : n = L.length := by obtain ⟨_, _, e⟩ := h.form; injection e
  subst hn
  refine ⟨rfl, ?_⟩
  obtain ⟨g, rfl⟩ : ∃ g, A = some ⟨g, 0, none⟩ := by
    rcases h.2 with ⟨_, h2⟩ | ⟨g, cap, cur, h1, _⟩
    · omega
    · injection h1 with h1; exact ⟨g, h1⟩
  exact ⟨g, rfl, h.lt g rfl⟩
theorem Ms.get8 {g n c : Nat} (h : Ms w C (.slice (some ⟨g, 0, none⟩) n c) L) {j : Nat} (hj : j < L.length) {i : Nat} (hi : i < 9) : w.cell? ⟨g, j * 9 + i, none⟩ = (mcell L[j])[i]? := by
  have hn : n = L.length := by obtain ⟨_, _, e⟩ := h.form; injection e
  subst hn
  rw [← mcells_at L j hj i hi, ← h.cellAt (j * 9 + i) (by omega)]
theorem Ms.put8 {g n c : Nat} (h : Ms w C (.slice (some ⟨g, 0, none⟩) n c) L) {j q : Nat} (hj : j < L.length) (hq : q < 9) {u : Value} {m : Mp} (hx : mcell m = (mcell L[j]).set q u) :
    (∀ i, w.frozen? ⟨g, i, none⟩ = false) ∧ Ms (w.setCell ⟨g, j * 9 + q, none⟩ u) C (.slice (some ⟨g, 0, none⟩) n c) (L.set j m) := by
  rcases h.2 with ⟨e, _⟩ | ⟨g', cap, cur, e, hB, hg, hnc, hc, hs, ht⟩
  · cases e
  · injection e with e1 e2 e3
    injection e1 with e1
    injection e1 with e1
    subst e1 e2 e3
    have hl : (L.set j m).length = L.length := List.length_set
    refine ⟨fun i => ?_, ?_⟩
    · simp [World.frozen?, hg]
    · unfold Ms
      rw [hl]
      refine ⟨by rw [mcells_length, hl], Or.inr ⟨g, c, cur.setIfInBounds (j * 9 + q) u, rfl, hB, ?_, hnc, hc, by rw [Array.size_setIfInBounds]; exact hs, ?_⟩⟩
      · simp [World.setCell, Array.getElem?_modify, hg]
      · rw [mcells_set L j q u m hj hq hx, Array.toList_setIfInBounds, List.take_set, ht]
set_option maxRecDepth 100000 in
theorem Ms.copy8 {a : Addr} {n c : Nat} (h : Ms w C (.slice (some a) n c) L) (hL : L.length ≤ 5000) : ∃ A' c' w3,
    (Builtin.append_ #[53, 53] 53 #[.slice (some ⟨w.heap.size, 0, none⟩) 0 0, .slice (some a) n c]).run Try.prog (w.alloc (.cells #[] 94)) = .ok (.slice A' n c') w3 ∧
    Ms w3 w.heap.size (.slice A' n c') L ∧ Below w.heap.size w w3 := by
  obtain ⟨i0, hi0, hz0, hz1, hz2⟩ := info_parts info_mapped
  have hn : n = L.length := by obtain ⟨_, _, e⟩ := h.form; injection e
  subst hn
  obtain ⟨W1, hW1⟩ : ∃ W1, W1 = w.alloc (.cells #[] 94) := ⟨_, rfl⟩
  have hb : Below w.heap.size w W1 := by rw [hW1]; exact (Below.refl _ _).alloc (Nat.le_refl _) _
  have hm : W1.ownsRow w.heap.size 94 9 (.slice (some ⟨w.heap.size, 0, none⟩) 0 0) 0 [] := by
    rw [hW1]
    exact World.ownsRow_made w #[] 0 (Nat.le_refl _) (Nat.zero_le _) (by rw [Nat.zero_mul]; rfl)
  have hsrc : ∀ (j : Nat) (u : Value), (mcells L)[j]? = some u → W1.cell? (a.add j) = some u := fun j u hu => by
    rcases (h.call hb).2 with ⟨e, _⟩ | ⟨g', cap, cur, e, hB, hg, hnc, hc, hs, ht⟩
    · cases e
    · injection e with e1 e2 e3
      injection e1 with e1
      subst e1
      have hl := (List.getElem?_eq_some_iff.1 hu).1
      rw [add_zero_off, cell_of_row W1 g' j cur _ (0, 0) hg, ← hu, ← ht, List.getElem?_take_of_lt (by rw [mcells_length] at hl; exact hl), Array.getElem?_toList]
  rw [← hW1]
  obtain ⟨v1, W2, r1, o1, g1, -, t1⟩ := run_append_own_at (P := Try.prog) (w := W1) w.heap.size 53 53 94 i0 _ 9 32 Try.underlying53 hi0 hz0 hz1 hz2 rfl (by decide) (.slice (some ⟨w.heap.size, 0, none⟩) 0 0) 0 [] hm a L.length c (mcells L) (mcells_length L) hsrc (mcells_one L) (by unfold maxLen; omega) (by omega) hb.size
  obtain ⟨A, c2, hv⟩ := own_form o1
  subst hv
  simp only [Nat.zero_add, List.nil_append] at r1 o1
  exact ⟨A, c2, W2, r1, o1, hb.grown g1 hb.size (fun k e => by injection e with e; change w.heap.size = k at e; omega)⟩
end
theorem foot7 (W : World) (q o0 o1 o2 o3 o4 o5 o6 : Nat) (y0 y1 y2 y3 y4 y5 y6 : Value) :
    Foot (fun b => b = q) W (((((((W.setCell ⟨q, o0, none⟩ y0).setCell ⟨q, o1, none⟩ y1).setCell ⟨q, o2, none⟩ y2).setCell ⟨q, o3, none⟩ y3).setCell ⟨q, o4, none⟩ y4).setCell ⟨q, o5, none⟩ y5).setCell ⟨q, o6, none⟩ y6) := by
  have s := fun (V : World) (o : Nat) (y : Value) => Foot.grown (X := fun b => b = q) (grown_set V q o y) rfl
  exact ((((((s _ o0 y0).trans (s _ o1 y1) (fun _ e _ => e)).trans (s _ o2 y2) (fun _ e _ => e)).trans (s _ o3 y3) (fun _ e _ => e)).trans (s _ o4 y4) (fun _ e _ => e)).trans (s _ o5 y5) (fun _ e _ => e)).trans (s _ o6 y6) (fun _ e _ => e)
def Mp.with (m : Mp) (f : Int) (p w h k u d : Bool) : Mp := ⟨m.g, m.o, f, p, w, h, k, u, d⟩
section
variable {w W : World} {C g x : Nat} {p : Nat → Value} {v : Value} {L : List Mp} {lf : Int}
theorem Ms.entry8 {b n c : Nat} (h : Ms W C (.slice (some ⟨b, 0, none⟩) n c) L) {j : Nat} (hj : j < L.length) (f : Int) (pr wr hh kk u d : Bool) :
    Ms (((((((W.setCell ⟨b, j * 9 + 2, none⟩ (.int .i64 f)).setCell ⟨b, j * 9 + 3, none⟩ (.bool pr)).setCell ⟨b, j * 9 + 4, none⟩ (.bool wr)).setCell ⟨b, j * 9 + 5, none⟩ (.bool hh)).setCell ⟨b, j * 9 + 6, none⟩ (.bool kk)).setCell ⟨b, j * 9 + 7, none⟩ (.bool u)).setCell ⟨b, j * 9 + 8, none⟩ (.bool d)) C (.slice (some ⟨b, 0, none⟩) n c) (L.set j (L[j].with f pr wr hh kk u d)) := by
  obtain ⟨m, hm⟩ : ∃ m, m = L[j] := ⟨_, rfl⟩
  rw [← hm]
  have s1 := (h.put8 hj (q := 2) (by omega) (u := .int .i64 f) (m := ⟨m.g, m.o, f, m.p, m.w, m.h, m.k, m.u, m.d⟩) (by rw [← hm]; rfl)).2
  have s2 := (s1.put8 (j := j) (by rw [List.length_set]; exact hj) (q := 3) (by omega) (u := .bool pr) (m := ⟨m.g, m.o, f, pr, m.w, m.h, m.k, m.u, m.d⟩) (by rw [List.getElem_set_self]; rfl)).2
  rw [List.set_set] at s2
  have s3 := (s2.put8 (j := j) (by rw [List.length_set]; exact hj) (q := 4) (by omega) (u := .bool wr) (m := ⟨m.g, m.o, f, pr, wr, m.h, m.k, m.u, m.d⟩) (by rw [List.getElem_set_self]; rfl)).2
  rw [List.set_set] at s3
  have s4 := (s3.put8 (j := j) (by rw [List.length_set]; exact hj) (q := 5) (by omega) (u := .bool hh) (m := ⟨m.g, m.o, f, pr, wr, hh, m.k, m.u, m.d⟩) (by rw [List.getElem_set_self]; rfl)).2
  rw [List.set_set] at s4
  have s5 := (s4.put8 (j := j) (by rw [List.length_set]; exact hj) (q := 6) (by omega) (u := .bool kk) (m := ⟨m.g, m.o, f, pr, wr, hh, kk, m.u, m.d⟩) (by rw [List.getElem_set_self]; rfl)).2
  rw [List.set_set] at s5
  have s6 := (s5.put8 (j := j) (by rw [List.length_set]; exact hj) (q := 7) (by omega) (u := .bool u) (m := ⟨m.g, m.o, f, pr, wr, hh, kk, u, m.d⟩) (by rw [List.getElem_set_self]; rfl)).2
  rw [List.set_set] at s6
  have s7 := (s6.put8 (j := j) (by rw [List.length_set]; exact hj) (q := 8) (by omega) (u := .bool d) (m := ⟨m.g, m.o, f, pr, wr, hh, kk, u, d⟩) (by rw [List.getElem_set_self]; rfl)).2
  rw [List.set_set] at s7
  exact s7
theorem fair_set {w5 w8 : World} {b c c' j : Nat} {A : Option Addr} {m' : Mp} (h : WRow w g p lf) (hr : RfT w C x (.slice A L.length c) L) (hC : C ≤ w.heap.size) (hb : Below w.heap.size w w5)
    (h8 : Ms w8 w.heap.size (.slice (some ⟨b, 0, none⟩) L.length c') (L.set j m')) (hm : MK m') (hx : Row w8 x 65 [.slice (some ⟨b, 0, none⟩) L.length c']) (hf : Foot (fun z => z = x ∨ z = b) w5 w8) (hbl : w.heap.size ≤ b) :
    Fair w C g x 8 p (.slice A L.length c) L w8 := by
  have hg : Row _ _ _ _ := h
  have hxg : g ≠ x := hg.apart hr.top (by decide)
  refine ⟨.slice (some ⟨b, 0, none⟩) L.length c', L.set j m', lf, ?_, ⟨hx, h8.base hC, fun m hme => ?_, by rw [List.length_set]; exact hr.len⟩, by rw [List.length_set]; omega, ⟨hf.os.trans hb.os, hf.tape.trans hb.tape, hf.output.trans hb.output, Nat.le_trans hb.size hf.size, fun z hz hn => ?_⟩, fun z e => ?_⟩
  · refine hf.row (hg.below hb hg.lt) ?_
    rintro (e | e)
    · exact hxg e
    · have := hg.lt; omega
  · rcases List.mem_or_eq_of_mem_set hme with e | e
    · exact hr.ok m e
    · rw [e]; exact hm
  · refine (hf.keep z (Nat.lt_of_lt_of_le hz hb.size) ?_).trans (hb.block z hz)
    rintro (e | e)
    · exact hn (Or.inr e)
    · omega
  · injection e with e
    subst e
    exact Or.inr hbl
end
end Go.Proofs.Ytpcpcgbejinlmaa
