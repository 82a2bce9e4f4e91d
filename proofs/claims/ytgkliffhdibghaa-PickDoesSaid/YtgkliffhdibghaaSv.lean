/- The queue as it lies in memory while it is being turned: its items and its map apart. -/
import Derived.Test.YtgkliffhdibghaaSu
namespace Go.Proofs.Ytgkliffhdibghaa
open Go.RowKit

/-- The queue in block q: the items L, n entries of the map. -/
structure Lay (B : Nat) (w : World) (q m : Nat) (iv : Value) (L : List It) (n : Nat) (M : Int → Option Int) : Prop where
  top : Lrow w q 58 [iv, .map (some m), .func (.func 21) #[] #[]]
  own : w.ownsRow B 55 2 iv L.length (pcells L)
  map : MapIs w m n M
  lq : B ≤ q
  lm : B ≤ m
theorem pcells_swp {L : List It} {i j : Nat} (hi : i < L.length) (hj : j < L.length) (rest : List Value) :
    (((((pcells L ++ rest).set (i * 2) (.int .i64 (at' L j).1)).set (i * 2 + 1) (.int .i64 (at' L j).2)).set (j * 2) (.int .i64 (at' L i).1)).set (j * 2 + 1) (.int .i64 (at' L i).2)) = pcells (swp L i j) ++ rest := by
  have hl := pcells_length L
  rw [List.set_append_left _ _ (by omega), List.set_append_left _ _ (by rw [List.length_set]; omega), List.set_append_left _ _ (by simp only [List.length_set]; omega), List.set_append_left _ _ (by simp only [List.length_set]; omega)]
  unfold swp
  rw [pcells_set, pcells_set]
section
variable {w w' : World} {B q m n : Nat} {iv : Value} {L L' : List It} {M M' : Int → Option Int}
theorem Que.lay (h : Que B w q m iv L M) : Lay B w q m iv L L.length M := ⟨h.top, h.own, h.map, h.lq, h.lm⟩
theorem Lay.que (h : Lay B w q m iv L n M) (hn : n = L.length) (hi : Idx L M) (hf : AllFit L) (hl : L.length ≤ 5000) : Que B w q m iv L M := ⟨h.top, h.own, hn ▸ h.map, hi, hf, hl, h.lq, h.lm⟩
theorem Lay.keep (h : Lay B w q m iv L n M) (hk : ∀ k, Mine q m iv k → w'.heap[k]? = w.heap[k]?) : Lay B w' q m iv L n M :=
  ⟨(hk q (Or.inl rfl)).trans h.top, own_heap h.own (fun g e => hk g (Or.inr (Or.inr e))), h.map.heap (hk m (Or.inr (Or.inl rfl))), h.lq, h.lm⟩
theorem Lay.lt (h : Lay B w q m iv L n M) : ∀ k, Mine q m iv k → k < w.heap.size := by
  rintro k (rfl | rfl | e)
  · exact h.top.lt
  · exact h.map.lt
  · obtain ⟨vs, r, _⟩ := own_block h.own e; exact r.lt
theorem Lay.call (h : Lay B w q m iv L n M) (hb : Below w.heap.size w w') : Lay B w' q m iv L n M := h.keep fun k hk => hb.block k (h.lt k hk)
theorem Lay.drewN (h : Lay B w q m iv L n M) (k : Nat) : Lay B (w.drewN k) q m iv L n M := h.keep fun _ _ => rfl
theorem Lay.drew (h : Lay B w q m iv L n M) : Lay B w.drew q m iv L n M := h.drewN 1
theorem Lay.alloc (h : Lay B w q m iv L n M) (o : Obj) : Lay B (w.alloc o) q m iv L n M := h.call ((Below.refl _ _).alloc (Nat.le_refl _) o)
theorem Lay.c0 (h : Lay B w q m iv L n M) : w.cell? ⟨q, 0, none⟩ = some iv := by rw [h.top.cell]; rfl
theorem Lay.c1 (h : Lay B w q m iv L n M) : w.cell? ⟨q, 1, none⟩ = some (.map (some m)) := by rw [h.top.cell]; rfl
theorem Lay.c2 (h : Lay B w q m iv L n M) : w.cell? ⟨q, 2, none⟩ = some (.func (.func 21) #[] #[]) := by rw [h.top.cell]; rfl
theorem Lay.items {A : Option Addr} {c : Nat} (h : Lay B w q m (.slice A L.length c) L n M) (h0 : 0 < L.length) : ∃ g, A = some ⟨g, 0, none⟩ ∧ L.length ≤ c ∧ c ≤ maxLen ∧ g < w.heap.size ∧ B ≤ g ∧ (∀ i, w.frozen? ⟨g, i, none⟩ = false) ∧ ∀ k, k < L.length → w.cell? ⟨g, k * 2, none⟩ = some (.int .i64 (at' L k).1) ∧ w.cell? ⟨g, k * 2 + 1, none⟩ = some (.int .i64 (at' L k).2) := by
  rcases h.own.2 with ⟨e, e2⟩ | ⟨g, cap, cur, e, hB, hg, hn, hc, hs, ht⟩
  · omega
  · injection e with e _ ec
    subst ec
    obtain ⟨rest, r, _⟩ := own_row h.own e
    refine ⟨g, e, hn, hc, r.lt, hB, r.frozen, fun k hk => ?_⟩
    obtain ⟨p1, p2⟩ := pcells_at L k hk
    have hl := pcells_length L
    rw [r.cell, r.cell, List.getElem?_append_left (by omega), List.getElem?_append_left (by omega)]
    exact ⟨p1, p2⟩
theorem Lay.at_ {g c k : Nat} (h : Lay B w q m (.slice (some ⟨g, 0, none⟩) k c) L n M) (hk : k = L.length) {j : Nat} (hj : j < L.length) : w.cell? ⟨g, j * 2, none⟩ = some (.int .i64 (at' L j).1) ∧ w.cell? ⟨g, j * 2 + 1, none⟩ = some (.int .i64 (at' L j).2) := by
  subst hk
  obtain ⟨g', hA, _, _, _, _, _, hit⟩ := h.items (by omega)
  injection hA with hA
  injection hA with hA
  subst hA
  exact hit j hj
/-- The row of the items has been written, in its place. -/
theorem Lay.row {g c k : Nat} {rest : List Value} (h : Lay B w q m (.slice (some ⟨g, 0, none⟩) k c) L n M) (hk : k = L.length) (hr : Lrow w g 55 (pcells L ++ rest)) (hr' : Lrow w' g 55 (pcells L' ++ rest)) (hg : w.grownBy w' (some g)) (hl : L'.length = L.length) :
    Lay B w' q m (.slice (some ⟨g, 0, none⟩) k c) L' n M ∧ Foot (Mine q m (.slice (some ⟨g, 0, none⟩) k c)) w w' := by
  subst hk
  obtain ⟨r0, q0, hB, hn, hc, hs⟩ := own_row h.own rfl
  have hq : q ≠ g := h.top.apart hr (by decide)
  have hm : g ≠ m := h.map.apart hr
  obtain rfl : r0 = rest := List.append_cancel_left (q0.inj hr)
  refine ⟨⟨h.top.grown hg (by simpa using hq), ?_, h.map.heap (hg.block m h.map.lt (by simpa using hm.symm)), h.lq, h.lm⟩, Foot.grown hg (Or.inr (Or.inr rfl))⟩
  rw [pcells_length] at hs
  have h3 := own_of_row (n := L'.length) (c := c) hr' hB (by omega) hc (pcells_length L') (by rw [pcells_length]; omega)
  have e : Value.slice (some (⟨g, 0, none⟩ : Addr)) L.length c = Value.slice (some ⟨g, 0, none⟩) L'.length c := by rw [hl]
  rw [e]
  exact h3
/-- The map has been written. -/
theorem Lay.mapped {n' : Nat} (h : Lay B w q m iv L n M) (hg : w.grownBy w' (some m)) (hm : MapIs w' m n' M') : Lay B w' q m iv L n' M' ∧ Foot (Mine q m iv) w w' := by
  refine ⟨⟨h.top.grown hg (by simpa using h.map.apart h.top), own_heap h.own (fun g e => ?_), hm, h.lq, h.lm⟩, Foot.grown hg (Or.inr (Or.inl rfl))⟩
  obtain ⟨vs, r, _⟩ := own_block h.own e
  exact hg.block g r.lt (by simpa using h.map.apart r)
theorem Lay.foot (h : Lay B w q m iv L n M) (e : w' = w) : Lay B w' q m iv L n M := e ▸ h
end
end Go.Proofs.Ytgkliffhdibghaa
