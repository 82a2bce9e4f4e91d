/- The contracts of package heap's calls, over the queue: Push, Fix, Remove, Pop. -/
import Derived.Test.YtgkliffhdibghaaSz
namespace Go.Proofs.Ytgkliffhdibghaa
open Go.RowKit

/-- The queue with its items in some order that a heap may have. -/
def Qs (B : Nat) (w : World) (q m : Nat) (iv : Value) (N : List It) : Prop := ∃ L M, Que B w q m iv L M ∧ Heap L L.length ∧ L.Perm N
/-- What a call of the queue leaves: its own blocks may have turned, and its items may lie in a new one. -/
structure Grew (w w' : World) (q m : Nat) (iv iv' : Value) : Prop where
  foot : Foot (Mine q m iv) w w'
  at_ : iv'.ownBlock = iv.ownBlock ∨ ∃ g, iv'.ownBlock = some g ∧ w.heap.size ≤ g
section
variable {w w' w'' : World} {B q m n i : Nat} {iv iv' iv'' : Value} {L L' N : List It} {M M' : Int → Option Int}
theorem Grew.mine (h : Grew w w' q m iv iv') : ∀ b, Mine q m iv' b → b < w.heap.size → Mine q m iv b := by
  rintro b (rfl | rfl | e) hb
  · exact Or.inl rfl
  · exact Or.inr (Or.inl rfl)
  · rcases h.at_ with e2 | ⟨g, e2, hg⟩
    · exact Or.inr (Or.inr (e2 ▸ e))
    · rw [e2] at e; injection e with e; omega
theorem Grew.of_foot (h : Foot (Mine q m iv) w w') : Grew w w' q m iv iv := ⟨h, Or.inl rfl⟩
theorem Grew.trans (h : Grew w w' q m iv iv') (k : Grew w' w'' q m iv' iv'') : Grew w w'' q m iv iv'' := by
  refine ⟨h.foot.trans k.foot h.mine, ?_⟩
  rcases k.at_ with e | ⟨g, e, hg⟩
  · rw [e]; exact h.at_
  · exact Or.inr ⟨g, e, Nat.le_trans h.foot.size hg⟩
theorem Grew.of_below (h : Below w.heap.size w w') : Grew w w' q m iv iv := ⟨Foot.of_below h, Or.inl rfl⟩
theorem Que.qs (h : Que B w q m iv L M) (hh : Heap L L.length) : Qs B w q m iv L := ⟨L, M, h, hh, List.Perm.refl _⟩
theorem Qs.perm (h : Qs B w q m iv L) (p : L.Perm N) : Qs B w q m iv N := by
  obtain ⟨L', M, h1, h2, h3⟩ := h
  exact ⟨L', M, h1, h2, h3.trans p⟩
theorem snoc_at (L : List It) {n : Nat} (hn : L.length = n + 1) : L.take n ++ [at' L n] = L := by
  have h : n < L.length := by omega
  have e : at' L n = L[n] := at_of_get (List.getElem?_eq_getElem h)
  rw [e, ← List.take_succ_eq_append_getElem h]
  exact List.take_of_length_le (by omega)
end
set_option maxHeartbeats 1000000 in
theorem hpush_any {B : Nat} {w : World} {q m : Nat} {iv : Value} {L : List It} {M : Int → Option Int} (h : Que B w q m iv L M) (hh : Heap L L.length) {f v : Int} (hf : 0 ≤ f ∧ f ≤ 1023) (hv : Fits v) (hM : M f = none) (hl : L.length < 5000) :
    Calls Try.prog 30 #[.iface 50 (.pointer (some ⟨q, 0, none⟩)), .iface 55 (.agg #[.int .i64 f, .int .i64 v])] w fun e w' => e = .returned (.tuple #[]) ∧ ∃ iv', Qs B w' q m iv' (L ++ [(f, v)]) ∧ Grew w w' q m iv iv' := by
  have hmp := meth_push w ⟨q, 0, none⟩
  have hml := fun w1 => meth_len w1 ⟨q, 0, none⟩
  have HU := Lib.hid (hh.push (f, v))
  have HP := Lib.hid (push_any h hf hv hM hl)
  have HL : Hid ((L ++ [(f, v)]).length = L.length + 1) := by show _ = _; simp
  have n5 : (L.length : Int) ≤ 5000 := by omega
  clear h hh hf hv hM hl
  go_enter Try.func30, Try.ntmps30
  go_wp2_with fail
  refine Calls.mono HP.out ?_
  rintro e w1 ⟨rfl, iv', M1, hq1, hf1, hb1⟩
  obtain ⟨A1, c1, hv1⟩ := own_form hq1.own
  subst hv1
  have hc := hq1.c0
  rw [HL.out] at hc
  have HQ := Lib.hid hq1
  have HG : Hid (Grew w w1 q m iv (.slice A1 (L ++ [(f, v)]).length c1)) := ⟨hf1, hb1⟩
  clear hq1 hf1 hb1
  generalize L.length = n at *
  go_wp2_with fail
  refine (len_some hc).mono ?_
  rintro e w2 ⟨rfl, rfl⟩
  clear hc
  go_wp2_with fail
  have hu := HU.out
  refine (up_any HQ.out (n := (L ++ [(f, v)]).length) (Nat.le_refl _) (j := n) (by have := HL.out; omega) hu).mono ?_
  rintro e w3 ⟨rfl, L', M', g1, g2, g3, g4, g5⟩
  go_wp2
  go_end0
  exact ⟨rfl, _, ⟨L', M', g1, by rw [g2.length_eq]; exact g3, g2⟩, HG.out.trans (Grew.of_foot g5)⟩
set_option maxHeartbeats 1000000 in
theorem fix_any {B : Nat} {w : World} {q m : Nat} {iv : Value} {L : List It} {M : Int → Option Int} (h : Que B w q m iv L M) {i : Nat} (hi : i < L.length) (hd : DownI L L.length i i) :
    Calls Try.prog 31 #[.iface 50 (.pointer (some ⟨q, 0, none⟩)), .int .i64 i] w fun e w' => e = .returned (.tuple #[]) ∧ Qs B w' q m iv L ∧ Grew w w' q m iv iv := by
  have hml := fun w1 => meth_len w1 ⟨q, 0, none⟩
  obtain ⟨A, c, hv⟩ := own_form h.own
  subst hv
  have hc := h.c0
  obtain ⟨n, hn⟩ : ∃ n, n = L.length := ⟨_, rfl⟩
  rw [← hn] at hc hd
  have HN := Lib.hid hn
  have HD := Lib.hid hd
  have HI := Lib.hid hi
  have HQ := Lib.hid h
  clear h hn hd hi
  go_enter Try.func31, Try.ntmps31
  go_wp2_with fail
  refine (len_some hc).mono ?_
  rintro e w2 ⟨rfl, rfl⟩
  clear hc
  go_wp2_with fail
  refine (down_any HQ.out (n := n) (by rw [HN.out]; exact Nat.le_refl _) (by rw [HN.out]; exact Nat.le_of_lt HI.out) HD.out).mono ?_
  rintro e w3 ⟨L', M', g1, g2, g3, g4, (⟨rfl, g5⟩ | ⟨rfl, g5⟩)⟩
  · go_wp2
    go_end0
    exact ⟨rfl, ⟨L', M', g1, by rw [g2.length_eq, ← HN.out]; exact g5, g2⟩, Grew.of_foot g4⟩
  · go_wp2_with fail
    refine (up_any g1 (n := n) (by rw [g2.length_eq, HN.out]; exact Nat.le_refl _) (j := i) (by rw [HN.out]; exact HI.out) g5).mono ?_
    rintro e w4 ⟨rfl, L2, M2, k1, k2, k3, k4, k5⟩
    go_wp2
    go_end0
    exact ⟨rfl, ⟨L2, M2, k1, by rw [k2.length_eq, g2.length_eq, ← HN.out]; exact k3, k2.trans g2⟩, (Grew.of_foot g4).trans (Grew.of_foot k5)⟩
end Go.Proofs.Ytgkliffhdibghaa
