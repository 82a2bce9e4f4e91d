/- The program's looks: isPage, isFrame, find, has, owned, Frame, Owner, Len; the calls of nil objects. -/
import Derived.Test.YtnpacdbkmpchnaaM2
import Derived.BigRegion
import Derived.BigQuiet
import Derived.Deep.QuietTactic
namespace Go.Proofs.Ytnpacdbkmpchnaa
open Go.RowKit
theorem isFrame_o (f : Int) (w : World) : Calls Try.prog 30 #[.int .i64 f] w fun e w' => e = .returned (.bool (decide (0 ≤ f ∧ f ≤ 1023))) ∧ w = w' := by
  by_cases h : 0 ≤ f
  · go_enter Try.func30, Try.ntmps30
    go_wp2
    go_ret
    exact ⟨ret_bool (by rw [decide_eq_decide]; omega), rfl⟩
  · go_enter Try.func30, Try.ntmps30
    go_wp2
    go_ret
    exact ⟨ret_bool (by simp; omega), rfl⟩
theorem isPage_o (f : Int) (w : World) : Calls Try.prog 29 #[.int .i64 f] w fun e w' => e = .returned (.bool (decide (0 ≤ f ∧ f ≤ 4095))) ∧ w = w' := by
  by_cases h : 0 ≤ f
  · go_enter Try.func29, Try.ntmps29
    go_wp2
    go_ret
    exact ⟨ret_bool (by rw [decide_eq_decide]; omega), rfl⟩
  · go_enter Try.func29, Try.ntmps29
    go_wp2
    go_ret
    exact ⟨ret_bool (by simp; omega), rfl⟩
section
variable {w w' : World} {B : Nat} {T : ObT} {H H' : List Int} {L L' : List Og}
theorem sayW_getD (L : List Og) (f : Int) : (sayW L f).getD (.agg #[.int .i64 0, .int .i64 0]) = .agg #[.int .i64 (owI L f), .int .i64 (owP L f)] ∧ (sayW L f).isSome = decide (owE L f = 0) := by
  unfold sayW
  by_cases c : fi (byF f) L < L.length
  · have : owE L f = 0 := if_pos c
    rw [if_pos this, decide_eq_true this]; exact ⟨rfl, rfl⟩
  · have : ¬ owE L f = 0 := by unfold owE; rw [if_neg c]; decide
    rw [if_neg this, decide_eq_false this]
    refine ⟨?_, rfl⟩
    unfold owI owP
    rw [dif_neg c, dif_neg c]; rfl
theorem sayF_getD (L : List Og) (i p : Int) : (sayF L i p).getD (.int .i64 0) = .int .i64 (frV L i p) ∧ (sayF L i p).isSome = decide (frE L i p = 0) := by
  unfold sayF
  by_cases c : fi (byP i p) L < L.length
  · have : frE L i p = 0 := if_pos c
    rw [if_pos this, decide_eq_true this]; exact ⟨rfl, rfl⟩
  · have : ¬ frE L i p = 0 := by unfold frE; rw [if_neg c]; decide
    rw [if_neg this, decide_eq_false this]
    refine ⟨?_, rfl⟩
    unfold frV
    rw [dif_neg c]; rfl
theorem owE_two (L : List Og) (f : Int) : owE L f = 0 ∨ (owE L f = 6 ∧ owI L f = 0 ∧ owP L f = 0) := by
  unfold owE owI owP
  by_cases c : fi (byF f) L < L.length
  · rw [if_pos c]; exact Or.inl rfl
  · rw [if_neg c, dif_neg c, dif_neg c]; exact Or.inr ⟨rfl, rfl, rfl⟩
theorem frE_two (L : List Og) (i p : Int) : frE L i p = 0 ∨ (frE L i p = 6 ∧ frV L i p = 0) := by
  unfold frE frV
  by_cases c : fi (byP i p) L < L.length
  · rw [if_pos c]; exact Or.inl rfl
  · rw [if_neg c, dif_neg c]; exact Or.inr ⟨rfl, rfl⟩
theorem ObAt.seeW (h : ObAt B w T H L) {f : Int} (hf : Fits f) : (Instr.lookup 62 (.map (some T.bw)) (.int .i64 f) true).run Try.prog w = .ok (.tuple #[.agg #[.int .i64 (owI L f), .int .i64 (owP L f)], .bool (decide (owE L f = 0))]) w := by
  have := h.lookW hf true
  rw [(sayW_getD L f).1, (sayW_getD L f).2] at this
  exact this
theorem ObAt.seeW1 (h : ObAt B w T H L) {f : Int} (hf : Fits f) : (Instr.lookup 62 (.map (some T.bw)) (.int .i64 f) false).run Try.prog w = .ok (.agg #[.int .i64 (owI L f), .int .i64 (owP L f)]) w := by
  have := h.lookW hf false
  rw [(sayW_getD L f).1] at this
  exact this
theorem ObAt.seeF (h : ObAt B w T H L) {i : Int} {q : Nat × Nat} (e : T.A i = some q) {p : Int} (hp : Fits p) : (Instr.lookup 65 (.map (some q.2)) (.int .i64 p) true).run Try.prog w = .ok (.tuple #[.int .i64 (frV L i p), .bool (decide (frE L i p = 0))]) w := by
  have := h.lookF e hp true
  rw [(sayF_getD L i p).1, (sayF_getD L i p).2] at this
  exact this
theorem ObAt.seeF1 (h : ObAt B w T H L) {i : Int} {q : Nat × Nat} (e : T.A i = some q) {p : Int} (hp : Fits p) : (Instr.lookup 65 (.map (some q.2)) (.int .i64 p) false).run Try.prog w = .ok (.int .i64 (frV L i p)) w := by
  have := h.lookF e hp false
  rw [(sayF_getD L i p).1] at this
  exact this
theorem find_yes (h : ObAt B w T H L) {i : Int} (hi : Fits i) {q : Nat × Nat} (e : T.A i = some q) : Calls Try.prog 25 #[.pointer (some ⟨T.s, 0, none⟩), .int .i64 i] w fun e w' => e = .returned (.tuple #[.pointer (some ⟨q.1, 0, none⟩), .int .i64 0]) ∧ w = w' := by
  have c1 := h.c1
  have hl := h.look hi e
  clear h
  go_enter Try.func25, Try.ntmps25
  go_wp2
  go_ret2
  exact ⟨rfl, rfl⟩
theorem find_no (h : ObAt B w T H L) {i : Int} (hi : Fits i) (e : T.A i = none) : Calls Try.prog 25 #[.pointer (some ⟨T.s, 0, none⟩), .int .i64 i] w fun e w' => e = .returned (.tuple #[.pointer none, .int .i64 6]) ∧ w = w' := by
  have c1 := h.c1
  have hl := h.lookN hi e
  clear h
  go_enter Try.func25, Try.ntmps25
  go_wp2
  go_ret2
  exact ⟨rfl, rfl⟩
theorem find_nil (i : Int) (w : World) : Calls Try.prog 25 #[.pointer none, .int .i64 i] w fun e w' => e = .returned (.tuple #[.pointer none, .int .i64 1]) ∧ w = w' := by
  go_enter Try.func25, Try.ntmps25
  go_wp2
  go_ret2
  exact ⟨rfl, rfl⟩
theorem has_o (h : ObAt B w T H L) {i : Int} {q : Nat × Nat} (e : T.A i = some q) {p : Int} (hp : Fits p) : Calls Try.prog 28 #[.pointer (some ⟨q.1, 0, none⟩), .int .i64 p] w fun e w' => e = .returned (.bool (decide (frE L i p = 0))) ∧ w = w' := by
  have c1 := (h.row i q e).cell 1
  have hl := h.seeF e hp
  clear h
  generalize decide (frE L i p = 0) = b at *
  go_enter Try.func28, Try.ntmps28
  go_wp2
  go_ret
  exact ⟨rfl, rfl⟩
theorem owned_o (h : ObAt B w T H L) {f : Int} (hf : Fits f) : Calls Try.prog 27 #[.pointer (some ⟨T.s, 0, none⟩), .int .i64 f] w fun e w' => e = .returned (.bool (decide (owE L f = 0))) ∧ Below w.heap.size w w' := by
  have c2 := h.c2
  have hl := h.seeW hf
  have HB : Hid (∀ (vs : Array Value) (t : TypeId), Below w.heap.size w (w.alloc (.cells vs t))) := fun vs t => below_new w _
  clear h
  generalize decide (owE L f = 0) = b at *
  go_enter Try.func27, Try.ntmps27
  go_wp2
  go_ret
  refine ⟨rfl, ?_⟩
  first
    | exact HB.out _ _
    | exact ((HB.out _ _).setCell (Nat.le_refl _) _)
    | exact (((HB.out _ _).setCell (Nat.le_refl _) _).setCell (Nat.le_refl _) _)
theorem frame_o (h : ObAt B w T H L) (hG : Good H L) {i p : Int} (hi : Fits i) (hp : Fits p) : Calls Try.prog 12 #[.pointer (some ⟨T.s, 0, none⟩), .int .i64 i, .int .i64 p] w fun e w' => e = .returned (.tuple #[.int .i64 (frV L i p), .int .i64 (frE L i p)]) ∧ Below w.heap.size w w' := by
  cases e : T.A i with
  | none =>
    have hf := find_no h hi e
    have hb : isB H i = false := by rw [← h.isA i, e]; rfl
    have hn := sayF_out (p := p) hG hb
    obtain ⟨e1, e2⟩ : frE L i p = 6 ∧ frV L i p = 0 := by
      rcases frE_two L i p with c | c
      · unfold sayF at hn; rw [if_pos c] at hn; cases hn
      · exact c
    rw [e1, e2]
    clear h hn e1 e2 e hb
    go_enter Try.func12, Try.ntmps12
    go_wp2_with (go_at_call 25; (with_reducible refine hf.mono ?_); rintro e w1 ⟨rfl, rfl⟩)
    go_ret2
    exact ⟨rfl, Below.refl _ _⟩
  | some q =>
    have hf := find_yes h hi e
    have hh := has_o h e hp
    have hl := h.seeF1 e hp
    have c1 := (h.row i q e).cell 1
    clear h
    rcases frE_two L i p with c | ⟨c, d⟩
    · rw [decide_eq_true c] at hh
      rw [c]
      clear c e
      go_enter Try.func12, Try.ntmps12
      go_wp2_with (first | (go_at_call 25; (with_reducible refine hf.mono ?_); rintro e w1 ⟨rfl, rfl⟩) | (go_at_call 28; (with_reducible refine hh.mono ?_); rintro e w1 ⟨rfl, rfl⟩))
      go_ret2
      exact ⟨rfl, Below.refl _ _⟩
    · rw [decide_eq_false (by rw [c]; decide)] at hh
      rw [c, d]
      clear c d e hl
      go_enter Try.func12, Try.ntmps12
      go_wp2_with (first | (go_at_call 25; (with_reducible refine hf.mono ?_); rintro e w1 ⟨rfl, rfl⟩) | (go_at_call 28; (with_reducible refine hh.mono ?_); rintro e w1 ⟨rfl, rfl⟩))
      go_ret2
      exact ⟨rfl, Below.refl _ _⟩
theorem owner_o (h : ObAt B w T H L) {f : Int} (hf : Fits f) : Calls Try.prog 11 #[.pointer (some ⟨T.s, 0, none⟩), .int .i64 f] w fun e w' => e = .returned (.tuple #[.int .i64 (owI L f), .int .i64 (owP L f), .int .i64 (owE L f)]) ∧ Below w.heap.size w w' := by
  have hc := owned_o h hf
  have hk : Hid (∀ w1, Below w.heap.size w w1 → w1.cell? ⟨T.s, 2, none⟩ = some (.map (some T.bw)) ∧ (Instr.lookup 62 (.map (some T.bw)) (.int .i64 f) false).run Try.prog w1 = .ok (.agg #[.int .i64 (owI L f), .int .i64 (owP L f)]) w1) := fun w1 hb => ⟨(h.call hb).c2, (h.call hb).seeW1 hf⟩
  clear h
  rcases owE_two L f with c | ⟨c, d, d2⟩
  · rw [decide_eq_true c] at hc
    rw [c]
    generalize owI L f = x at *
    generalize owP L f = y at *
    clear c
    go_enter Try.func11, Try.ntmps11
    go_wp2_with (go_at_call 27; (with_reducible refine hc.mono ?_); rintro e w1 ⟨rfl, hb1⟩; have hk1 := (hk.out w1 hb1).1; have hk2 := (hk.out w1 hb1).2; have HB := Lib.hid hb1; clear hb1)
    go_quiet (fail)
    go_wp2
    go_ret3
    exact ⟨rfl, below_dN (HB.out.alloc HB.out.size _) _⟩
  · rw [decide_eq_false (by rw [c]; decide)] at hc
    rw [c, d, d2]
    clear c d d2
    go_enter Try.func11, Try.ntmps11
    go_wp2_with (go_at_call 27; (with_reducible refine hc.mono ?_); rintro e w1 ⟨rfl, hb1⟩)
    go_ret3
    exact ⟨rfl, hb1⟩
/-- Who is there, as numbers. -/
def whoK (H : List Int) (n : Nat) : List Nat := (List.range n).filter fun k => decide (0 < H.getD k 0)
theorem whoK_len (H : List Int) : ∀ n, n ≤ H.length → ((whoK H n).length : Int) = lenI (H.take n)
  | 0, _ => rfl
  | n + 1, h => by
    have ih := whoK_len H n (by omega)
    have e : H.getD n 0 = H[n] := by rw [List.getD_eq_getElem?_getD, List.getElem?_eq_getElem (by omega)]; rfl
    have e2 : whoK H (n + 1) = whoK H n ++ [n].filter fun k => decide (0 < H.getD k 0) := by unfold whoK; rw [List.range_succ, List.filter_append]
    rw [e2, List.length_append, List.take_succ_eq_append_getElem (by omega), lenI_append]
    have e3 : lenI [H[n]] = if 0 < H[n] then 1 else 0 := by show (if 0 < H[n] then (1 : Int) else 0) + 0 = _; omega
    rw [e3]
    by_cases c : 0 < H[n]
    · rw [List.filter_cons_of_pos (by rw [e]; exact decide_eq_true c), if_pos c, List.filter_nil]; simp only [List.length_cons, List.length_nil]; omega
    · rw [List.filter_cons_of_neg (by rw [e, decide_eq_true_eq]; exact c), if_neg c, List.filter_nil]; simp only [List.length_nil]; omega
theorem len_o (h : ObAt B w T H L) (hl : H.length ≤ 100000) : Calls Try.prog 18 #[.pointer (some ⟨T.s, 0, none⟩)] w fun e w' => e = .returned (.int .i64 (lenI H)) ∧ Below w.heap.size w w' := by
  have c1 := h.c1
  have hk := h.obj.len (ks := (whoK H H.length).map fun k => ((k : Nat) : Int)) (by
    unfold List.Nodup
    rw [List.pairwise_map]
    exact ((range_up H.length).sublist List.filter_sublist).imp fun h => by omega) fun f => by
    rw [List.mem_map]
    constructor
    · rintro ⟨k, hk, rfl⟩
      unfold whoK at hk
      rw [List.mem_filter, List.mem_range, decide_eq_true_eq] at hk
      refine ⟨by unfold FitM; omega, fun e => ?_⟩
      have := h.isA (k : Int)
      rw [isB_of hk.1 hk.2] at this
      unfold sayO at e
      cases c : T.A (k : Int) with
      | none => rw [c] at this; cases this
      | some q => rw [c] at e; cases e
    · rintro ⟨hf, hne⟩
      have : isB H f = true := by
        rw [← h.isA f]
        unfold sayO at hne
        cases c : T.A f with
        | none => rw [c] at hne; exact absurd rfl hne
        | some q => rfl
      obtain ⟨k, rfl, k1, k2⟩ := isB_get this
      refine ⟨k, ?_, rfl⟩
      unfold whoK
      rw [List.mem_filter, List.mem_range, decide_eq_true_eq]
      exact ⟨k1, k2⟩
  rw [List.length_map, whoK_len H H.length (Nat.le_refl _), List.take_length] at hk
  have hk1 : ∀ ty, (Builtin.len_ #[61] ty #[.map (some T.bo)]).run Try.prog w = .ok (.int .i64 (lenI H)) w := hk
  clear h hk
  go_enter Try.func18, Try.ntmps18
  go_wp2
  go_ret
  exact ⟨rfl, Below.refl _ _⟩
end
end Go.Proofs.Ytnpacdbkmpchnaa
