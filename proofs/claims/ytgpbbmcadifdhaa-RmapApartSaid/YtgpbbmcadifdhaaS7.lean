/- The reference's Add. -/
import Derived.Test.YtgpbbmcadifdhaaS5
import Derived.Test.YtgpbbmcadifdhaaS6
namespace Go.Proofs.Ytgpbbmcadifdhaa
open Go.RowKit
theorem adL_len (L : List On) (f : Int) (s : It) : L.length ≤ (adL L f s).length := by
  unfold adL
  split
  · rename_i h
    have hn : (f, s) ∉ L := fun k => by
      unfold adE at h
      rw [if_pos k] at h
      split at h <;> cases h
    rw [ins_len hn]; omega
  · exact Nat.le_refl _
/-- How far the making of the new list has come. -/
structure Ins (L : List On) (x : On) (j : Nat) (d : Bool) (R : List On) : Prop where
  ne : ∀ y ∈ L.take j, y ≠ x
  no : d = false → (∀ y ∈ L.take j, oltB y x = true) ∧ R = L.take j
  yes : d = true → (∃ y ∈ L.take j, oltB x y = true) ∧ R = ins (L.take j) x
section
variable {L : List On} {x : On} {j : Nat} {R : List On}
theorem Ins.start (L : List On) (x : On) : Ins L x 0 false [] := ⟨fun y h => by simp at h, fun _ => ⟨fun y h => by simp at h, by simp⟩, fun h => by cases h⟩
theorem mem_next (hj : j < L.length) : L[j] ∈ L.take (j + 1) := by rw [List.take_succ_eq_append_getElem hj]; exact List.mem_append.2 (Or.inr (List.mem_singleton.2 rfl))
theorem ne_next (h : ∀ y ∈ L.take j, y ≠ x) (hj : j < L.length) (hx : L[j] ≠ x) : ∀ y ∈ L.take (j + 1), y ≠ x := fun y hy => by
  rw [List.take_succ_eq_append_getElem hj, List.mem_append, List.mem_singleton] at hy
  rcases hy with hy | rfl
  · exact h y hy
  · exact hx
/-- It is put here. -/
theorem Ins.put (h : Ins L x j false R) (hj : j < L.length) (hx : L[j] ≠ x) (hl : oltB x L[j] = true) : Ins L x (j + 1) true ((R ++ [x]) ++ [L[j]]) := by
  obtain ⟨h1, h2⟩ := h.no rfl
  refine ⟨ne_next h.ne hj hx, fun e => (by cases e), fun _ => ⟨⟨L[j], mem_next hj, hl⟩, ?_⟩⟩
  rw [h2, List.take_succ_eq_append_getElem hj]
  unfold ins
  have e1 : (L.take j).filter (fun y => oltB y x) = L.take j := List.filter_eq_self.2 (fun y hy => h1 y hy)
  have e2 : (L.take j).filter (fun y => oltB x y) = [] := List.filter_eq_nil_iff.2 (fun y hy => by rw [olt_not (h1 y hy)]; decide)
  rw [List.filter_append, List.filter_append, e1, e2, List.filter_cons_of_neg (by rw [olt_not hl]; decide), List.filter_cons_of_pos (by simpa using hl), List.filter_nil, List.filter_nil, List.append_nil, List.nil_append, List.append_assoc]
  rfl
theorem Ins.go (h : Ins L x j false R) (hj : j < L.length) (hx : L[j] ≠ x) (hl : oltB x L[j] = false) : Ins L x (j + 1) false (R ++ [L[j]]) := by
  obtain ⟨h1, h2⟩ := h.no rfl
  refine ⟨ne_next h.ne hj hx, fun _ => ⟨fun y hy => ?_, by rw [h2, List.take_succ_eq_append_getElem hj]⟩, fun e => (by cases e)⟩
  rw [List.take_succ_eq_append_getElem hj, List.mem_append, List.mem_singleton] at hy
  rcases hy with hy | rfl
  · exact h1 y hy
  · exact olt_or (Ne.symm hx) hl
theorem Ins.more (h : Ins L x j true R) (hu : Srt L) (hj : j < L.length) (hx : L[j] ≠ x) : Ins L x (j + 1) true (R ++ [L[j]]) := by
  obtain ⟨⟨y, hy, hxy⟩, h2⟩ := h.yes rfl
  have hl : oltB x L[j] = true := by
    obtain ⟨i, hi, he⟩ := List.mem_take_iff_getElem.1 hy
    refine olt_trans hxy ?_
    rw [← he]
    exact (List.pairwise_iff_getElem.1 hu) i j (by omega) hj (by omega)
  refine ⟨ne_next h.ne hj hx, fun e => (by cases e), fun _ => ⟨⟨L[j], mem_next hj, hl⟩, ?_⟩⟩
  rw [h2, List.take_succ_eq_append_getElem hj]
  unfold ins
  rw [List.filter_append, List.filter_append, List.filter_cons_of_neg (by rw [olt_not hl]; decide), List.filter_cons_of_pos (by simpa using hl), List.filter_nil, List.filter_nil, List.append_nil, List.append_assoc, List.cons_append]
theorem Ins.endNo (h : Ins L x L.length false R) : x ∉ L ∧ R ++ [x] = ins L x := by
  have hne := h.ne
  obtain ⟨h1, h2⟩ := h.no rfl
  rw [List.take_length] at hne h1 h2
  refine ⟨fun k => hne x k rfl, ?_⟩
  unfold ins
  have e1 : L.filter (fun y => oltB y x) = L := List.filter_eq_self.2 (fun y hy => h1 y hy)
  have e2 : L.filter (fun y => oltB x y) = [] := List.filter_eq_nil_iff.2 (fun y hy => by rw [olt_not (h1 y hy)]; decide)
  rw [h2, e1, e2]
theorem Ins.endYes (h : Ins L x L.length true R) : x ∉ L ∧ R = ins L x := by
  have hne := h.ne
  obtain ⟨_, h2⟩ := h.yes rfl
  rw [List.take_length] at hne h2
  exact ⟨fun k => hne x k rfl, h2⟩
theorem Ins.len (h : Ins L x j true R) (hj : j ≤ L.length) : R.length ≤ L.length + 1 := by
  obtain ⟨_, h2⟩ := h.yes rfl
  rw [h2, ins_len (fun k => h.ne x k rfl), List.length_take]; omega
theorem Ins.len' (h : Ins L x j false R) (hj : j ≤ L.length) : R.length ≤ L.length + 1 := by
  obtain ⟨_, h2⟩ := h.no rfl
  rw [h2, List.length_take]; omega
end
section
variable {w w' : World} {B xa : Nat} {v : Value} {L : List On}
theorem xadd_range (h : Rx B w xa v L) {f x y : Int} (hn : ¬ (okF f ∧ okS (x, y))) : Calls Try.prog 30 #[.pointer (some ⟨xa, 0, none⟩), .int .i64 f, .agg #[.int .i64 x, .int .i64 y]] w (DidX B w xa v (adL L f (x, y)) (adE L f (x, y))) := by
  have H : Hid (∀ w', Below w.heap.size w w' → DidX B w xa v (adL L f (x, y)) (adE L f (x, y)) (.returned (.int .i64 3)) w') := fun w' hb => by
    rw [(adE_range hn).1, (adE_range hn).2]
    exact ⟨rfl, v, h.call hb, Foot.of_below hb, Or.inl rfl⟩
  have hn' : f < 0 ∨ (0 ≤ f ∧ 1023 < f) ∨ (0 ≤ f ∧ f ≤ 1023 ∧ x < 0) ∨ (0 ≤ f ∧ f ≤ 1023 ∧ 0 ≤ x ∧ y < 0) ∨ (0 ≤ f ∧ f ≤ 1023 ∧ 0 ≤ x ∧ 0 ≤ y ∧ 4095 < y) := by
    unfold okF okS at hn; simp only at hn; omega
  clear h hn
  rcases hn' with h1 | ⟨h1, h2⟩ | ⟨h1, h2, h3⟩ | ⟨h1, h2, h3, h4⟩ | ⟨h1, h2, h3, h4, h5⟩
  all_goals
    go_enter Try.func30, Try.ntmps30
    go_wp2
    go_ret
    exact H.out _ (below_new _ _)
theorem on_ne {a b c a' b' c' : Int} (h : (⟨a, b, c⟩ : On) ≠ ⟨a', b', c'⟩) : ¬ a = a' ∨ (a = a' ∧ ¬ b = b') ∨ (a = a' ∧ b = b' ∧ ¬ c = c') := by
  by_cases h1 : a = a'
  · by_cases h2 : b = b'
    · by_cases h3 : c = c'
      · subst h1 h2 h3; exact absurd rfl h
      · exact Or.inr (Or.inr ⟨h1, h2, h3⟩)
    · exact Or.inr (Or.inl ⟨h1, h2⟩)
  · exact Or.inl h1
theorem app_on {W wr : World} {Ar : Option Addr} {m cr : Nat} {R : List On} (h : EOn.Own W.heap.size wr (.slice Ar m cr) R) (hb : Below W.heap.size W wr) (hl : R.length ≤ 90000) (f x y : Int) : ∃ A5 c5 W5,
    (Builtin.append_ #[63, 63] 63 #[.slice Ar m cr, .slice (some ⟨wr.heap.size, 0, none⟩) 1 1]).run Try.prog (wr.alloc (.cells #[.int .i64 f, .int .i64 x, .int .i64 y] 67)) = .ok (.slice A5 (m + 1) c5) W5 ∧
    EOn.Own W.heap.size W5 (.slice A5 (m + 1) c5) (R ++ [(f, x, y)]) ∧ Below W.heap.size W W5 := by
  obtain ⟨A5, c5, W5, r5, o5, g5, -⟩ := h.app1 hb.size (f, x, y) hl #[.int .i64 f, .int .i64 x, .int .i64 y] rfl
  have hm : R.length = m := by
    obtain ⟨_, _, e⟩ := h.form
    injection e with _ e _
    exact e.symm
  rw [hm] at r5 o5
  refine ⟨A5, c5, W5, r5 _ rfl, o5, Below.grown hb g5 hb.size (fun k e => ?_)⟩
  obtain ⟨vs, r, hlo⟩ := h.block e
  exact hlo
end
end Go.Proofs.Ytgpbbmcadifdhaa
