/- Package table: all roots are dropped: what the bag has then. -/
import Derived.Test.YtpcpcgbejinlmaaMg49
import Derived.Test.YtpcpcgbejinlmaaKb1
namespace Go.Proofs.Ytpcpcgbejinlmaa
open Go.RowKit
def bkL (k : Lk) (ws L : List Int) : Nat → List Int
  | 0 => L
  | 1 => L ++ (tabs ws 3 k.r0).reverse
  | _ => (L ++ (tabs ws 3 k.r0).reverse) ++ (tabs ws 3 k.r1).reverse
def bkR (k : Lk) : Nat → List Int
  | 0 => [k.r1, k.r0]
  | 1 => [k.r1]
  | _ => []
def Bk (w W : World) (k : Lk) (v : Value) (ws L : List Int) (lf : Int) (j : Nat) : Prop :=
  Tab W k.s v ws (bkL k ws L j) (bkR k j) ∧ WRow W k.g (pp k.s k.x0 k.x1 k.r0 k.r1) lf ∧ Below w.heap.size w W
section
variable {w W W' : World} {k : Lk} {v v' : Value} {ws L ws' L' : List Int} {v0 : Value} {L0 : List Mp} {v1 : Value} {L1 : List Mp} {lf : Int} {K : Nat}
theorem Lw.rt_ne (h : Lw w W k v ws L v0 L0 v1 L1 lf K) : k.r1 ≠ k.r0 := fun e => by
  have := h.inv.parts.2.2.2.2 k.r0 (mem_tabs.2 (Or.inl rfl))
  rw [e] at this
  exact this (mem_tabs.2 (Or.inl rfl))
theorem Lw.backs (h : Lw w W k v ws L v0 L0 v1 L1 lf K) : (bkL k ws L 2).length = k.n ∧ (bkL k ws L 2).Nodup ∧ ∀ f ∈ bkL k ws L 2, 0 ≤ f ∧ f < 512 := by
  have hp : (bkL k ws L 2).Perm (allF ws L k.r0 k.r1) := by
    unfold bkL allF
    rw [List.append_assoc]
    exact List.Perm.append_left L (List.Perm.append (List.reverse_perm _) (List.reverse_perm _))
  refine ⟨hp.length_eq.trans h.all, hp.nodup_iff.2 h.inv.nd, fun f hf => ?_⟩
  have hf := hp.mem_iff.1 hf
  unfold allF at hf
  have hF := h.inv.ff
  rcases List.mem_append.1 hf with e | e
  · exact h.inv.fr f e
  · rcases List.mem_append.1 e with e | e
    · have := tabs_frames 3 _ h.inv.gr f e; rw [hF] at this; exact this
    · have := tabs_frames 3 _ h.inv.gq f e; rw [hF] at this; exact this
theorem Lw.bk (h : Lw w W k v ws L v0 L0 v1 L1 lf K) : Bk w W k v ws L lf 0 := ⟨h.tab, h.row, h.below⟩
theorem Bk.call {j : Nat} (h : Bk w W k v ws L lf j) (hb : Below W.heap.size W W') : Bk w W' k v ws L lf j := ⟨h.1.call hb, h.2.1.below hb h.2.1.lt, h.2.2.trans (hb.mono h.2.2.size)⟩
def rtN (k : Lk) : Nat → Int
  | 0 => k.r0
  | _ => k.r1
theorem bk_drop (hlw : Lw w W' k v' ws L v0 L0 v1 L1 lf K) (hk : Nice k) {j : Nat} (hj : j < 2) (h : Bk w W k v ws L lf j) : Calls Try.prog 12 #[.pointer (some ⟨k.s.x, 0, none⟩), .int .i64 (rtN k j)] W fun e w' => e = .returned (.int .i64 0) ∧ ∃ v', Bk w w' k v' ws L lf (j + 1) := by
  have hlen := hlw.backs.1
  have hn := hk.n
  have hlo := hlw.lo
  unfold bkL at hlen
  simp only [List.length_append] at hlen
  have fin : ∀ {R' M' : List Int} {w' : World} {v'' : Value}, Tab w' k.s v'' ws M' R' → Mv k.s v W v'' w' → M' = bkL k ws L (j + 1) → R' = bkR k (j + 1) → Bk w w' k v'' ws L lf (j + 1) := fun ht hm e1 e2 => by
    subst e1 e2
    exact ⟨ht, h.1.row hm h.2.1 (by decide) (by decide) (by decide), h.2.2.trans (h.1.below hm h.2.2.size hlo.1 hlo.2.1 hlo.2.2.1)⟩
  match j, hj with
  | 0, _ =>
    refine (tdrop_any h.1 (by show L.length ≤ 900; omega) k.r0 hk.r0 (List.mem_cons_of_mem _ List.mem_cons_self) hlw.inv.gr).mono ?_
    rintro e w' ⟨rfl, v'', ht, hm⟩
    refine ⟨rfl, v'', fin ht hm rfl ?_⟩
    show [k.r1, k.r0].erase k.r0 = [k.r1]
    rw [List.erase_cons_tail (by simpa using hlw.rt_ne), List.erase_cons_head]
  | 1, _ =>
    refine (tdrop_any h.1 (by show (L ++ (tabs ws 3 k.r0).reverse).length ≤ 900; rw [List.length_append]; omega) k.r1 hk.r1 List.mem_cons_self hlw.inv.gq).mono ?_
    rintro e w' ⟨rfl, v'', ht, hm⟩
    refine ⟨rfl, v'', fin ht hm rfl ?_⟩
    show [k.r1].erase k.r1 = []
    rw [List.erase_cons_head]
theorem bk_out (hlw : Lw w W' k v' ws L v0 L0 v1 L1 lf K) {j : Nat} (hj : j < 2) : rtN k j ∉ bkR k (j + 1) := by
  match j, hj with
  | 0, _ =>
    show k.r0 ∉ [k.r1]
    simp only [List.mem_cons, List.not_mem_nil, or_false]
    exact fun e => hlw.rt_ne e.symm
  | 1, _ =>
    show k.r1 ∉ []
    simp
theorem rtN_fits (hk : Nice k) {j : Nat} (hj : j < 2) : Fits (rtN k j) := by
  match j, hj with
  | 0, _ => exact hk.r0
  | 1, _ => exact hk.r1
theorem bk_not (hlw : Lw w W' k v' ws L v0 L0 v1 L1 lf K) (hk : Nice k) {j : Nat} (hj : j < 2) (h : Bk w W k v ws L lf (j + 1)) : Calls Try.prog 12 #[.pointer (some ⟨k.s.x, 0, none⟩), .int .i64 (rtN k j)] W fun e w' => e = .returned (.int .i64 3) ∧ Below W.heap.size W w' :=
  drop_not h.1 (rtN k j) (rtN_fits hk hj) (bk_out hlw hj)
theorem bk_count (hlw : Lw w W' k v' ws L v0 L0 v1 L1 lf K) (hk : Nice k) {j : Nat} (hj : j < 2) (h : Bk w W k v ws L lf (j + 1)) : Calls Try.prog 13 #[.pointer (some ⟨k.s.x, 0, none⟩), .int .i64 (rtN k j)] W fun e w' => e = .returned (.int .i64 0) ∧ Below W.heap.size W w' := by
  have hn := bk_out hlw hj
  refine (count_any h.1 (rtN k j) (rtN_fits hk hj) (fun e => absurd e hn) hlw.inv.len).mono ?_
  rintro e w' ⟨rfl, hb⟩
  refine ⟨?_, hb⟩
  unfold thT
  rw [if_neg hn]; rfl
end
def metF (M : List Int) (j : Nat) : List Value := (List.range 512).map fun f : Nat => .bool (decide ((f : Int) ∈ M.take j))
set_option maxRecDepth 100000 in
theorem metF_zero (M : List Int) : metF M 0 = List.replicate 512 (.bool false) := by
  apply List.ext_getElem?
  intro i
  unfold metF
  rw [List.getElem?_map, List.getElem?_replicate]
  by_cases h : i < 512
  · rw [List.getElem?_range h, if_pos h]; simp
  · rw [if_neg h, List.getElem?_eq_none (by simpa using h)]; rfl
theorem metF_get (M : List Int) (j : Nat) {f : Nat} (hf : f < 512) : (metF M j)[f]? = some (.bool (decide ((f : Int) ∈ M.take j))) := by
  unfold metF
  rw [List.getElem?_map, List.getElem?_range hf]; rfl
set_option maxRecDepth 100000 in
theorem metF_next {M : List Int} {j f : Nat} (hf : f < 512) (h : M[j]? = some (f : Int)) : (metF M j).set f (.bool true) = metF M (j + 1) := by
  apply List.ext_getElem?
  intro i
  have hl : (metF M j).length = 512 := by unfold metF; simp
  rw [List.getElem?_set]
  by_cases hi : i < 512
  · rw [metF_get M (j + 1) hi, List.take_add_one, h]
    by_cases c : f = i
    · subst c
      rw [if_pos rfl, if_pos (by omega), decide_eq_true (show (f : Int) ∈ M.take j ++ (some (f : Int)).toList from List.mem_append.2 (Or.inr List.mem_cons_self))]
    · rw [if_neg c, metF_get _ _ hi]
      congr 2
      rw [decide_eq_decide]
      simp only [Option.toList_some, List.mem_append, List.mem_singleton]
      constructor
      · exact Or.inl
      · rintro (e | e)
        · exact e
        · omega
  · rw [if_neg (by omega), List.getElem?_eq_none (by omega), List.getElem?_eq_none (by unfold metF; simp; omega)]
theorem met_no {M : List Int} (hn : M.Nodup) {j : Nat} {f : Int} (h : M[j]? = some f) : f ∉ M.take j := fun hm => by
  obtain ⟨i, hi, e⟩ := List.mem_iff_getElem.1 hm
  rw [List.getElem_take] at e
  rw [List.length_take] at hi
  obtain ⟨hj, e'⟩ := List.getElem?_eq_some_iff.1 h
  have := (List.getElem_inj hn).1 (e.trans e'.symm)
  omega
end Go.Proofs.Ytpcpcgbejinlmaa
