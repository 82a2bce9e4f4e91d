/- Objects: ObjectOne: what its walk stands on. -/
import Derived.Test.YtnpacdbkmpchnaaP5
import Derived.Deep.OwnRows
namespace Go.Proofs.Ytnpacdbkmpchnaa
open Go.RowKit
def bcl (F : List Bool) : List Value := F.map Value.bool
theorem bcl_get (F : List Bool) (i : Nat) : (bcl F)[i]? = F[i]?.map Value.bool := by simp [bcl]
theorem bcl_set (F : List Bool) (i : Nat) (v : Bool) : (bcl F).set i (.bool v) = bcl (F.set i v) := by simp [bcl, List.map_set]
theorem info_bool : (Try.prog.info? 4).map (fun i => (i.zero, i.size, i.bytes)) = some (some (.bool false), 1, 1) := by kernel_rfl
theorem made_bools (n : Nat) : (madeCells #[Value.bool false] n).toList = bcl (List.replicate n false) := by
  apply List.ext_getElem?
  intro i
  rw [bcl_get, List.getElem?_replicate]
  simp only [madeCells, Array.getElem?_toList, Array.getElem?_map]
  by_cases hi : i < n
  · rw [if_pos hi]
    simp [hi, Nat.mod_one]
  · rw [if_neg hi]
    simp; omega
/-- What has been met is of an object before j, or in the list R. -/
def MetR (L : List Og) (j : Int) (R : List Int) (M : List Bool) : Prop := M.length = 1024 ∧ ∀ f : Nat, M[f]? = some true → (∃ y ∈ L, y.f = f ∧ y.i < j) ∨ (f : Int) ∈ R
theorem MetR.next {H : List Int} {L : List Og} {j : Int} {M : List Bool} (h : Good H L) (m : MetR L j (frs L j) M) : MetR L (j + 1) [] M := ⟨m.1, fun f hf => by
  rcases m.2 f hf with ⟨y, hy, e1, e2⟩ | e
  · exact Or.inl ⟨y, hy, e1, by omega⟩
  · obtain ⟨y, hy, e1, e2⟩ := (frs_mem h).1 e
    exact Or.inl ⟨y, hy, e2, by omega⟩⟩
theorem one_step {H : List Int} {L : List Og} (h : Good H L) {j : Int} {k : Nat} (hk : k < (frs L j).length) {M : List Bool} (hM : MetR L j ((frs L j).take k) M) :
    ∃ (f : Nat) (p : Int), (frs L j)[k] = f ∧ f < 1024 ∧ 0 ≤ p ∧ p ≤ 4095 ∧ owI L f = j ∧ owP L f = p ∧ owE L f = 0 ∧ frV L j p = f ∧ frE L j p = 0 ∧ M[f]? = some false ∧ MetR L j ((frs L j).take (k + 1)) (M.set f true) := by
  have hm : (frs L j)[k] ∈ frs L j := List.getElem_mem hk
  obtain ⟨x, hx, e1, e2⟩ := (frs_mem h).1 hm
  have hr := h.rg x hx
  have hl := h.looks hx
  obtain ⟨f, hf⟩ : ∃ f : Nat, x.f = f := ⟨x.f.toNat, by omega⟩
  rw [hf, e1] at hl
  have hf4 : f < 1024 := by omega
  refine ⟨f, x.p, by rw [← e2, hf], hf4, hr.2.2.1, hr.2.2.2, hl.1, hl.2.1, hl.2.2.1, hl.2.2.2.1, hl.2.2.2.2, ?_, by rw [List.length_set]; exact hM.1, fun g hg => ?_⟩
  · have hlt : f < M.length := by rw [hM.1]; exact hf4
    rw [List.getElem?_eq_getElem hlt]
    congr 1
    cases hv : M[f] with
    | false => rfl
    | true =>
      exfalso
      rcases hM.2 f (by rw [List.getElem?_eq_getElem hlt, hv]) with ⟨y, hy, q1, q2⟩ | q
      · have := h.one hy hx (q1.trans hf.symm)
        subst this; omega
      · obtain ⟨i, hi, q2⟩ := List.getElem_of_mem q
        rw [List.getElem_take] at q2
        rw [List.length_take] at hi
        have := pw_get (frs_up L j) (show i < k by omega) hk
        omega
  · rw [List.take_succ_eq_append_getElem hk, List.mem_append, List.mem_singleton]
    by_cases c : f = g
    · subst c; exact Or.inr (Or.inr (by rw [← hf, e2]))
    · rw [List.getElem?_set_ne c] at hg
      rcases hM.2 g hg with q | q
      · exact Or.inl q
      · exact Or.inr (Or.inl q)
/-- The program's side, the reference's, the row of what has been met. -/
def OneAt (I : ObI) (B : Nat) (w : World) (s x : Nat) (vh vl : Value) (H : List Int) (L : List Og) (b : Nat) (M : List Bool) : Prop :=
  ∃ X, I.Ob B w s X H L ∧ Rx B w x vh vl H L ∧ Lrow w b 4 (bcl M) ∧ B ≤ b ∧ (∀ k, X k → k ≠ b) ∧ ∀ k, MineX x vh vl k → k ≠ b
section
variable {I : ObI} {w w' : World} {B s x b : Nat} {vh vl : Value} {H : List Int} {L : List Og} {M : List Bool}
theorem OneAt.call (h : OneAt I B w s x vh vl H L b M) (hb : Below w.heap.size w w') : OneAt I B w' s x vh vl H L b M := by
  obtain ⟨X, h1, h2, h3, h4⟩ := h
  exact ⟨X, I.call h1 hb, h2.call hb, h3.call hb, h4⟩
theorem OneAt.store (h : OneAt I B w s x vh vl H L b M) (f : Nat) (v : Bool) : OneAt I B (w.setCell ⟨b, f, none⟩ (.bool v)) s x vh vl H L b (M.set f v) := by
  obtain ⟨X, h1, h2, h3, h4, h5, h6⟩ := h
  have hg := grown_set w b f (.bool v)
  refine ⟨X, I.keep h1 hg.size fun k hk hl => hg.block k hl (fun e => h5 k hk (by injection e)), h2.keep hg.size fun k hk hl => hg.block k hl (fun e => h6 k hk (by injection e)), ?_, h4, h5, h6⟩
  rw [← bcl_set]
  exact h3.set_ f _
theorem OneAt.new (hB : B ≤ w.heap.size) {X : Nat → Prop} (h1 : I.Ob B w s X H L) (h2 : Rx B w x vh vl H L) (M : List Bool) : OneAt I B (w.alloc (.cells (bcl M).toArray 4)) s x vh vl H L w.heap.size M :=
  ⟨X, I.call h1 (below_new _ _), h2.call (below_new _ _), Lrow.new w _ _, hB, fun k hk e => by have := (I.lo h1 k hk).2; omega, fun k hk e => by have := (h2.mine k hk).2; omega⟩
end
end Go.Proofs.Ytnpacdbkmpchnaa
