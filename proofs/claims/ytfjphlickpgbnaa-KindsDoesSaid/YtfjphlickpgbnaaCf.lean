/- The contract of Blocks: the sorting of a row of blocks, and the list that it comes to. -/
import Derived.Test.YtfjphlickpgbnaaCe
import Derived.Test.YtfjphlickpgbnaaGm
import Derived.Maps.AppendAt
import Derived.Deep.AppendLies
import Derived.OwnWalk
import Derived.Laws.AppendOwnNone
import Derived.Deep.LoopGhost
namespace Go.Proofs.Ytfjphlickpgbnaa
variable {Xc : Nat → Prop}
open Go.RowKit

/-- A block's two cells. -/
def encB (x : Nat × Nat) : List Value := [.int .i64 x.1, .int .i64 x.2]
theorem closure_any (x y : Nat × Nat) (W : World) : Calls Try.prog 60 #[.agg #[.int .i64 x.1, .int .i64 x.2], .agg #[.int .i64 y.1, .int .i64 y.2]] W fun e w' => e = .returned (.int .i64 (Lib.compareInt x.1 y.1)) ∧ ∃ q os', w' = Go.Sort.grow (W.drewN q) os' := by
  have hcon := fun W' => Try.cmp_Compare_int x.1 y.1 W'
  generalize Lib.compareInt x.1 y.1 = r at hcon ⊢
  go_enter Try.func60, Try.ntmps60
  go_wp2_with (go_at_call 61; refine (hcon _).mono ?_; rintro e w' ⟨rfl, rfl⟩)
  go_ret
  exact ⟨rfl, 0, _, by rw [Go.Sort.alloc_eq_grow, Go.Sort.alloc_eq_grow, Go.Sort.grow_grow]; rfl⟩
theorem cmp_lays (blk off size : Nat) (w : World) : CmpLays Try.prog 60 #[] encB 2 (fun x y => Lib.compareInt x.1 y.1) blk off size w :=
  fun _ _ _ _ x y => closure_any x y _
theorem lt_frame (x y : Nat × Nat) : ltOf (fun x y : Nat × Nat => Lib.compareInt x.1 y.1) x y = decide (x.1 < y.1) := by
  unfold ltOf Lib.compareInt
  by_cases h1 : x.1 < y.1
  · simp [h1]
  · by_cases h2 : y.1 < x.1 <;> simp [h1, h2]
theorem swo_frame : Go.Sort.SWO (ltOf fun x y : Nat × Nat => Lib.compareInt x.1 y.1) where
  irrefl x := by rw [lt_frame]; simp
  trans x y z h1 h2 := by rw [lt_frame] at *; simp at *; omega
  ntrans x y z h1 h2 := by rw [lt_frame] at *; simp at *; omega
theorem flat_get (M : List (Nat × Nat)) (t : Nat) (h : t < M.length * 2) : (bcells M)[t]? = some (Go.Sort.flatK encB 2 M.toArray)[t]! := by
  rw [Go.Sort.get_flatK _ _ _ _ (by simpa using h)]
  have hj : t / 2 < M.length := by omega
  obtain ⟨b1, b2⟩ := bcells_at M (t / 2) hj
  have e1 : M.toArray[t / 2]! = M.getD (t / 2) (0, 0) := by
    rw [List.getD_eq_getElem?_getD, List.getElem?_eq_getElem hj, getElem!_pos _ _ (by simpa using hj)]; rfl
  rw [e1]
  generalize M.getD (t / 2) (0, 0) = x at b1 b2
  rcases Nat.mod_two_eq_zero_or_one t with h0 | h0
  · have e : t = t / 2 * 2 := by omega
    rw [h0]
    conv => lhs; rw [e]
    rw [b1]; rfl
  · have e : t = t / 2 * 2 + 1 := by omega
    rw [h0]
    conv => lhs; rw [e]
    rw [b2]; rfl
/-- Blocks as a row in memory. -/
def BlkRow (w : World) (A : Option Addr) (M : List (Nat × Nat)) : Prop :=
  0 < M.length → ∃ g vs, A = some ⟨g, 0, none⟩ ∧ Lrow w g 53 vs ∧ vs.take (M.length * 2) = bcells M
theorem BlkRow.below {w w' : World} {A : Option Addr} {M : List (Nat × Nat)} (h : BlkRow w A M) (hb : Below w.heap.size w w') : BlkRow w' A M := fun hn => by
  obtain ⟨g, vs, e, r, t⟩ := h hn
  exact ⟨g, vs, e, r.call hb, t⟩
theorem BlkRow.turn {w w' : World} {B : Nat} {A : Option Addr} {M : List (Nat × Nat)} (h : BlkRow w A M) (ht : Turn Xc B w w') : BlkRow w' A M := fun hn => by
  obtain ⟨g, vs, e, r, t⟩ := h hn
  exact ⟨g, vs, e, ht.row _ _ _ r (by decide) (by decide), t⟩
theorem BlkRow.at_ {w : World} {A : Option Addr} {M : List (Nat × Nat)} (h : BlkRow w A M) : BlksAt w w.heap.size A M := fun hn => by
  obtain ⟨g, vs, e, r, t⟩ := h hn
  refine ⟨g, e, r.lt, fun j hj => ?_⟩
  obtain ⟨b1, b2⟩ := bcells_at M j hj
  rw [r.cell, r.cell]
  constructor
  · rw [← b1, ← t, List.getElem?_take_of_lt (by omega)]
  · rw [← b2, ← t, List.getElem?_take_of_lt (by omega)]
/-- The sorting of a row of blocks. -/
def Sorted (w : World) (A : Option Addr) (M : List (Nat × Nat)) (e : Ending) (w' : World) : Prop :=
  ∃ M', e = .returned (.tuple #[]) ∧ BlkRow w' A M' ∧ M'.Perm M ∧ M'.Pairwise (fun x y => x.1 ≤ y.1) ∧ ∀ B, (∀ g, A = some ⟨g, 0, none⟩ → B ≤ g) → B ≤ w.heap.size → Below B w w'
theorem sort_any {w : World} {A : Option Addr} {M : List (Nat × Nat)} (h : BlkRow w A M) (hm : M.length ≤ 4096) (c : Nat) :
    Calls Try.prog 59 #[.slice A M.length c, .func (.func 60) #[] #[]] w (Sorted w A M) := by
  by_cases h0 : 0 < M.length
  · obtain ⟨g, vs, rfl, r, t⟩ := h h0
    have eg : ∀ args w, (callFunc 60 args).run Try.prog w = .ok (.enter 60 args) w := enters_of Try.func60 (by kernel_rfl) rfl
    have hvl : M.length * 2 ≤ vs.length := by
      have := congrArg List.length t
      rw [List.length_take, bcells_length] at this; omega
    have hH : Go.Sort.HoldsK encB 2 w g 0 M.toArray := fun j hj => by
      have hj' : j < M.length * 2 := by simpa using hj
      rw [Nat.zero_add]
      refine ⟨?_, r.frozen j⟩
      rw [r.cell]
      have := flat_get M j hj'
      rw [← t, List.getElem?_take_of_lt hj'] at this
      exact this
    have hcon := AnyQ.slices_SortFunc Try.sortB 2 Try.isAgg53 Try.sizeOf53 encB (fun _ => rfl) (fun x v hv => by simp [encB] at hv; rcases hv with rfl | rfl <;> rfl) (fun x y => Lib.compareInt x.1 y.1) swo_frame 60 #[] g 0 c M.toArray w eg (cmp_lays g 0 _ w) hH r.lt (by simp; omega)
    change Calls Try.prog 59 _ _ _ at hcon
    rw [List.size_toArray] at hcon
    refine hcon.mono ?_
    rintro e w' ⟨rfl, d', q, os, hp, hs, rfl⟩
    have hsz : d'.size = M.length := by simpa using hp.1
    have hd : d' = d'.toList.toArray := by simp
    have hl : d'.toList.length = M.length := by simpa using hsz
    refine ⟨d'.toList, rfl, fun _ => ?_, ?_, ?_, ?_⟩
    · refine ⟨g, (Go.Sort.putCells id 0 (Go.Sort.flatK encB 2 d') vs.toArray).toList, rfl, ?_, ?_⟩
      · unfold Lrow at r ⊢
        unfold sortWorldK Go.Sort.grow Go.Sort.putRowK Go.Sort.putRow Go.Sort.mapBlock
        have hlt : g < w.heap.size := Lrow.lt r
        rw [Array.getElem?_append_left (by simpa [Go.Sort.ahead] using hlt)]
        rw [Array.getElem?_modify]
        simp only [if_true]
        have : (Go.Sort.ahead w q).heap[g]? = w.heap[g]? := rfl
        rw [this, r]
        simp [Go.Sort.onCells]
      · apply List.ext_getElem?
        intro i
        rw [hl]
        by_cases hi : i < M.length * 2
        · rw [List.getElem?_take_of_lt hi]
          have h1 := flat_get d'.toList i (by rw [hl]; exact hi)
          rw [← hd] at h1
          rw [h1]
          simp only [Go.Sort.putCells, Array.toList_mapIdx, List.getElem?_mapIdx]
          rw [List.getElem?_eq_getElem (by omega)]
          simp only [Option.map_some]
          rw [if_pos (by simp; omega)]
          simp
        · rw [List.getElem?_eq_none (by rw [List.length_take]; omega), List.getElem?_eq_none (by rw [bcells_length]; omega)]
    · have h3 := hp.2.2
      have e1 : (d'.extract 0 M.length).toList = d'.toList := by rw [← hsz]; simp
      have e2 : (M.toArray.extract 0 M.length).toList = M := by simp
      rw [e1, e2] at h3
      exact h3
    · rw [List.pairwise_iff_getElem]
      intro i j hi hj hij
      have h4 := hs i j (Nat.zero_le _) hij (by rw [← hl]; exact hj)
      rw [lt_frame, decide_eq_false_iff_not] at h4
      rw [getElem!_pos d' i (by simpa using hi), getElem!_pos d' j (by simpa using hj)] at h4
      simp only [Array.getElem_toList]
      omega
    · intro B hB hBs
      have hBg := hB g rfl
      refine ⟨rfl, rfl, rfl, ?_, fun k hk => ?_⟩
      · unfold sortWorldK Go.Sort.grow Go.Sort.putRowK Go.Sort.putRow Go.Sort.mapBlock
        simp [Go.Sort.ahead]
      · unfold sortWorldK Go.Sort.grow Go.Sort.putRowK Go.Sort.putRow Go.Sort.mapBlock
        rw [Array.getElem?_append_left (by simp [Go.Sort.ahead]; omega), Array.getElem?_modify, if_neg (by omega)]
        rfl
  · have hM : M = [] := List.length_eq_zero_iff.1 (by omega)
    subst hM
    have hcon := AnyF.slices_SortFunc_none Try.sortB A c (.func (.func 60) #[] #[]) w
    change Calls Try.prog 59 _ _ _ at hcon
    refine hcon.mono ?_
    rintro e w' ⟨rfl, rfl⟩
    exact ⟨[], rfl, fun h => by simp at h, List.Perm.refl _, List.Pairwise.nil, fun B _ _ => Below.refl _ _⟩
end Go.Proofs.Ytfjphlickpgbnaa
