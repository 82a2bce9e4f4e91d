/- The contract of New. -/
import Derived.Test.YtklhcgekagimkaaGreatMg12
import Derived.Test.YtklhcgekagimkaaGreatMg06
import Derived.Maps.AppendAt
import Derived.Deep.AppendLies
import Derived.OwnWalk
import Derived.Laws.AppendOwnNone
import Derived.Deep.LoopGhost
namespace Go.Proofs.YtklhcgekagimkaaGreat
variable {Xc : Nat → Prop}
open Go.RowKit
section
variable {w : World}
theorem new_bad {f : Int} (h : f < 8 ∨ 1024 < f) (w : World) : Calls Tryz.prog 77 #[.int .i64 f] w fun e w' => e = .returned (.tuple #[.pointer none, .int .i64 2]) ∧ w = w' := by
  rcases h with h | h
  · go_enter Tryz.func77, Tryz.ntmps77
    go_wp2
    go_ret2
    exact ⟨rfl, rfl⟩
  · have h8 : ¬ f < 8 := by omega
    go_enter Tryz.func77, Tryz.ntmps77
    go_wp2
    go_ret2
    exact ⟨rfl, rfl⟩
/-- The frames on the way: the first i are free. -/
def upto (n i : Nat) : List Bool := List.replicate i true ++ List.replicate (n - i) false
theorem upto_len {n i : Nat} (h : i ≤ n) : (upto n i).length = n := by simp [upto]; omega
theorem upto_get {n i : Nat} (h : i ≤ n) (x : Nat) : (upto n i)[x]? = if x < i then some true else if x < n then some false else none := by
  unfold upto
  by_cases h1 : x < i
  · rw [if_pos h1, List.getElem?_append_left (by simpa using h1), List.getElem?_replicate, if_pos h1]
  · rw [if_neg h1, List.getElem?_append_right (by simp; omega), List.getElem?_replicate]
    simp only [List.length_replicate]
    by_cases h2 : x < n
    · rw [if_pos h2, if_pos (by omega)]
    · rw [if_neg h2, if_neg (by omega)]
theorem upto_join {n i : Nat} (h : i < n) : Join (upto n (i + 1)) (upto n i) i 0 := by
  refine ⟨by omega, Nat.mod_one i, by rw [upto_len (by omega), Nat.pow_zero]; omega, fun x h1 h2 => ?_, ?_⟩
  · rw [Nat.pow_zero] at h2
    rw [upto_get (by omega), if_neg (by omega), if_pos (by omega)]
  · apply List.ext_getElem?
    intro x
    rw [setR_get _ _ _ _ (by rw [upto_len (by omega), Nat.pow_zero]; omega), upto_get (by omega), upto_get (by omega), Nat.pow_zero]
    by_cases c : i ≤ x ∧ x < i + 1
    · rw [if_pos c, if_pos (by omega)]
    · rw [if_neg c]
      by_cases c2 : x < i
      · rw [if_pos c2, if_pos (by omega)]
      · have c3 : ¬ x < i + 1 := by omega
        rw [if_neg c2, if_neg c3]
theorem upto_zero (n : Nat) : upto n 0 = List.replicate n false := by simp [upto]
theorem upto_all (n : Nat) : upto n n = List.replicate n true := by simp [upto]
theorem bud_new (w : World) (n : Nat) (hX : ∀ g, Xc g → g < w.heap.size) : BudAt Xc w.heap.size (w.alloc (.cells #[.int .i64 n, .slice none 0 0, .slice none 0 0, .slice none 0 0, .slice none 0 0, .slice none 0 0, .slice none 0 0, .slice none 0 0, .slice none 0 0, .slice none 0 0] 132)) w.heap.size n (fun _ => []) :=
  ⟨fun _ => none, fun _ => 0, Lrow.new w _ _, Nat.le_refl _, fun _ _ _ => ⟨rfl, rfl⟩, fun _ _ b h => by (cases h), fun _ _ _ _ _ b h => by (cases h), fun g hg => ⟨by have := hX g hg; simp; omega, by have := hX g hg; omega, fun _ _ => by simp⟩⟩
/-- New lists of n frames, all of them free. -/
def Newly (Xc : Nat → Prop) (n : Nat) (w : World) (e : Ending) (w' : World) : Prop :=
  ∃ L', e = .returned (.tuple #[.pointer (some ⟨w.heap.size, 0, none⟩), .int .i64 0]) ∧ Below w.heap.size w w' ∧ BudAt Xc w.heap.size w' w.heap.size n L' ∧ Good (List.replicate n true) L'
theorem new_any (n : Nat) (h1 : 8 ≤ n) (h2 : n ≤ 1024) (w : World) (hX : ∀ g, Xc g → g < w.heap.size) : Calls Tryz.prog 77 #[.int .i64 n] w (Newly Xc n w) := by
  have hN := bud_new w n hX
  have HN := Lib.hid hN
  clear hN
  go_enter Tryz.func77, Tryz.ntmps77
  go_wp2
  go_loopw [16] (fun s wr => ∃ (i : Nat) (L' : Nat → List Nat), i ≤ n ∧ s = .int .i64 i ∧ Good (upto n i) L' ∧ BudAt Xc w.heap.size wr w.heap.size n L' ∧ Below w.heap.size w wr) (fun s _ => n - (intOf s).toNat)
  case atStart => exact ⟨0, _, Nat.zero_le _, rfl, by rw [upto_zero]; exact good_none n, HN.out, (Below.refl _ _).alloc (Nat.le_refl _) _⟩
  case round =>
    obtain ⟨i, L', hi, rfl, hG, hX, hB⟩ := hrel
    have HG := Lib.hid hG
    have HX := Lib.hid hX
    have HB := Lib.hid hB
    clear hG hX hB
    by_cases hlt : i < n
    · go_wp2_with fail
      refine Calls.mono (join_any HX.out HG.out (by rw [upto_len (by omega)]; exact h2) (upto_join hlt)) ?_
      rintro e w2 ⟨rfl, ht2, L2, hx2, hg2⟩
      have HX2 := Lib.hid hx2
      have HG2 := Lib.hid hg2
      have HT2 := Lib.hid ht2
      clear ht2 hx2 hg2
      go_wp2
      go_roundw
      case rel => exact ⟨i + 1, _, by omega, by go_num, HG2.out, HX2.out, HB.out.trans HT2.out.below⟩
      case measure => simp [intOf]; omega
    · obtain rfl : i = n := by omega
      go_wp2
      go_ret2
      exact ⟨_, rfl, HB.out, HX.out, by rw [← upto_all]; exact HG.out⟩
end
end Go.Proofs.YtklhcgekagimkaaGreat
/- The contract of Blocks: the sorting of a row of blocks, and the list that it comes to. -/
namespace Go.Proofs.YtklhcgekagimkaaGreat
variable {Xc : Nat → Prop}
open Go.RowKit

/-- A block's two cells. -/
def encB (x : Nat × Nat) : List Value := [.int .i64 x.1, .int .i64 x.2]
theorem closure_any (x y : Nat × Nat) (W : World) : Calls Tryz.prog 97 #[.agg #[.int .i64 x.1, .int .i64 x.2], .agg #[.int .i64 y.1, .int .i64 y.2]] W fun e w' => e = .returned (.int .i64 (Lib.compareInt x.1 y.1)) ∧ ∃ q os', w' = Go.Sort.grow (W.drewN q) os' := by
  have hcon := fun W' => Tryz.cmp_Compare_int x.1 y.1 W'
  generalize Lib.compareInt x.1 y.1 = r at hcon ⊢
  go_enter Tryz.func97, Tryz.ntmps97
  go_wp2_with (go_at_call 98; refine (hcon _).mono ?_; rintro e w' ⟨rfl, rfl⟩)
  go_ret
  exact ⟨rfl, 0, _, by rw [Go.Sort.alloc_eq_grow, Go.Sort.alloc_eq_grow, Go.Sort.grow_grow]; rfl⟩
theorem cmp_lays (blk off size : Nat) (w : World) : CmpLays Tryz.prog 97 #[] encB 2 (fun x y => Lib.compareInt x.1 y.1) blk off size w :=
  fun _ _ _ _ x y => closure_any x y _
theorem lt_frame (x y : Nat × Nat) : ltOf (fun x y : Nat × Nat => Lib.compareInt x.1 y.1) x y = decide (x.1 < y.1) := by
  unfold ltOf Lib.compareInt
  by_cases h1 : x.1 < y.1
  · simp [h1]
  · by_cases h2 : y.1 < x.1 <;> simp [h1, h2]
theorem swo_frame : Go.Sort.SWO (ltOf fun x y : Nat × Nat => Lib.compareInt x.1 y.1) where
  irrefl x := by rw [lt_frame]; simp
  trans x y z h1 h2 := by rw [lt_frame] at *; simp at *; omega
  ntrans x y z h1 h2 := by rw [lt_frame] at *; simp at *; omega
theorem flat_get (M : List (Nat × Nat)) (t : Nat) (h : t < M.length * 2) : (bcells M)[t]? = some (Go.Sort.flatK encB 2 M.toArray)[t]! := by
  rw [Go.Sort.get_flatK _ _ _ _ (by simpa using h)]
  have hj : t / 2 < M.length := by omega
  obtain ⟨b1, b2⟩ := bcells_at M (t / 2) hj
  have e1 : M.toArray[t / 2]! = M.getD (t / 2) (0, 0) := by
    rw [List.getD_eq_getElem?_getD, List.getElem?_eq_getElem hj, getElem!_pos _ _ (by simpa using hj)]; rfl
  rw [e1]
  generalize M.getD (t / 2) (0, 0) = x at b1 b2
  rcases Nat.mod_two_eq_zero_or_one t with h0 | h0
  · have e : t = t / 2 * 2 := by omega
    rw [h0]
    conv => lhs; rw [e]
    rw [b1]; rfl
  · have e : t = t / 2 * 2 + 1 := by omega
    rw [h0]
    conv => lhs; rw [e]
    rw [b2]; rfl
/-- Blocks as a row in memory. -/
def BlkRow (w : World) (A : Option Addr) (M : List (Nat × Nat)) : Prop :=
  0 < M.length → ∃ g vs, A = some ⟨g, 0, none⟩ ∧ Lrow w g 92 vs ∧ vs.take (M.length * 2) = bcells M
theorem BlkRow.below {w w' : World} {A : Option Addr} {M : List (Nat × Nat)} (h : BlkRow w A M) (hb : Below w.heap.size w w') : BlkRow w' A M := fun hn => by
  obtain ⟨g, vs, e, r, t⟩ := h hn
  exact ⟨g, vs, e, r.call hb, t⟩
theorem BlkRow.turn {w w' : World} {B : Nat} {A : Option Addr} {M : List (Nat × Nat)} (h : BlkRow w A M) (ht : Turn Xc B w w') : BlkRow w' A M := fun hn => by
  obtain ⟨g, vs, e, r, t⟩ := h hn
  exact ⟨g, vs, e, ht.row _ _ _ r (by decide) (by decide), t⟩
theorem BlkRow.at_ {w : World} {A : Option Addr} {M : List (Nat × Nat)} (h : BlkRow w A M) : BlksAt w w.heap.size A M := fun hn => by
  obtain ⟨g, vs, e, r, t⟩ := h hn
  refine ⟨g, e, r.lt, fun j hj => ?_⟩
  obtain ⟨b1, b2⟩ := bcells_at M j hj
  rw [r.cell, r.cell]
  constructor
  · rw [← b1, ← t, List.getElem?_take_of_lt (by omega)]
  · rw [← b2, ← t, List.getElem?_take_of_lt (by omega)]
/-- The sorting of a row of blocks. -/
def Sorted (w : World) (A : Option Addr) (M : List (Nat × Nat)) (e : Ending) (w' : World) : Prop :=
  ∃ M', e = .returned (.tuple #[]) ∧ BlkRow w' A M' ∧ M'.Perm M ∧ M'.Pairwise (fun x y => x.1 ≤ y.1) ∧ ∀ B, (∀ g, A = some ⟨g, 0, none⟩ → B ≤ g) → B ≤ w.heap.size → Below B w w'
theorem sort_any {w : World} {A : Option Addr} {M : List (Nat × Nat)} (h : BlkRow w A M) (hm : M.length ≤ 4096) (c : Nat) :
    Calls Tryz.prog 96 #[.slice A M.length c, .func (.func 97) #[] #[]] w (Sorted w A M) := by
  by_cases h0 : 0 < M.length
  · obtain ⟨g, vs, rfl, r, t⟩ := h h0
    have eg : ∀ args w, (callFunc 97 args).run Tryz.prog w = .ok (.enter 97 args) w := enters_of Tryz.func97 (by kernel_rfl) rfl
    have hvl : M.length * 2 ≤ vs.length := by
      have := congrArg List.length t
      rw [List.length_take, bcells_length] at this; omega
    have hH : Go.Sort.HoldsK encB 2 w g 0 M.toArray := fun j hj => by
      have hj' : j < M.length * 2 := by simpa using hj
      rw [Nat.zero_add]
      refine ⟨?_, r.frozen j⟩
      rw [r.cell]
      have := flat_get M j hj'
      rw [← t, List.getElem?_take_of_lt hj'] at this
      exact this
    have hcon := AnyQ.slices_SortFunc Tryz.sortB 2 Tryz.isAgg92 Tryz.sizeOf92 encB (fun _ => rfl) (fun x v hv => by simp [encB] at hv; rcases hv with rfl | rfl <;> rfl) (fun x y => Lib.compareInt x.1 y.1) swo_frame 97 #[] g 0 c M.toArray w eg (cmp_lays g 0 _ w) hH r.lt (by simp; omega)
    change Calls Tryz.prog 96 _ _ _ at hcon
    rw [List.size_toArray] at hcon
    refine hcon.mono ?_
    rintro e w' ⟨rfl, d', q, os, hp, hs, rfl⟩
    have hsz : d'.size = M.length := by simpa using hp.1
    have hd : d' = d'.toList.toArray := by simp
    have hl : d'.toList.length = M.length := by simpa using hsz
    refine ⟨d'.toList, rfl, fun _ => ?_, ?_, ?_, ?_⟩
    · refine ⟨g, (Go.Sort.putCells id 0 (Go.Sort.flatK encB 2 d') vs.toArray).toList, rfl, ?_, ?_⟩
      · unfold Lrow at r ⊢
        unfold sortWorldK Go.Sort.grow Go.Sort.putRowK Go.Sort.putRow Go.Sort.mapBlock
        have hlt : g < w.heap.size := Lrow.lt r
        rw [Array.getElem?_append_left (by simpa [Go.Sort.ahead] using hlt)]
        rw [Array.getElem?_modify]
        simp only [if_true]
        have : (Go.Sort.ahead w q).heap[g]? = w.heap[g]? := rfl
        rw [this, r]
        simp [Go.Sort.onCells]
      · apply List.ext_getElem?
        intro i
        rw [hl]
        by_cases hi : i < M.length * 2
        · rw [List.getElem?_take_of_lt hi]
          have h1 := flat_get d'.toList i (by rw [hl]; exact hi)
          rw [← hd] at h1
          rw [h1]
          simp only [Go.Sort.putCells, Array.toList_mapIdx, List.getElem?_mapIdx]
          rw [List.getElem?_eq_getElem (by omega)]
          simp only [Option.map_some]
          rw [if_pos (by simp; omega)]
          simp
        · rw [List.getElem?_eq_none (by rw [List.length_take]; omega), List.getElem?_eq_none (by rw [bcells_length]; omega)]
    · have h3 := hp.2.2
      have e1 : (d'.extract 0 M.length).toList = d'.toList := by rw [← hsz]; simp
      have e2 : (M.toArray.extract 0 M.length).toList = M := by simp
      rw [e1, e2] at h3
      exact h3
    · rw [List.pairwise_iff_getElem]
      intro i j hi hj hij
      have h4 := hs i j (Nat.zero_le _) hij (by rw [← hl]; exact hj)
      rw [lt_frame, decide_eq_false_iff_not] at h4
      rw [getElem!_pos d' i (by simpa using hi), getElem!_pos d' j (by simpa using hj)] at h4
      simp only [Array.getElem_toList]
      omega
    · intro B hB hBs
      have hBg := hB g rfl
      refine ⟨rfl, rfl, rfl, ?_, fun k hk => ?_⟩
      · unfold sortWorldK Go.Sort.grow Go.Sort.putRowK Go.Sort.putRow Go.Sort.mapBlock
        simp [Go.Sort.ahead]
      · unfold sortWorldK Go.Sort.grow Go.Sort.putRowK Go.Sort.putRow Go.Sort.mapBlock
        rw [Array.getElem?_append_left (by simp [Go.Sort.ahead]; omega), Array.getElem?_modify, if_neg (by omega)]
        rfl
  · have hM : M = [] := List.length_eq_zero_iff.1 (by omega)
    subst hM
    have hcon := AnyF.slices_SortFunc_none Tryz.sortB A c (.func (.func 97) #[] #[]) w
    change Calls Tryz.prog 96 _ _ _ at hcon
    refine hcon.mono ?_
    rintro e w' ⟨rfl, rfl⟩
    exact ⟨[], rfl, fun h => by simp at h, List.Perm.refl _, List.Pairwise.nil, fun B _ _ => Below.refl _ _⟩
end Go.Proofs.YtklhcgekagimkaaGreat
/- The contract of Blocks. -/
namespace Go.Proofs.YtklhcgekagimkaaGreat
variable {Xc : Nat → Prop}
open Go.RowKit

theorem info_block : (Tryz.prog.info? 92).map (fun i => (i.zero, i.size, i.bytes)) = some (some (.agg #[.int .i64 0, .int .i64 0]), 2, 16) := by kernel_rfl
theorem new_cells (w : World) (x y : Int) : ∀ (i : Nat) (u : Value), [Value.int .i64 x, Value.int .i64 y][i]? = some u → (w.alloc (.cells #[.int .i64 x, .int .i64 y] 92)).cell? ((⟨w.heap.size, 0, none⟩ : Addr).add i) = some u := fun i u hu => by
  rw [add_zero_off, (Lrow.new w _ [.int .i64 x, .int .i64 y]).cell]; exact hu
theorem two_one (x y : Int) : ∀ u ∈ [Value.int .i64 x, Value.int .i64 y], u.oneCell' = true := by
  intro u hu; simp at hu; rcases hu with rfl | rfl <;> rfl
theorem own_below {w w1 w2 : World} {B : Nat} {v : Value} {t : TypeId} {n : Nat} {xs : List Value} (hb : Below B w w1) (hB : B ≤ w1.heap.size) (ho : w1.ownsRow B t 2 v n xs) (hg : w1.grownBy w2 v.ownBlock) : Below B w w2 :=
  hb.grown hg hB (fun k e => (ho.lt k e).1)
/-- The lists below an order, one behind the other, as blocks. -/
def catL (L : Nat → List Nat) : Nat → List (Nat × Nat)
  | 0 => []
  | k + 1 => catL L k ++ (L k).map fun x => (x, k)
theorem catL_mem (L : Nat → List Nat) (x : Nat × Nat) : ∀ k, x ∈ catL L k ↔ x.2 < k ∧ x.1 ∈ L x.2 := by
  intro k
  induction k with
  | zero => simp [catL]
  | succ k ih =>
    simp only [catL, List.mem_append, ih, List.mem_map]
    constructor
    · rintro (⟨h1, h2⟩ | ⟨y, hy, rfl⟩)
      · exact ⟨by omega, h2⟩
      · exact ⟨by simp, hy⟩
    · rintro ⟨h1, h2⟩
      by_cases e : x.2 = k
      · right; exact ⟨x.1, by rw [← e]; exact h2, Prod.ext rfl e.symm⟩
      · left; exact ⟨by omega, h2⟩
theorem catL_len (L : Nat → List Nat) : ∀ k, (catL L k).length ≤ sumL L k := by
  intro k
  induction k with
  | zero => simp [catL, sumL]
  | succ k ih =>
    simp only [catL, List.length_append, List.length_map, sumL]
    have := Nat.le_mul_of_pos_right (L k).length (two_pos k)
    omega
section
variable {L : Nat → List Nat} {F : List Bool}
theorem catL_apart (hG : Good F L) : ∀ k, k ≤ 9 → (catL L k).Pairwise fun x y => x.1 ≠ y.1 := by
  intro k
  induction k with
  | zero => intro _; exact List.Pairwise.nil
  | succ k ih =>
    intro hk
    simp only [catL]
    rw [List.pairwise_append]
    refine ⟨ih (by omega), ?_, fun x hx y hy => ?_⟩
    · rw [List.pairwise_map]
      exact (hG.rise k (by omega)).imp fun {x y} h => Nat.ne_of_lt h
    · obtain ⟨z, hz, rfl⟩ := List.mem_map.1 hy
      obtain ⟨h1, h2⟩ := (catL_mem L x k).1 hx
      have m1 := (hG.mem x.2 (by omega) x.1).1 h2
      have m2 := (hG.mem k (by omega) z).1 hz
      intro e
      simp only at e
      have := mx_apart m1 m2 ⟨by have := two_pos k; omega, by have := two_pos x.2; omega⟩
      omega
theorem sorted_bk (hG : Good F L) {M : List (Nat × Nat)} (hp : M.Perm (catL L 9)) (hs : M.Pairwise fun x y => x.1 ≤ y.1) : M = bk F := by
  have hne : M.Pairwise fun x y => x.1 ≠ y.1 := (List.Perm.pairwise_iff (fun h => Ne.symm h) hp).2 (catL_apart hG 9 (by omega))
  refine rise_ext M (bk F) ((hs.and hne).imp fun {x y} h => by have := h.1; have := h.2; omega) (bk_rise F).less fun x => ?_
  rw [hp.mem_iff, catL_mem]
  constructor
  · rintro ⟨h1, h2⟩
    exact bk_mem.2 ((hG.mem x.2 (by omega) x.1).1 h2)
  · intro h
    have hm := bk_mem.1 (show (x.1, x.2) ∈ bk F from h)
    exact ⟨Nat.lt_succ_of_le hm.1, (hG.mem x.2 hm.1 x.1).2 hm⟩
end
section
variable {w : World} {B a n : Nat} {L : Nat → List Nat} {F : List Bool}
theorem own_row {W : World} {C : Nat} {A : Option Addr} {m c : Nat} {M : List (Nat × Nat)} (h : W.ownsRow C 92 2 (.slice A m c) m (bcells M)) : m = M.length ∧ BlkRow W A M ∧ ∀ g, A = some ⟨g, 0, none⟩ → C ≤ g := by
  have hl : m = M.length := by have := h.1; rw [bcells_length] at this; omega
  refine ⟨hl, ?_, ?_⟩
  · intro h0
    rcases h.2 with ⟨_, hn⟩ | ⟨g, cap, cur, hv, hb, hg, _, _, _, ht⟩
    · omega
    · injection hv with hA _ _
      exact ⟨g, cur.toList, hA, by unfold Lrow; rw [hg], by rw [← hl]; exact ht⟩
  · intro g hA
    rcases h.2 with ⟨hv, _⟩ | ⟨g', cap, cur, hv, hb, _⟩
    · injection hv with e _ _; rw [hA] at e; cases e
    · injection hv with e _ _
      rw [hA] at e
      injection e with e
      injection e with e
      omega
/-- The list of the free blocks. -/
def Lists (M : List (Nat × Nat)) (w : World) (e : Ending) (w' : World) : Prop := ∃ A c, e = .returned (.slice A M.length c) ∧ BlkRow w' A M ∧ Below w.heap.size w w'
set_option maxHeartbeats 1000000 in
set_option maxRecDepth 100000 in
theorem blocks_any (h : BudAt Xc B w a n L) (hG : Good F L) (hn : F.length ≤ 1024) :
    Calls Tryz.prog 76 #[.pointer (some ⟨a, 0, none⟩)] w (Lists (bk F) w) := by
  obtain ⟨p, c, hX⟩ := h
  have c0 := hX.field (k := 0) (by omega)
  have c1 := hX.field (k := 1) (by omega)
  have c2 := hX.field (k := 2) (by omega)
  have c3 := hX.field (k := 3) (by omega)
  have c4 := hX.field (k := 4) (by omega)
  have c5 := hX.field (k := 5) (by omega)
  have c6 := hX.field (k := 6) (by omega)
  have c7 := hX.field (k := 7) (by omega)
  have c8 := hX.field (k := 8) (by omega)
  simp only [Nat.reduceAdd] at c0 c1 c2 c3 c4 c5 c6 c7 c8
  obtain ⟨i0, hi0, hz0, hz1, hz2⟩ := info_parts info_block
  have HI := Lib.hid (And.intro hi0 (And.intro hz0 (And.intro hz1 hz2)))
  have hall : ∀ k, k ≤ 9 → (catL L k).length ≤ 1024 := fun k hk => by
    have h1 := catL_len L k
    have h2 := sumL_mono L hk
    have h3 := hG.cnt
    have h4 : F.count true ≤ F.length := List.count_le_length
    omega
  have hidx : ∀ k : Nat, k ≤ 8 → ∀ W, (Instr.index 130 (.agg #[.slice (slA (p 0)) (L 0).length (c 0), .slice (slA (p 1)) (L 1).length (c 1), .slice (slA (p 2)) (L 2).length (c 2), .slice (slA (p 3)) (L 3).length (c 3), .slice (slA (p 4)) (L 4).length (c 4), .slice (slA (p 5)) (L 5).length (c 5), .slice (slA (p 6)) (L 6).length (c 6), .slice (slA (p 7)) (L 7).length (c 7), .slice (slA (p 8)) (L 8).length (c 8)]) (.int .i64 k)).run Tryz.prog W = .ok (.slice (slA (p k)) (L k).length (c k)) W := fun k hk W => by
    rcases pow9 hk with rfl | rfl | rfl | rfl | rfl | rfl | rfl | rfl | rfl
    · exact idx0 _ _ _ _ _ _ _ _ _ W
    · exact idx1 _ _ _ _ _ _ _ _ _ W
    · exact idx2 _ _ _ _ _ _ _ _ _ W
    · exact idx3 _ _ _ _ _ _ _ _ _ W
    · exact idx4 _ _ _ _ _ _ _ _ _ W
    · exact idx5 _ _ _ _ _ _ _ _ _ W
    · exact idx6 _ _ _ _ _ _ _ _ _ W
    · exact idx7 _ _ _ _ _ _ _ _ _ W
    · exact idx8 _ _ _ _ _ _ _ _ _ W
  have HX := Lib.hid hX
  have HG := Lib.hid hG
  have HA := Lib.hid hall
  have HD := Lib.hid hidx
  clear hX hG hall hidx hi0 hz0 hz1 hz2 hn
  go_enter Tryz.func76, Tryz.ntmps76
  go_wp2
  clear c0 c1 c2 c3 c4 c5 c6 c7 c8
  generalize Value.agg #[.slice (slA (p 0)) (L 0).length (c 0), .slice (slA (p 1)) (L 1).length (c 1), .slice (slA (p 2)) (L 2).length (c 2), .slice (slA (p 3)) (L 3).length (c 3), .slice (slA (p 4)) (L 4).length (c 4), .slice (slA (p 5)) (L 5).length (c 5), .slice (slA (p 6)) (L 6).length (c 6), .slice (slA (p 7)) (L 7).length (c 7), .slice (slA (p 8)) (L 8).length (c 8)] = AG at HD ⊢
  go_loopw [3, 14] (fun v s wr => ∃ k : Nat, k ≤ 9 ∧ s = .int .i64 k ∧ wr.ownsRow w.heap.size 92 2 v (catL L k).length (bcells (catL L k)) ∧ Below w.heap.size w wr) (fun _ s _ => 9 - (intOf s).toNat)
  case atStart => exact ⟨0, by omega, rfl, World.ownsRow_nil _ _ _ _, Below.refl _ _⟩
  case round =>
    obtain ⟨k, hk, rfl, hown, hb⟩ := hrel
    by_cases hlt : k < 9
    · have hx := HD.out k (by omega)
      have HD9 : Hid (decide ((k : Int) < 9) = true) := by
        show _ = _
        simp; omega
      have HO := Lib.hid hown
      have HB := Lib.hid hb
      have hk8 : k ≤ 8 := by omega
      obtain ⟨A, hA⟩ : ∃ A, A = slA (p k) := ⟨_, rfl⟩
      obtain ⟨m, hm⟩ : ∃ m, m = (L k).length := ⟨_, rfl⟩
      rw [← hA, ← hm] at hx
      have HA' := Lib.hid hA
      have HM := Lib.hid hm
      clear hown hb hA hm
      go_wp2
      rw [HD9.out]
      clear hx
      obtain ⟨wo, rfl⟩ : ∃ wo : World, wo = wr := ⟨_, rfl⟩
      go_loopw [3, 20] (fun v s wi => ∃ j : Nat, j ≤ m ∧ s = .int .i64 j ∧ wi.ownsRow w.heap.size 92 2 v ((catL L k).length + j) (bcells (catL L k ++ ((L k).take j).map fun x => (x, k))) ∧ Below w.heap.size w wi) (fun _ s _ => m - (intOf s).toNat)
      case atStart => exact ⟨0, Nat.zero_le _, rfl, by simpa using HO.out, HB.out⟩
      case round =>
        obtain ⟨j, hj, rfl, hown, hbi⟩ := hrel
        by_cases hjm : j < m
        · have hXi := HX.out.call hbi
          have hjL : j < (L k).length := by rw [← HM.out]; exact hjm
          obtain ⟨b, hp⟩ : ∃ b, p k = some b := by
            cases hp : p k with
            | none => rw [(hXi.nil k hk8 hp).1] at hjL; simp at hjL
            | some b => exact ⟨b, rfl⟩
          obtain ⟨-, r, hr, -⟩ := hXi.row k hk8 b hp
          obtain ⟨x, hx'⟩ : ∃ x, x = (L k)[j] := ⟨_, rfl⟩
          have hc : wr.cell? ⟨b, j, none⟩ = some (.int .i64 x) := by
            rw [hr.cell, icells_get]
            unfold ints
            rw [List.getElem?_append_left (by simpa using hjL), List.getElem?_map, List.getElem?_eq_getElem hjL, hx']; rfl
          have hAb : A = some ⟨b, 0, none⟩ := by rw [HA'.out, hp]; rfl
          subst hAb
          have htk : (L k).take (j + 1) = (L k).take j ++ [x] := by rw [List.take_succ_eq_append_getElem hjL, hx']
          have HTK := Lib.hid htk
          have hlen : (catL L k).length + m ≤ 1024 := by
            have := HA.out (k + 1) (by omega)
            simp only [catL, List.length_append, List.length_map] at this
            rw [HM.out]; exact this
          obtain ⟨hi0, hz0, hz1, hz2⟩ := HI.out
          have hsz := hbi.size
          have HBI := Lib.hid hbi
          have HB2 := Lib.hid (hbi.alloc hsz (.cells #[.int .i64 x, .int .i64 k] 92))
          clear hbi hXi hr hx' htk hp
          go_wp2_with (at_builtin; refine wpList_append_own _ rfl _ _ 50 rfl w.heap.size 92 i0 (.agg #[.int .i64 0, .int .i64 0]) 2 16 Tryz.underlying50 hi0 hz0 hz1 hz2 rfl (by decide) _ ((catL L k).length + j) (bcells (catL L k ++ ((L k).take j).map fun x => (x, k))) rfl (hown.alloc _) ⟨wr.heap.size, 0, none⟩ 1 1 [.int .i64 x, .int .i64 k] rfl rfl (new_cells wr x k) (two_one x k) (by unfold maxLen; omega) (by omega) (by simp; omega) ?_; intro v' w2 hown2 hgr hn2)
          have HO2 := Lib.hid hown2
          have HB3 := Lib.hid (own_below HB2.out HB2.out.size (hown.alloc _) hgr)
          clear hown hown2 hgr hn2 HB2 hsz hi0 hz0 hz1 hz2
          go_wp2
          go_roundw
          case rel => exact ⟨j + 1, by omega, by go_num, by
              have h1 := HO2.out
              rw [HTK.out, List.map_append, ← List.append_assoc, bcells_append]
              exact h1, HB3.out⟩
          case measure => simp [intOf]; omega
        · obtain rfl : j = m := by omega
          have HOi := Lib.hid hown
          have HBi := Lib.hid hbi
          clear hown hbi
          go_wp2
          go_roundw
          case rel => exact ⟨k + 1, by omega, by go_num, by
              have h1 := HOi.out
              rw [HM.out, List.take_length] at h1
              simp only [catL, List.length_append, List.length_map]
              exact h1, HBi.out⟩
          case measure => simp [intOf]; omega
    · obtain rfl : k = 9 := by omega
      have hlen := HA.out 9 (by omega)
      obtain ⟨A, cc, hv⟩ : ∃ A cc, u3 = .slice A (catL L 9).length cc := by
        rcases hown.2 with ⟨h1, h2⟩ | ⟨g, cap, cur, h1, _⟩
        · exact ⟨none, 0, by rw [h1, h2]⟩
        · exact ⟨_, _, h1⟩
      subst hv
      obtain ⟨_, hrow, hbase⟩ := own_row hown
      have hS := sort_any hrow (by omega) cc
      have HB := Lib.hid hb
      have HBS := Lib.hid hbase
      clear hown hrow hb hbase
      go_wp2_with fail
      refine Calls.mono hS ?_
      rintro e w2 ⟨M', rfl, hr2, hp, hs, hbel⟩
      have HE := Lib.hid (sorted_bk HG.out hp hs)
      have hl := hp.length_eq
      have HL := Lib.hid hl
      have HR := Lib.hid hr2
      have HB2 := Lib.hid (HB.out.trans (hbel _ HBS.out HB.out.size))
      clear hr2 hp hs hbel hS hl
      go_wp2
      go_ret
      refine ⟨A, cc, ?_, by rw [← HE.out]; exact HR.out, HB2.out⟩
      show Ending.returned (.slice A (catL L 9).length cc) = _
      rw [← HE.out, HL.out]
end
end Go.Proofs.YtklhcgekagimkaaGreat
