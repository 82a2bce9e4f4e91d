/- The reference of package table: which entry a leaf is. -/
import Derived.Test.YtpcpcgbejinlmaaMk31
import Derived.Deep.RegionHeld3
import Derived.StillTailTactics
namespace Go.Proofs.Ytpcpcgbejinlmaa
open Go.RowKit
def nthL : List Oper → Nat → Option Oper
  | [], _ => none
  | a :: _, 0 => some a
  | _ :: r, n + 1 => nthL r n
theorem nthL_eq : ∀ (l : List Oper) (n : Nat), nthL l n = l[n]?
  | [], _ => rfl
  | _ :: _, 0 => rfl
  | a :: r, n + 1 => by rw [nthL, nthL_eq r n, List.getElem?_cons_succ]
theorem at_lit {l : List Oper} {i : Nat} {o : Oper} (h : nthL l i = some o) : l.toArray[i]? = some o := by
  rw [List.getElem?_toArray, ← nthL_eq]; exact h
theorem sAr {α : Type} (l : List α) (i : Nat) (a : α) : l.toArray.setIfInBounds i a = (l.set i a).toArray := List.setIfInBounds_toArray l i a
theorem sZe {α : Type} (x a : α) (l : List α) : (x :: l).set 0 a = a :: l := List.set_cons_zero
theorem sSu {α : Type} (x a : α) (l : List α) (i : Nat) : (x :: l).set (i + 1) a = x :: l.set i a := List.set_cons_succ
theorem tkY {P : Program} {md : Region.Mode} {ops : Array Oper} {Q : Exit → Act → World → Prop} {S : World → Prop} (i : Nat) {oi : Oper} {v : Value} {fuel : Nat} {listed : Array Bool} {a : Act} {w : World} (hi : ops[i]? = some oi)
    (hy : YieldsIf P ops S oi v a) (h : wpAnyH P md ops Q S fuel (listed.setIfInBounds i true) (a.put oi.dst v) w)
    (hs : Region.noSelect ops = true := by kernel_rfl) (hf : Region.free md ops listed i = true := by kernel_rfl) (hr : (Region.ready md ops listed).contains i = true := by kernel_rfl)
    (hQ : ∀ c a w, Q (.panic c) (a.put oi.dst v) w → Q (.panic c) a w := by exact fun _ _ _ h => h) (hS : S w := by assumption) : wpAnyH P md ops Q S (fuel + 1) listed a w :=
  wpAnyH_take hi hs hf hr hQ hy hS h
section
variable {w : World}
def Leafs (w : World) (f : Int) (p wr h k u d : Bool) (e : Ending) (w' : World) : Prop :=
  ∃ b, e = .returned (.tuple #[.agg #[.int .i64 f, .bool p, .bool wr, .bool h, .bool k, .bool u, .bool d], .bool b]) ∧ Below w.heap.size w w'
theorem seven_keep {W : World} {a g : Nat} {x0 x1 x2 x3 x4 x5 x6 y0 y1 y2 y3 y4 y5 y6 : Value} (hne : a ≠ g) (h : W.cell? ⟨a, 0, none⟩ = some x0 ∧ W.cell? ⟨a, 1, none⟩ = some x1 ∧ W.cell? ⟨a, 2, none⟩ = some x2 ∧ W.cell? ⟨a, 3, none⟩ = some x3 ∧ W.cell? ⟨a, 4, none⟩ = some x4 ∧ W.cell? ⟨a, 5, none⟩ = some x5 ∧ W.cell? ⟨a, 6, none⟩ = some x6) :
    (((((((W.setCell ⟨g, 0, none⟩ y0).setCell ⟨g, 1, none⟩ y1).setCell ⟨g, 2, none⟩ y2).setCell ⟨g, 3, none⟩ y3).setCell ⟨g, 4, none⟩ y4).setCell ⟨g, 5, none⟩ y5).setCell ⟨g, 6, none⟩ y6).cell? ⟨a, 0, none⟩ = some x0 ∧ (((((((W.setCell ⟨g, 0, none⟩ y0).setCell ⟨g, 1, none⟩ y1).setCell ⟨g, 2, none⟩ y2).setCell ⟨g, 3, none⟩ y3).setCell ⟨g, 4, none⟩ y4).setCell ⟨g, 5, none⟩ y5).setCell ⟨g, 6, none⟩ y6).cell? ⟨a, 1, none⟩ = some x1 ∧ (((((((W.setCell ⟨g, 0, none⟩ y0).setCell ⟨g, 1, none⟩ y1).setCell ⟨g, 2, none⟩ y2).setCell ⟨g, 3, none⟩ y3).setCell ⟨g, 4, none⟩ y4).setCell ⟨g, 5, none⟩ y5).setCell ⟨g, 6, none⟩ y6).cell? ⟨a, 2, none⟩ = some x2 ∧ (((((((W.setCell ⟨g, 0, none⟩ y0).setCell ⟨g, 1, none⟩ y1).setCell ⟨g, 2, none⟩ y2).setCell ⟨g, 3, none⟩ y3).setCell ⟨g, 4, none⟩ y4).setCell ⟨g, 5, none⟩ y5).setCell ⟨g, 6, none⟩ y6).cell? ⟨a, 3, none⟩ = some x3 ∧ (((((((W.setCell ⟨g, 0, none⟩ y0).setCell ⟨g, 1, none⟩ y1).setCell ⟨g, 2, none⟩ y2).setCell ⟨g, 3, none⟩ y3).setCell ⟨g, 4, none⟩ y4).setCell ⟨g, 5, none⟩ y5).setCell ⟨g, 6, none⟩ y6).cell? ⟨a, 4, none⟩ = some x4 ∧ (((((((W.setCell ⟨g, 0, none⟩ y0).setCell ⟨g, 1, none⟩ y1).setCell ⟨g, 2, none⟩ y2).setCell ⟨g, 3, none⟩ y3).setCell ⟨g, 4, none⟩ y4).setCell ⟨g, 5, none⟩ y5).setCell ⟨g, 6, none⟩ y6).cell? ⟨a, 5, none⟩ = some x5 ∧ (((((((W.setCell ⟨g, 0, none⟩ y0).setCell ⟨g, 1, none⟩ y1).setCell ⟨g, 2, none⟩ y2).setCell ⟨g, 3, none⟩ y3).setCell ⟨g, 4, none⟩ y4).setCell ⟨g, 5, none⟩ y5).setCell ⟨g, 6, none⟩ y6).cell? ⟨a, 6, none⟩ = some x6 := by
  have e := seven_heap W g y0 y1 y2 y3 y4 y5 y6 (k := a) hne
  generalize (((((((W.setCell ⟨g, 0, none⟩ y0).setCell ⟨g, 1, none⟩ y1).setCell ⟨g, 2, none⟩ y2).setCell ⟨g, 3, none⟩ y3).setCell ⟨g, 4, none⟩ y4).setCell ⟨g, 5, none⟩ y5).setCell ⟨g, 6, none⟩ y6) = W' at e ⊢
  have k : ∀ i, W'.cell? ⟨a, i, none⟩ = W.cell? ⟨a, i, none⟩ := fun i => World.cell?_of_block e
  exact ⟨(k 0).trans h.1, (k 1).trans h.2.1, (k 2).trans h.2.2.1, (k 3).trans h.2.2.2.1, (k 4).trans h.2.2.2.2.1, (k 5).trans h.2.2.2.2.2.1, (k 6).trans h.2.2.2.2.2.2⟩
theorem below_keep {W W' : World} {a : Nat} {x0 x1 x2 x3 x4 x5 x6 : Value} (h : W.cell? ⟨a, 0, none⟩ = some x0 ∧ W.cell? ⟨a, 1, none⟩ = some x1 ∧ W.cell? ⟨a, 2, none⟩ = some x2 ∧ W.cell? ⟨a, 3, none⟩ = some x3 ∧ W.cell? ⟨a, 4, none⟩ = some x4 ∧ W.cell? ⟨a, 5, none⟩ = some x5 ∧ W.cell? ⟨a, 6, none⟩ = some x6) (hb : Below W.heap.size W W') (ha : a < W.heap.size) :
    W'.cell? ⟨a, 0, none⟩ = some x0 ∧ W'.cell? ⟨a, 1, none⟩ = some x1 ∧ W'.cell? ⟨a, 2, none⟩ = some x2 ∧ W'.cell? ⟨a, 3, none⟩ = some x3 ∧ W'.cell? ⟨a, 4, none⟩ = some x4 ∧ W'.cell? ⟨a, 5, none⟩ = some x5 ∧ W'.cell? ⟨a, 6, none⟩ = some x6 :=
  have k : ∀ i, W'.cell? ⟨a, i, none⟩ = W.cell? ⟨a, i, none⟩ := fun i => hb.cell (p := ⟨a, i, none⟩) ha
  ⟨(k 0).trans h.1, (k 1).trans h.2.1, (k 2).trans h.2.2.1, (k 3).trans h.2.2.2.1, (k 4).trans h.2.2.2.2.1, (k 5).trans h.2.2.2.2.2.1, (k 6).trans h.2.2.2.2.2.2⟩
theorem seven_row {W : World} {g : Nat} {t : TypeId} {x0 x1 x2 x3 x4 x5 x6 y0 y1 y2 y3 y4 y5 y6 : Value} (h : Row W g t [x0, x1, x2, x3, x4, x5, x6]) : Row (((((((W.setCell ⟨g, 0, none⟩ y0).setCell ⟨g, 1, none⟩ y1).setCell ⟨g, 2, none⟩ y2).setCell ⟨g, 3, none⟩ y3).setCell ⟨g, 4, none⟩ y4).setCell ⟨g, 5, none⟩ y5).setCell ⟨g, 6, none⟩ y6) g t [y0, y1, y2, y3, y4, y5, y6] :=
  ((((((h.set_ 0 y0).set_ 1 y1).set_ 2 y2).set_ 3 y3).set_ 4 y4).set_ 5 y5).set_ 6 y6
set_option maxRecDepth 100000 in
set_option maxHeartbeats 2000000 in
theorem leaf8_nn (o f : Int) (wr h u d hb : Bool) (ho : decide (0 < o) = hb) : Calls Try.prog 61 #[.int .i64 o, .agg #[.int .i64 f, .bool false, .bool wr, .bool h, .bool false, .bool u, .bool d], .int .i64 512] w (Leafs w f false wr hb false u d) := by
  obtain ⟨g, hg⟩ : ∃ g, g = w.heap.size := ⟨_, rfl⟩
  have HG := Lib.hid hg
  obtain ⟨w1, hw1⟩ : ∃ w1, w1 = (w.alloc (.cells #[.int .i64 f, .bool false, .bool wr, .bool hb, .bool false, .bool u, .bool d] 28)).alloc (.cells #[.int .i64 0, .bool false, .bool false, .bool false, .bool false, .bool false, .bool false] 28) := ⟨_, rfl⟩
  have HW1 := Lib.hid hw1
  have r1 : Row w1 g 28 [.int .i64 f, .bool false, .bool wr, .bool hb, .bool false, .bool u, .bool d] := by rw [hw1, hg]; exact (Row.new w _ [.int .i64 f, .bool false, .bool wr, .bool hb, .bool false, .bool u, .bool d]).alloc _
  have q1 : Row w1 (g + 1) 28 [.int .i64 0, .bool false, .bool false, .bool false, .bool false, .bool false, .bool false] := by
    have := Row.new (w.alloc (.cells #[.int .i64 f, .bool false, .bool wr, .bool hb, .bool false, .bool u, .bool d] 28)) 28 [.int .i64 0, .bool false, .bool false, .bool false, .bool false, .bool false, .bool false]
    rw [hw1, hg]; simpa using this
  have b1 : Below w.heap.size w w1 := by rw [hw1]; exact ((Below.refl _ _).alloc (Nat.le_refl _) _).alloc (by simp) _
  have R1 := Lib.hid r1
  have Q1 := Lib.hid q1
  have B1 := Lib.hid b1
  have hs : (fun v => v.cell? ⟨g, 0, none⟩ = some (.int .i64 f) ∧ v.cell? ⟨g, 1, none⟩ = some (.bool false) ∧ v.cell? ⟨g, 2, none⟩ = some (.bool wr) ∧ v.cell? ⟨g, 3, none⟩ = some (.bool hb) ∧ v.cell? ⟨g, 4, none⟩ = some (.bool false) ∧ v.cell? ⟨g, 5, none⟩ = some (.bool u) ∧ v.cell? ⟨g, 6, none⟩ = some (.bool d)) w1.drew := ⟨r1.cell 0, r1.cell 1, r1.cell 2, r1.cell 3, r1.cell 4, r1.cell 5, r1.cell 6⟩
  clear hg hw1 r1 q1 b1
  go_enter Try.func61, Try.ntmps61
  go_upto_region 3 with (fail)
  rw [← HW1.out, ← HG.out]
  refine wp_region_held_drew (S := (fun v => v.cell? ⟨g, 0, none⟩ = some (.int .i64 f) ∧ v.cell? ⟨g, 1, none⟩ = some (.bool false) ∧ v.cell? ⟨g, 2, none⟩ = some (.bool wr) ∧ v.cell? ⟨g, 3, none⟩ = some (.bool hb) ∧ v.cell? ⟨g, 4, none⟩ = some (.bool false) ∧ v.cell? ⟨g, 5, none⟩ = some (.bool u) ∧ v.cell? ⟨g, 6, none⟩ = some (.bool d))) (by kernel_rfl) hs (fun hHeld => ?_)
  refine tkY 0 (at_lit rfl) (v := ?_) (Or.inl ⟨by rfl, ?_⟩) ?_
  rotate_left
  focus (intro _ h; (try dsimp only at h); go_simp; (try with_reducible rfl); done)
  (try simp only [Act.put, sAr, sZe, sSu])
  refine tkY 1 (at_lit rfl) (v := ?_) (Or.inl ⟨by rfl, ?_⟩) ?_
  rotate_left
  focus (intro _ h; (try dsimp only at h); go_simp; (try with_reducible rfl); done)
  (try simp only [Act.put, sAr, sZe, sSu])
  refine tkY 2 (at_lit rfl) (v := undef) (Or.inr ⟨by rfl, rfl⟩) ?_
  (try simp only [Act.put, sAr, sZe, sSu])
  refine tkY 3 (at_lit rfl) (v := undef) (Or.inr ⟨by rfl, rfl⟩) ?_
  (try simp only [Act.put, sAr, sZe, sSu])
  refine tkY 4 (at_lit rfl) (v := undef) (Or.inr ⟨by rfl, rfl⟩) ?_
  (try simp only [Act.put, sAr, sZe, sSu])
  refine tkY 5 (at_lit rfl) (v := ?_) (Or.inl ⟨by rfl, ?_⟩) ?_
  rotate_left
  focus (intro _ h; (try dsimp only at h); go_simp; (try with_reducible rfl); done)
  (try simp only [Act.put, sAr, sZe, sSu])
  refine tkY 6 (at_lit rfl) (v := ?_) (Or.inl ⟨by rfl, ?_⟩) ?_
  rotate_left
  focus (intro _ h; (try dsimp only at h); go_simp; (try with_reducible rfl); done)
  (try simp only [Act.put, sAr, sZe, sSu])
  refine tkY 7 (at_lit rfl) (v := undef) (Or.inr ⟨by rfl, rfl⟩) ?_
  (try simp only [Act.put, sAr, sZe, sSu])
  refine tkY 8 (at_lit rfl) (v := undef) (Or.inr ⟨by rfl, rfl⟩) ?_
  (try simp only [Act.put, sAr, sZe, sSu])
  refine tkY 9 (at_lit rfl) (v := undef) (Or.inr ⟨by rfl, rfl⟩) ?_
  (try simp only [Act.put, sAr, sZe, sSu])
  refine tkY 10 (at_lit rfl) (v := undef) (Or.inr ⟨by rfl, rfl⟩) ?_
  (try simp only [Act.put, sAr, sZe, sSu])
  refine tkY 11 (at_lit rfl) (v := undef) (Or.inr ⟨by rfl, rfl⟩) ?_
  (try simp only [Act.put, sAr, sZe, sSu])
  refine tkY 12 (at_lit rfl) (v := undef) (Or.inr ⟨by rfl, rfl⟩) ?_
  (try simp only [Act.put, sAr, sZe, sSu])
  refine tkY 13 (at_lit rfl) (v := ?_) (Or.inl ⟨by rfl, ?_⟩) ?_
  rotate_left
  focus (intro _ h; (try dsimp only at h); go_simp; (try with_reducible rfl); done)
  (try simp only [Act.put, sAr, sZe, sSu])
  refine tkY 14 (at_lit rfl) (v := ?_) (Or.inl ⟨by rfl, ?_⟩) ?_
  rotate_left
  focus (intro _ h; (try dsimp only at h); go_simp; (try with_reducible rfl); done)
  (try simp only [Act.put, sAr, sZe, sSu])
  refine wpAnyH_done (by kernel_rfl) ?_ _
  go_upto_region 4 with (fail)
  obtain ⟨w2, hw2⟩ : ∃ w2, w2 = w1.drew := ⟨_, rfl⟩
  have HQ2 : Hid (Row w2.drew (g + 1) 28 [.int .i64 0, .bool false, .bool false, .bool false, .bool false, .bool false, .bool false]) := hw2 ▸ Q1.out
  have BB : Hid (Below w.heap.size w w2.drew) := hw2 ▸ drewN_b B1.out 2
  have hs4 : (fun v => v.cell? ⟨g, 0, none⟩ = some (.int .i64 f) ∧ v.cell? ⟨g, 1, none⟩ = some (.bool false) ∧ v.cell? ⟨g, 2, none⟩ = some (.bool wr) ∧ v.cell? ⟨g, 3, none⟩ = some (.bool hb) ∧ v.cell? ⟨g, 4, none⟩ = some (.bool false) ∧ v.cell? ⟨g, 5, none⟩ = some (.bool u) ∧ v.cell? ⟨g, 6, none⟩ = some (.bool d)) w2.drew := hw2 ▸ hs
  rw [← hw2]
  clear hw2 hs hHeld
  refine wp_region_held_drew (S := (fun v => v.cell? ⟨g, 0, none⟩ = some (.int .i64 f) ∧ v.cell? ⟨g, 1, none⟩ = some (.bool false) ∧ v.cell? ⟨g, 2, none⟩ = some (.bool wr) ∧ v.cell? ⟨g, 3, none⟩ = some (.bool hb) ∧ v.cell? ⟨g, 4, none⟩ = some (.bool false) ∧ v.cell? ⟨g, 5, none⟩ = some (.bool u) ∧ v.cell? ⟨g, 6, none⟩ = some (.bool d))) (by kernel_rfl) hs4 (fun hHeld => ?_)
  generalize w2.drew = w6 at hHeld HQ2 BB hs4 ⊢
  refine tkY 1 (at_lit rfl) (v := ?_) (Or.inl ⟨by rfl, ?_⟩) ?_
  rotate_left
  focus (intro _ h; (try dsimp only at h); go_simp; (try with_reducible rfl); done)
  (try simp only [Act.put, sAr, sZe, sSu])
  refine tkY 2 (at_lit rfl) (v := ?_) (Or.inl ⟨by rfl, ?_⟩) ?_
  rotate_left
  focus (intro _ h; (try dsimp only at h); go_simp; (try with_reducible rfl); done)
  (try simp only [Act.put, sAr, sZe, sSu])
  refine tkY 3 (at_lit rfl) (v := undef) (Or.inr ⟨by rfl, rfl⟩) ?_
  (try simp only [Act.put, sAr, sZe, sSu])
  refine tkY 4 (at_lit rfl) (v := undef) (Or.inr ⟨by rfl, rfl⟩) ?_
  (try simp only [Act.put, sAr, sZe, sSu])
  refine tkY 5 (at_lit rfl) (v := undef) (Or.inr ⟨by rfl, rfl⟩) ?_
  (try simp only [Act.put, sAr, sZe, sSu])
  refine tkY 6 (at_lit rfl) (v := undef) (Or.inr ⟨by rfl, rfl⟩) ?_
  (try simp only [Act.put, sAr, sZe, sSu])
  refine tkY 7 (at_lit rfl) (v := undef) (Or.inr ⟨by rfl, rfl⟩) ?_
  (try simp only [Act.put, sAr, sZe, sSu])
  refine tkY 8 (at_lit rfl) (v := undef) (Or.inr ⟨by rfl, rfl⟩) ?_
  (try simp only [Act.put, sAr, sZe, sSu])
  refine tkY 9 (at_lit rfl) (v := undef) (Or.inr ⟨by rfl, rfl⟩) ?_
  (try simp only [Act.put, sAr, sZe, sSu])
  refine tkY 10 (at_lit rfl) (v := ?_) (Or.inl ⟨by rfl, ?_⟩) ?_
  rotate_left
  focus (intro _ h; (try dsimp only at h); go_simp; (try with_reducible rfl); done)
  (try simp only [Act.put, sAr, sZe, sSu])
  refine tkY 0 (at_lit rfl) (v := ?_) (Or.inl ⟨by rfl, ?_⟩) ?_
  rotate_left
  focus (intro _ h; (try dsimp only at h); go_simp; (try with_reducible rfl); done)
  (try simp only [Act.put, sAr, sZe, sSu])
  obtain ⟨⟨d0, d1, d2, d3, d4, d5, d6⟩, df⟩ := HQ2.out.seven
  have hne : ¬ g = g + 1 := by omega
  have hne2 : ¬ g + 1 = g := by omega
  refine wpAnyH_ready (rs := [11]) (by kernel_rfl) (by simp) ?_
  refine AllReadyH.cons (o := _) (at_lit rfl) (fun K hK => ?_) AllReadyH.nil
  go_simp
  go_wp2_with fail
  refine hK.out _ _ ?_ (fun hHeld => ?_)
  focus exact seven_keep hne hs4
  clear hK K
  have hr3 : Hid (Row (((((((w6.setCell ⟨g + 1, 0, none⟩ (.int .i64 f)).setCell ⟨g + 1, 1, none⟩ (.bool false)).setCell ⟨g + 1, 2, none⟩ (.bool wr)).setCell ⟨g + 1, 3, none⟩ (.bool hb)).setCell ⟨g + 1, 4, none⟩ (.bool false)).setCell ⟨g + 1, 5, none⟩ (.bool u)).setCell ⟨g + 1, 6, none⟩ (.bool d)) (g + 1) 28 [.int .i64 f, .bool false, .bool wr, .bool hb, .bool false, .bool u, .bool d]) := seven_row HQ2.out
  have hb3 : Hid (Below w.heap.size w (((((((w6.setCell ⟨g + 1, 0, none⟩ (.int .i64 f)).setCell ⟨g + 1, 1, none⟩ (.bool false)).setCell ⟨g + 1, 2, none⟩ (.bool wr)).setCell ⟨g + 1, 3, none⟩ (.bool hb)).setCell ⟨g + 1, 4, none⟩ (.bool false)).setCell ⟨g + 1, 5, none⟩ (.bool u)).setCell ⟨g + 1, 6, none⟩ (.bool d))) := below_7 BB.out (by have := HG.out; omega)
  generalize (((((((w6.setCell ⟨g + 1, 0, none⟩ (.int .i64 f)).setCell ⟨g + 1, 1, none⟩ (.bool false)).setCell ⟨g + 1, 2, none⟩ (.bool wr)).setCell ⟨g + 1, 3, none⟩ (.bool hb)).setCell ⟨g + 1, 4, none⟩ (.bool false)).setCell ⟨g + 1, 5, none⟩ (.bool u)).setCell ⟨g + 1, 6, none⟩ (.bool d)) = w3 at hHeld hr3 hb3 ⊢
  clear d0 d1 d2 d3 d4 d5 d6 df hs4 hne hne2
  refine tkY 12 (at_lit rfl) (v := ?_) (Or.inl ⟨by rfl, ?_⟩) ?_
  rotate_left
  focus (intro _ h; (try dsimp only at h); go_simp; (try with_reducible rfl); done)
  (try simp only [Act.put, sAr, sZe, sSu])
  refine wpAnyH_done (by kernel_rfl) ?_ _
  obtain ⟨⟨e0, e1, e2, e3, e4, e5, e6⟩, ef⟩ := hr3.out.seven
  go_wp2_with fail
  exact bodyPost_ret (v := .tuple #[.agg #[.int .i64 f, .bool false, .bool wr, .bool hb, .bool false, .bool u, .bool d], .bool false]) (by simp [results, Try.results61, go_sem, *]) rfl ⟨_, rfl, hb3.out⟩
set_option maxRecDepth 100000 in
set_option maxHeartbeats 2000000 in
theorem leaf8_nk (o f : Int) (wr h u d hb : Bool) (ho : decide (0 < o) = hb) (h0 : (o == 0) = false) : Calls Try.prog 61 #[.int .i64 o, .agg #[.int .i64 f, .bool false, .bool wr, .bool h, .bool true, .bool u, .bool d], .int .i64 512] w (Leafs w f false wr hb true u d) := by
  obtain ⟨g, hg⟩ : ∃ g, g = w.heap.size := ⟨_, rfl⟩
  have HG := Lib.hid hg
  obtain ⟨w1, hw1⟩ : ∃ w1, w1 = (w.alloc (.cells #[.int .i64 f, .bool false, .bool wr, .bool hb, .bool true, .bool u, .bool d] 28)).alloc (.cells #[.int .i64 0, .bool false, .bool false, .bool false, .bool false, .bool false, .bool false] 28) := ⟨_, rfl⟩
  have HW1 := Lib.hid hw1
  have r1 : Row w1 g 28 [.int .i64 f, .bool false, .bool wr, .bool hb, .bool true, .bool u, .bool d] := by rw [hw1, hg]; exact (Row.new w _ [.int .i64 f, .bool false, .bool wr, .bool hb, .bool true, .bool u, .bool d]).alloc _
  have q1 : Row w1 (g + 1) 28 [.int .i64 0, .bool false, .bool false, .bool false, .bool false, .bool false, .bool false] := by
    have := Row.new (w.alloc (.cells #[.int .i64 f, .bool false, .bool wr, .bool hb, .bool true, .bool u, .bool d] 28)) 28 [.int .i64 0, .bool false, .bool false, .bool false, .bool false, .bool false, .bool false]
    rw [hw1, hg]; simpa using this
  have b1 : Below w.heap.size w w1 := by rw [hw1]; exact ((Below.refl _ _).alloc (Nat.le_refl _) _).alloc (by simp) _
  have R1 := Lib.hid r1
  have Q1 := Lib.hid q1
  have B1 := Lib.hid b1
  have hs : (fun v => v.cell? ⟨g, 0, none⟩ = some (.int .i64 f) ∧ v.cell? ⟨g, 1, none⟩ = some (.bool false) ∧ v.cell? ⟨g, 2, none⟩ = some (.bool wr) ∧ v.cell? ⟨g, 3, none⟩ = some (.bool hb) ∧ v.cell? ⟨g, 4, none⟩ = some (.bool true) ∧ v.cell? ⟨g, 5, none⟩ = some (.bool u) ∧ v.cell? ⟨g, 6, none⟩ = some (.bool d)) w1.drew := ⟨r1.cell 0, r1.cell 1, r1.cell 2, r1.cell 3, r1.cell 4, r1.cell 5, r1.cell 6⟩
  clear hg hw1 r1 q1 b1
  go_enter Try.func61, Try.ntmps61
  go_upto_region 3 with (fail)
  rw [← HW1.out, ← HG.out]
  refine wp_region_held_drew (S := (fun v => v.cell? ⟨g, 0, none⟩ = some (.int .i64 f) ∧ v.cell? ⟨g, 1, none⟩ = some (.bool false) ∧ v.cell? ⟨g, 2, none⟩ = some (.bool wr) ∧ v.cell? ⟨g, 3, none⟩ = some (.bool hb) ∧ v.cell? ⟨g, 4, none⟩ = some (.bool true) ∧ v.cell? ⟨g, 5, none⟩ = some (.bool u) ∧ v.cell? ⟨g, 6, none⟩ = some (.bool d))) (by kernel_rfl) hs (fun hHeld => ?_)
  refine tkY 0 (at_lit rfl) (v := ?_) (Or.inl ⟨by rfl, ?_⟩) ?_
  rotate_left
  focus (intro _ h; (try dsimp only at h); go_simp; (try with_reducible rfl); done)
  (try simp only [Act.put, sAr, sZe, sSu])
  refine tkY 1 (at_lit rfl) (v := ?_) (Or.inl ⟨by rfl, ?_⟩) ?_
  rotate_left
  focus (intro _ h; (try dsimp only at h); go_simp; (try with_reducible rfl); done)
  (try simp only [Act.put, sAr, sZe, sSu])
  refine tkY 2 (at_lit rfl) (v := undef) (Or.inr ⟨by rfl, rfl⟩) ?_
  (try simp only [Act.put, sAr, sZe, sSu])
  refine tkY 3 (at_lit rfl) (v := undef) (Or.inr ⟨by rfl, rfl⟩) ?_
  (try simp only [Act.put, sAr, sZe, sSu])
  refine tkY 4 (at_lit rfl) (v := undef) (Or.inr ⟨by rfl, rfl⟩) ?_
  (try simp only [Act.put, sAr, sZe, sSu])
  refine tkY 5 (at_lit rfl) (v := ?_) (Or.inl ⟨by rfl, ?_⟩) ?_
  rotate_left
  focus (intro _ h; (try dsimp only at h); go_simp; (try with_reducible rfl); done)
  (try simp only [Act.put, sAr, sZe, sSu])
  refine tkY 6 (at_lit rfl) (v := ?_) (Or.inl ⟨by rfl, ?_⟩) ?_
  rotate_left
  focus (intro _ h; (try dsimp only at h); go_simp; (try with_reducible rfl); done)
  (try simp only [Act.put, sAr, sZe, sSu])
  refine tkY 7 (at_lit rfl) (v := undef) (Or.inr ⟨by rfl, rfl⟩) ?_
  (try simp only [Act.put, sAr, sZe, sSu])
  refine tkY 8 (at_lit rfl) (v := undef) (Or.inr ⟨by rfl, rfl⟩) ?_
  (try simp only [Act.put, sAr, sZe, sSu])
  refine tkY 9 (at_lit rfl) (v := undef) (Or.inr ⟨by rfl, rfl⟩) ?_
  (try simp only [Act.put, sAr, sZe, sSu])
  refine tkY 10 (at_lit rfl) (v := undef) (Or.inr ⟨by rfl, rfl⟩) ?_
  (try simp only [Act.put, sAr, sZe, sSu])
  refine tkY 11 (at_lit rfl) (v := undef) (Or.inr ⟨by rfl, rfl⟩) ?_
  (try simp only [Act.put, sAr, sZe, sSu])
  refine tkY 12 (at_lit rfl) (v := undef) (Or.inr ⟨by rfl, rfl⟩) ?_
  (try simp only [Act.put, sAr, sZe, sSu])
  refine tkY 13 (at_lit rfl) (v := ?_) (Or.inl ⟨by rfl, ?_⟩) ?_
  rotate_left
  focus (intro _ h; (try dsimp only at h); go_simp; (try with_reducible rfl); done)
  (try simp only [Act.put, sAr, sZe, sSu])
  refine tkY 14 (at_lit rfl) (v := ?_) (Or.inl ⟨by rfl, ?_⟩) ?_
  rotate_left
  focus (intro _ h; (try dsimp only at h); go_simp; (try with_reducible rfl); done)
  (try simp only [Act.put, sAr, sZe, sSu])
  refine wpAnyH_done (by kernel_rfl) ?_ _
  go_upto_region 4 with (fail)
  obtain ⟨w2, hw2⟩ : ∃ w2, w2 = w1.drew := ⟨_, rfl⟩
  have HQ2 : Hid (Row w2.drew (g + 1) 28 [.int .i64 0, .bool false, .bool false, .bool false, .bool false, .bool false, .bool false]) := hw2 ▸ Q1.out
  have BB : Hid (Below w.heap.size w w2.drew) := hw2 ▸ drewN_b B1.out 2
  have hs4 : (fun v => v.cell? ⟨g, 0, none⟩ = some (.int .i64 f) ∧ v.cell? ⟨g, 1, none⟩ = some (.bool false) ∧ v.cell? ⟨g, 2, none⟩ = some (.bool wr) ∧ v.cell? ⟨g, 3, none⟩ = some (.bool hb) ∧ v.cell? ⟨g, 4, none⟩ = some (.bool true) ∧ v.cell? ⟨g, 5, none⟩ = some (.bool u) ∧ v.cell? ⟨g, 6, none⟩ = some (.bool d)) w2.drew := hw2 ▸ hs
  rw [← hw2]
  clear hw2 hs hHeld
  refine wp_region_held_drew (S := (fun v => v.cell? ⟨g, 0, none⟩ = some (.int .i64 f) ∧ v.cell? ⟨g, 1, none⟩ = some (.bool false) ∧ v.cell? ⟨g, 2, none⟩ = some (.bool wr) ∧ v.cell? ⟨g, 3, none⟩ = some (.bool hb) ∧ v.cell? ⟨g, 4, none⟩ = some (.bool true) ∧ v.cell? ⟨g, 5, none⟩ = some (.bool u) ∧ v.cell? ⟨g, 6, none⟩ = some (.bool d))) (by kernel_rfl) hs4 (fun hHeld => ?_)
  generalize w2.drew = w6 at hHeld HQ2 BB hs4 ⊢
  refine tkY 1 (at_lit rfl) (v := ?_) (Or.inl ⟨by rfl, ?_⟩) ?_
  rotate_left
  focus (intro _ h; (try dsimp only at h); go_simp; (try with_reducible rfl); done)
  (try simp only [Act.put, sAr, sZe, sSu])
  refine tkY 2 (at_lit rfl) (v := ?_) (Or.inl ⟨by rfl, ?_⟩) ?_
  rotate_left
  focus (intro _ h; (try dsimp only at h); go_simp; (try with_reducible rfl); done)
  (try simp only [Act.put, sAr, sZe, sSu])
  refine tkY 3 (at_lit rfl) (v := undef) (Or.inr ⟨by rfl, rfl⟩) ?_
  (try simp only [Act.put, sAr, sZe, sSu])
  refine tkY 4 (at_lit rfl) (v := undef) (Or.inr ⟨by rfl, rfl⟩) ?_
  (try simp only [Act.put, sAr, sZe, sSu])
  refine tkY 5 (at_lit rfl) (v := undef) (Or.inr ⟨by rfl, rfl⟩) ?_
  (try simp only [Act.put, sAr, sZe, sSu])
  refine tkY 6 (at_lit rfl) (v := undef) (Or.inr ⟨by rfl, rfl⟩) ?_
  (try simp only [Act.put, sAr, sZe, sSu])
  refine tkY 7 (at_lit rfl) (v := undef) (Or.inr ⟨by rfl, rfl⟩) ?_
  (try simp only [Act.put, sAr, sZe, sSu])
  refine tkY 8 (at_lit rfl) (v := undef) (Or.inr ⟨by rfl, rfl⟩) ?_
  (try simp only [Act.put, sAr, sZe, sSu])
  refine tkY 9 (at_lit rfl) (v := undef) (Or.inr ⟨by rfl, rfl⟩) ?_
  (try simp only [Act.put, sAr, sZe, sSu])
  refine tkY 10 (at_lit rfl) (v := ?_) (Or.inl ⟨by rfl, ?_⟩) ?_
  rotate_left
  focus (intro _ h; (try dsimp only at h); go_simp; (try with_reducible rfl); done)
  (try simp only [Act.put, sAr, sZe, sSu])
  refine tkY 0 (at_lit rfl) (v := ?_) (Or.inl ⟨by rfl, ?_⟩) ?_
  rotate_left
  focus (intro _ h; (try dsimp only at h); go_simp; (try with_reducible rfl); done)
  (try simp only [Act.put, sAr, sZe, sSu])
  obtain ⟨⟨d0, d1, d2, d3, d4, d5, d6⟩, df⟩ := HQ2.out.seven
  have hne : ¬ g = g + 1 := by omega
  have hne2 : ¬ g + 1 = g := by omega
  refine wpAnyH_ready (rs := [11]) (by kernel_rfl) (by simp) ?_
  refine AllReadyH.cons (o := _) (at_lit rfl) (fun K hK => ?_) AllReadyH.nil
  go_simp
  go_wp2_with fail
  refine hK.out _ _ ?_ (fun hHeld => ?_)
  focus exact seven_keep hne hs4
  clear hK K
  have hr3 : Hid (Row (((((((w6.setCell ⟨g + 1, 0, none⟩ (.int .i64 f)).setCell ⟨g + 1, 1, none⟩ (.bool false)).setCell ⟨g + 1, 2, none⟩ (.bool wr)).setCell ⟨g + 1, 3, none⟩ (.bool hb)).setCell ⟨g + 1, 4, none⟩ (.bool true)).setCell ⟨g + 1, 5, none⟩ (.bool u)).setCell ⟨g + 1, 6, none⟩ (.bool d)) (g + 1) 28 [.int .i64 f, .bool false, .bool wr, .bool hb, .bool true, .bool u, .bool d]) := seven_row HQ2.out
  have hb3 : Hid (Below w.heap.size w (((((((w6.setCell ⟨g + 1, 0, none⟩ (.int .i64 f)).setCell ⟨g + 1, 1, none⟩ (.bool false)).setCell ⟨g + 1, 2, none⟩ (.bool wr)).setCell ⟨g + 1, 3, none⟩ (.bool hb)).setCell ⟨g + 1, 4, none⟩ (.bool true)).setCell ⟨g + 1, 5, none⟩ (.bool u)).setCell ⟨g + 1, 6, none⟩ (.bool d))) := below_7 BB.out (by have := HG.out; omega)
  generalize (((((((w6.setCell ⟨g + 1, 0, none⟩ (.int .i64 f)).setCell ⟨g + 1, 1, none⟩ (.bool false)).setCell ⟨g + 1, 2, none⟩ (.bool wr)).setCell ⟨g + 1, 3, none⟩ (.bool hb)).setCell ⟨g + 1, 4, none⟩ (.bool true)).setCell ⟨g + 1, 5, none⟩ (.bool u)).setCell ⟨g + 1, 6, none⟩ (.bool d)) = w3 at hHeld hr3 hb3 ⊢
  clear d0 d1 d2 d3 d4 d5 d6 df hs4 hne hne2
  refine tkY 12 (at_lit rfl) (v := ?_) (Or.inl ⟨by rfl, ?_⟩) ?_
  rotate_left
  focus (intro _ h; (try dsimp only at h); go_simp; (try with_reducible rfl); done)
  (try simp only [Act.put, sAr, sZe, sSu])
  refine wpAnyH_done (by kernel_rfl) ?_ _
  obtain ⟨⟨e0, e1, e2, e3, e4, e5, e6⟩, ef⟩ := hr3.out.seven
  go_wp2_with fail
  exact bodyPost_ret (v := .tuple #[.agg #[.int .i64 f, .bool false, .bool wr, .bool hb, .bool true, .bool u, .bool d], .bool false]) (by simp [results, Try.results61, go_sem, *]) rfl ⟨_, rfl, hb3.out⟩
set_option maxRecDepth 100000 in
set_option maxHeartbeats 2000000 in
theorem leaf8_pA (o f : Int) (wr h u d hb : Bool) (ho : decide (0 < o) = hb) (k : Bool) (z : Int) (hz : z = chkI f true wr hb k u d) (hz0 : (z == 0) = false) : Calls Try.prog 61 #[.int .i64 o, .agg #[.int .i64 f, .bool true, .bool wr, .bool h, .bool k, .bool u, .bool d], .int .i64 512] w (Leafs w f true wr hb k u d) := by
  obtain ⟨g, hg⟩ : ∃ g, g = w.heap.size := ⟨_, rfl⟩
  have HG := Lib.hid hg
  obtain ⟨w1, hw1⟩ : ∃ w1, w1 = (w.alloc (.cells #[.int .i64 f, .bool true, .bool wr, .bool hb, .bool k, .bool u, .bool d] 28)).alloc (.cells #[.int .i64 0, .bool false, .bool false, .bool false, .bool false, .bool false, .bool false] 28) := ⟨_, rfl⟩
  have HW1 := Lib.hid hw1
  have r1 : Row w1 g 28 [.int .i64 f, .bool true, .bool wr, .bool hb, .bool k, .bool u, .bool d] := by rw [hw1, hg]; exact (Row.new w _ [.int .i64 f, .bool true, .bool wr, .bool hb, .bool k, .bool u, .bool d]).alloc _
  have q1 : Row w1 (g + 1) 28 [.int .i64 0, .bool false, .bool false, .bool false, .bool false, .bool false, .bool false] := by
    have := Row.new (w.alloc (.cells #[.int .i64 f, .bool true, .bool wr, .bool hb, .bool k, .bool u, .bool d] 28)) 28 [.int .i64 0, .bool false, .bool false, .bool false, .bool false, .bool false, .bool false]
    rw [hw1, hg]; simpa using this
  have b1 : Below w.heap.size w w1 := by rw [hw1]; exact ((Below.refl _ _).alloc (Nat.le_refl _) _).alloc (by simp) _
  have R1 := Lib.hid r1
  have Q1 := Lib.hid q1
  have B1 := Lib.hid b1
  have hs : (fun v => v.cell? ⟨g, 0, none⟩ = some (.int .i64 f) ∧ v.cell? ⟨g, 1, none⟩ = some (.bool true) ∧ v.cell? ⟨g, 2, none⟩ = some (.bool wr) ∧ v.cell? ⟨g, 3, none⟩ = some (.bool hb) ∧ v.cell? ⟨g, 4, none⟩ = some (.bool k) ∧ v.cell? ⟨g, 5, none⟩ = some (.bool u) ∧ v.cell? ⟨g, 6, none⟩ = some (.bool d)) w1.drew := ⟨r1.cell 0, r1.cell 1, r1.cell 2, r1.cell 3, r1.cell 4, r1.cell 5, r1.cell 6⟩
  clear hg hw1 r1 q1 b1
  have hck := fun W => rcheck_any f true wr hb k u d W
  rw [← hz] at hck
  clear hz
  go_enter Try.func61, Try.ntmps61
  go_upto_region 3 with (fail)
  rw [← HW1.out, ← HG.out]
  have HQ : Hid (Row w1.drew (g + 1) 28 [.int .i64 0, .bool false, .bool false, .bool false, .bool false, .bool false, .bool false]) := Q1.out
  have BB : Hid (Below w.heap.size w w1.drew) := B1.out.drew
  have hgl : Hid (g < w1.drew.heap.size) := R1.out.lt
  have HG1 : Hid (g + 1 < w1.drew.heap.size) := Q1.out.lt
  refine wp_region_held_drew (S := (fun v => v.cell? ⟨g, 0, none⟩ = some (.int .i64 f) ∧ v.cell? ⟨g, 1, none⟩ = some (.bool true) ∧ v.cell? ⟨g, 2, none⟩ = some (.bool wr) ∧ v.cell? ⟨g, 3, none⟩ = some (.bool hb) ∧ v.cell? ⟨g, 4, none⟩ = some (.bool k) ∧ v.cell? ⟨g, 5, none⟩ = some (.bool u) ∧ v.cell? ⟨g, 6, none⟩ = some (.bool d))) (by kernel_rfl) hs (fun hHeld => ?_)
  generalize w1.drew = w5 at hHeld HQ BB hgl HG1 hs ⊢
  refine tkY 0 (at_lit rfl) (v := ?_) (Or.inl ⟨by rfl, ?_⟩) ?_
  rotate_left
  focus (intro _ h; (try dsimp only at h); go_simp; (try with_reducible rfl); done)
  (try simp only [Act.put, sAr, sZe, sSu])
  refine tkY 1 (at_lit rfl) (v := ?_) (Or.inl ⟨by rfl, ?_⟩) ?_
  rotate_left
  focus (intro _ h; (try dsimp only at h); go_simp; (try with_reducible rfl); done)
  (try simp only [Act.put, sAr, sZe, sSu])
  refine tkY 2 (at_lit rfl) (v := ?_) (Or.inl ⟨by rfl, ?_⟩) ?_
  rotate_left
  focus (intro _ h; (try dsimp only at h); go_simp; (try with_reducible rfl); done)
  (try simp only [Act.put, sAr, sZe, sSu])
  refine wpAnyH_ready (rs := [3]) (by kernel_rfl) (by simp) ?_
  refine AllReadyH.cons (o := _) (at_lit rfl) (fun K hK => ?_) AllReadyH.nil
  go_simp
  go_at_call 80
  refine (hck _).mono ?_
  rintro e w3 ⟨rfl, hb3⟩
  have hs3 := below_keep hHeld hb3 hgl.out
  have HQ3 := Lib.hid (HQ.out.below hb3 HG1.out)
  have BB3 := Lib.hid (BB.out.trans (hb3.mono BB.out.size))
  clear hb3 HQ BB hs hHeld
  have HQ := HQ3
  have BB := BB3
  clear HQ3 BB3
  go_wp2_with fail
  refine hK.out _ _ ?_ (fun hHeld => ?_)
  focus exact hs3
  clear hK K hgl HG1 hs3
  (try simp only [Act.put, sAr, sZe, sSu])
  refine tkY 4 (at_lit rfl) (v := ?_) (Or.inl ⟨by rfl, ?_⟩) ?_
  rotate_left
  focus (intro _ h; (try dsimp only at h); go_simp; (try with_reducible rfl); done)
  (try simp only [Act.put, sAr, sZe, sSu])
  refine tkY 5 (at_lit rfl) (v := ?_) (Or.inl ⟨by rfl, ?_⟩) ?_
  rotate_left
  focus (intro _ h; (try dsimp only at h); go_simp; (try with_reducible rfl); done)
  (try simp only [Act.put, sAr, sZe, sSu])
  refine tkY 6 (at_lit rfl) (v := ?_) (Or.inl ⟨by rfl, ?_⟩) ?_
  rotate_left
  focus (intro _ h; (try dsimp only at h); go_simp; (try with_reducible rfl); done)
  (try simp only [Act.put, sAr, sZe, sSu])
  refine tkY 7 (at_lit rfl) (v := undef) (Or.inr ⟨by rfl, rfl⟩) ?_
  (try simp only [Act.put, sAr, sZe, sSu])
  refine tkY 8 (at_lit rfl) (v := undef) (Or.inr ⟨by rfl, rfl⟩) ?_
  (try simp only [Act.put, sAr, sZe, sSu])
  refine tkY 9 (at_lit rfl) (v := undef) (Or.inr ⟨by rfl, rfl⟩) ?_
  (try simp only [Act.put, sAr, sZe, sSu])
  refine tkY 10 (at_lit rfl) (v := undef) (Or.inr ⟨by rfl, rfl⟩) ?_
  (try simp only [Act.put, sAr, sZe, sSu])
  refine tkY 11 (at_lit rfl) (v := undef) (Or.inr ⟨by rfl, rfl⟩) ?_
  (try simp only [Act.put, sAr, sZe, sSu])
  refine tkY 12 (at_lit rfl) (v := undef) (Or.inr ⟨by rfl, rfl⟩) ?_
  (try simp only [Act.put, sAr, sZe, sSu])
  refine tkY 13 (at_lit rfl) (v := ?_) (Or.inl ⟨by rfl, ?_⟩) ?_
  rotate_left
  focus (intro _ h; (try dsimp only at h); go_simp; (try with_reducible rfl); done)
  (try simp only [Act.put, sAr, sZe, sSu])
  refine tkY 14 (at_lit rfl) (v := ?_) (Or.inl ⟨by rfl, ?_⟩) ?_
  rotate_left
  focus (intro _ h; (try dsimp only at h); go_simp; (try with_reducible rfl); done)
  (try simp only [Act.put, sAr, sZe, sSu])
  refine wpAnyH_done (by kernel_rfl) ?_ _
  go_upto_region 4 with (fail)
  obtain ⟨w2, hw2⟩ : ∃ w2, w2 = w3 := ⟨_, rfl⟩
  have HQ2 : Hid (Row w2.drew (g + 1) 28 [.int .i64 0, .bool false, .bool false, .bool false, .bool false, .bool false, .bool false]) := hw2 ▸ HQ.out
  have BB2 : Hid (Below w.heap.size w w2.drew) := hw2 ▸ BB.out.drew
  have hs4 : (fun v => v.cell? ⟨g, 0, none⟩ = some (.int .i64 f) ∧ v.cell? ⟨g, 1, none⟩ = some (.bool true) ∧ v.cell? ⟨g, 2, none⟩ = some (.bool wr) ∧ v.cell? ⟨g, 3, none⟩ = some (.bool hb) ∧ v.cell? ⟨g, 4, none⟩ = some (.bool k) ∧ v.cell? ⟨g, 5, none⟩ = some (.bool u) ∧ v.cell? ⟨g, 6, none⟩ = some (.bool d)) w2.drew := hw2 ▸ hHeld
  rw [← hw2]
  clear hw2 hHeld HQ BB
  refine wp_region_held_drew (S := (fun v => v.cell? ⟨g, 0, none⟩ = some (.int .i64 f) ∧ v.cell? ⟨g, 1, none⟩ = some (.bool true) ∧ v.cell? ⟨g, 2, none⟩ = some (.bool wr) ∧ v.cell? ⟨g, 3, none⟩ = some (.bool hb) ∧ v.cell? ⟨g, 4, none⟩ = some (.bool k) ∧ v.cell? ⟨g, 5, none⟩ = some (.bool u) ∧ v.cell? ⟨g, 6, none⟩ = some (.bool d))) (by kernel_rfl) hs4 (fun hHeld => ?_)
  generalize w2.drew = w6 at hHeld HQ2 BB2 hs4 ⊢
  have BB := BB2
  clear BB2
  refine tkY 0 (at_lit rfl) (v := ?_) (Or.inl ⟨by rfl, ?_⟩) ?_
  rotate_left
  focus (intro _ h; (try dsimp only at h); go_simp; (try with_reducible rfl); done)
  (try simp only [Act.put, sAr, sZe, sSu])
  refine tkY 1 (at_lit rfl) (v := ?_) (Or.inl ⟨by rfl, ?_⟩) ?_
  rotate_left
  focus (intro _ h; (try dsimp only at h); go_simp; (try with_reducible rfl); done)
  (try simp only [Act.put, sAr, sZe, sSu])
  refine tkY 2 (at_lit rfl) (v := ?_) (Or.inl ⟨by rfl, ?_⟩) ?_
  rotate_left
  focus (intro _ h; (try dsimp only at h); go_simp; (try with_reducible rfl); done)
  (try simp only [Act.put, sAr, sZe, sSu])
  refine tkY 3 (at_lit rfl) (v := undef) (Or.inr ⟨by rfl, rfl⟩) ?_
  (try simp only [Act.put, sAr, sZe, sSu])
  refine tkY 4 (at_lit rfl) (v := undef) (Or.inr ⟨by rfl, rfl⟩) ?_
  (try simp only [Act.put, sAr, sZe, sSu])
  refine tkY 5 (at_lit rfl) (v := undef) (Or.inr ⟨by rfl, rfl⟩) ?_
  (try simp only [Act.put, sAr, sZe, sSu])
  refine tkY 6 (at_lit rfl) (v := undef) (Or.inr ⟨by rfl, rfl⟩) ?_
  (try simp only [Act.put, sAr, sZe, sSu])
  refine tkY 7 (at_lit rfl) (v := undef) (Or.inr ⟨by rfl, rfl⟩) ?_
  (try simp only [Act.put, sAr, sZe, sSu])
  refine tkY 8 (at_lit rfl) (v := undef) (Or.inr ⟨by rfl, rfl⟩) ?_
  (try simp only [Act.put, sAr, sZe, sSu])
  refine tkY 9 (at_lit rfl) (v := undef) (Or.inr ⟨by rfl, rfl⟩) ?_
  (try simp only [Act.put, sAr, sZe, sSu])
  refine tkY 10 (at_lit rfl) (v := ?_) (Or.inl ⟨by rfl, ?_⟩) ?_
  rotate_left
  focus (intro _ h; (try dsimp only at h); go_simp; (try with_reducible rfl); done)
  (try simp only [Act.put, sAr, sZe, sSu])
  obtain ⟨⟨d0, d1, d2, d3, d4, d5, d6⟩, df⟩ := HQ2.out.seven
  have hne : ¬ g = g + 1 := by omega
  have hne2 : ¬ g + 1 = g := by omega
  refine wpAnyH_ready (rs := [11]) (by kernel_rfl) (by simp) ?_
  refine AllReadyH.cons (o := _) (at_lit rfl) (fun K hK => ?_) AllReadyH.nil
  go_simp
  go_wp2_with fail
  refine hK.out _ _ ?_ (fun hHeld => ?_)
  focus exact seven_keep hne hs4
  clear hK K
  have hr3 : Hid (Row (((((((w6.setCell ⟨g + 1, 0, none⟩ (.int .i64 f)).setCell ⟨g + 1, 1, none⟩ (.bool true)).setCell ⟨g + 1, 2, none⟩ (.bool wr)).setCell ⟨g + 1, 3, none⟩ (.bool hb)).setCell ⟨g + 1, 4, none⟩ (.bool k)).setCell ⟨g + 1, 5, none⟩ (.bool u)).setCell ⟨g + 1, 6, none⟩ (.bool d)) (g + 1) 28 [.int .i64 f, .bool true, .bool wr, .bool hb, .bool k, .bool u, .bool d]) := seven_row HQ2.out
  have hb3 : Hid (Below w.heap.size w (((((((w6.setCell ⟨g + 1, 0, none⟩ (.int .i64 f)).setCell ⟨g + 1, 1, none⟩ (.bool true)).setCell ⟨g + 1, 2, none⟩ (.bool wr)).setCell ⟨g + 1, 3, none⟩ (.bool hb)).setCell ⟨g + 1, 4, none⟩ (.bool k)).setCell ⟨g + 1, 5, none⟩ (.bool u)).setCell ⟨g + 1, 6, none⟩ (.bool d))) := below_7 BB.out (by have := HG.out; omega)
  generalize (((((((w6.setCell ⟨g + 1, 0, none⟩ (.int .i64 f)).setCell ⟨g + 1, 1, none⟩ (.bool true)).setCell ⟨g + 1, 2, none⟩ (.bool wr)).setCell ⟨g + 1, 3, none⟩ (.bool hb)).setCell ⟨g + 1, 4, none⟩ (.bool k)).setCell ⟨g + 1, 5, none⟩ (.bool u)).setCell ⟨g + 1, 6, none⟩ (.bool d)) = w3 at hHeld hr3 hb3 ⊢
  clear d0 d1 d2 d3 d4 d5 d6 df hs4 hne hne2
  refine tkY 12 (at_lit rfl) (v := ?_) (Or.inl ⟨by rfl, ?_⟩) ?_
  rotate_left
  focus (intro _ h; (try dsimp only at h); go_simp; (try with_reducible rfl); done)
  (try simp only [Act.put, sAr, sZe, sSu])
  refine wpAnyH_done (by kernel_rfl) ?_ _
  obtain ⟨⟨e0, e1, e2, e3, e4, e5, e6⟩, ef⟩ := hr3.out.seven
  go_wp2_with fail
  exact bodyPost_ret (v := .tuple #[.agg #[.int .i64 f, .bool true, .bool wr, .bool hb, .bool k, .bool u, .bool d], .bool false]) (by simp [results, Try.results61, go_sem, *]) rfl ⟨_, rfl, hb3.out⟩
set_option maxRecDepth 100000 in
set_option maxHeartbeats 2000000 in
theorem leaf8_pC (o f : Int) (wr h u d hb : Bool) (ho : decide (0 < o) = hb) (k : Bool) (hz : chkI f true wr hb k u d = 0) (sz : Int) (hsz : szO o = sz) (hs0 : sz ≠ 0) (hr : (f.tmod sz == 0) = false) : Calls Try.prog 61 #[.int .i64 o, .agg #[.int .i64 f, .bool true, .bool wr, .bool h, .bool k, .bool u, .bool d], .int .i64 512] w (Leafs w f true wr hb k u d) := by
  obtain ⟨g, hg⟩ : ∃ g, g = w.heap.size := ⟨_, rfl⟩
  have HG := Lib.hid hg
  obtain ⟨w1, hw1⟩ : ∃ w1, w1 = (w.alloc (.cells #[.int .i64 f, .bool true, .bool wr, .bool hb, .bool k, .bool u, .bool d] 28)).alloc (.cells #[.int .i64 0, .bool false, .bool false, .bool false, .bool false, .bool false, .bool false] 28) := ⟨_, rfl⟩
  have HW1 := Lib.hid hw1
  have r1 : Row w1 g 28 [.int .i64 f, .bool true, .bool wr, .bool hb, .bool k, .bool u, .bool d] := by rw [hw1, hg]; exact (Row.new w _ [.int .i64 f, .bool true, .bool wr, .bool hb, .bool k, .bool u, .bool d]).alloc _
  have q1 : Row w1 (g + 1) 28 [.int .i64 0, .bool false, .bool false, .bool false, .bool false, .bool false, .bool false] := by
    have := Row.new (w.alloc (.cells #[.int .i64 f, .bool true, .bool wr, .bool hb, .bool k, .bool u, .bool d] 28)) 28 [.int .i64 0, .bool false, .bool false, .bool false, .bool false, .bool false, .bool false]
    rw [hw1, hg]; simpa using this
  have b1 : Below w.heap.size w w1 := by rw [hw1]; exact ((Below.refl _ _).alloc (Nat.le_refl _) _).alloc (by simp) _
  have R1 := Lib.hid r1
  have Q1 := Lib.hid q1
  have B1 := Lib.hid b1
  have hs : (fun v => v.cell? ⟨g, 0, none⟩ = some (.int .i64 f) ∧ v.cell? ⟨g, 1, none⟩ = some (.bool true) ∧ v.cell? ⟨g, 2, none⟩ = some (.bool wr) ∧ v.cell? ⟨g, 3, none⟩ = some (.bool hb) ∧ v.cell? ⟨g, 4, none⟩ = some (.bool k) ∧ v.cell? ⟨g, 5, none⟩ = some (.bool u) ∧ v.cell? ⟨g, 6, none⟩ = some (.bool d)) w1.drew := ⟨r1.cell 0, r1.cell 1, r1.cell 2, r1.cell 3, r1.cell 4, r1.cell 5, r1.cell 6⟩
  clear hg hw1 r1 q1 b1
  have hck := fun W => rcheck_any f true wr hb k u d W
  rw [hz] at hck
  clear hz
  have hsq : ∀ W : World, Calls Try.prog 79 #[.int .i64 o] W fun e W' => e = .returned (.int .i64 sz) ∧ W = W' := fun W => by rw [← hsz]; exact size8_any o W
  go_enter Try.func61, Try.ntmps61
  go_upto_region 3 with (fail)
  rw [← HW1.out, ← HG.out]
  have HQ : Hid (Row w1.drew (g + 1) 28 [.int .i64 0, .bool false, .bool false, .bool false, .bool false, .bool false, .bool false]) := Q1.out
  have BB : Hid (Below w.heap.size w w1.drew) := B1.out.drew
  have hgl : Hid (g < w1.drew.heap.size) := R1.out.lt
  have HG1 : Hid (g + 1 < w1.drew.heap.size) := Q1.out.lt
  refine wp_region_held_drew (S := (fun v => v.cell? ⟨g, 0, none⟩ = some (.int .i64 f) ∧ v.cell? ⟨g, 1, none⟩ = some (.bool true) ∧ v.cell? ⟨g, 2, none⟩ = some (.bool wr) ∧ v.cell? ⟨g, 3, none⟩ = some (.bool hb) ∧ v.cell? ⟨g, 4, none⟩ = some (.bool k) ∧ v.cell? ⟨g, 5, none⟩ = some (.bool u) ∧ v.cell? ⟨g, 6, none⟩ = some (.bool d))) (by kernel_rfl) hs (fun hHeld => ?_)
  generalize w1.drew = w5 at hHeld HQ BB hgl HG1 hs ⊢
  refine tkY 0 (at_lit rfl) (v := ?_) (Or.inl ⟨by rfl, ?_⟩) ?_
  rotate_left
  focus (intro _ h; (try dsimp only at h); go_simp; (try with_reducible rfl); done)
  (try simp only [Act.put, sAr, sZe, sSu])
  refine tkY 1 (at_lit rfl) (v := ?_) (Or.inl ⟨by rfl, ?_⟩) ?_
  rotate_left
  focus (intro _ h; (try dsimp only at h); go_simp; (try with_reducible rfl); done)
  (try simp only [Act.put, sAr, sZe, sSu])
  refine tkY 2 (at_lit rfl) (v := ?_) (Or.inl ⟨by rfl, ?_⟩) ?_
  rotate_left
  focus (intro _ h; (try dsimp only at h); go_simp; (try with_reducible rfl); done)
  (try simp only [Act.put, sAr, sZe, sSu])
  refine wpAnyH_ready (rs := [3]) (by kernel_rfl) (by simp) ?_
  refine AllReadyH.cons (o := _) (at_lit rfl) (fun K hK => ?_) AllReadyH.nil
  go_simp
  go_at_call 80
  refine (hck _).mono ?_
  rintro e w3 ⟨rfl, hb3⟩
  have hs3 := below_keep hHeld hb3 hgl.out
  have HQ3 := Lib.hid (HQ.out.below hb3 HG1.out)
  have BB3 := Lib.hid (BB.out.trans (hb3.mono BB.out.size))
  clear hb3 HQ BB hs hHeld
  have HQ := HQ3
  have BB := BB3
  clear HQ3 BB3
  go_wp2_with fail
  refine hK.out _ _ ?_ (fun hHeld => ?_)
  focus exact hs3
  clear hK K hgl HG1 hs3
  (try simp only [Act.put, sAr, sZe, sSu])
  refine tkY 4 (at_lit rfl) (v := ?_) (Or.inl ⟨by rfl, ?_⟩) ?_
  rotate_left
  focus (intro _ h; (try dsimp only at h); go_simp; (try with_reducible rfl); done)
  (try simp only [Act.put, sAr, sZe, sSu])
  refine tkY 5 (at_lit rfl) (v := ?_) (Or.inl ⟨by rfl, ?_⟩) ?_
  rotate_left
  focus (intro _ h; (try dsimp only at h); go_simp; (try with_reducible rfl); done)
  (try simp only [Act.put, sAr, sZe, sSu])
  refine tkY 6 (at_lit rfl) (v := ?_) (Or.inl ⟨by rfl, ?_⟩) ?_
  rotate_left
  focus (intro _ h; (try dsimp only at h); go_simp; (try with_reducible rfl); done)
  (try simp only [Act.put, sAr, sZe, sSu])
  refine tkY 7 (at_lit rfl) (v := ?_) (Or.inl ⟨by rfl, ?_⟩) ?_
  rotate_left
  focus (intro _ h; (try dsimp only at h); go_simp; (try with_reducible rfl); done)
  (try simp only [Act.put, sAr, sZe, sSu])
  refine tkY 8 (at_lit rfl) (v := ?_) (Or.inl ⟨by rfl, ?_⟩) ?_
  rotate_left
  focus (intro _ h; (try dsimp only at h); go_simp; (try with_reducible rfl); done)
  (try simp only [Act.put, sAr, sZe, sSu])
  refine tkY 9 (at_lit rfl) (v := ?_) (Or.inl ⟨by rfl, ?_⟩) ?_
  rotate_left
  focus (intro _ h; (try dsimp only at h); go_simp; (try with_reducible rfl); done)
  (try simp only [Act.put, sAr, sZe, sSu])
  refine wpAnyH_ready (rs := [10]) (by kernel_rfl) (by simp) ?_
  refine AllReadyH.cons (o := _) (at_lit rfl) (fun K hK => ?_) AllReadyH.nil
  go_simp
  go_at_call 79
  refine (hsq _).mono ?_
  rintro e w7 ⟨rfl, rfl⟩
  have hs3 := hHeld
  go_wp2_with fail
  refine hK.out _ _ ?_ (fun hHeld => ?_)
  focus exact hs3
  clear hK K hs3
  (try simp only [Act.put, sAr, sZe, sSu])
  refine tkY 11 (at_lit rfl) (v := ?_) (Or.inl ⟨by rfl, ?_⟩) ?_
  rotate_left
  focus (intro _ h; (try dsimp only at h); go_simp; (try with_reducible rfl); done)
  (try simp only [Act.put, sAr, sZe, sSu])
  refine tkY 12 (at_lit rfl) (v := ?_) (Or.inl ⟨by rfl, ?_⟩) ?_
  rotate_left
  focus (intro _ h; (try dsimp only at h); go_simp; (try with_reducible rfl); done)
  (try simp only [Act.put, sAr, sZe, sSu])
  refine tkY 13 (at_lit rfl) (v := ?_) (Or.inl ⟨by rfl, ?_⟩) ?_
  rotate_left
  focus (intro _ h; (try dsimp only at h); go_simp; (try with_reducible rfl); done)
  (try simp only [Act.put, sAr, sZe, sSu])
  refine tkY 14 (at_lit rfl) (v := ?_) (Or.inl ⟨by rfl, ?_⟩) ?_
  rotate_left
  focus (intro _ h; (try dsimp only at h); go_simp; (try with_reducible rfl); done)
  (try simp only [Act.put, sAr, sZe, sSu])
  refine wpAnyH_done (by kernel_rfl) ?_ _
  go_upto_region 4 with (fail)
  obtain ⟨w2, hw2⟩ : ∃ w2, w2 = w3 := ⟨_, rfl⟩
  have HQ2 : Hid (Row w2.drew (g + 1) 28 [.int .i64 0, .bool false, .bool false, .bool false, .bool false, .bool false, .bool false]) := hw2 ▸ HQ.out
  have BB2 : Hid (Below w.heap.size w w2.drew) := hw2 ▸ BB.out.drew
  have hs4 : (fun v => v.cell? ⟨g, 0, none⟩ = some (.int .i64 f) ∧ v.cell? ⟨g, 1, none⟩ = some (.bool true) ∧ v.cell? ⟨g, 2, none⟩ = some (.bool wr) ∧ v.cell? ⟨g, 3, none⟩ = some (.bool hb) ∧ v.cell? ⟨g, 4, none⟩ = some (.bool k) ∧ v.cell? ⟨g, 5, none⟩ = some (.bool u) ∧ v.cell? ⟨g, 6, none⟩ = some (.bool d)) w2.drew := hw2 ▸ hHeld
  rw [← hw2]
  clear hw2 hHeld HQ BB
  refine wp_region_held_drew (S := (fun v => v.cell? ⟨g, 0, none⟩ = some (.int .i64 f) ∧ v.cell? ⟨g, 1, none⟩ = some (.bool true) ∧ v.cell? ⟨g, 2, none⟩ = some (.bool wr) ∧ v.cell? ⟨g, 3, none⟩ = some (.bool hb) ∧ v.cell? ⟨g, 4, none⟩ = some (.bool k) ∧ v.cell? ⟨g, 5, none⟩ = some (.bool u) ∧ v.cell? ⟨g, 6, none⟩ = some (.bool d))) (by kernel_rfl) hs4 (fun hHeld => ?_)
  generalize w2.drew = w6 at hHeld HQ2 BB2 hs4 ⊢
  have BB := BB2
  clear BB2
  refine tkY 0 (at_lit rfl) (v := ?_) (Or.inl ⟨by rfl, ?_⟩) ?_
  rotate_left
  focus (intro _ h; (try dsimp only at h); go_simp; (try with_reducible rfl); done)
  (try simp only [Act.put, sAr, sZe, sSu])
  refine tkY 1 (at_lit rfl) (v := ?_) (Or.inl ⟨by rfl, ?_⟩) ?_
  rotate_left
  focus (intro _ h; (try dsimp only at h); go_simp; (try with_reducible rfl); done)
  (try simp only [Act.put, sAr, sZe, sSu])
  refine tkY 2 (at_lit rfl) (v := ?_) (Or.inl ⟨by rfl, ?_⟩) ?_
  rotate_left
  focus (intro _ h; (try dsimp only at h); go_simp; (try with_reducible rfl); done)
  (try simp only [Act.put, sAr, sZe, sSu])
  refine tkY 3 (at_lit rfl) (v := undef) (Or.inr ⟨by rfl, rfl⟩) ?_
  (try simp only [Act.put, sAr, sZe, sSu])
  refine tkY 4 (at_lit rfl) (v := undef) (Or.inr ⟨by rfl, rfl⟩) ?_
  (try simp only [Act.put, sAr, sZe, sSu])
  refine tkY 5 (at_lit rfl) (v := undef) (Or.inr ⟨by rfl, rfl⟩) ?_
  (try simp only [Act.put, sAr, sZe, sSu])
  refine tkY 6 (at_lit rfl) (v := undef) (Or.inr ⟨by rfl, rfl⟩) ?_
  (try simp only [Act.put, sAr, sZe, sSu])
  refine tkY 7 (at_lit rfl) (v := undef) (Or.inr ⟨by rfl, rfl⟩) ?_
  (try simp only [Act.put, sAr, sZe, sSu])
  refine tkY 8 (at_lit rfl) (v := undef) (Or.inr ⟨by rfl, rfl⟩) ?_
  (try simp only [Act.put, sAr, sZe, sSu])
  refine tkY 9 (at_lit rfl) (v := undef) (Or.inr ⟨by rfl, rfl⟩) ?_
  (try simp only [Act.put, sAr, sZe, sSu])
  refine tkY 10 (at_lit rfl) (v := ?_) (Or.inl ⟨by rfl, ?_⟩) ?_
  rotate_left
  focus (intro _ h; (try dsimp only at h); go_simp; (try with_reducible rfl); done)
  (try simp only [Act.put, sAr, sZe, sSu])
  obtain ⟨⟨d0, d1, d2, d3, d4, d5, d6⟩, df⟩ := HQ2.out.seven
  have hne : ¬ g = g + 1 := by omega
  have hne2 : ¬ g + 1 = g := by omega
  refine wpAnyH_ready (rs := [11]) (by kernel_rfl) (by simp) ?_
  refine AllReadyH.cons (o := _) (at_lit rfl) (fun K hK => ?_) AllReadyH.nil
  go_simp
  go_wp2_with fail
  refine hK.out _ _ ?_ (fun hHeld => ?_)
  focus exact seven_keep hne hs4
  clear hK K
  have hr3 : Hid (Row (((((((w6.setCell ⟨g + 1, 0, none⟩ (.int .i64 f)).setCell ⟨g + 1, 1, none⟩ (.bool true)).setCell ⟨g + 1, 2, none⟩ (.bool wr)).setCell ⟨g + 1, 3, none⟩ (.bool hb)).setCell ⟨g + 1, 4, none⟩ (.bool k)).setCell ⟨g + 1, 5, none⟩ (.bool u)).setCell ⟨g + 1, 6, none⟩ (.bool d)) (g + 1) 28 [.int .i64 f, .bool true, .bool wr, .bool hb, .bool k, .bool u, .bool d]) := seven_row HQ2.out
  have hb3 : Hid (Below w.heap.size w (((((((w6.setCell ⟨g + 1, 0, none⟩ (.int .i64 f)).setCell ⟨g + 1, 1, none⟩ (.bool true)).setCell ⟨g + 1, 2, none⟩ (.bool wr)).setCell ⟨g + 1, 3, none⟩ (.bool hb)).setCell ⟨g + 1, 4, none⟩ (.bool k)).setCell ⟨g + 1, 5, none⟩ (.bool u)).setCell ⟨g + 1, 6, none⟩ (.bool d))) := below_7 BB.out (by have := HG.out; omega)
  generalize (((((((w6.setCell ⟨g + 1, 0, none⟩ (.int .i64 f)).setCell ⟨g + 1, 1, none⟩ (.bool true)).setCell ⟨g + 1, 2, none⟩ (.bool wr)).setCell ⟨g + 1, 3, none⟩ (.bool hb)).setCell ⟨g + 1, 4, none⟩ (.bool k)).setCell ⟨g + 1, 5, none⟩ (.bool u)).setCell ⟨g + 1, 6, none⟩ (.bool d)) = w3 at hHeld hr3 hb3 ⊢
  clear d0 d1 d2 d3 d4 d5 d6 df hs4 hne hne2
  refine tkY 12 (at_lit rfl) (v := ?_) (Or.inl ⟨by rfl, ?_⟩) ?_
  rotate_left
  focus (intro _ h; (try dsimp only at h); go_simp; (try with_reducible rfl); done)
  (try simp only [Act.put, sAr, sZe, sSu])
  refine wpAnyH_done (by kernel_rfl) ?_ _
  obtain ⟨⟨e0, e1, e2, e3, e4, e5, e6⟩, ef⟩ := hr3.out.seven
  go_wp2_with fail
  exact bodyPost_ret (v := .tuple #[.agg #[.int .i64 f, .bool true, .bool wr, .bool hb, .bool k, .bool u, .bool d], .bool false]) (by simp [results, Try.results61, go_sem, *]) rfl ⟨_, rfl, hb3.out⟩
set_option maxRecDepth 100000 in
set_option maxHeartbeats 2000000 in
theorem leaf8_pD (o f : Int) (wr h u d hb : Bool) (ho : decide (0 < o) = hb) (k : Bool) (hz : chkI f true wr hb k u d = 0) (sz : Int) (hsz : szO o = sz) (hs0 : sz ≠ 0) (hr : (f.tmod sz == 0) = true) (hw : IntKind.i64.wrap (512 - sz) = 512 - sz) (bb : Bool) (hbb : decide (f ≤ 512 - sz) = bb) : Calls Try.prog 61 #[.int .i64 o, .agg #[.int .i64 f, .bool true, .bool wr, .bool h, .bool k, .bool u, .bool d], .int .i64 512] w (Leafs w f true wr hb k u d) := by
  obtain ⟨g, hg⟩ : ∃ g, g = w.heap.size := ⟨_, rfl⟩
  have HG := Lib.hid hg
  obtain ⟨w1, hw1⟩ : ∃ w1, w1 = (w.alloc (.cells #[.int .i64 f, .bool true, .bool wr, .bool hb, .bool k, .bool u, .bool d] 28)).alloc (.cells #[.int .i64 0, .bool false, .bool false, .bool false, .bool false, .bool false, .bool false] 28) := ⟨_, rfl⟩
  have HW1 := Lib.hid hw1
  have r1 : Row w1 g 28 [.int .i64 f, .bool true, .bool wr, .bool hb, .bool k, .bool u, .bool d] := by rw [hw1, hg]; exact (Row.new w _ [.int .i64 f, .bool true, .bool wr, .bool hb, .bool k, .bool u, .bool d]).alloc _
  have q1 : Row w1 (g + 1) 28 [.int .i64 0, .bool false, .bool false, .bool false, .bool false, .bool false, .bool false] := by
    have := Row.new (w.alloc (.cells #[.int .i64 f, .bool true, .bool wr, .bool hb, .bool k, .bool u, .bool d] 28)) 28 [.int .i64 0, .bool false, .bool false, .bool false, .bool false, .bool false, .bool false]
    rw [hw1, hg]; simpa using this
  have b1 : Below w.heap.size w w1 := by rw [hw1]; exact ((Below.refl _ _).alloc (Nat.le_refl _) _).alloc (by simp) _
  have R1 := Lib.hid r1
  have Q1 := Lib.hid q1
  have B1 := Lib.hid b1
  have hs : (fun v => v.cell? ⟨g, 0, none⟩ = some (.int .i64 f) ∧ v.cell? ⟨g, 1, none⟩ = some (.bool true) ∧ v.cell? ⟨g, 2, none⟩ = some (.bool wr) ∧ v.cell? ⟨g, 3, none⟩ = some (.bool hb) ∧ v.cell? ⟨g, 4, none⟩ = some (.bool k) ∧ v.cell? ⟨g, 5, none⟩ = some (.bool u) ∧ v.cell? ⟨g, 6, none⟩ = some (.bool d)) w1.drew := ⟨r1.cell 0, r1.cell 1, r1.cell 2, r1.cell 3, r1.cell 4, r1.cell 5, r1.cell 6⟩
  clear hg hw1 r1 q1 b1
  have hck := fun W => rcheck_any f true wr hb k u d W
  rw [hz] at hck
  clear hz
  have hsq : ∀ W : World, Calls Try.prog 79 #[.int .i64 o] W fun e W' => e = .returned (.int .i64 sz) ∧ W = W' := fun W => by rw [← hsz]; exact size8_any o W
  go_enter Try.func61, Try.ntmps61
  go_upto_region 3 with (fail)
  rw [← HW1.out, ← HG.out]
  have HQ : Hid (Row w1.drew (g + 1) 28 [.int .i64 0, .bool false, .bool false, .bool false, .bool false, .bool false, .bool false]) := Q1.out
  have BB : Hid (Below w.heap.size w w1.drew) := B1.out.drew
  have hgl : Hid (g < w1.drew.heap.size) := R1.out.lt
  have HG1 : Hid (g + 1 < w1.drew.heap.size) := Q1.out.lt
  refine wp_region_held_drew (S := (fun v => v.cell? ⟨g, 0, none⟩ = some (.int .i64 f) ∧ v.cell? ⟨g, 1, none⟩ = some (.bool true) ∧ v.cell? ⟨g, 2, none⟩ = some (.bool wr) ∧ v.cell? ⟨g, 3, none⟩ = some (.bool hb) ∧ v.cell? ⟨g, 4, none⟩ = some (.bool k) ∧ v.cell? ⟨g, 5, none⟩ = some (.bool u) ∧ v.cell? ⟨g, 6, none⟩ = some (.bool d))) (by kernel_rfl) hs (fun hHeld => ?_)
  generalize w1.drew = w5 at hHeld HQ BB hgl HG1 hs ⊢
  refine tkY 0 (at_lit rfl) (v := ?_) (Or.inl ⟨by rfl, ?_⟩) ?_
  rotate_left
  focus (intro _ h; (try dsimp only at h); go_simp; (try with_reducible rfl); done)
  (try simp only [Act.put, sAr, sZe, sSu])
  refine tkY 1 (at_lit rfl) (v := ?_) (Or.inl ⟨by rfl, ?_⟩) ?_
  rotate_left
  focus (intro _ h; (try dsimp only at h); go_simp; (try with_reducible rfl); done)
  (try simp only [Act.put, sAr, sZe, sSu])
  refine tkY 2 (at_lit rfl) (v := ?_) (Or.inl ⟨by rfl, ?_⟩) ?_
  rotate_left
  focus (intro _ h; (try dsimp only at h); go_simp; (try with_reducible rfl); done)
  (try simp only [Act.put, sAr, sZe, sSu])
  refine wpAnyH_ready (rs := [3]) (by kernel_rfl) (by simp) ?_
  refine AllReadyH.cons (o := _) (at_lit rfl) (fun K hK => ?_) AllReadyH.nil
  go_simp
  go_at_call 80
  refine (hck _).mono ?_
  rintro e w3 ⟨rfl, hb3⟩
  have hs3 := below_keep hHeld hb3 hgl.out
  have HQ3 := Lib.hid (HQ.out.below hb3 HG1.out)
  have BB3 := Lib.hid (BB.out.trans (hb3.mono BB.out.size))
  clear hb3 HQ BB hs hHeld
  have HQ := HQ3
  have BB := BB3
  clear HQ3 BB3
  go_wp2_with fail
  refine hK.out _ _ ?_ (fun hHeld => ?_)
  focus exact hs3
  clear hK K hgl HG1 hs3
  (try simp only [Act.put, sAr, sZe, sSu])
  refine tkY 4 (at_lit rfl) (v := ?_) (Or.inl ⟨by rfl, ?_⟩) ?_
  rotate_left
  focus (intro _ h; (try dsimp only at h); go_simp; (try with_reducible rfl); done)
  (try simp only [Act.put, sAr, sZe, sSu])
  refine tkY 5 (at_lit rfl) (v := ?_) (Or.inl ⟨by rfl, ?_⟩) ?_
  rotate_left
  focus (intro _ h; (try dsimp only at h); go_simp; (try with_reducible rfl); done)
  (try simp only [Act.put, sAr, sZe, sSu])
  refine tkY 6 (at_lit rfl) (v := ?_) (Or.inl ⟨by rfl, ?_⟩) ?_
  rotate_left
  focus (intro _ h; (try dsimp only at h); go_simp; (try with_reducible rfl); done)
  (try simp only [Act.put, sAr, sZe, sSu])
  refine tkY 7 (at_lit rfl) (v := ?_) (Or.inl ⟨by rfl, ?_⟩) ?_
  rotate_left
  focus (intro _ h; (try dsimp only at h); go_simp; (try with_reducible rfl); done)
  (try simp only [Act.put, sAr, sZe, sSu])
  refine tkY 8 (at_lit rfl) (v := ?_) (Or.inl ⟨by rfl, ?_⟩) ?_
  rotate_left
  focus (intro _ h; (try dsimp only at h); go_simp; (try with_reducible rfl); done)
  (try simp only [Act.put, sAr, sZe, sSu])
  refine tkY 9 (at_lit rfl) (v := ?_) (Or.inl ⟨by rfl, ?_⟩) ?_
  rotate_left
  focus (intro _ h; (try dsimp only at h); go_simp; (try with_reducible rfl); done)
  (try simp only [Act.put, sAr, sZe, sSu])
  refine wpAnyH_ready (rs := [10]) (by kernel_rfl) (by simp) ?_
  refine AllReadyH.cons (o := _) (at_lit rfl) (fun K hK => ?_) AllReadyH.nil
  go_simp
  go_at_call 79
  refine (hsq _).mono ?_
  rintro e w7 ⟨rfl, rfl⟩
  have hs3 := hHeld
  go_wp2_with fail
  refine hK.out _ _ ?_ (fun hHeld => ?_)
  focus exact hs3
  clear hK K hs3
  (try simp only [Act.put, sAr, sZe, sSu])
  refine tkY 11 (at_lit rfl) (v := ?_) (Or.inl ⟨by rfl, ?_⟩) ?_
  rotate_left
  focus (intro _ h; (try dsimp only at h); go_simp; (try with_reducible rfl); done)
  (try simp only [Act.put, sAr, sZe, sSu])
  refine tkY 12 (at_lit rfl) (v := ?_) (Or.inl ⟨by rfl, ?_⟩) ?_
  rotate_left
  focus (intro _ h; (try dsimp only at h); go_simp; (try with_reducible rfl); done)
  (try simp only [Act.put, sAr, sZe, sSu])
  refine tkY 13 (at_lit rfl) (v := ?_) (Or.inl ⟨by rfl, ?_⟩) ?_
  rotate_left
  focus (intro _ h; (try dsimp only at h); go_simp; (try with_reducible rfl); done)
  (try simp only [Act.put, sAr, sZe, sSu])
  refine tkY 14 (at_lit rfl) (v := ?_) (Or.inl ⟨by rfl, ?_⟩) ?_
  rotate_left
  focus (intro _ h; (try dsimp only at h); go_simp; (try with_reducible rfl); done)
  (try simp only [Act.put, sAr, sZe, sSu])
  refine wpAnyH_done (by kernel_rfl) ?_ _
  go_upto_region 4 with (fail)
  obtain ⟨w2, hw2⟩ : ∃ w2, w2 = w3 := ⟨_, rfl⟩
  have HQ2 : Hid (Row w2.drew (g + 1) 28 [.int .i64 0, .bool false, .bool false, .bool false, .bool false, .bool false, .bool false]) := hw2 ▸ HQ.out
  have BB2 : Hid (Below w.heap.size w w2.drew) := hw2 ▸ BB.out.drew
  have hs4 : (fun v => v.cell? ⟨g, 0, none⟩ = some (.int .i64 f) ∧ v.cell? ⟨g, 1, none⟩ = some (.bool true) ∧ v.cell? ⟨g, 2, none⟩ = some (.bool wr) ∧ v.cell? ⟨g, 3, none⟩ = some (.bool hb) ∧ v.cell? ⟨g, 4, none⟩ = some (.bool k) ∧ v.cell? ⟨g, 5, none⟩ = some (.bool u) ∧ v.cell? ⟨g, 6, none⟩ = some (.bool d)) w2.drew := hw2 ▸ hHeld
  rw [← hw2]
  clear hw2 hHeld HQ BB
  refine wp_region_held_drew (S := (fun v => v.cell? ⟨g, 0, none⟩ = some (.int .i64 f) ∧ v.cell? ⟨g, 1, none⟩ = some (.bool true) ∧ v.cell? ⟨g, 2, none⟩ = some (.bool wr) ∧ v.cell? ⟨g, 3, none⟩ = some (.bool hb) ∧ v.cell? ⟨g, 4, none⟩ = some (.bool k) ∧ v.cell? ⟨g, 5, none⟩ = some (.bool u) ∧ v.cell? ⟨g, 6, none⟩ = some (.bool d))) (by kernel_rfl) hs4 (fun hHeld => ?_)
  generalize w2.drew = w6 at hHeld HQ2 BB2 hs4 ⊢
  have BB := BB2
  clear BB2
  refine tkY 0 (at_lit rfl) (v := ?_) (Or.inl ⟨by rfl, ?_⟩) ?_
  rotate_left
  focus (intro _ h; (try dsimp only at h); go_simp; (try with_reducible rfl); done)
  (try simp only [Act.put, sAr, sZe, sSu])
  refine tkY 1 (at_lit rfl) (v := ?_) (Or.inl ⟨by rfl, ?_⟩) ?_
  rotate_left
  focus (intro _ h; (try dsimp only at h); go_simp; (try with_reducible rfl); done)
  (try simp only [Act.put, sAr, sZe, sSu])
  refine tkY 2 (at_lit rfl) (v := ?_) (Or.inl ⟨by rfl, ?_⟩) ?_
  rotate_left
  focus (intro _ h; (try dsimp only at h); go_simp; (try with_reducible rfl); done)
  (try simp only [Act.put, sAr, sZe, sSu])
  refine tkY 3 (at_lit rfl) (v := ?_) (Or.inl ⟨by rfl, ?_⟩) ?_
  rotate_left
  focus (intro _ h; (try dsimp only at h); go_simp; (try with_reducible rfl); done)
  (try simp only [Act.put, sAr, sZe, sSu])
  refine tkY 4 (at_lit rfl) (v := ?_) (Or.inl ⟨by rfl, ?_⟩) ?_
  rotate_left
  focus (intro _ h; (try dsimp only at h); go_simp; (try with_reducible rfl); done)
  (try simp only [Act.put, sAr, sZe, sSu])
  refine tkY 5 (at_lit rfl) (v := ?_) (Or.inl ⟨by rfl, ?_⟩) ?_
  rotate_left
  focus (intro _ h; (try dsimp only at h); go_simp; (try with_reducible rfl); done)
  (try simp only [Act.put, sAr, sZe, sSu])
  refine tkY 6 (at_lit rfl) (v := ?_) (Or.inl ⟨by rfl, ?_⟩) ?_
  rotate_left
  focus (intro _ h; (try dsimp only at h); go_simp; (try with_reducible rfl); done)
  (try simp only [Act.put, sAr, sZe, sSu])
  refine wpAnyH_ready (rs := [7]) (by kernel_rfl) (by simp) ?_
  refine AllReadyH.cons (o := _) (at_lit rfl) (fun K hK => ?_) AllReadyH.nil
  go_simp
  go_at_call 79
  refine (hsq _).mono ?_
  rintro e w7 ⟨rfl, rfl⟩
  go_wp2_with fail
  refine hK.out _ _ ?_ (fun hHeld => ?_)
  focus exact hs4
  clear hK K
  (try simp only [Act.put, sAr, sZe, sSu])
  refine tkY 8 (at_lit rfl) (v := ?_) (Or.inl ⟨by rfl, ?_⟩) ?_
  rotate_left
  focus (intro _ h; (try dsimp only at h); go_simp; (try with_reducible rfl); done)
  (try simp only [Act.put, sAr, sZe, sSu])
  refine tkY 9 (at_lit rfl) (v := ?_) (Or.inl ⟨by rfl, ?_⟩) ?_
  rotate_left
  focus (intro _ h; (try dsimp only at h); go_simp; (try with_reducible rfl); done)
  (try simp only [Act.put, sAr, sZe, sSu])
  refine tkY 10 (at_lit rfl) (v := ?_) (Or.inl ⟨by rfl, ?_⟩) ?_
  rotate_left
  focus (intro _ h; (try dsimp only at h); go_simp; (try with_reducible rfl); done)
  (try simp only [Act.put, sAr, sZe, sSu])
  obtain ⟨⟨d0, d1, d2, d3, d4, d5, d6⟩, df⟩ := HQ2.out.seven
  have hne : ¬ g = g + 1 := by omega
  have hne2 : ¬ g + 1 = g := by omega
  refine wpAnyH_ready (rs := [11]) (by kernel_rfl) (by simp) ?_
  refine AllReadyH.cons (o := _) (at_lit rfl) (fun K hK => ?_) AllReadyH.nil
  go_simp
  go_wp2_with fail
  refine hK.out _ _ ?_ (fun hHeld => ?_)
  focus exact seven_keep hne hs4
  clear hK K
  have hr3 : Hid (Row (((((((w6.setCell ⟨g + 1, 0, none⟩ (.int .i64 f)).setCell ⟨g + 1, 1, none⟩ (.bool true)).setCell ⟨g + 1, 2, none⟩ (.bool wr)).setCell ⟨g + 1, 3, none⟩ (.bool hb)).setCell ⟨g + 1, 4, none⟩ (.bool k)).setCell ⟨g + 1, 5, none⟩ (.bool u)).setCell ⟨g + 1, 6, none⟩ (.bool d)) (g + 1) 28 [.int .i64 f, .bool true, .bool wr, .bool hb, .bool k, .bool u, .bool d]) := seven_row HQ2.out
  have hb3 : Hid (Below w.heap.size w (((((((w6.setCell ⟨g + 1, 0, none⟩ (.int .i64 f)).setCell ⟨g + 1, 1, none⟩ (.bool true)).setCell ⟨g + 1, 2, none⟩ (.bool wr)).setCell ⟨g + 1, 3, none⟩ (.bool hb)).setCell ⟨g + 1, 4, none⟩ (.bool k)).setCell ⟨g + 1, 5, none⟩ (.bool u)).setCell ⟨g + 1, 6, none⟩ (.bool d))) := below_7 BB.out (by have := HG.out; omega)
  generalize (((((((w6.setCell ⟨g + 1, 0, none⟩ (.int .i64 f)).setCell ⟨g + 1, 1, none⟩ (.bool true)).setCell ⟨g + 1, 2, none⟩ (.bool wr)).setCell ⟨g + 1, 3, none⟩ (.bool hb)).setCell ⟨g + 1, 4, none⟩ (.bool k)).setCell ⟨g + 1, 5, none⟩ (.bool u)).setCell ⟨g + 1, 6, none⟩ (.bool d)) = w3 at hHeld hr3 hb3 ⊢
  clear d0 d1 d2 d3 d4 d5 d6 df hs4 hne hne2
  refine tkY 12 (at_lit rfl) (v := ?_) (Or.inl ⟨by rfl, ?_⟩) ?_
  rotate_left
  focus (intro _ h; (try dsimp only at h); go_simp; (try with_reducible rfl); done)
  (try simp only [Act.put, sAr, sZe, sSu])
  refine wpAnyH_done (by kernel_rfl) ?_ _
  obtain ⟨⟨e0, e1, e2, e3, e4, e5, e6⟩, ef⟩ := hr3.out.seven
  go_wp2_with fail
  exact bodyPost_ret (v := .tuple #[.agg #[.int .i64 f, .bool true, .bool wr, .bool hb, .bool k, .bool u, .bool d], .bool bb]) (by simp [results, Try.results61, go_sem, *]) rfl ⟨_, rfl, hb3.out⟩
set_option maxRecDepth 100000 in
set_option maxHeartbeats 2000000 in
theorem leaf8_zA (f : Int) (wr h u d : Bool) (z : Int) (hz : z = chkI f false wr false true u d) (hz0 : (z == 0) = false) : Calls Try.prog 61 #[.int .i64 0, .agg #[.int .i64 f, .bool false, .bool wr, .bool h, .bool true, .bool u, .bool d], .int .i64 512] w (Leafs w f false wr false true u d) := by
  obtain ⟨g, hg⟩ : ∃ g, g = w.heap.size := ⟨_, rfl⟩
  have HG := Lib.hid hg
  obtain ⟨w1, hw1⟩ : ∃ w1, w1 = (w.alloc (.cells #[.int .i64 f, .bool false, .bool wr, .bool false, .bool true, .bool u, .bool d] 28)).alloc (.cells #[.int .i64 0, .bool false, .bool false, .bool false, .bool false, .bool false, .bool false] 28) := ⟨_, rfl⟩
  have HW1 := Lib.hid hw1
  have r1 : Row w1 g 28 [.int .i64 f, .bool false, .bool wr, .bool false, .bool true, .bool u, .bool d] := by rw [hw1, hg]; exact (Row.new w _ [.int .i64 f, .bool false, .bool wr, .bool false, .bool true, .bool u, .bool d]).alloc _
  have q1 : Row w1 (g + 1) 28 [.int .i64 0, .bool false, .bool false, .bool false, .bool false, .bool false, .bool false] := by
    have := Row.new (w.alloc (.cells #[.int .i64 f, .bool false, .bool wr, .bool false, .bool true, .bool u, .bool d] 28)) 28 [.int .i64 0, .bool false, .bool false, .bool false, .bool false, .bool false, .bool false]
    rw [hw1, hg]; simpa using this
  have b1 : Below w.heap.size w w1 := by rw [hw1]; exact ((Below.refl _ _).alloc (Nat.le_refl _) _).alloc (by simp) _
  have R1 := Lib.hid r1
  have Q1 := Lib.hid q1
  have B1 := Lib.hid b1
  have hs : (fun v => v.cell? ⟨g, 0, none⟩ = some (.int .i64 f) ∧ v.cell? ⟨g, 1, none⟩ = some (.bool false) ∧ v.cell? ⟨g, 2, none⟩ = some (.bool wr) ∧ v.cell? ⟨g, 3, none⟩ = some (.bool false) ∧ v.cell? ⟨g, 4, none⟩ = some (.bool true) ∧ v.cell? ⟨g, 5, none⟩ = some (.bool u) ∧ v.cell? ⟨g, 6, none⟩ = some (.bool d)) w1.drew := ⟨r1.cell 0, r1.cell 1, r1.cell 2, r1.cell 3, r1.cell 4, r1.cell 5, r1.cell 6⟩
  clear hg hw1 r1 q1 b1
  have hck := fun W => rcheck_any f false wr false true u d W
  rw [← hz] at hck
  clear hz
  go_enter Try.func61, Try.ntmps61
  go_upto_region 3 with (fail)
  rw [← HW1.out, ← HG.out]
  have HQ : Hid (Row w1.drew (g + 1) 28 [.int .i64 0, .bool false, .bool false, .bool false, .bool false, .bool false, .bool false]) := Q1.out
  have BB : Hid (Below w.heap.size w w1.drew) := B1.out.drew
  have hgl : Hid (g < w1.drew.heap.size) := R1.out.lt
  have HG1 : Hid (g + 1 < w1.drew.heap.size) := Q1.out.lt
  refine wp_region_held_drew (S := (fun v => v.cell? ⟨g, 0, none⟩ = some (.int .i64 f) ∧ v.cell? ⟨g, 1, none⟩ = some (.bool false) ∧ v.cell? ⟨g, 2, none⟩ = some (.bool wr) ∧ v.cell? ⟨g, 3, none⟩ = some (.bool false) ∧ v.cell? ⟨g, 4, none⟩ = some (.bool true) ∧ v.cell? ⟨g, 5, none⟩ = some (.bool u) ∧ v.cell? ⟨g, 6, none⟩ = some (.bool d))) (by kernel_rfl) hs (fun hHeld => ?_)
  generalize w1.drew = w5 at hHeld HQ BB hgl HG1 hs ⊢
  refine tkY 0 (at_lit rfl) (v := ?_) (Or.inl ⟨by rfl, ?_⟩) ?_
  rotate_left
  focus (intro _ h; (try dsimp only at h); go_simp; (try with_reducible rfl); done)
  (try simp only [Act.put, sAr, sZe, sSu])
  refine tkY 1 (at_lit rfl) (v := ?_) (Or.inl ⟨by rfl, ?_⟩) ?_
  rotate_left
  focus (intro _ h; (try dsimp only at h); go_simp; (try with_reducible rfl); done)
  (try simp only [Act.put, sAr, sZe, sSu])
  refine tkY 2 (at_lit rfl) (v := ?_) (Or.inl ⟨by rfl, ?_⟩) ?_
  rotate_left
  focus (intro _ h; (try dsimp only at h); go_simp; (try with_reducible rfl); done)
  (try simp only [Act.put, sAr, sZe, sSu])
  refine wpAnyH_ready (rs := [3]) (by kernel_rfl) (by simp) ?_
  refine AllReadyH.cons (o := _) (at_lit rfl) (fun K hK => ?_) AllReadyH.nil
  go_simp
  go_at_call 80
  refine (hck _).mono ?_
  rintro e w3 ⟨rfl, hb3⟩
  have hs3 := below_keep hHeld hb3 hgl.out
  have HQ3 := Lib.hid (HQ.out.below hb3 HG1.out)
  have BB3 := Lib.hid (BB.out.trans (hb3.mono BB.out.size))
  clear hb3 HQ BB hs hHeld
  have HQ := HQ3
  have BB := BB3
  clear HQ3 BB3
  go_wp2_with fail
  refine hK.out _ _ ?_ (fun hHeld => ?_)
  focus exact hs3
  clear hK K hgl HG1 hs3
  (try simp only [Act.put, sAr, sZe, sSu])
  refine tkY 4 (at_lit rfl) (v := ?_) (Or.inl ⟨by rfl, ?_⟩) ?_
  rotate_left
  focus (intro _ h; (try dsimp only at h); go_simp; (try with_reducible rfl); done)
  (try simp only [Act.put, sAr, sZe, sSu])
  refine tkY 5 (at_lit rfl) (v := ?_) (Or.inl ⟨by rfl, ?_⟩) ?_
  rotate_left
  focus (intro _ h; (try dsimp only at h); go_simp; (try with_reducible rfl); done)
  (try simp only [Act.put, sAr, sZe, sSu])
  refine tkY 6 (at_lit rfl) (v := ?_) (Or.inl ⟨by rfl, ?_⟩) ?_
  rotate_left
  focus (intro _ h; (try dsimp only at h); go_simp; (try with_reducible rfl); done)
  (try simp only [Act.put, sAr, sZe, sSu])
  refine tkY 7 (at_lit rfl) (v := undef) (Or.inr ⟨by rfl, rfl⟩) ?_
  (try simp only [Act.put, sAr, sZe, sSu])
  refine tkY 8 (at_lit rfl) (v := undef) (Or.inr ⟨by rfl, rfl⟩) ?_
  (try simp only [Act.put, sAr, sZe, sSu])
  refine tkY 9 (at_lit rfl) (v := undef) (Or.inr ⟨by rfl, rfl⟩) ?_
  (try simp only [Act.put, sAr, sZe, sSu])
  refine tkY 10 (at_lit rfl) (v := undef) (Or.inr ⟨by rfl, rfl⟩) ?_
  (try simp only [Act.put, sAr, sZe, sSu])
  refine tkY 11 (at_lit rfl) (v := undef) (Or.inr ⟨by rfl, rfl⟩) ?_
  (try simp only [Act.put, sAr, sZe, sSu])
  refine tkY 12 (at_lit rfl) (v := undef) (Or.inr ⟨by rfl, rfl⟩) ?_
  (try simp only [Act.put, sAr, sZe, sSu])
  refine tkY 13 (at_lit rfl) (v := ?_) (Or.inl ⟨by rfl, ?_⟩) ?_
  rotate_left
  focus (intro _ h; (try dsimp only at h); go_simp; (try with_reducible rfl); done)
  (try simp only [Act.put, sAr, sZe, sSu])
  refine tkY 14 (at_lit rfl) (v := ?_) (Or.inl ⟨by rfl, ?_⟩) ?_
  rotate_left
  focus (intro _ h; (try dsimp only at h); go_simp; (try with_reducible rfl); done)
  (try simp only [Act.put, sAr, sZe, sSu])
  refine wpAnyH_done (by kernel_rfl) ?_ _
  go_upto_region 4 with (fail)
  obtain ⟨w2, hw2⟩ : ∃ w2, w2 = w3 := ⟨_, rfl⟩
  have HQ2 : Hid (Row w2.drew (g + 1) 28 [.int .i64 0, .bool false, .bool false, .bool false, .bool false, .bool false, .bool false]) := hw2 ▸ HQ.out
  have BB2 : Hid (Below w.heap.size w w2.drew) := hw2 ▸ BB.out.drew
  have hs4 : (fun v => v.cell? ⟨g, 0, none⟩ = some (.int .i64 f) ∧ v.cell? ⟨g, 1, none⟩ = some (.bool false) ∧ v.cell? ⟨g, 2, none⟩ = some (.bool wr) ∧ v.cell? ⟨g, 3, none⟩ = some (.bool false) ∧ v.cell? ⟨g, 4, none⟩ = some (.bool true) ∧ v.cell? ⟨g, 5, none⟩ = some (.bool u) ∧ v.cell? ⟨g, 6, none⟩ = some (.bool d)) w2.drew := hw2 ▸ hHeld
  rw [← hw2]
  clear hw2 hHeld HQ BB
  refine wp_region_held_drew (S := (fun v => v.cell? ⟨g, 0, none⟩ = some (.int .i64 f) ∧ v.cell? ⟨g, 1, none⟩ = some (.bool false) ∧ v.cell? ⟨g, 2, none⟩ = some (.bool wr) ∧ v.cell? ⟨g, 3, none⟩ = some (.bool false) ∧ v.cell? ⟨g, 4, none⟩ = some (.bool true) ∧ v.cell? ⟨g, 5, none⟩ = some (.bool u) ∧ v.cell? ⟨g, 6, none⟩ = some (.bool d))) (by kernel_rfl) hs4 (fun hHeld => ?_)
  generalize w2.drew = w6 at hHeld HQ2 BB2 hs4 ⊢
  have BB := BB2
  clear BB2
  refine tkY 0 (at_lit rfl) (v := ?_) (Or.inl ⟨by rfl, ?_⟩) ?_
  rotate_left
  focus (intro _ h; (try dsimp only at h); go_simp; (try with_reducible rfl); done)
  (try simp only [Act.put, sAr, sZe, sSu])
  refine tkY 1 (at_lit rfl) (v := ?_) (Or.inl ⟨by rfl, ?_⟩) ?_
  rotate_left
  focus (intro _ h; (try dsimp only at h); go_simp; (try with_reducible rfl); done)
  (try simp only [Act.put, sAr, sZe, sSu])
  refine tkY 2 (at_lit rfl) (v := ?_) (Or.inl ⟨by rfl, ?_⟩) ?_
  rotate_left
  focus (intro _ h; (try dsimp only at h); go_simp; (try with_reducible rfl); done)
  (try simp only [Act.put, sAr, sZe, sSu])
  refine tkY 3 (at_lit rfl) (v := undef) (Or.inr ⟨by rfl, rfl⟩) ?_
  (try simp only [Act.put, sAr, sZe, sSu])
  refine tkY 4 (at_lit rfl) (v := undef) (Or.inr ⟨by rfl, rfl⟩) ?_
  (try simp only [Act.put, sAr, sZe, sSu])
  refine tkY 5 (at_lit rfl) (v := undef) (Or.inr ⟨by rfl, rfl⟩) ?_
  (try simp only [Act.put, sAr, sZe, sSu])
  refine tkY 6 (at_lit rfl) (v := undef) (Or.inr ⟨by rfl, rfl⟩) ?_
  (try simp only [Act.put, sAr, sZe, sSu])
  refine tkY 7 (at_lit rfl) (v := undef) (Or.inr ⟨by rfl, rfl⟩) ?_
  (try simp only [Act.put, sAr, sZe, sSu])
  refine tkY 8 (at_lit rfl) (v := undef) (Or.inr ⟨by rfl, rfl⟩) ?_
  (try simp only [Act.put, sAr, sZe, sSu])
  refine tkY 9 (at_lit rfl) (v := undef) (Or.inr ⟨by rfl, rfl⟩) ?_
  (try simp only [Act.put, sAr, sZe, sSu])
  refine tkY 10 (at_lit rfl) (v := ?_) (Or.inl ⟨by rfl, ?_⟩) ?_
  rotate_left
  focus (intro _ h; (try dsimp only at h); go_simp; (try with_reducible rfl); done)
  (try simp only [Act.put, sAr, sZe, sSu])
  obtain ⟨⟨d0, d1, d2, d3, d4, d5, d6⟩, df⟩ := HQ2.out.seven
  have hne : ¬ g = g + 1 := by omega
  have hne2 : ¬ g + 1 = g := by omega
  refine wpAnyH_ready (rs := [11]) (by kernel_rfl) (by simp) ?_
  refine AllReadyH.cons (o := _) (at_lit rfl) (fun K hK => ?_) AllReadyH.nil
  go_simp
  go_wp2_with fail
  refine hK.out _ _ ?_ (fun hHeld => ?_)
  focus exact seven_keep hne hs4
  clear hK K
  have hr3 : Hid (Row (((((((w6.setCell ⟨g + 1, 0, none⟩ (.int .i64 f)).setCell ⟨g + 1, 1, none⟩ (.bool false)).setCell ⟨g + 1, 2, none⟩ (.bool wr)).setCell ⟨g + 1, 3, none⟩ (.bool false)).setCell ⟨g + 1, 4, none⟩ (.bool true)).setCell ⟨g + 1, 5, none⟩ (.bool u)).setCell ⟨g + 1, 6, none⟩ (.bool d)) (g + 1) 28 [.int .i64 f, .bool false, .bool wr, .bool false, .bool true, .bool u, .bool d]) := seven_row HQ2.out
  have hb3 : Hid (Below w.heap.size w (((((((w6.setCell ⟨g + 1, 0, none⟩ (.int .i64 f)).setCell ⟨g + 1, 1, none⟩ (.bool false)).setCell ⟨g + 1, 2, none⟩ (.bool wr)).setCell ⟨g + 1, 3, none⟩ (.bool false)).setCell ⟨g + 1, 4, none⟩ (.bool true)).setCell ⟨g + 1, 5, none⟩ (.bool u)).setCell ⟨g + 1, 6, none⟩ (.bool d))) := below_7 BB.out (by have := HG.out; omega)
  generalize (((((((w6.setCell ⟨g + 1, 0, none⟩ (.int .i64 f)).setCell ⟨g + 1, 1, none⟩ (.bool false)).setCell ⟨g + 1, 2, none⟩ (.bool wr)).setCell ⟨g + 1, 3, none⟩ (.bool false)).setCell ⟨g + 1, 4, none⟩ (.bool true)).setCell ⟨g + 1, 5, none⟩ (.bool u)).setCell ⟨g + 1, 6, none⟩ (.bool d)) = w3 at hHeld hr3 hb3 ⊢
  clear d0 d1 d2 d3 d4 d5 d6 df hs4 hne hne2
  refine tkY 12 (at_lit rfl) (v := ?_) (Or.inl ⟨by rfl, ?_⟩) ?_
  rotate_left
  focus (intro _ h; (try dsimp only at h); go_simp; (try with_reducible rfl); done)
  (try simp only [Act.put, sAr, sZe, sSu])
  refine wpAnyH_done (by kernel_rfl) ?_ _
  obtain ⟨⟨e0, e1, e2, e3, e4, e5, e6⟩, ef⟩ := hr3.out.seven
  go_wp2_with fail
  exact bodyPost_ret (v := .tuple #[.agg #[.int .i64 f, .bool false, .bool wr, .bool false, .bool true, .bool u, .bool d], .bool false]) (by simp [results, Try.results61, go_sem, *]) rfl ⟨_, rfl, hb3.out⟩
set_option maxRecDepth 100000 in
set_option maxHeartbeats 2000000 in
theorem leaf8_zC (f : Int) (wr h u d : Bool) (hz : chkI f false wr false true u d = 0) (sz : Int) (hsz : szO 0 = sz) (hs0 : sz ≠ 0) (hr : (f.tmod sz == 0) = false) : Calls Try.prog 61 #[.int .i64 0, .agg #[.int .i64 f, .bool false, .bool wr, .bool h, .bool true, .bool u, .bool d], .int .i64 512] w (Leafs w f false wr false true u d) := by
  obtain ⟨g, hg⟩ : ∃ g, g = w.heap.size := ⟨_, rfl⟩
  have HG := Lib.hid hg
  obtain ⟨w1, hw1⟩ : ∃ w1, w1 = (w.alloc (.cells #[.int .i64 f, .bool false, .bool wr, .bool false, .bool true, .bool u, .bool d] 28)).alloc (.cells #[.int .i64 0, .bool false, .bool false, .bool false, .bool false, .bool false, .bool false] 28) := ⟨_, rfl⟩
  have HW1 := Lib.hid hw1
  have r1 : Row w1 g 28 [.int .i64 f, .bool false, .bool wr, .bool false, .bool true, .bool u, .bool d] := by rw [hw1, hg]; exact (Row.new w _ [.int .i64 f, .bool false, .bool wr, .bool false, .bool true, .bool u, .bool d]).alloc _
  have q1 : Row w1 (g + 1) 28 [.int .i64 0, .bool false, .bool false, .bool false, .bool false, .bool false, .bool false] := by
    have := Row.new (w.alloc (.cells #[.int .i64 f, .bool false, .bool wr, .bool false, .bool true, .bool u, .bool d] 28)) 28 [.int .i64 0, .bool false, .bool false, .bool false, .bool false, .bool false, .bool false]
    rw [hw1, hg]; simpa using this
  have b1 : Below w.heap.size w w1 := by rw [hw1]; exact ((Below.refl _ _).alloc (Nat.le_refl _) _).alloc (by simp) _
  have R1 := Lib.hid r1
  have Q1 := Lib.hid q1
  have B1 := Lib.hid b1
  have hs : (fun v => v.cell? ⟨g, 0, none⟩ = some (.int .i64 f) ∧ v.cell? ⟨g, 1, none⟩ = some (.bool false) ∧ v.cell? ⟨g, 2, none⟩ = some (.bool wr) ∧ v.cell? ⟨g, 3, none⟩ = some (.bool false) ∧ v.cell? ⟨g, 4, none⟩ = some (.bool true) ∧ v.cell? ⟨g, 5, none⟩ = some (.bool u) ∧ v.cell? ⟨g, 6, none⟩ = some (.bool d)) w1.drew := ⟨r1.cell 0, r1.cell 1, r1.cell 2, r1.cell 3, r1.cell 4, r1.cell 5, r1.cell 6⟩
  clear hg hw1 r1 q1 b1
  have hck := fun W => rcheck_any f false wr false true u d W
  rw [hz] at hck
  clear hz
  have hsq : ∀ W : World, Calls Try.prog 79 #[.int .i64 0] W fun e W' => e = .returned (.int .i64 sz) ∧ W = W' := fun W => by rw [← hsz]; exact size8_any 0 W
  go_enter Try.func61, Try.ntmps61
  go_upto_region 3 with (fail)
  rw [← HW1.out, ← HG.out]
  have HQ : Hid (Row w1.drew (g + 1) 28 [.int .i64 0, .bool false, .bool false, .bool false, .bool false, .bool false, .bool false]) := Q1.out
  have BB : Hid (Below w.heap.size w w1.drew) := B1.out.drew
  have hgl : Hid (g < w1.drew.heap.size) := R1.out.lt
  have HG1 : Hid (g + 1 < w1.drew.heap.size) := Q1.out.lt
  refine wp_region_held_drew (S := (fun v => v.cell? ⟨g, 0, none⟩ = some (.int .i64 f) ∧ v.cell? ⟨g, 1, none⟩ = some (.bool false) ∧ v.cell? ⟨g, 2, none⟩ = some (.bool wr) ∧ v.cell? ⟨g, 3, none⟩ = some (.bool false) ∧ v.cell? ⟨g, 4, none⟩ = some (.bool true) ∧ v.cell? ⟨g, 5, none⟩ = some (.bool u) ∧ v.cell? ⟨g, 6, none⟩ = some (.bool d))) (by kernel_rfl) hs (fun hHeld => ?_)
  generalize w1.drew = w5 at hHeld HQ BB hgl HG1 hs ⊢
  refine tkY 0 (at_lit rfl) (v := ?_) (Or.inl ⟨by rfl, ?_⟩) ?_
  rotate_left
  focus (intro _ h; (try dsimp only at h); go_simp; (try with_reducible rfl); done)
  (try simp only [Act.put, sAr, sZe, sSu])
  refine tkY 1 (at_lit rfl) (v := ?_) (Or.inl ⟨by rfl, ?_⟩) ?_
  rotate_left
  focus (intro _ h; (try dsimp only at h); go_simp; (try with_reducible rfl); done)
  (try simp only [Act.put, sAr, sZe, sSu])
  refine tkY 2 (at_lit rfl) (v := ?_) (Or.inl ⟨by rfl, ?_⟩) ?_
  rotate_left
  focus (intro _ h; (try dsimp only at h); go_simp; (try with_reducible rfl); done)
  (try simp only [Act.put, sAr, sZe, sSu])
  refine wpAnyH_ready (rs := [3]) (by kernel_rfl) (by simp) ?_
  refine AllReadyH.cons (o := _) (at_lit rfl) (fun K hK => ?_) AllReadyH.nil
  go_simp
  go_at_call 80
  refine (hck _).mono ?_
  rintro e w3 ⟨rfl, hb3⟩
  have hs3 := below_keep hHeld hb3 hgl.out
  have HQ3 := Lib.hid (HQ.out.below hb3 HG1.out)
  have BB3 := Lib.hid (BB.out.trans (hb3.mono BB.out.size))
  clear hb3 HQ BB hs hHeld
  have HQ := HQ3
  have BB := BB3
  clear HQ3 BB3
  go_wp2_with fail
  refine hK.out _ _ ?_ (fun hHeld => ?_)
  focus exact hs3
  clear hK K hgl HG1 hs3
  (try simp only [Act.put, sAr, sZe, sSu])
  refine tkY 4 (at_lit rfl) (v := ?_) (Or.inl ⟨by rfl, ?_⟩) ?_
  rotate_left
  focus (intro _ h; (try dsimp only at h); go_simp; (try with_reducible rfl); done)
  (try simp only [Act.put, sAr, sZe, sSu])
  refine tkY 5 (at_lit rfl) (v := ?_) (Or.inl ⟨by rfl, ?_⟩) ?_
  rotate_left
  focus (intro _ h; (try dsimp only at h); go_simp; (try with_reducible rfl); done)
  (try simp only [Act.put, sAr, sZe, sSu])
  refine tkY 6 (at_lit rfl) (v := ?_) (Or.inl ⟨by rfl, ?_⟩) ?_
  rotate_left
  focus (intro _ h; (try dsimp only at h); go_simp; (try with_reducible rfl); done)
  (try simp only [Act.put, sAr, sZe, sSu])
  refine tkY 7 (at_lit rfl) (v := ?_) (Or.inl ⟨by rfl, ?_⟩) ?_
  rotate_left
  focus (intro _ h; (try dsimp only at h); go_simp; (try with_reducible rfl); done)
  (try simp only [Act.put, sAr, sZe, sSu])
  refine tkY 8 (at_lit rfl) (v := ?_) (Or.inl ⟨by rfl, ?_⟩) ?_
  rotate_left
  focus (intro _ h; (try dsimp only at h); go_simp; (try with_reducible rfl); done)
  (try simp only [Act.put, sAr, sZe, sSu])
  refine tkY 9 (at_lit rfl) (v := ?_) (Or.inl ⟨by rfl, ?_⟩) ?_
  rotate_left
  focus (intro _ h; (try dsimp only at h); go_simp; (try with_reducible rfl); done)
  (try simp only [Act.put, sAr, sZe, sSu])
  refine wpAnyH_ready (rs := [10]) (by kernel_rfl) (by simp) ?_
  refine AllReadyH.cons (o := _) (at_lit rfl) (fun K hK => ?_) AllReadyH.nil
  go_simp
  go_at_call 79
  refine (hsq _).mono ?_
  rintro e w7 ⟨rfl, rfl⟩
  have hs3 := hHeld
  go_wp2_with fail
  refine hK.out _ _ ?_ (fun hHeld => ?_)
  focus exact hs3
  clear hK K hs3
  (try simp only [Act.put, sAr, sZe, sSu])
  refine tkY 11 (at_lit rfl) (v := ?_) (Or.inl ⟨by rfl, ?_⟩) ?_
  rotate_left
  focus (intro _ h; (try dsimp only at h); go_simp; (try with_reducible rfl); done)
  (try simp only [Act.put, sAr, sZe, sSu])
  refine tkY 12 (at_lit rfl) (v := ?_) (Or.inl ⟨by rfl, ?_⟩) ?_
  rotate_left
  focus (intro _ h; (try dsimp only at h); go_simp; (try with_reducible rfl); done)
  (try simp only [Act.put, sAr, sZe, sSu])
  refine tkY 13 (at_lit rfl) (v := ?_) (Or.inl ⟨by rfl, ?_⟩) ?_
  rotate_left
  focus (intro _ h; (try dsimp only at h); go_simp; (try with_reducible rfl); done)
  (try simp only [Act.put, sAr, sZe, sSu])
  refine tkY 14 (at_lit rfl) (v := ?_) (Or.inl ⟨by rfl, ?_⟩) ?_
  rotate_left
  focus (intro _ h; (try dsimp only at h); go_simp; (try with_reducible rfl); done)
  (try simp only [Act.put, sAr, sZe, sSu])
  refine wpAnyH_done (by kernel_rfl) ?_ _
  go_upto_region 4 with (fail)
  obtain ⟨w2, hw2⟩ : ∃ w2, w2 = w3 := ⟨_, rfl⟩
  have HQ2 : Hid (Row w2.drew (g + 1) 28 [.int .i64 0, .bool false, .bool false, .bool false, .bool false, .bool false, .bool false]) := hw2 ▸ HQ.out
  have BB2 : Hid (Below w.heap.size w w2.drew) := hw2 ▸ BB.out.drew
  have hs4 : (fun v => v.cell? ⟨g, 0, none⟩ = some (.int .i64 f) ∧ v.cell? ⟨g, 1, none⟩ = some (.bool false) ∧ v.cell? ⟨g, 2, none⟩ = some (.bool wr) ∧ v.cell? ⟨g, 3, none⟩ = some (.bool false) ∧ v.cell? ⟨g, 4, none⟩ = some (.bool true) ∧ v.cell? ⟨g, 5, none⟩ = some (.bool u) ∧ v.cell? ⟨g, 6, none⟩ = some (.bool d)) w2.drew := hw2 ▸ hHeld
  rw [← hw2]
  clear hw2 hHeld HQ BB
  refine wp_region_held_drew (S := (fun v => v.cell? ⟨g, 0, none⟩ = some (.int .i64 f) ∧ v.cell? ⟨g, 1, none⟩ = some (.bool false) ∧ v.cell? ⟨g, 2, none⟩ = some (.bool wr) ∧ v.cell? ⟨g, 3, none⟩ = some (.bool false) ∧ v.cell? ⟨g, 4, none⟩ = some (.bool true) ∧ v.cell? ⟨g, 5, none⟩ = some (.bool u) ∧ v.cell? ⟨g, 6, none⟩ = some (.bool d))) (by kernel_rfl) hs4 (fun hHeld => ?_)
  generalize w2.drew = w6 at hHeld HQ2 BB2 hs4 ⊢
  have BB := BB2
  clear BB2
  refine tkY 0 (at_lit rfl) (v := ?_) (Or.inl ⟨by rfl, ?_⟩) ?_
  rotate_left
  focus (intro _ h; (try dsimp only at h); go_simp; (try with_reducible rfl); done)
  (try simp only [Act.put, sAr, sZe, sSu])
  refine tkY 1 (at_lit rfl) (v := ?_) (Or.inl ⟨by rfl, ?_⟩) ?_
  rotate_left
  focus (intro _ h; (try dsimp only at h); go_simp; (try with_reducible rfl); done)
  (try simp only [Act.put, sAr, sZe, sSu])
  refine tkY 2 (at_lit rfl) (v := ?_) (Or.inl ⟨by rfl, ?_⟩) ?_
  rotate_left
  focus (intro _ h; (try dsimp only at h); go_simp; (try with_reducible rfl); done)
  (try simp only [Act.put, sAr, sZe, sSu])
  refine tkY 3 (at_lit rfl) (v := undef) (Or.inr ⟨by rfl, rfl⟩) ?_
  (try simp only [Act.put, sAr, sZe, sSu])
  refine tkY 4 (at_lit rfl) (v := undef) (Or.inr ⟨by rfl, rfl⟩) ?_
  (try simp only [Act.put, sAr, sZe, sSu])
  refine tkY 5 (at_lit rfl) (v := undef) (Or.inr ⟨by rfl, rfl⟩) ?_
  (try simp only [Act.put, sAr, sZe, sSu])
  refine tkY 6 (at_lit rfl) (v := undef) (Or.inr ⟨by rfl, rfl⟩) ?_
  (try simp only [Act.put, sAr, sZe, sSu])
  refine tkY 7 (at_lit rfl) (v := undef) (Or.inr ⟨by rfl, rfl⟩) ?_
  (try simp only [Act.put, sAr, sZe, sSu])
  refine tkY 8 (at_lit rfl) (v := undef) (Or.inr ⟨by rfl, rfl⟩) ?_
  (try simp only [Act.put, sAr, sZe, sSu])
  refine tkY 9 (at_lit rfl) (v := undef) (Or.inr ⟨by rfl, rfl⟩) ?_
  (try simp only [Act.put, sAr, sZe, sSu])
  refine tkY 10 (at_lit rfl) (v := ?_) (Or.inl ⟨by rfl, ?_⟩) ?_
  rotate_left
  focus (intro _ h; (try dsimp only at h); go_simp; (try with_reducible rfl); done)
  (try simp only [Act.put, sAr, sZe, sSu])
  obtain ⟨⟨d0, d1, d2, d3, d4, d5, d6⟩, df⟩ := HQ2.out.seven
  have hne : ¬ g = g + 1 := by omega
  have hne2 : ¬ g + 1 = g := by omega
  refine wpAnyH_ready (rs := [11]) (by kernel_rfl) (by simp) ?_
  refine AllReadyH.cons (o := _) (at_lit rfl) (fun K hK => ?_) AllReadyH.nil
  go_simp
  go_wp2_with fail
  refine hK.out _ _ ?_ (fun hHeld => ?_)
  focus exact seven_keep hne hs4
  clear hK K
  have hr3 : Hid (Row (((((((w6.setCell ⟨g + 1, 0, none⟩ (.int .i64 f)).setCell ⟨g + 1, 1, none⟩ (.bool false)).setCell ⟨g + 1, 2, none⟩ (.bool wr)).setCell ⟨g + 1, 3, none⟩ (.bool false)).setCell ⟨g + 1, 4, none⟩ (.bool true)).setCell ⟨g + 1, 5, none⟩ (.bool u)).setCell ⟨g + 1, 6, none⟩ (.bool d)) (g + 1) 28 [.int .i64 f, .bool false, .bool wr, .bool false, .bool true, .bool u, .bool d]) := seven_row HQ2.out
  have hb3 : Hid (Below w.heap.size w (((((((w6.setCell ⟨g + 1, 0, none⟩ (.int .i64 f)).setCell ⟨g + 1, 1, none⟩ (.bool false)).setCell ⟨g + 1, 2, none⟩ (.bool wr)).setCell ⟨g + 1, 3, none⟩ (.bool false)).setCell ⟨g + 1, 4, none⟩ (.bool true)).setCell ⟨g + 1, 5, none⟩ (.bool u)).setCell ⟨g + 1, 6, none⟩ (.bool d))) := below_7 BB.out (by have := HG.out; omega)
  generalize (((((((w6.setCell ⟨g + 1, 0, none⟩ (.int .i64 f)).setCell ⟨g + 1, 1, none⟩ (.bool false)).setCell ⟨g + 1, 2, none⟩ (.bool wr)).setCell ⟨g + 1, 3, none⟩ (.bool false)).setCell ⟨g + 1, 4, none⟩ (.bool true)).setCell ⟨g + 1, 5, none⟩ (.bool u)).setCell ⟨g + 1, 6, none⟩ (.bool d)) = w3 at hHeld hr3 hb3 ⊢
  clear d0 d1 d2 d3 d4 d5 d6 df hs4 hne hne2
  refine tkY 12 (at_lit rfl) (v := ?_) (Or.inl ⟨by rfl, ?_⟩) ?_
  rotate_left
  focus (intro _ h; (try dsimp only at h); go_simp; (try with_reducible rfl); done)
  (try simp only [Act.put, sAr, sZe, sSu])
  refine wpAnyH_done (by kernel_rfl) ?_ _
  obtain ⟨⟨e0, e1, e2, e3, e4, e5, e6⟩, ef⟩ := hr3.out.seven
  go_wp2_with fail
  exact bodyPost_ret (v := .tuple #[.agg #[.int .i64 f, .bool false, .bool wr, .bool false, .bool true, .bool u, .bool d], .bool false]) (by simp [results, Try.results61, go_sem, *]) rfl ⟨_, rfl, hb3.out⟩
set_option maxRecDepth 100000 in
set_option maxHeartbeats 2000000 in
theorem leaf8_zD (f : Int) (wr h u d : Bool) (hz : chkI f false wr false true u d = 0) (sz : Int) (hsz : szO 0 = sz) (hs0 : sz ≠ 0) (hr : (f.tmod sz == 0) = true) (hw : IntKind.i64.wrap (512 - sz) = 512 - sz) (bb : Bool) (hbb : decide (f ≤ 512 - sz) = bb) : Calls Try.prog 61 #[.int .i64 0, .agg #[.int .i64 f, .bool false, .bool wr, .bool h, .bool true, .bool u, .bool d], .int .i64 512] w (Leafs w f false wr false true u d) := by
  obtain ⟨g, hg⟩ : ∃ g, g = w.heap.size := ⟨_, rfl⟩
  have HG := Lib.hid hg
  obtain ⟨w1, hw1⟩ : ∃ w1, w1 = (w.alloc (.cells #[.int .i64 f, .bool false, .bool wr, .bool false, .bool true, .bool u, .bool d] 28)).alloc (.cells #[.int .i64 0, .bool false, .bool false, .bool false, .bool false, .bool false, .bool false] 28) := ⟨_, rfl⟩
  have HW1 := Lib.hid hw1
  have r1 : Row w1 g 28 [.int .i64 f, .bool false, .bool wr, .bool false, .bool true, .bool u, .bool d] := by rw [hw1, hg]; exact (Row.new w _ [.int .i64 f, .bool false, .bool wr, .bool false, .bool true, .bool u, .bool d]).alloc _
  have q1 : Row w1 (g + 1) 28 [.int .i64 0, .bool false, .bool false, .bool false, .bool false, .bool false, .bool false] := by
    have := Row.new (w.alloc (.cells #[.int .i64 f, .bool false, .bool wr, .bool false, .bool true, .bool u, .bool d] 28)) 28 [.int .i64 0, .bool false, .bool false, .bool false, .bool false, .bool false, .bool false]
    rw [hw1, hg]; simpa using this
  have b1 : Below w.heap.size w w1 := by rw [hw1]; exact ((Below.refl _ _).alloc (Nat.le_refl _) _).alloc (by simp) _
  have R1 := Lib.hid r1
  have Q1 := Lib.hid q1
  have B1 := Lib.hid b1
  have hs : (fun v => v.cell? ⟨g, 0, none⟩ = some (.int .i64 f) ∧ v.cell? ⟨g, 1, none⟩ = some (.bool false) ∧ v.cell? ⟨g, 2, none⟩ = some (.bool wr) ∧ v.cell? ⟨g, 3, none⟩ = some (.bool false) ∧ v.cell? ⟨g, 4, none⟩ = some (.bool true) ∧ v.cell? ⟨g, 5, none⟩ = some (.bool u) ∧ v.cell? ⟨g, 6, none⟩ = some (.bool d)) w1.drew := ⟨r1.cell 0, r1.cell 1, r1.cell 2, r1.cell 3, r1.cell 4, r1.cell 5, r1.cell 6⟩
  clear hg hw1 r1 q1 b1
  have hck := fun W => rcheck_any f false wr false true u d W
  rw [hz] at hck
  clear hz
  have hsq : ∀ W : World, Calls Try.prog 79 #[.int .i64 0] W fun e W' => e = .returned (.int .i64 sz) ∧ W = W' := fun W => by rw [← hsz]; exact size8_any 0 W
  go_enter Try.func61, Try.ntmps61
  go_upto_region 3 with (fail)
  rw [← HW1.out, ← HG.out]
  have HQ : Hid (Row w1.drew (g + 1) 28 [.int .i64 0, .bool false, .bool false, .bool false, .bool false, .bool false, .bool false]) := Q1.out
  have BB : Hid (Below w.heap.size w w1.drew) := B1.out.drew
  have hgl : Hid (g < w1.drew.heap.size) := R1.out.lt
  have HG1 : Hid (g + 1 < w1.drew.heap.size) := Q1.out.lt
  refine wp_region_held_drew (S := (fun v => v.cell? ⟨g, 0, none⟩ = some (.int .i64 f) ∧ v.cell? ⟨g, 1, none⟩ = some (.bool false) ∧ v.cell? ⟨g, 2, none⟩ = some (.bool wr) ∧ v.cell? ⟨g, 3, none⟩ = some (.bool false) ∧ v.cell? ⟨g, 4, none⟩ = some (.bool true) ∧ v.cell? ⟨g, 5, none⟩ = some (.bool u) ∧ v.cell? ⟨g, 6, none⟩ = some (.bool d))) (by kernel_rfl) hs (fun hHeld => ?_)
  generalize w1.drew = w5 at hHeld HQ BB hgl HG1 hs ⊢
  refine tkY 0 (at_lit rfl) (v := ?_) (Or.inl ⟨by rfl, ?_⟩) ?_
  rotate_left
  focus (intro _ h; (try dsimp only at h); go_simp; (try with_reducible rfl); done)
  (try simp only [Act.put, sAr, sZe, sSu])
  refine tkY 1 (at_lit rfl) (v := ?_) (Or.inl ⟨by rfl, ?_⟩) ?_
  rotate_left
  focus (intro _ h; (try dsimp only at h); go_simp; (try with_reducible rfl); done)
  (try simp only [Act.put, sAr, sZe, sSu])
  refine tkY 2 (at_lit rfl) (v := ?_) (Or.inl ⟨by rfl, ?_⟩) ?_
  rotate_left
  focus (intro _ h; (try dsimp only at h); go_simp; (try with_reducible rfl); done)
  (try simp only [Act.put, sAr, sZe, sSu])
  refine wpAnyH_ready (rs := [3]) (by kernel_rfl) (by simp) ?_
  refine AllReadyH.cons (o := _) (at_lit rfl) (fun K hK => ?_) AllReadyH.nil
  go_simp
  go_at_call 80
  refine (hck _).mono ?_
  rintro e w3 ⟨rfl, hb3⟩
  have hs3 := below_keep hHeld hb3 hgl.out
  have HQ3 := Lib.hid (HQ.out.below hb3 HG1.out)
  have BB3 := Lib.hid (BB.out.trans (hb3.mono BB.out.size))
  clear hb3 HQ BB hs hHeld
  have HQ := HQ3
  have BB := BB3
  clear HQ3 BB3
  go_wp2_with fail
  refine hK.out _ _ ?_ (fun hHeld => ?_)
  focus exact hs3
  clear hK K hgl HG1 hs3
  (try simp only [Act.put, sAr, sZe, sSu])
  refine tkY 4 (at_lit rfl) (v := ?_) (Or.inl ⟨by rfl, ?_⟩) ?_
  rotate_left
  focus (intro _ h; (try dsimp only at h); go_simp; (try with_reducible rfl); done)
  (try simp only [Act.put, sAr, sZe, sSu])
  refine tkY 5 (at_lit rfl) (v := ?_) (Or.inl ⟨by rfl, ?_⟩) ?_
  rotate_left
  focus (intro _ h; (try dsimp only at h); go_simp; (try with_reducible rfl); done)
  (try simp only [Act.put, sAr, sZe, sSu])
  refine tkY 6 (at_lit rfl) (v := ?_) (Or.inl ⟨by rfl, ?_⟩) ?_
  rotate_left
  focus (intro _ h; (try dsimp only at h); go_simp; (try with_reducible rfl); done)
  (try simp only [Act.put, sAr, sZe, sSu])
  refine tkY 7 (at_lit rfl) (v := ?_) (Or.inl ⟨by rfl, ?_⟩) ?_
  rotate_left
  focus (intro _ h; (try dsimp only at h); go_simp; (try with_reducible rfl); done)
  (try simp only [Act.put, sAr, sZe, sSu])
  refine tkY 8 (at_lit rfl) (v := ?_) (Or.inl ⟨by rfl, ?_⟩) ?_
  rotate_left
  focus (intro _ h; (try dsimp only at h); go_simp; (try with_reducible rfl); done)
  (try simp only [Act.put, sAr, sZe, sSu])
  refine tkY 9 (at_lit rfl) (v := ?_) (Or.inl ⟨by rfl, ?_⟩) ?_
  rotate_left
  focus (intro _ h; (try dsimp only at h); go_simp; (try with_reducible rfl); done)
  (try simp only [Act.put, sAr, sZe, sSu])
  refine wpAnyH_ready (rs := [10]) (by kernel_rfl) (by simp) ?_
  refine AllReadyH.cons (o := _) (at_lit rfl) (fun K hK => ?_) AllReadyH.nil
  go_simp
  go_at_call 79
  refine (hsq _).mono ?_
  rintro e w7 ⟨rfl, rfl⟩
  have hs3 := hHeld
  go_wp2_with fail
  refine hK.out _ _ ?_ (fun hHeld => ?_)
  focus exact hs3
  clear hK K hs3
  (try simp only [Act.put, sAr, sZe, sSu])
  refine tkY 11 (at_lit rfl) (v := ?_) (Or.inl ⟨by rfl, ?_⟩) ?_
  rotate_left
  focus (intro _ h; (try dsimp only at h); go_simp; (try with_reducible rfl); done)
  (try simp only [Act.put, sAr, sZe, sSu])
  refine tkY 12 (at_lit rfl) (v := ?_) (Or.inl ⟨by rfl, ?_⟩) ?_
  rotate_left
  focus (intro _ h; (try dsimp only at h); go_simp; (try with_reducible rfl); done)
  (try simp only [Act.put, sAr, sZe, sSu])
  refine tkY 13 (at_lit rfl) (v := ?_) (Or.inl ⟨by rfl, ?_⟩) ?_
  rotate_left
  focus (intro _ h; (try dsimp only at h); go_simp; (try with_reducible rfl); done)
  (try simp only [Act.put, sAr, sZe, sSu])
  refine tkY 14 (at_lit rfl) (v := ?_) (Or.inl ⟨by rfl, ?_⟩) ?_
  rotate_left
  focus (intro _ h; (try dsimp only at h); go_simp; (try with_reducible rfl); done)
  (try simp only [Act.put, sAr, sZe, sSu])
  refine wpAnyH_done (by kernel_rfl) ?_ _
  go_upto_region 4 with (fail)
  obtain ⟨w2, hw2⟩ : ∃ w2, w2 = w3 := ⟨_, rfl⟩
  have HQ2 : Hid (Row w2.drew (g + 1) 28 [.int .i64 0, .bool false, .bool false, .bool false, .bool false, .bool false, .bool false]) := hw2 ▸ HQ.out
  have BB2 : Hid (Below w.heap.size w w2.drew) := hw2 ▸ BB.out.drew
  have hs4 : (fun v => v.cell? ⟨g, 0, none⟩ = some (.int .i64 f) ∧ v.cell? ⟨g, 1, none⟩ = some (.bool false) ∧ v.cell? ⟨g, 2, none⟩ = some (.bool wr) ∧ v.cell? ⟨g, 3, none⟩ = some (.bool false) ∧ v.cell? ⟨g, 4, none⟩ = some (.bool true) ∧ v.cell? ⟨g, 5, none⟩ = some (.bool u) ∧ v.cell? ⟨g, 6, none⟩ = some (.bool d)) w2.drew := hw2 ▸ hHeld
  rw [← hw2]
  clear hw2 hHeld HQ BB
  refine wp_region_held_drew (S := (fun v => v.cell? ⟨g, 0, none⟩ = some (.int .i64 f) ∧ v.cell? ⟨g, 1, none⟩ = some (.bool false) ∧ v.cell? ⟨g, 2, none⟩ = some (.bool wr) ∧ v.cell? ⟨g, 3, none⟩ = some (.bool false) ∧ v.cell? ⟨g, 4, none⟩ = some (.bool true) ∧ v.cell? ⟨g, 5, none⟩ = some (.bool u) ∧ v.cell? ⟨g, 6, none⟩ = some (.bool d))) (by kernel_rfl) hs4 (fun hHeld => ?_)
  generalize w2.drew = w6 at hHeld HQ2 BB2 hs4 ⊢
  have BB := BB2
  clear BB2
  refine tkY 0 (at_lit rfl) (v := ?_) (Or.inl ⟨by rfl, ?_⟩) ?_
  rotate_left
  focus (intro _ h; (try dsimp only at h); go_simp; (try with_reducible rfl); done)
  (try simp only [Act.put, sAr, sZe, sSu])
  refine tkY 1 (at_lit rfl) (v := ?_) (Or.inl ⟨by rfl, ?_⟩) ?_
  rotate_left
  focus (intro _ h; (try dsimp only at h); go_simp; (try with_reducible rfl); done)
  (try simp only [Act.put, sAr, sZe, sSu])
  refine tkY 2 (at_lit rfl) (v := ?_) (Or.inl ⟨by rfl, ?_⟩) ?_
  rotate_left
  focus (intro _ h; (try dsimp only at h); go_simp; (try with_reducible rfl); done)
  (try simp only [Act.put, sAr, sZe, sSu])
  refine tkY 3 (at_lit rfl) (v := ?_) (Or.inl ⟨by rfl, ?_⟩) ?_
  rotate_left
  focus (intro _ h; (try dsimp only at h); go_simp; (try with_reducible rfl); done)
  (try simp only [Act.put, sAr, sZe, sSu])
  refine tkY 4 (at_lit rfl) (v := ?_) (Or.inl ⟨by rfl, ?_⟩) ?_
  rotate_left
  focus (intro _ h; (try dsimp only at h); go_simp; (try with_reducible rfl); done)
  (try simp only [Act.put, sAr, sZe, sSu])
  refine tkY 5 (at_lit rfl) (v := ?_) (Or.inl ⟨by rfl, ?_⟩) ?_
  rotate_left
  focus (intro _ h; (try dsimp only at h); go_simp; (try with_reducible rfl); done)
  (try simp only [Act.put, sAr, sZe, sSu])
  refine tkY 6 (at_lit rfl) (v := ?_) (Or.inl ⟨by rfl, ?_⟩) ?_
  rotate_left
  focus (intro _ h; (try dsimp only at h); go_simp; (try with_reducible rfl); done)
  (try simp only [Act.put, sAr, sZe, sSu])
  refine wpAnyH_ready (rs := [7]) (by kernel_rfl) (by simp) ?_
  refine AllReadyH.cons (o := _) (at_lit rfl) (fun K hK => ?_) AllReadyH.nil
  go_simp
  go_at_call 79
  refine (hsq _).mono ?_
  rintro e w7 ⟨rfl, rfl⟩
  go_wp2_with fail
  refine hK.out _ _ ?_ (fun hHeld => ?_)
  focus exact hs4
  clear hK K
  (try simp only [Act.put, sAr, sZe, sSu])
  refine tkY 8 (at_lit rfl) (v := ?_) (Or.inl ⟨by rfl, ?_⟩) ?_
  rotate_left
  focus (intro _ h; (try dsimp only at h); go_simp; (try with_reducible rfl); done)
  (try simp only [Act.put, sAr, sZe, sSu])
  refine tkY 9 (at_lit rfl) (v := ?_) (Or.inl ⟨by rfl, ?_⟩) ?_
  rotate_left
  focus (intro _ h; (try dsimp only at h); go_simp; (try with_reducible rfl); done)
  (try simp only [Act.put, sAr, sZe, sSu])
  refine tkY 10 (at_lit rfl) (v := ?_) (Or.inl ⟨by rfl, ?_⟩) ?_
  rotate_left
  focus (intro _ h; (try dsimp only at h); go_simp; (try with_reducible rfl); done)
  (try simp only [Act.put, sAr, sZe, sSu])
  obtain ⟨⟨d0, d1, d2, d3, d4, d5, d6⟩, df⟩ := HQ2.out.seven
  have hne : ¬ g = g + 1 := by omega
  have hne2 : ¬ g + 1 = g := by omega
  refine wpAnyH_ready (rs := [11]) (by kernel_rfl) (by simp) ?_
  refine AllReadyH.cons (o := _) (at_lit rfl) (fun K hK => ?_) AllReadyH.nil
  go_simp
  go_wp2_with fail
  refine hK.out _ _ ?_ (fun hHeld => ?_)
  focus exact seven_keep hne hs4
  clear hK K
  have hr3 : Hid (Row (((((((w6.setCell ⟨g + 1, 0, none⟩ (.int .i64 f)).setCell ⟨g + 1, 1, none⟩ (.bool false)).setCell ⟨g + 1, 2, none⟩ (.bool wr)).setCell ⟨g + 1, 3, none⟩ (.bool false)).setCell ⟨g + 1, 4, none⟩ (.bool true)).setCell ⟨g + 1, 5, none⟩ (.bool u)).setCell ⟨g + 1, 6, none⟩ (.bool d)) (g + 1) 28 [.int .i64 f, .bool false, .bool wr, .bool false, .bool true, .bool u, .bool d]) := seven_row HQ2.out
  have hb3 : Hid (Below w.heap.size w (((((((w6.setCell ⟨g + 1, 0, none⟩ (.int .i64 f)).setCell ⟨g + 1, 1, none⟩ (.bool false)).setCell ⟨g + 1, 2, none⟩ (.bool wr)).setCell ⟨g + 1, 3, none⟩ (.bool false)).setCell ⟨g + 1, 4, none⟩ (.bool true)).setCell ⟨g + 1, 5, none⟩ (.bool u)).setCell ⟨g + 1, 6, none⟩ (.bool d))) := below_7 BB.out (by have := HG.out; omega)
  generalize (((((((w6.setCell ⟨g + 1, 0, none⟩ (.int .i64 f)).setCell ⟨g + 1, 1, none⟩ (.bool false)).setCell ⟨g + 1, 2, none⟩ (.bool wr)).setCell ⟨g + 1, 3, none⟩ (.bool false)).setCell ⟨g + 1, 4, none⟩ (.bool true)).setCell ⟨g + 1, 5, none⟩ (.bool u)).setCell ⟨g + 1, 6, none⟩ (.bool d)) = w3 at hHeld hr3 hb3 ⊢
  clear d0 d1 d2 d3 d4 d5 d6 df hs4 hne hne2
  refine tkY 12 (at_lit rfl) (v := ?_) (Or.inl ⟨by rfl, ?_⟩) ?_
  rotate_left
  focus (intro _ h; (try dsimp only at h); go_simp; (try with_reducible rfl); done)
  (try simp only [Act.put, sAr, sZe, sSu])
  refine wpAnyH_done (by kernel_rfl) ?_ _
  obtain ⟨⟨e0, e1, e2, e3, e4, e5, e6⟩, ef⟩ := hr3.out.seven
  go_wp2_with fail
  exact bodyPost_ret (v := .tuple #[.agg #[.int .i64 f, .bool false, .bool wr, .bool false, .bool true, .bool u, .bool d], .bool bb]) (by simp [results, Try.results61, go_sem, *]) rfl ⟨_, rfl, hb3.out⟩
theorem leaf8_any (o f : Int) (p wr h k u d : Bool) : Calls Try.prog 61 #[.int .i64 o, .agg #[.int .i64 f, .bool p, .bool wr, .bool h, .bool k, .bool u, .bool d], .int .i64 512] w (Leafs w f p wr (decide (0 < o)) k u d) := by
  have hs := szO_pos o
  have hs0 : szO o ≠ 0 := by omega
  have hw : IntKind.i64.wrap (512 - szO o) = 512 - szO o := IntWalk.i64_in _ (by omega)
  cases p
  · cases k
    · exact leaf8_nn o f wr h u d _ rfl
    · by_cases h0 : o = 0
      · subst h0
        by_cases hz : chkI f false wr false true u d = 0
        · cases hr : (f.tmod (szO 0) == 0)
          · exact leaf8_zC f wr h u d hz _ rfl hs0 hr
          · exact leaf8_zD f wr h u d hz _ rfl hs0 hr hw _ rfl
        · exact leaf8_zA f wr h u d _ rfl (by simpa using hz)
      · exact leaf8_nk o f wr h u d _ rfl (by simpa using h0)
  · by_cases hz : chkI f true wr (decide (0 < o)) k u d = 0
    · cases hr : (f.tmod (szO o) == 0)
      · exact leaf8_pC o f wr h u d _ rfl k hz _ rfl hs0 hr
      · exact leaf8_pD o f wr h u d _ rfl k hz _ rfl hs0 hr hw _ rfl
    · exact leaf8_pA o f wr h u d _ rfl k _ rfl (by simpa using hz)
end
end Go.Proofs.Ytpcpcgbejinlmaa
