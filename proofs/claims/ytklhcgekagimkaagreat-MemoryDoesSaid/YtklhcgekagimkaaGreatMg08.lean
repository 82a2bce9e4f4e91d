/- Free frames by kinds as they lie in memory; what a frame's kind is; the sections under a block. -/
import Derived.Test.YtklhcgekagimkaaGreatMg07
import Derived.Shelf.Small.Bits
import Derived.Shelf.Small.Wraps
import Derived.Shelf.Strconv.Itoa0
import Derived.Shelf.Bits.Mul64
import Derived.Shelf.Slices.Reverse
import Derived.Ground.Names2Prog
import Derived.Shelf.Slices.SearchI
import Derived.Shelf.Slices.Delete
import Derived.Shelf.Slices.Cells
import Derived.Shelf.Slices.Empties
import Derived.Shelf.SlSortCmp.WholeK
import Derived.Shelf.SlSortCmp.NoneTotal
import Derived.Shelf.Spec.SlicesInsert
import Derived.Shelf.Spec.SlicesInsertGrow
import Derived.Ground.SlsfProg
import Derived.Test.YtklhcgekagimkaaGreatProg
import Derived.Test.YtklhcgekagimkaaGreatMg05
import Derived.Outline
namespace Go.Proofs.YtklhcgekagimkaaGreat
variable {Xc : Nat → Prop}
open Go.RowKit

/-- The sections' kinds as cells. -/
def kcl (S : List Nat) : List Value := S.map fun x : Nat => Value.int .i64 x
theorem kcl_length (S : List Nat) : (kcl S).length = S.length := by simp [kcl]
theorem kcl_get (S : List Nat) (i : Nat) : (kcl S)[i]? = S[i]?.map (fun x : Nat => Value.int .i64 x) := by simp [kcl]
theorem kcl_set (S : List Nat) (i x : Nat) : (kcl S).set i (.int .i64 x) = kcl (S.set i x) := by simp [kcl, List.map_set]
theorem knd_le {S : List Nat} (h : ∀ x ∈ S, x ≤ 3) (f : Nat) : knd S f ≤ 3 := by
  unfold knd
  rcases Nat.lt_or_ge (f / 8) S.length with hl | hl
  · exact h _ (getD_mem S 0 _ hl)
  · rw [List.getD_eq_getElem?_getD, List.getElem?_eq_none hl]; simp
/-- Fewer blocks are named. -/
theorem Turn.weak {Y : Nat → Prop} {B : Nat} {w w' : World} (h : Turn Xc B w w') (hY : ∀ b, Y b → Xc b) : Turn Y B w w' := ⟨h.os, h.tape, h.output, h.size, h.low, h.row, fun g hg => h.exc g (hY g hg)⟩
/-- The struct in block k, the free lists in block a, the sections' kinds in block g. -/
structure KinX (Xc : Nat → Prop) (B : Nat) (w : World) (k a g n : Nat) (F : List Bool) (S : List Nat) : Prop where
  top : Lrow w k 113 [.int .i64 n, .pointer (some ⟨a, 0, none⟩), .slice (some ⟨g, 0, none⟩) S.length S.length]
  row : Lrow w g 3 (kcl S)
  bud : ∃ L, BudAt (fun b => Xc b ∨ b = g) B w a n L ∧ Good F L
  len : F.length = n
  cnt : S.length = (n + 7) / 8
  kin : ∀ x ∈ S, x ≤ 3
  n8 : 8 ≤ n
  hi : n ≤ 1024
  lk : B ≤ k
  lg : B ≤ g
  exg : ¬ Xc g
def KinAt (Xc : Nat → Prop) (B : Nat) (w : World) (k n : Nat) (F : List Bool) (S : List Nat) : Prop := ∃ a g, KinX Xc B w k a g n F S
section
variable {w w' : World} {B k a g n : Nat} {F F' : List Bool} {S S' : List Nat}
theorem KinX.c0 (h : KinX Xc B w k a g n F S) : w.cell? ⟨k, 0, none⟩ = some (.int .i64 n) := by rw [h.top.cell]; rfl
theorem KinX.c1 (h : KinX Xc B w k a g n F S) : w.cell? ⟨k, 1, none⟩ = some (.pointer (some ⟨a, 0, none⟩)) := by rw [h.top.cell]; rfl
theorem KinX.c2 (h : KinX Xc B w k a g n F S) : w.cell? ⟨k, 2, none⟩ = some (.slice (some ⟨g, 0, none⟩) S.length S.length) := by rw [h.top.cell]; rfl
theorem KinX.sec (h : KinX Xc B w k a g n F S) {f : Nat} (hf : f < n) : f / 8 < S.length := by have := h.cnt; omega
theorem KinX.at_ (h : KinX Xc B w k a g n F S) {i : Nat} (hi : i < S.length) : w.cell? ⟨g, i, none⟩ = some (.int .i64 (S.getD i 0 : Nat)) := by
  rw [h.row.cell, kcl_get, getD_of S 0 i hi]; rfl
theorem KinX.lt (h : KinX Xc B w k a g n F S) : k < w.heap.size := h.top.lt
theorem KinX.lo (h : KinX Xc B w k a g n F S) : B ≤ w.heap.size := by have := h.top.lt; have := h.lk; omega
theorem KinX.call (h : KinX Xc B w k a g n F S) (hb : Below w.heap.size w w') : KinX Xc B w' k a g n F S := by
  obtain ⟨L, h1, h2⟩ := h.bud
  exact ⟨h.top.call hb, h.row.call hb, ⟨L, h1.call hb, h2⟩, h.len, h.cnt, h.kin, h.n8, h.hi, h.lk, h.lg, h.exg⟩
theorem KinX.alloc (h : KinX Xc B w k a g n F S) (o : Obj) : KinX Xc B (w.alloc o) k a g n F S := h.call ((Below.refl _ _).alloc (Nat.le_refl _) o)
theorem KinX.drewN (h : KinX Xc B w k a g n F S) (q : Nat) : KinX Xc B (w.drewN q) k a g n F S := h.call (below_dN (Below.refl _ _) q)
/-- The free lists have been turned. -/
theorem KinX.budTurn (h : KinX Xc B w k a g n F S) (ht : Turn (fun b => Xc b ∨ b = g) B w w') {L' : Nat → List Nat} (hb : BudAt (fun b => Xc b ∨ b = g) B w' a n L') (hg : Good F' L') (hl : F'.length = n) : KinX Xc B w' k a g n F' S :=
  ⟨ht.row _ _ _ h.top (by decide) (by decide), (ht.exc g (Or.inr rfl) h.row.lt).trans h.row, ⟨L', hb, hg⟩, hl, h.cnt, h.kin, h.n8, h.hi, h.lk, h.lg, h.exg⟩
/-- The sections' kinds have been turned. -/
theorem KinX.secTurn (h : KinX Xc B w k a g n F S) (hg : w.grownBy w' (some g)) (hr : Lrow w' g 3 (kcl S')) (hl : S'.length = S.length) (hk : ∀ x ∈ S', x ≤ 3) : KinX Xc B w' k a g n F S' := by
  obtain ⟨L, h1, h2⟩ := h.bud
  have ht := h.top.grown hg (by intro e; injection e with e; exact h.top.apart h.row (by decide) e)
  rw [← hl] at ht
  exact ⟨ht, hr, ⟨L, h1.named hg (Or.inr rfl), h2⟩, h.len, hl.trans h.cnt, hk, h.n8, h.hi, h.lk, h.lg, h.exg⟩
/-- A block of another kind has been turned. -/
theorem KinX.grown {b : Nat} {t : TypeId} {vs : List Value} (h : KinX Xc B w k a g n F S) (r : Lrow w b t vs) (hg : w.grownBy w' (some b)) (h1 : t ≠ 3) (h2 : t ≠ 132) (h3 : t ≠ 113) : KinX Xc B w' k a g n F S := by
  obtain ⟨L, g1, g2⟩ := h.bud
  exact ⟨h.top.grown hg (by intro e; injection e with e; subst e; exact r.apart h.top h3 rfl), h.row.grown hg (by intro e; injection e with e; subst e; exact r.apart h.row h1 rfl),
    ⟨L, g1.grown hg (fun b' e => by injection e with e; subst e; exact ⟨t, vs, r, h1, h2⟩), g2⟩, h.len, h.cnt, h.kin, h.n8, h.hi, h.lk, h.lg, h.exg⟩
/-- A block that is named has been turned. -/
theorem KinX.named {b : Nat} {t : TypeId} {vs : List Value} (h : KinX Xc B w k a g n F S) (r : Lrow w b t vs) (hg : w.grownBy w' (some b)) (hX : Xc b) (h3 : t ≠ 113) : KinX Xc B w' k a g n F S := by
  obtain ⟨L, g1, g2⟩ := h.bud
  exact ⟨h.top.grown hg (by intro e; injection e with e; subst e; exact r.apart h.top h3 rfl), h.row.grown hg (by intro e; injection e with e; subst e; exact h.exg hX),
    ⟨L, g1.named hg (Or.inl hX), g2⟩, h.len, h.cnt, h.kin, h.n8, h.hi, h.lk, h.lg, h.exg⟩
/-- More blocks are named, that are newer. -/
theorem KinX.more {Y : Nat → Prop} (h : KinX Xc B w k a g n F S) (hb : Below w.heap.size w w') (hY : ∀ b, Y b → b < w'.heap.size ∧ (Xc b ∨ w.heap.size ≤ b)) : KinX Y B w' k a g n F S := by
  obtain ⟨L, g1, g2⟩ := h.bud
  have h1 := h.call hb
  have hg := h.row.lt
  refine ⟨h1.top, h1.row, ⟨L, g1.more hb (fun b hb' => ?_), g2⟩, h.len, h.cnt, h.kin, h.n8, h.hi, h.lk, h.lg, fun hy => ?_⟩
  · rcases hb' with e | rfl
    · rcases (hY b e).2 with g3 | g3
      · exact ⟨(hY b e).1, Or.inl (Or.inl g3)⟩
      · exact ⟨(hY b e).1, Or.inr g3⟩
    · exact ⟨Nat.lt_of_lt_of_le hg hb.size, Or.inl (Or.inr rfl)⟩
  · rcases (hY g hy).2 with g3 | g3
    · exact h.exg g3
    · omega

/-- The kind of any number: -1 of what is no frame. -/
def kdZ (n : Nat) (S : List Nat) (f : Int) : Int := if 0 ≤ f ∧ f < n then (knd S f.toNat : Nat) else -1
theorem kind_nil (f : Int) (w : World) : Calls Tryz.prog 39 #[.pointer none, .int .i64 f] w fun e w' => e = .returned (.int .i64 (-1)) ∧ w = w' := by
  go_enter Tryz.func39, Tryz.ntmps39
  go_wp2
  go_ret
  exact ⟨rfl, rfl⟩
theorem kind_any (h : KinX Xc B w k a g n F S) (f : Int) : Calls Tryz.prog 39 #[.pointer (some ⟨k, 0, none⟩), .int .i64 f] w fun e w' => e = .returned (.int .i64 (kdZ n S f)) ∧ w = w' := by
  have hc0 := h.c0
  by_cases h1 : f < 0
  · have HE : Hid (-1 = kdZ n S f) := by show _ = _; unfold kdZ; rw [if_neg (by omega)]
    clear h
    go_enter Tryz.func39, Tryz.ntmps39
    go_wp2
    go_ret
    exact ⟨ret_int HE.out, rfl⟩
  · by_cases h2 : (n : Int) ≤ f
    · have HE : Hid (-1 = kdZ n S f) := by show _ = _; unfold kdZ; rw [if_neg (by omega)]
      clear h
      go_enter Tryz.func39, Tryz.ntmps39
      go_wp2
      go_ret
      exact ⟨ret_int HE.out, rfl⟩
    · obtain ⟨f, rfl⟩ : ∃ x : Nat, f = x := ⟨f.toNat, by omega⟩
      have hc2 := h.c2
      have hs := h.sec (f := f) (by omega)
      have hm : S.length ≤ 128 := by have := h.cnt; have := h.hi; omega
      have hcf := h.at_ hs
      have HE : Hid (((S.getD (f / 8) 0 : Nat) : Int) = kdZ n S f) := by show _ = _; unfold kdZ knd; rw [if_pos (by omega), Int.toNat_natCast]
      obtain ⟨v, hv⟩ : ∃ v : Nat, v = S.getD (f / 8) 0 := ⟨_, rfl⟩
      rw [← hv] at hcf HE
      obtain ⟨m, em⟩ : ∃ m, m = S.length := ⟨_, rfl⟩
      rw [← em] at hc2 hs hm
      clear h hv em
      go_enter Tryz.func39, Tryz.ntmps39
      go_wp2
      go_ret
      exact ⟨ret_int HE.out, rfl⟩
end
end Go.Proofs.YtklhcgekagimkaaGreat
/- The sections under a block. -/
namespace Go.Proofs.YtklhcgekagimkaaGreat
variable {Xc : Nat → Prop}
open Go.RowKit

section
variable {w w' : World} {B k a g n : Nat} {F F' : List Bool} {S S' : List Nat}
/-- Behind the last section under a block. -/
def upr (f o : Nat) : Nat := (f + 2 ^ o - 1) / 8 + 1
theorem upr_gt (f o : Nat) : f / 8 < upr f o := by have := two_pos o; unfold upr; omega
theorem upr_le {f o : Nat} (hf : f + 2 ^ o ≤ n) : upr f o ≤ (n + 7) / 8 := by have := two_pos o; unfold upr; omega
set_option maxHeartbeats 1000000 in
set_option maxRecDepth 100000 in
theorem under_int (h : KinX Xc B w k a g n F S) {f o : Nat} (ho : o ≤ 8) (hf : f + 2 ^ o ≤ n) (z : Int) (hz : z = o) :
    Calls Tryz.prog 73 #[.pointer (some ⟨k, 0, none⟩), .agg #[.int .i64 f, .int .i64 z]] w fun e w' => e = .returned (.slice (some ⟨g, f / 8, none⟩) (upr f o - f / 8) (S.length - f / 8)) ∧ Below w.heap.size w w' := by
  obtain ⟨W, hW⟩ : ∃ W, W = w.alloc (.cells #[.int .i64 f, .int .i64 z] 92) := ⟨_, rfl⟩
  obtain ⟨q, hq⟩ : ∃ q, q = w.heap.size := ⟨_, rfl⟩
  have hB : Below w.heap.size w W := by rw [hW]; exact (Below.refl _ _).alloc (Nat.le_refl _) _
  have hc2 := (h.call hB).c2
  have hr : Lrow W q 92 [.int .i64 f, .int .i64 z] := by rw [hW, hq]; exact Lrow.new w _ _
  have hq0 := hr.cell 0
  have hq1 := hr.cell 1
  have HW := Lib.hid hW
  have HQ := Lib.hid hq
  have HB := Lib.hid hB
  clear hW hq hB hr
  have hu := upr_gt f o
  have hv := upr_le hf
  rw [← h.cnt] at hv
  have hm : S.length ≤ 128 := by have := h.cnt; have := h.hi; omega
  have hn := h.hi
  have HE : Hid ((((f + 2 ^ o - 1 : Nat)) / 8 + 1 : Nat) = upr f o) := by show _ = _; rfl
  obtain ⟨m, em⟩ : ∃ m, m = S.length := ⟨_, rfl⟩
  rw [← em] at hc2 hv hm ⊢
  clear h em
  obtain ⟨u, eu⟩ : ∃ u, u = upr f o := ⟨_, rfl⟩
  obtain ⟨s, es⟩ : ∃ s, s = f / 8 := ⟨_, rfl⟩
  rw [← es, ← eu] at hu ⊢
  rw [← eu] at hv HE
  clear eu
  have es1 : (f : Int) / 8 = s := by omega
  clear es
  rcases pow9 ho with rfl | rfl | rfl | rfl | rfl | rfl | rfl | rfl | rfl
  · simp only [Nat.reducePow] at HE hf
    have hu1 := HE.out
    obtain rfl : z = 0 := by simpa using hz
    have HU : Hid (u - s = 1) := by show _ = _; omega
    have s1 : IntKind.i64.wrap ((f : Int) + 1) = f + 1 := IntWalk.i64_in _ (by omega)
    have s2 : IntKind.i64.wrap ((f : Int) + 1 - 1) = f + 1 - 1 := IntWalk.i64_in _ (by omega)
    have d1 : ((f : Int) + 1 - 1) / 8 = u - 1 := by omega
    have s3 : IntKind.i64.wrap ((u : Int) - 1 + 1) = u := by rw [IntWalk.i64_in _ (by omega)]; omega
    have g1 : (s : Int) ≤ u := by omega
    have g2 : (u : Int) ≤ m := by omega
    clear hu1 HE hf hn hz
    go_enter Tryz.func73, Tryz.ntmps73
    go_wp2_with fail
    rw [← HW.out, ← HQ.out]
    go_quiet (fail)
    go_wp2_with fail
    obtain ⟨W2, hW2⟩ : ∃ W2, W2 = W.drewN nq := ⟨_, rfl⟩
    have k2 : W2.cell? ⟨k, 2, none⟩ = some (.slice (some ⟨g, 0, none⟩) m m) := by rw [hW2]; exact hc2
    have k0 : W2.cell? ⟨q, 0, none⟩ = some (.int .i64 f) := by rw [hW2]; exact hq0
    rw [← hW2]
    have HW2 := Lib.hid hW2
    clear hW2 hc2 hq0 hq1
    go_quiet (fail)
    go_wp2
    go_ret
    exact ⟨by rw [HU.out]; rfl, below_dN (by rw [HW2.out]; exact below_dN HB.out _) _⟩
  · simp only [Nat.reducePow] at HE hf
    have hu1 := HE.out
    obtain rfl : z = 1 := by simpa using hz
    have s1 : IntKind.i64.wrap ((f : Int) + 2) = f + 2 := IntWalk.i64_in _ (by omega)
    have s2 : IntKind.i64.wrap ((f : Int) + 2 - 1) = f + 2 - 1 := IntWalk.i64_in _ (by omega)
    have d1 : ((f : Int) + 2 - 1) / 8 = u - 1 := by omega
    have s3 : IntKind.i64.wrap ((u : Int) - 1 + 1) = u := by rw [IntWalk.i64_in _ (by omega)]; omega
    have g1 : (s : Int) ≤ u := by omega
    have g2 : (u : Int) ≤ m := by omega
    clear hu1 HE hf hn hz
    go_enter Tryz.func73, Tryz.ntmps73
    go_wp2_with fail
    rw [← HW.out, ← HQ.out]
    go_quiet (fail)
    go_wp2_with fail
    obtain ⟨W2, hW2⟩ : ∃ W2, W2 = W.drewN nq := ⟨_, rfl⟩
    have k2 : W2.cell? ⟨k, 2, none⟩ = some (.slice (some ⟨g, 0, none⟩) m m) := by rw [hW2]; exact hc2
    have k0 : W2.cell? ⟨q, 0, none⟩ = some (.int .i64 f) := by rw [hW2]; exact hq0
    rw [← hW2]
    have HW2 := Lib.hid hW2
    clear hW2 hc2 hq0 hq1
    go_quiet (fail)
    go_wp2
    go_ret
    exact ⟨rfl, below_dN (by rw [HW2.out]; exact below_dN HB.out _) _⟩
  · simp only [Nat.reducePow] at HE hf
    have hu1 := HE.out
    obtain rfl : z = 2 := by simpa using hz
    have s1 : IntKind.i64.wrap ((f : Int) + 4) = f + 4 := IntWalk.i64_in _ (by omega)
    have s2 : IntKind.i64.wrap ((f : Int) + 4 - 1) = f + 4 - 1 := IntWalk.i64_in _ (by omega)
    have d1 : ((f : Int) + 4 - 1) / 8 = u - 1 := by omega
    have s3 : IntKind.i64.wrap ((u : Int) - 1 + 1) = u := by rw [IntWalk.i64_in _ (by omega)]; omega
    have g1 : (s : Int) ≤ u := by omega
    have g2 : (u : Int) ≤ m := by omega
    clear hu1 HE hf hn hz
    go_enter Tryz.func73, Tryz.ntmps73
    go_wp2_with fail
    rw [← HW.out, ← HQ.out]
    go_quiet (fail)
    go_wp2_with fail
    obtain ⟨W2, hW2⟩ : ∃ W2, W2 = W.drewN nq := ⟨_, rfl⟩
    have k2 : W2.cell? ⟨k, 2, none⟩ = some (.slice (some ⟨g, 0, none⟩) m m) := by rw [hW2]; exact hc2
    have k0 : W2.cell? ⟨q, 0, none⟩ = some (.int .i64 f) := by rw [hW2]; exact hq0
    rw [← hW2]
    have HW2 := Lib.hid hW2
    clear hW2 hc2 hq0 hq1
    go_quiet (fail)
    go_wp2
    go_ret
    exact ⟨rfl, below_dN (by rw [HW2.out]; exact below_dN HB.out _) _⟩
  · simp only [Nat.reducePow] at HE hf
    have hu1 := HE.out
    obtain rfl : z = 3 := by simpa using hz
    have s1 : IntKind.i64.wrap ((f : Int) + 8) = f + 8 := IntWalk.i64_in _ (by omega)
    have s2 : IntKind.i64.wrap ((f : Int) + 8 - 1) = f + 8 - 1 := IntWalk.i64_in _ (by omega)
    have d1 : ((f : Int) + 8 - 1) / 8 = u - 1 := by omega
    have s3 : IntKind.i64.wrap ((u : Int) - 1 + 1) = u := by rw [IntWalk.i64_in _ (by omega)]; omega
    have g1 : (s : Int) ≤ u := by omega
    have g2 : (u : Int) ≤ m := by omega
    clear hu1 HE hf hn hz
    go_enter Tryz.func73, Tryz.ntmps73
    go_wp2_with fail
    rw [← HW.out, ← HQ.out]
    go_quiet (fail)
    go_wp2_with fail
    obtain ⟨W2, hW2⟩ : ∃ W2, W2 = W.drewN nq := ⟨_, rfl⟩
    have k2 : W2.cell? ⟨k, 2, none⟩ = some (.slice (some ⟨g, 0, none⟩) m m) := by rw [hW2]; exact hc2
    have k0 : W2.cell? ⟨q, 0, none⟩ = some (.int .i64 f) := by rw [hW2]; exact hq0
    rw [← hW2]
    have HW2 := Lib.hid hW2
    clear hW2 hc2 hq0 hq1
    go_quiet (fail)
    go_wp2
    go_ret
    exact ⟨rfl, below_dN (by rw [HW2.out]; exact below_dN HB.out _) _⟩
  · simp only [Nat.reducePow] at HE hf
    have hu1 := HE.out
    obtain rfl : z = 4 := by simpa using hz
    have s1 : IntKind.i64.wrap ((f : Int) + 16) = f + 16 := IntWalk.i64_in _ (by omega)
    have s2 : IntKind.i64.wrap ((f : Int) + 16 - 1) = f + 16 - 1 := IntWalk.i64_in _ (by omega)
    have d1 : ((f : Int) + 16 - 1) / 8 = u - 1 := by omega
    have s3 : IntKind.i64.wrap ((u : Int) - 1 + 1) = u := by rw [IntWalk.i64_in _ (by omega)]; omega
    have g1 : (s : Int) ≤ u := by omega
    have g2 : (u : Int) ≤ m := by omega
    clear hu1 HE hf hn hz
    go_enter Tryz.func73, Tryz.ntmps73
    go_wp2_with fail
    rw [← HW.out, ← HQ.out]
    go_quiet (fail)
    go_wp2_with fail
    obtain ⟨W2, hW2⟩ : ∃ W2, W2 = W.drewN nq := ⟨_, rfl⟩
    have k2 : W2.cell? ⟨k, 2, none⟩ = some (.slice (some ⟨g, 0, none⟩) m m) := by rw [hW2]; exact hc2
    have k0 : W2.cell? ⟨q, 0, none⟩ = some (.int .i64 f) := by rw [hW2]; exact hq0
    rw [← hW2]
    have HW2 := Lib.hid hW2
    clear hW2 hc2 hq0 hq1
    go_quiet (fail)
    go_wp2
    go_ret
    exact ⟨rfl, below_dN (by rw [HW2.out]; exact below_dN HB.out _) _⟩
  · simp only [Nat.reducePow] at HE hf
    have hu1 := HE.out
    obtain rfl : z = 5 := by simpa using hz
    have s1 : IntKind.i64.wrap ((f : Int) + 32) = f + 32 := IntWalk.i64_in _ (by omega)
    have s2 : IntKind.i64.wrap ((f : Int) + 32 - 1) = f + 32 - 1 := IntWalk.i64_in _ (by omega)
    have d1 : ((f : Int) + 32 - 1) / 8 = u - 1 := by omega
    have s3 : IntKind.i64.wrap ((u : Int) - 1 + 1) = u := by rw [IntWalk.i64_in _ (by omega)]; omega
    have g1 : (s : Int) ≤ u := by omega
    have g2 : (u : Int) ≤ m := by omega
    clear hu1 HE hf hn hz
    go_enter Tryz.func73, Tryz.ntmps73
    go_wp2_with fail
    rw [← HW.out, ← HQ.out]
    go_quiet (fail)
    go_wp2_with fail
    obtain ⟨W2, hW2⟩ : ∃ W2, W2 = W.drewN nq := ⟨_, rfl⟩
    have k2 : W2.cell? ⟨k, 2, none⟩ = some (.slice (some ⟨g, 0, none⟩) m m) := by rw [hW2]; exact hc2
    have k0 : W2.cell? ⟨q, 0, none⟩ = some (.int .i64 f) := by rw [hW2]; exact hq0
    rw [← hW2]
    have HW2 := Lib.hid hW2
    clear hW2 hc2 hq0 hq1
    go_quiet (fail)
    go_wp2
    go_ret
    exact ⟨rfl, below_dN (by rw [HW2.out]; exact below_dN HB.out _) _⟩
  · simp only [Nat.reducePow] at HE hf
    have hu1 := HE.out
    obtain rfl : z = 6 := by simpa using hz
    have s1 : IntKind.i64.wrap ((f : Int) + 64) = f + 64 := IntWalk.i64_in _ (by omega)
    have s2 : IntKind.i64.wrap ((f : Int) + 64 - 1) = f + 64 - 1 := IntWalk.i64_in _ (by omega)
    have d1 : ((f : Int) + 64 - 1) / 8 = u - 1 := by omega
    have s3 : IntKind.i64.wrap ((u : Int) - 1 + 1) = u := by rw [IntWalk.i64_in _ (by omega)]; omega
    have g1 : (s : Int) ≤ u := by omega
    have g2 : (u : Int) ≤ m := by omega
    clear hu1 HE hf hn hz
    go_enter Tryz.func73, Tryz.ntmps73
    go_wp2_with fail
    rw [← HW.out, ← HQ.out]
    go_quiet (fail)
    go_wp2_with fail
    obtain ⟨W2, hW2⟩ : ∃ W2, W2 = W.drewN nq := ⟨_, rfl⟩
    have k2 : W2.cell? ⟨k, 2, none⟩ = some (.slice (some ⟨g, 0, none⟩) m m) := by rw [hW2]; exact hc2
    have k0 : W2.cell? ⟨q, 0, none⟩ = some (.int .i64 f) := by rw [hW2]; exact hq0
    rw [← hW2]
    have HW2 := Lib.hid hW2
    clear hW2 hc2 hq0 hq1
    go_quiet (fail)
    go_wp2
    go_ret
    exact ⟨rfl, below_dN (by rw [HW2.out]; exact below_dN HB.out _) _⟩
  · simp only [Nat.reducePow] at HE hf
    have hu1 := HE.out
    obtain rfl : z = 7 := by simpa using hz
    have s1 : IntKind.i64.wrap ((f : Int) + 128) = f + 128 := IntWalk.i64_in _ (by omega)
    have s2 : IntKind.i64.wrap ((f : Int) + 128 - 1) = f + 128 - 1 := IntWalk.i64_in _ (by omega)
    have d1 : ((f : Int) + 128 - 1) / 8 = u - 1 := by omega
    have s3 : IntKind.i64.wrap ((u : Int) - 1 + 1) = u := by rw [IntWalk.i64_in _ (by omega)]; omega
    have g1 : (s : Int) ≤ u := by omega
    have g2 : (u : Int) ≤ m := by omega
    clear hu1 HE hf hn hz
    go_enter Tryz.func73, Tryz.ntmps73
    go_wp2_with fail
    rw [← HW.out, ← HQ.out]
    go_quiet (fail)
    go_wp2_with fail
    obtain ⟨W2, hW2⟩ : ∃ W2, W2 = W.drewN nq := ⟨_, rfl⟩
    have k2 : W2.cell? ⟨k, 2, none⟩ = some (.slice (some ⟨g, 0, none⟩) m m) := by rw [hW2]; exact hc2
    have k0 : W2.cell? ⟨q, 0, none⟩ = some (.int .i64 f) := by rw [hW2]; exact hq0
    rw [← hW2]
    have HW2 := Lib.hid hW2
    clear hW2 hc2 hq0 hq1
    go_quiet (fail)
    go_wp2
    go_ret
    exact ⟨rfl, below_dN (by rw [HW2.out]; exact below_dN HB.out _) _⟩
  · simp only [Nat.reducePow] at HE hf
    have hu1 := HE.out
    obtain rfl : z = 8 := by simpa using hz
    have s1 : IntKind.i64.wrap ((f : Int) + 256) = f + 256 := IntWalk.i64_in _ (by omega)
    have s2 : IntKind.i64.wrap ((f : Int) + 256 - 1) = f + 256 - 1 := IntWalk.i64_in _ (by omega)
    have d1 : ((f : Int) + 256 - 1) / 8 = u - 1 := by omega
    have s3 : IntKind.i64.wrap ((u : Int) - 1 + 1) = u := by rw [IntWalk.i64_in _ (by omega)]; omega
    have g1 : (s : Int) ≤ u := by omega
    have g2 : (u : Int) ≤ m := by omega
    clear hu1 HE hf hn hz
    go_enter Tryz.func73, Tryz.ntmps73
    go_wp2_with fail
    rw [← HW.out, ← HQ.out]
    go_quiet (fail)
    go_wp2_with fail
    obtain ⟨W2, hW2⟩ : ∃ W2, W2 = W.drewN nq := ⟨_, rfl⟩
    have k2 : W2.cell? ⟨k, 2, none⟩ = some (.slice (some ⟨g, 0, none⟩) m m) := by rw [hW2]; exact hc2
    have k0 : W2.cell? ⟨q, 0, none⟩ = some (.int .i64 f) := by rw [hW2]; exact hq0
    rw [← hW2]
    have HW2 := Lib.hid hW2
    clear hW2 hc2 hq0 hq1
    go_quiet (fail)
    go_wp2
    go_ret
    exact ⟨rfl, below_dN (by rw [HW2.out]; exact below_dN HB.out _) _⟩
theorem under_any (h : KinX Xc B w k a g n F S) {f o : Nat} (ho : o ≤ 8) (hf : f + 2 ^ o ≤ n) :
    Calls Tryz.prog 73 #[.pointer (some ⟨k, 0, none⟩), .agg #[.int .i64 f, .int .i64 o]] w fun e w' => e = .returned (.slice (some ⟨g, f / 8, none⟩) (upr f o - f / 8) (S.length - f / 8)) ∧ Below w.heap.size w w' := under_int h ho hf o rfl
end
end Go.Proofs.YtklhcgekagimkaaGreat
/- Contracts of the library's calls that package buddy makes, at this program: laid by the kit's command, in plain words. -/
namespace Go.Proofs
open Go.Shelf
def Tryz.lays122_ren : Go.Shelf.Ren := ⟨fun | 122 => 98 | 215 => 119 | n => n, fun | 3 => 3 | 4 => 4 | n => n, fun | n => n⟩
theorem Tryz.lays122 : Go.Proofs.Lays.n122 Tryz.prog Tryz.lays122_ren := {
  mixed := by kernel_rfl
  f122 := Tryz.func98.trans (congrArg some (by kernel_rfl))
  f215 := Tryz.func119.trans (congrArg some (by kernel_rfl))
  t3 := Tryz.underlying3
  a3 := Tryz.isAgg3
  z3 := Tryz.sizeOf3
  v3 := Tryz.zeroValue3
  t4 := Tryz.underlying4
  a4 := Tryz.isAgg4
  z4 := Tryz.sizeOf4
  v4 := Tryz.zeroValue4 }
open Go.RowKit in
theorem Tryz.cmp_Compare_int (x y : Int) (w : World) :
    Calls Tryz.prog 98 #[.int .i64 x, .int .i64 y] w fun e w' => e = .returned (.int .i64 (Lib.compareInt x y)) ∧ w' = w := Any.cmp_Compare_int Tryz.lays122 x y w
def Tryz.lays212_ren : Go.Shelf.Ren := ⟨fun | 212 => 100 | 263 => 125 | 264 => 126 | n => n, fun | 46 => 114 | 51 => 156 | 146 => 157 | 53 => 34 | 148 => 159 | n => n, fun | n => n⟩
theorem Tryz.lays212 : Go.Proofs.Lays.n212 Tryz.prog Tryz.lays212_ren := {
  mixed := by kernel_rfl
  f212 := Tryz.func100.trans (congrArg some (by kernel_rfl))
  f263 := Tryz.func125.trans (congrArg some (by kernel_rfl))
  f264 := Tryz.func126.trans (congrArg some (by kernel_rfl))
  t46 := Tryz.underlying114
  a46 := Tryz.isAgg114
  z46 := Tryz.sizeOf114
  v46 := Tryz.zeroValue114
  t51 := Tryz.underlying156
  a51 := Tryz.isAgg156
  z51 := Tryz.sizeOf156
  v51 := Tryz.zeroValue156
  t53 := Tryz.underlying34
  a53 := Tryz.isAgg34
  z53 := Tryz.sizeOf34
  v53 := Tryz.zeroValue34
  t146 := Tryz.underlying157
  a146 := Tryz.isAgg157
  z146 := Tryz.sizeOf157
  v146 := Tryz.zeroValue157
  t148 := Tryz.underlying159
  a148 := Tryz.isAgg159
  z148 := Tryz.sizeOf159
  v148 := Tryz.zeroValue159 }
open Go.RowKit Go.Lib in
theorem Tryz.bits_Mul (x y : Nat) (hx : x < 18446744073709551616) (hy : y < 18446744073709551616) (w : World) :
    Calls Tryz.prog 100 #[.int .u64 x, .int .u64 y] w fun e w' => e = .returned (.tuple #[.int .u64 ((x * y / 18446744073709551616 : Nat) : Int), .int .u64 ((x * y % 18446744073709551616 : Nat) : Int)]) ∧ w' = w := Any.bits_Mul Tryz.lays212 x y hx hy w
def Tryz.laysNm225_ren : Go.Shelf.Ren := ⟨fun | 25 => 142 | 31 => 152 | 32 => 153 | 37 => 119 | n => n, fun | 22 => 30 | 3 => 3 | 4 => 4 | 40 => 114 | 0 => 0 | n => n, fun | n => n⟩
theorem Tryz.laysNm225 : Go.Proofs.Lays2.n25 Tryz.prog Tryz.laysNm225_ren := {
  mixed := by kernel_rfl
  f25 := Tryz.func142.trans (congrArg some (by kernel_rfl))
  f31 := Tryz.func152.trans (congrArg some (by kernel_rfl))
  f32 := Tryz.func153.trans (congrArg some (by kernel_rfl))
  f37 := Tryz.func119.trans (congrArg some (by kernel_rfl))
  t0 := Tryz.underlying0
  a0 := Tryz.isAgg0
  z0 := Tryz.sizeOf0
  v0 := Tryz.zeroValue0
  t3 := Tryz.underlying3
  a3 := Tryz.isAgg3
  z3 := Tryz.sizeOf3
  v3 := Tryz.zeroValue3
  t4 := Tryz.underlying4
  a4 := Tryz.isAgg4
  z4 := Tryz.sizeOf4
  v4 := Tryz.zeroValue4
  t22 := Tryz.underlying30
  a22 := Tryz.isAgg30
  z22 := Tryz.sizeOf30
  v22 := Tryz.zeroValue30
  t40 := Tryz.underlying114
  a40 := Tryz.isAgg114
  z40 := Tryz.sizeOf114
  v40 := Tryz.zeroValue114 }
open Go.RowKit Go.Lib in
theorem Tryz.slices_BinarySearch_int (b off n c : Nat) (zs : List Int) (x : Int) (w : World) (hz : n ≤ zs.length) (hbig : n < 4611686018427387904) (hc : ∀ j, j < zs.length → w.cell? ⟨b, off + j, none⟩ = some (.int .i64 (zs.getD j 0))) (hs : (zs.take n).Pairwise (· ≤ ·)) :
    Calls Tryz.prog 142 #[.slice (some ⟨b, off, none⟩) n c, .int .i64 x] w fun e w' => e = .returned (.tuple #[.int .i64 ((zs.take n).countP (· < x) : Nat), .bool ((zs.take n).contains x)]) ∧ ∃ q, w' = w.drewN q := Any.slices_BinarySearch_int Tryz.laysNm225 b off n c zs x w hz hbig hc hs
def Tryz.laysNm223_ren : Go.Shelf.Ren := ⟨fun | 23 => 143 | n => n, fun | 22 => 30 | 3 => 3 | 4 => 4 | 0 => 0 | n => n, fun | n => n⟩
theorem Tryz.laysNm223 : Go.Proofs.Lays2.n23 Tryz.prog Tryz.laysNm223_ren := {
  mixed := by kernel_rfl
  f23 := Tryz.func143.trans (congrArg some (by kernel_rfl))
  t0 := Tryz.underlying0
  a0 := Tryz.isAgg0
  z0 := Tryz.sizeOf0
  v0 := Tryz.zeroValue0
  t3 := Tryz.underlying3
  a3 := Tryz.isAgg3
  z3 := Tryz.sizeOf3
  v3 := Tryz.zeroValue3
  t4 := Tryz.underlying4
  a4 := Tryz.isAgg4
  z4 := Tryz.sizeOf4
  v4 := Tryz.zeroValue4
  t22 := Tryz.underlying30
  a22 := Tryz.isAgg30
  z22 := Tryz.sizeOf30
  v22 := Tryz.zeroValue30
  i3 := by kernel_rfl }
open Go.RowKit Go.Lib Go.Sort in
theorem Tryz.slices_Delete_int_cells (b off n c i j : Nat) (zs : List Int) (w : World) (hz : n ≤ zs.length) (hcap : n ≤ c) (hm : c ≤ 9223372036854775807) (hij : i ≤ j) (hj : j ≤ n) (hc : ∀ j, j < zs.length → w.cell? ⟨b, off + j, none⟩ = some (.int .i64 (zs.getD j 0))) (hf : ∀ j, j < n → w.frozen? ⟨b, off + j, none⟩ = false) :
    Calls Tryz.prog 143 #[.slice (some ⟨b, off, none⟩) n c, .int .i64 i, .int .i64 j] w fun e w' => e = .returned (.slice (some ⟨b, off, none⟩) (n - (j - i)) c) ∧ ∃ q, w' = (w.drewN q).setCells b off (((zs.take n).take i ++ (zs.take n).drop j ++ List.replicate (j - i) 0).map (Value.int .i64)) := Any.slices_Delete_int_cells Tryz.laysNm223 b off n c i j zs w hz hcap hm hij hj hc hf
open Go.RowKit Go.Lib in
theorem Tryz.slices_BinarySearch_int_empty (a : Option Addr) (c : Nat) (x : Int) (w : World) :
    Calls Tryz.prog 142 #[.slice a 0 c, .int .i64 x] w fun e w' => e = .returned (.tuple #[.int .i64 0, .bool false]) ∧ w' = w := Any.slices_BinarySearch_int_empty Tryz.laysNm225 a c x w
def Tryz.sortB_ren : Go.Shelf.Ren := ⟨fun | 6 => 96 | 15 => 118 | 14 => 117 | 28 => 140 | 29 => 141 | 20 => 132 | 21 => 133 | 22 => 134 | 23 => 135 | 24 => 136 | 25 => 137 | 26 => 138 | 27 => 139 | 46 => 147 | 47 => 148 | 48 => 149 | 49 => 150 | 50 => 151 | 57 => 156 | n => n, fun | 22 => 50 | 24 => 92 | 25 => 135 | 3 => 3 | 39 => 114 | 0 => 0 | 53 => 156 | 55 => 34 | 4 => 4 | 46 => 167 | 45 => 166 | 50 => 171 | 5 => 5 | 9 => 9 | 66 => 178 | 70 => 182 | 76 => 186 | 77 => 187 | n => n, fun | n => n⟩
theorem Tryz.sortB : Go.Proofs.SlLaysF0.n6 Tryz.prog Tryz.sortB_ren := {
  mixed := by kernel_rfl
  f6 := ⟨Tryz.f96.name, by decide, Tryz.func96.trans (congrArg some (by kernel_rfl))⟩
  f14 := ⟨Tryz.f117.name, by decide, Tryz.func117.trans (congrArg some (by kernel_rfl))⟩
  f15 := Tryz.func118.trans (congrArg some (by kernel_rfl))
  f20 := ⟨Tryz.f132.name, by decide, Tryz.func132.trans (congrArg some (by kernel_rfl))⟩
  f21 := ⟨Tryz.f133.name, by decide, Tryz.func133.trans (congrArg some (by kernel_rfl))⟩
  f22 := ⟨Tryz.f134.name, by decide, Tryz.func134.trans (congrArg some (by kernel_rfl))⟩
  f23 := ⟨Tryz.f135.name, by decide, Tryz.func135.trans (congrArg some (by kernel_rfl))⟩
  f24 := ⟨Tryz.f136.name, by decide, Tryz.func136.trans (congrArg some (by kernel_rfl))⟩
  f25 := ⟨Tryz.f137.name, by decide, Tryz.func137.trans (congrArg some (by kernel_rfl))⟩
  f26 := ⟨Tryz.f138.name, by decide, Tryz.func138.trans (congrArg some (by kernel_rfl))⟩
  f27 := ⟨Tryz.f139.name, by decide, Tryz.func139.trans (congrArg some (by kernel_rfl))⟩
  f28 := Tryz.func140.trans (congrArg some (by kernel_rfl))
  f29 := Tryz.func141.trans (congrArg some (by kernel_rfl))
  f46 := ⟨Tryz.f147.name, by decide, Tryz.func147.trans (congrArg some (by kernel_rfl))⟩
  f47 := Tryz.func148.trans (congrArg some (by kernel_rfl))
  f48 := Tryz.func149.trans (congrArg some (by kernel_rfl))
  f49 := ⟨Tryz.f150.name, by decide, Tryz.func150.trans (congrArg some (by kernel_rfl))⟩
  f50 := ⟨Tryz.f151.name, by decide, Tryz.func151.trans (congrArg some (by kernel_rfl))⟩
  f57 := ⟨Tryz.f156.name, by decide, Tryz.func156.trans (congrArg some (by kernel_rfl))⟩
  t0 := Tryz.underlying0
  a0 := Tryz.isAgg0
  z0 := Tryz.sizeOf0
  v0 := Tryz.zeroValue0
  t3 := Tryz.underlying3
  a3 := Tryz.isAgg3
  z3 := Tryz.sizeOf3
  v3 := Tryz.zeroValue3
  t4 := Tryz.underlying4
  a4 := Tryz.isAgg4
  z4 := Tryz.sizeOf4
  v4 := Tryz.zeroValue4
  t5 := Tryz.underlying5
  a5 := Tryz.isAgg5
  z5 := Tryz.sizeOf5
  v5 := Tryz.zeroValue5
  t9 := Tryz.underlying9
  a9 := Tryz.isAgg9
  z9 := Tryz.sizeOf9
  v9 := Tryz.zeroValue9
  t22 := Tryz.underlying50
  a22 := Tryz.isAgg50
  z22 := Tryz.sizeOf50
  v22 := Tryz.zeroValue50
  t25 := Tryz.underlying135
  a25 := Tryz.isAgg135
  z25 := Tryz.sizeOf135
  v25 := Tryz.zeroValue135
  t39 := Tryz.underlying114
  a39 := Tryz.isAgg114
  z39 := Tryz.sizeOf114
  v39 := Tryz.zeroValue114
  t45 := Tryz.underlying166
  a45 := Tryz.isAgg166
  z45 := Tryz.sizeOf166
  v45 := Tryz.zeroValue166
  t46 := Tryz.underlying167
  a46 := Tryz.isAgg167
  z46 := Tryz.sizeOf167
  v46 := Tryz.zeroValue167
  t50 := Tryz.underlying171
  a50 := Tryz.isAgg171
  z50 := Tryz.sizeOf171
  v50 := Tryz.zeroValue171
  t53 := Tryz.underlying156
  a53 := Tryz.isAgg156
  z53 := Tryz.sizeOf156
  v53 := Tryz.zeroValue156
  t55 := Tryz.underlying34
  a55 := Tryz.isAgg34
  z55 := Tryz.sizeOf34
  v55 := Tryz.zeroValue34
  t66 := Tryz.underlying178
  a66 := Tryz.isAgg178
  z66 := Tryz.sizeOf178
  v66 := Tryz.zeroValue178
  t70 := Tryz.underlying182
  a70 := Tryz.isAgg182
  z70 := Tryz.sizeOf182
  v70 := Tryz.zeroValue182
  t76 := Tryz.underlying186
  a76 := Tryz.isAgg186
  z76 := Tryz.sizeOf186
  v76 := Tryz.zeroValue186
  t77 := Tryz.underlying187
  a77 := Tryz.isAgg187
  z77 := Tryz.sizeOf187
  v77 := Tryz.zeroValue187 }
def Tryz.insI_ren : Go.Shelf.Ren := ⟨fun | 21 => 144 | 27 => 154 | 28 => 155 | 35 => 157 | 39 => 158 | n => n, fun | 22 => 30 | 3 => 3 | 4 => 4 | 0 => 0 | n => n, fun | n => n⟩
theorem Tryz.insI : Go.Proofs.Lays2.n21 Tryz.prog Tryz.insI_ren := {
  mixed := by kernel_rfl
  f21 := Tryz.func144.trans (congrArg some (by kernel_rfl))
  f27 := Tryz.func154.trans (congrArg some (by kernel_rfl))
  f28 := Tryz.func155.trans (congrArg some (by kernel_rfl))
  f35 := Tryz.func157.trans (congrArg some (by kernel_rfl))
  f39 := Tryz.func158.trans (congrArg some (by kernel_rfl))
  t0 := Tryz.underlying0
  a0 := Tryz.isAgg0
  z0 := Tryz.sizeOf0
  v0 := Tryz.zeroValue0
  t3 := Tryz.underlying3
  a3 := Tryz.isAgg3
  z3 := Tryz.sizeOf3
  v3 := Tryz.zeroValue3
  t4 := Tryz.underlying4
  a4 := Tryz.isAgg4
  z4 := Tryz.sizeOf4
  v4 := Tryz.zeroValue4
  t22 := Tryz.underlying30
  a22 := Tryz.isAgg30
  z22 := Tryz.sizeOf30
  v22 := Tryz.zeroValue30
  i3 := by kernel_rfl }
end Go.Proofs
/- The library's search, insertion and deletion over the rows of the free lists. -/
namespace Go.Proofs.YtklhcgekagimkaaGreat
open Go.RowKit

def nint (l : List Nat) : List Int := l.map (fun x : Nat => (x : Int))
def cutX (x : Int) (l : List Nat) : Nat := (nint l).countP (· < x)
def memX (x : Int) (l : List Nat) : Bool := (nint l).contains x
theorem cutX_nat (a : Nat) (l : List Nat) : cutX a l = cutI a l := by
  unfold cutX cutI nint
  rw [List.countP_map]
  congr 1
  funext y
  simp
theorem memX_nat (a : Nat) (l : List Nat) : memX a l = decide (a ∈ l) := by
  unfold memX nint
  rw [Bool.eq_iff_iff, List.contains_iff_mem, decide_eq_true_eq, List.mem_map]
  constructor
  · rintro ⟨y, hy, e⟩
    obtain rfl : y = a := by omega
    exact hy
  · intro h; exact ⟨a, h, rfl⟩
theorem memX_neg {x : Int} (l : List Nat) (h : x < 0) : memX x l = false := by
  unfold memX nint
  rw [← Bool.not_eq_true, List.contains_iff_mem, List.mem_map]
  rintro ⟨y, hy, e⟩
  omega
theorem ints_at (l : List Nat) (r : List Int) (j : Nat) (hj : j < (ints l r).length) : (icells (ints l r))[j]? = some (.int .i64 ((ints l r).getD j 0)) := by
  rw [icells_get, List.getD_eq_getElem?_getD, List.getElem?_eq_getElem hj]; rfl
theorem nint_up {l : List Nat} (h : Up l) : (nint l).Pairwise (· ≤ ·) := by
  unfold nint
  rw [List.pairwise_map]
  exact h.imp fun {x y} h => by omega
section
variable {w : World} {b : Nat} {l : List Nat} {r : List Int}
theorem search_row (hr : Lrow w b 3 (icells (ints l r))) (hl : l.length ≤ 4096) (hu : Up l) (x : Int) :
    Calls Tryz.prog 142 #[.slice (some ⟨b, 0, none⟩) l.length (l.length + r.length), .int .i64 x] w fun e w' => e = .returned (.tuple #[.int .i64 (cutX x l : Nat), .bool (memX x l)]) ∧ ∃ q, w' = w.drewN q := by
  have ht := ints_take l r
  have h := Tryz.slices_BinarySearch_int b 0 l.length (l.length + r.length) (ints l r) x w (by rw [ints_length]; omega) (by omega)
    (fun j hj => by rw [Nat.zero_add, hr.cell]; exact ints_at l r j hj) (by rw [ht]; exact nint_up hu)
  rw [ht] at h
  exact h
theorem splice_len {α : Type} (L cs : List α) (o : Nat) (h : o + cs.length ≤ L.length) : (splice L o cs).length = L.length := by
  simp only [splice, List.length_append, List.length_take, List.length_drop]; omega
theorem splice_zero {α : Type} (L cs : List α) : splice L 0 cs = cs ++ L.drop cs.length := by simp [splice]
theorem delete_row (hr : Lrow w b 3 (icells (ints l r))) (hm : l.length + r.length ≤ 9223372036854775807) (hu : Up l) {x : Nat} (hx : x ∈ l) :
    Calls Tryz.prog 143 #[.slice (some ⟨b, 0, none⟩) l.length (l.length + r.length), .int .i64 (cutI x l : Nat), .int .i64 ((cutI x l : Nat) + 1)] w fun e w' =>
      e = .returned (.slice (some ⟨b, 0, none⟩) (remL x l).length (l.length + r.length)) ∧ Lrow w' b 3 (icells (ints (remL x l) (0 :: r))) ∧ w.grownBy w' (some b) := by
  have hc := cut_lt hu hx
  have hrl := remL_len hu hx
  have ht := ints_take l r
  have h := Tryz.slices_Delete_int_cells b 0 l.length (l.length + r.length) (cutI x l) (cutI x l + 1) (ints l r) w (by rw [ints_length]; omega) (by omega) hm (by omega) (by omega)
    (fun j hj => by rw [Nat.zero_add, hr.cell]; exact ints_at l r j hj) (fun j _ => by rw [Nat.zero_add]; exact hr.frozen j)
  rw [ht, show ((cutI x l + 1 : Nat) : Int) = (cutI x l : Nat) + 1 by omega, show l.length - (cutI x l + 1 - cutI x l) = (remL x l).length by omega, show cutI x l + 1 - cutI x l = 1 by omega] at h
  refine h.mono ?_
  rintro e w' ⟨rfl, q, rfl⟩
  have hcs : ((List.map (fun x : Nat => (x : Int)) l).take (cutI x l) ++ (List.map (fun x : Nat => (x : Int)) l).drop (cutI x l + 1) ++ List.replicate 1 (0 : Int)) = (remL x l).map (fun x : Nat => (x : Int)) ++ [0] := by
    simp [remL, List.map_take, List.map_drop]
  rw [hcs]
  refine ⟨rfl, ?_, (grown_drewN _ _ _).trans (grown_setCells _ _ _ _)⟩
  have h1 := (hr.drewN q).setCells (((remL x l).map (fun x : Nat => (x : Int)) ++ [0]).map (Value.int .i64)) 0 (by simp [icells_length, ints_length]; omega)
  rw [splice_zero] at h1
  have e1 : ((remL x l).map (fun x : Nat => (x : Int)) ++ [0]).map (Value.int .i64) ++ (icells (ints l r)).drop (((remL x l).map (fun x : Nat => (x : Int)) ++ [0]).map (Value.int .i64)).length = icells (ints (remL x l) (0 :: r)) := by
    have e2 : (((remL x l).map (fun x : Nat => (x : Int)) ++ [0]).map (Value.int .i64)).length = l.length := by simp; omega
    rw [e2]
    have e3 : (icells (ints l r)).drop l.length = icells r := by
      unfold icells ints
      rw [← List.map_drop, List.drop_append_of_le_length (by simp), List.drop_of_length_le (by simp)]; rfl
    rw [e3]
    simp [icells, ints]
  rw [e1] at h1
  exact h1
/-- What an insertion comes to: the row lies in its block, or in a new one; no other block has turned. -/
def Inserted (w : World) (p : Option Nat) (x : Nat) (l : List Nat) (e : Ending) (w' : World) : Prop :=
  ∃ b r, e = .returned (.slice (some ⟨b, 0, none⟩) (insL x l).length ((insL x l).length + r.length)) ∧ Lrow w' b 3 (icells (ints (insL x l) r)) ∧ (insL x l).length + r.length ≤ 9223372036854775807 ∧ w.grownBy w' (some b) ∧ (p = some b ∨ w.heap.size ≤ b)
theorem insL_end {x : Nat} {l : List Nat} (h : cutI x l = l.length) : insL x l = l ++ [x] := by simp [insL, h]
theorem zeroCells_int (n : Nat) : Builtin.zeroCells (Value.int .i64 0).cells n = (icells (List.replicate n (0 : Int))).toArray := by
  apply Array.ext
  · rw [size_zeroCells]; simp [icells_length, Value.cells]
  · intro i h1 h2
    simp [Builtin.zeroCells, icells, Value.cells, Nat.mod_one]
end
theorem shift_list {α : Type} (A D R : List α) (x y z : α) : splice (splice (A ++ z :: D ++ y :: R) (A.length + 1) (z :: D)) A.length [x] = A ++ x :: z :: D ++ R := by
  have e1 : splice (A ++ z :: D ++ y :: R) (A.length + 1) (z :: D) = A ++ z :: (z :: D ++ R) := by
    unfold splice
    rw [show A ++ z :: D ++ y :: R = (A ++ [z]) ++ (D ++ y :: R) by simp, List.take_left' (by simp), show A.length + 1 + (z :: D).length = (A ++ [z]).length + (D.length + 1) by simp, ← List.drop_drop, List.drop_left]
    rw [show D ++ y :: R = (D ++ [y]) ++ R by simp, List.drop_left' (by simp)]
    simp
  rw [e1]
  unfold splice
  rw [List.take_left, show A.length + [x].length = A.length + 1 by rfl, ← List.drop_drop, List.drop_left]
  simp
theorem grow_list {α : Type} (A Z D R : List α) (x : α) (h : Z.length = D.length + 1) : splice (splice (A ++ Z ++ R) A.length [x]) (A.length + 1) D = A ++ x :: D ++ R := by
  obtain ⟨z, Z, rfl⟩ : ∃ z Y, Z = z :: Y := List.exists_cons_of_length_eq_add_one h
  simp only [List.length_cons] at h
  have e1 : splice (A ++ z :: Z ++ R) A.length [x] = A ++ [x] ++ (Z ++ R) := by
    unfold splice
    rw [List.append_assoc, List.take_left, show A.length + [x].length = A.length + 1 by rfl, ← List.drop_drop, List.drop_left]
    simp
  rw [e1]
  unfold splice
  rw [List.take_left' (by simp), show A.length + 1 + D.length = (A ++ [x]).length + Z.length by simp; omega, ← List.drop_drop, List.drop_left, List.drop_left]
  simp
theorem room_list {α : Type} (A R : List α) (x y : α) : splice (A ++ y :: R) A.length [x] = A ++ x :: R := by
  unfold splice
  rw [List.take_left, show A.length + [x].length = A.length + 1 by rfl, ← List.drop_drop, List.drop_left]
  simp
theorem icells_append (a b : List Int) : icells (a ++ b) = icells a ++ icells b := by simp [icells]
theorem nint_insL (x : Nat) (l : List Nat) : nint (insL x l) = nint (l.take (cutI x l)) ++ (x : Int) :: nint (l.drop (cutI x l)) := by simp [nint, insL]
theorem nint_take (i : Nat) (l : List Nat) : (icells (nint l)).take i = icells (nint (l.take i)) := by simp [icells, nint, List.map_take]
theorem nint_drop (i : Nat) (l : List Nat) : (icells (nint l)).drop i = icells (nint (l.drop i)) := by simp [icells, nint, List.map_drop]
theorem nint_length (l : List Nat) : (nint l).length = l.length := by simp [nint]
theorem ints_eq (l : List Nat) (r : List Int) : ints l r = nint l ++ r := rfl
section
variable {w : World} {b vb x : Nat} {l : List Nat} {r : List Int}
theorem icells_one (zs : List Int) : ∀ v ∈ icells zs, v.oneCell' = true := by
  intro v hv
  unfold icells at hv
  obtain ⟨z, _, rfl⟩ := List.mem_map.1 hv
  rfl
theorem row_cells {zs ys : List Int} (hr : Lrow w b 3 (icells (zs ++ ys))) (j : Nat) (v : Value) (h : (icells zs)[j]? = some v) : w.cell? ⟨b, 0 + j, none⟩ = some v := by
  rw [Nat.zero_add, hr.cell, icells_append, List.getElem?_append_left]
  · exact h
  · rcases Nat.lt_or_ge j (icells zs).length with g | g
    · exact g
    · rw [List.getElem?_eq_none g] at h; cases h
theorem row_some {vs : List Value} {t : TypeId} (hr : Lrow w b t vs) (j : Nat) (h : j < vs.length) : (w.cell? ⟨b, j, none⟩).isSome = true := by
  rw [hr.cell, List.getElem?_eq_getElem h]; rfl
theorem arg_cells (hv : Lrow w vb 3 [.int .i64 x]) (j : Nat) (v : Value) (h : [Value.int .i64 x][j]? = some v) : w.cell? ⟨vb, 0 + j, none⟩ = some v := by
  rw [Nat.zero_add, hv.cell]; exact h
theorem arg_one : ∀ v ∈ [Value.int .i64 x], v.oneCell' = true := by
  intro v hv
  rw [List.mem_singleton.1 hv]; rfl
/-- A slice that is nil. -/
theorem insert_nil (hv : Lrow w vb 3 [.int .i64 x]) : Calls Tryz.prog 144 #[.slice none 0 0, .int .i64 0, .slice (some ⟨vb, 0, none⟩) 1 1] w (Inserted w none x []) := by
  have h := Any2.slices_Insert_int_end_grow Tryz.insI none 0 0 vb 0 1 1 [] [.int .i64 x] w (by omega) (by omega) (by omega) (by omega) rfl rfl (fun _ => rfl) (fun a h => by cases h) (arg_cells hv) arg_one
  change Calls Tryz.prog 144 _ _ _ at h
  refine h.mono ?_
  rintro e w' ⟨rfl, rfl⟩
  have hge := grownCap_ge w (0 + 1) 0 3
  have hle := grownCap_le_maxLen w (0 + 1) 0 3 (by decide)
  have ec : Tryz.insI_ren.t 3 = 3 := rfl
  rw [ec]
  obtain ⟨c, hc⟩ : ∃ c, c = grownCap w (0 + 1) 0 3 := ⟨_, rfl⟩
  rw [← hc] at hge hle ⊢
  refine ⟨w.heap.size, List.replicate (c - 1) 0, ?_, ?_, ?_, ?_, Or.inr (Nat.le_refl _)⟩
  · simp only [insL, cutI, List.length_replicate, List.countP_nil, List.take_nil, List.nil_append, List.drop_nil, List.length_cons, List.length_nil]
    rw [show 0 + 1 + (c - 1) = c by omega]
  · have := Lrow.new w.drew 3 (icells (ints (insL x []) (List.replicate (c - 1) 0)))
    rw [zeroCells_int]
    have e : (icells (ints (insL x []) (List.replicate (c - 1) 0))).toArray = ([] ++ [Value.int .i64 x]).toArray ++ (icells (List.replicate (c - (0 + 1)) 0)).toArray := by
      simp [icells, ints, insL, cutI]
    rw [e] at this
    exact this
  · simp only [insL, cutI, List.length_replicate, List.countP_nil, List.take_nil, List.nil_append, List.drop_nil, List.length_cons, List.length_nil]
    simp only [maxLen] at hle; omega
  · exact grown_alloc (grown_drewN w 1 _) _
theorem insert_row (hr : Lrow w b 3 (icells (ints l r))) (hm : l.length + r.length ≤ 9223372036854775807) (h0 : 0 < l.length + r.length) (hl : l.length ≤ 4096) (hv : Lrow w vb 3 [.int .i64 x]) (hvb : vb ≠ b) :
    Calls Tryz.prog 144 #[.slice (some ⟨b, 0, none⟩) l.length (l.length + r.length), .int .i64 (cutI x l : Nat), .slice (some ⟨vb, 0, none⟩) 1 1] w (Inserted w (some b) x l) := by
  have hil := insL_len x l
  have hci := cutI_le x l
  rw [ints_eq] at hr
  by_cases hend : cutI x l = l.length
  · have hins := insL_end hend
    rw [hend]
    cases r with
    | nil =>
      have h := Any2.slices_Insert_int_end_grow Tryz.insI (some ⟨b, 0, none⟩) l.length (l.length + 0) vb 0 1 1 (icells (nint l)) [.int .i64 x] w (by omega) (by omega) (by omega) (by omega) (by rw [icells_length, nint_length]) rfl (fun h => by cases h)
        (fun a ha j v hj => by injection ha with ha; subst ha; rw [Addr.add_lit]; exact row_cells hr j v hj) (arg_cells hv) arg_one
      change Calls Tryz.prog 144 _ _ _ at h
      refine h.mono ?_
      rintro e w' ⟨rfl, rfl⟩
      have hge := grownCap_ge w (l.length + 1) (l.length + 0) 3
      have hle := grownCap_le_maxLen w (l.length + 1) (l.length + 0) 3 (by simp only [maxLen]; omega)
      have ec : Tryz.insI_ren.t 3 = 3 := rfl
      rw [ec]
      obtain ⟨c, hc⟩ : ∃ c, c = grownCap w (l.length + 1) (l.length + 0) 3 := ⟨_, rfl⟩
      rw [← hc] at hge hle ⊢
      simp only [maxLen] at hle
      refine ⟨w.heap.size, List.replicate (c - (l.length + 1)) 0, ?_, ?_, ?_, ?_, Or.inr (Nat.le_refl _)⟩
      · rw [hil, List.length_replicate, show l.length + 1 + (c - (l.length + 1)) = c by omega]
      · have := Lrow.new w.drew 3 (icells (ints (insL x l) (List.replicate (c - (l.length + 1)) 0)))
        rw [zeroCells_int]
        have e : (icells (ints (insL x l) (List.replicate (c - (l.length + 1)) 0))).toArray = (icells (nint l) ++ [Value.int .i64 x]).toArray ++ (icells (List.replicate (c - (l.length + 1)) 0)).toArray := by
          rw [hins]
          simp [icells, ints, nint]
        rw [e] at this
        exact this
      · rw [hil, List.length_replicate]; omega
      · exact grown_alloc (grown_drewN w 1 _) _
    | cons y r =>
      have h := Any2.slices_Insert_int_end_room Tryz.insI b 0 l.length (l.length + (y :: r).length) vb 0 1 1 [.int .i64 x] w (by omega) (by simp only [List.length_cons]; omega) hm rfl
        (fun j hj => by rw [Nat.zero_add]; exact row_some hr _ (by simp only [icells_length, List.length_append, nint_length, List.length_cons]; omega)) (fun j _ => hr.frozen _) (arg_cells hv) arg_one
      change Calls Tryz.prog 144 _ _ _ at h
      refine h.mono ?_
      rintro e w' ⟨rfl, rfl⟩
      refine ⟨b, r, ?_, ?_, ?_, grown_setCells _ _ _ _, Or.inl rfl⟩
      · rw [hil]; simp only [List.length_cons]; rw [show l.length + 1 + r.length = l.length + (r.length + 1) by omega]
      · have := hr.setCells [.int .i64 x] (0 + l.length) (by simp only [icells_length, List.length_append, nint_length, List.length_cons, List.length_nil]; omega)
        have e : splice (icells (nint l ++ y :: r)) (0 + l.length) [.int .i64 x] = icells (ints (insL x l) r) := by
          have := room_list (icells (nint l)) (icells r) (.int .i64 x) (.int .i64 y)
          rw [icells_length, nint_length] at this
          rw [Nat.zero_add, icells_append, show icells (y :: r) = .int .i64 y :: icells r from rfl, this, hins]
          simp [icells, ints, nint]
        rw [e] at this
        exact this
      · rw [hil]; simp only [List.length_cons] at hm; omega
  · have hlt : cutI x l < l.length := by omega
    obtain ⟨A, z, D, hA, hD, hAl, hzl⟩ : ∃ A z D, A = l.take (cutI x l) ∧ z :: D = l.drop (cutI x l) ∧ A.length = cutI x l ∧ l = A ++ z :: D :=
      ⟨l.take (cutI x l), l[cutI x l], l.drop (cutI x l + 1), rfl, (List.drop_eq_getElem_cons hlt).symm, by rw [List.length_take]; omega, by rw [← List.drop_eq_getElem_cons hlt, List.take_append_drop]⟩
    have hins : insL x l = A ++ x :: z :: D := by unfold insL; rw [← hA, ← hD]
    have hln : l.length = A.length + (D.length + 1) := by rw [hzl]; simp
    cases r with
    | nil =>
      have h := Any2.slices_Insert_int_grow Tryz.insI b 0 l.length (l.length + 0) (cutI x l) vb 0 1 1 (icells (nint l)) [.int .i64 x] w hlt (by omega) (by omega) (by omega) (by omega) (by rw [icells_length, nint_length]) rfl
        (row_cells hr) (arg_cells hv) (icells_one _) arg_one
      change Calls Tryz.prog 144 _ _ _ at h
      refine h.mono ?_
      rintro e w' ⟨rfl, rfl⟩
      have hge := grownCap_ge w (l.length + 1) (l.length + 0) 3
      have hle := grownCap_le_maxLen w (l.length + 1) (l.length + 0) 3 (by simp only [maxLen]; omega)
      have ec : Tryz.insI_ren.t 3 = 3 := rfl
      rw [ec]
      obtain ⟨c, hc⟩ : ∃ c, c = grownCap w (l.length + 1) (l.length + 0) 3 := ⟨_, rfl⟩
      rw [← hc] at hge hle ⊢
      simp only [maxLen] at hle
      refine ⟨w.heap.size, List.replicate (c - (l.length + 1)) 0, ?_, ?_, ?_, ?_, Or.inr (Nat.le_refl _)⟩
      · rw [hil, List.length_replicate, show l.length + 1 + (c - (l.length + 1)) = c by omega]
      · rw [zeroCells_int, zeroCells_int, nint_take, nint_drop, ← hA, ← hD]
        have h1 := Lrow.new w 3 (icells (nint A) ++ icells (List.replicate (l.length + 1 - cutI x l) 0) ++ icells (List.replicate (c - (l.length + 1)) 0))
        have e1 : (icells (nint A) ++ icells (List.replicate (l.length + 1 - cutI x l) 0) ++ icells (List.replicate (c - (l.length + 1)) 0)).toArray = (icells (nint A)).toArray ++ (icells (List.replicate (l.length + 1 - cutI x l) 0)).toArray ++ (icells (List.replicate (c - (l.length + 1)) 0)).toArray := by simp
        rw [e1] at h1
        have h2 := ((h1.drewN 1).setCells [.int .i64 x] (cutI x l) (by simp only [List.length_append, icells_length, nint_length, List.length_replicate, List.length_cons, List.length_nil]; omega))
        have h3 := (h2.drewN 1).setCells (icells (nint (z :: D))) (cutI x l + 1) (by
          rw [splice_len _ _ _ (by simp only [List.length_append, icells_length, nint_length, List.length_replicate, List.length_cons, List.length_nil]; omega)]
          simp only [List.length_append, icells_length, nint_length, List.length_replicate, List.length_cons]; omega)
        have e2 := grow_list (icells (nint A)) (icells (List.replicate (l.length + 1 - cutI x l) 0)) (icells (nint (z :: D))) (icells (List.replicate (c - (l.length + 1)) 0)) (.int .i64 x) (by simp only [icells_length, nint_length, List.length_replicate, List.length_cons]; omega)
        rw [icells_length, nint_length, hAl] at e2
        rw [e2] at h3
        have e3 : icells (nint A) ++ Value.int .i64 x :: icells (nint (z :: D)) ++ icells (List.replicate (c - (l.length + 1)) 0) = icells (ints (insL x l) (List.replicate (c - (l.length + 1)) 0)) := by
          rw [hins]; simp [icells, ints, nint]
        rw [e3] at h3
        exact h3
      · rw [hil, List.length_replicate]; omega
      · refine World.grownBy.trans (World.grownBy.trans (grown_alloc (World.grownBy.refl w _) _) ((grown_drewN _ 1 _).trans (grown_setCells _ _ _ _))) ((grown_drewN _ 1 _).trans (grown_setCells _ _ _ _))
    | cons y r =>
      have h := Any2.slices_Insert_int_shift Tryz.insI b 0 l.length (l.length + (y :: r).length) (cutI x l) vb 0 1 1 (icells (nint l)) [.int .i64 x] w hlt (by omega) (by simp only [List.length_cons]; omega) hm hvb (by rw [icells_length, nint_length]) rfl
        (row_cells hr) (fun j hj => by rw [Nat.zero_add]; exact row_some hr _ (by simp only [icells_length, List.length_append, nint_length, List.length_cons]; omega)) (fun j _ => hr.frozen _) (arg_cells hv) (icells_one _) arg_one
        _ _ _ _ hv.shape hr.shape (by simp only [icells_length, List.length_append, nint_length, List.length_cons]; omega) (hv.frozen _) (hv.frozen _)
      change Calls Tryz.prog 144 _ _ _ at h
      refine h.mono ?_
      rintro e w' ⟨rfl, rfl⟩
      refine ⟨b, r, ?_, ?_, ?_, (grown_drewN w 1 _).trans ((grown_setCells _ _ _ _).trans (grown_setCells _ _ _ _)), Or.inl rfl⟩
      · rw [hil]; simp only [List.length_cons]; rw [show l.length + 1 + r.length = l.length + (r.length + 1) by omega]
      · rw [nint_drop, ← hD]
        have h2 := (hr.drewN 1).setCells (icells (nint (z :: D))) (0 + (cutI x l + 1)) (by simp only [List.length_append, icells_length, nint_length, List.length_cons]; omega)
        have h3 := h2.setCells [.int .i64 x] (0 + cutI x l) (by
          rw [splice_len _ _ _ (by simp only [List.length_append, icells_length, nint_length, List.length_cons]; omega)]
          simp only [List.length_append, icells_length, nint_length, List.length_cons, List.length_nil]; omega)
        have e2 := shift_list (icells (nint A)) (icells (nint D)) (icells r) (.int .i64 x) (.int .i64 y) (.int .i64 z)
        rw [icells_length, nint_length, hAl] at e2
        have e3 : icells (nint l ++ y :: r) = icells (nint A) ++ Value.int .i64 z :: icells (nint D) ++ Value.int .i64 y :: icells r := by
          rw [hzl]; simp [icells, nint]
        have e4 : icells (nint A) ++ Value.int .i64 x :: Value.int .i64 z :: icells (nint D) ++ icells r = icells (ints (insL x l) r) := by
          rw [hins]; simp [icells, ints, nint]
        rw [Nat.zero_add, Nat.zero_add, e3, show icells (nint (z :: D)) = Value.int .i64 z :: icells (nint D) from rfl, e2, e4] at h3
        rw [Nat.zero_add, Nat.zero_add]
        exact h3
      · rw [hil]; simp only [List.length_cons] at hm; omega
end
end Go.Proofs.YtklhcgekagimkaaGreat
