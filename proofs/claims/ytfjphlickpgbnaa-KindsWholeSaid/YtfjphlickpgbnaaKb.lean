/- Free frames by kinds as they lie in memory; what a frame's kind is; the sections under a block. -/
import Derived.Test.YtfjphlickpgbnaaKa
import Derived.Test.YtfjphlickpgbnaaHp
namespace Go.Proofs.Ytfjphlickpgbnaa
variable {Xc : Nat → Prop}
open Go.RowKit

/-- The sections' kinds as cells. -/
def kcl (S : List Nat) : List Value := S.map fun x : Nat => Value.int .i64 x
theorem kcl_length (S : List Nat) : (kcl S).length = S.length := by simp [kcl]
theorem kcl_get (S : List Nat) (i : Nat) : (kcl S)[i]? = S[i]?.map (fun x : Nat => Value.int .i64 x) := by simp [kcl]
theorem kcl_set (S : List Nat) (i x : Nat) : (kcl S).set i (.int .i64 x) = kcl (S.set i x) := by simp [kcl, List.map_set]
theorem knd_le {S : List Nat} (h : ∀ x ∈ S, x ≤ 3) (f : Nat) : knd S f ≤ 3 := by
  unfold knd
  rcases Nat.lt_or_ge (f / 8) S.length with hl | hl
  · exact h _ (getD_mem S 0 _ hl)
  · rw [List.getD_eq_getElem?_getD, List.getElem?_eq_none hl]; simp
/-- Fewer blocks are named. -/
theorem Turn.weak {Y : Nat → Prop} {B : Nat} {w w' : World} (h : Turn Xc B w w') (hY : ∀ b, Y b → Xc b) : Turn Y B w w' := ⟨h.os, h.tape, h.output, h.size, h.low, h.row, fun g hg => h.exc g (hY g hg)⟩
/-- The struct in block k, the free lists in block a, the sections' kinds in block g. -/
structure KinX (Xc : Nat → Prop) (B : Nat) (w : World) (k a g n : Nat) (F : List Bool) (S : List Nat) : Prop where
  top : Lrow w k 64 [.int .i64 n, .pointer (some ⟨a, 0, none⟩), .slice (some ⟨g, 0, none⟩) S.length S.length]
  row : Lrow w g 3 (kcl S)
  bud : ∃ L, BudAt (fun b => Xc b ∨ b = g) B w a n L ∧ Good F L
  len : F.length = n
  cnt : S.length = (n + 7) / 8
  kin : ∀ x ∈ S, x ≤ 3
  n8 : 8 ≤ n
  hi : n ≤ 1024
  lk : B ≤ k
  lg : B ≤ g
  exg : ¬ Xc g
def KinAt (Xc : Nat → Prop) (B : Nat) (w : World) (k n : Nat) (F : List Bool) (S : List Nat) : Prop := ∃ a g, KinX Xc B w k a g n F S
section
variable {w w' : World} {B k a g n : Nat} {F F' : List Bool} {S S' : List Nat}
theorem KinX.c0 (h : KinX Xc B w k a g n F S) : w.cell? ⟨k, 0, none⟩ = some (.int .i64 n) := by rw [h.top.cell]; rfl
theorem KinX.c1 (h : KinX Xc B w k a g n F S) : w.cell? ⟨k, 1, none⟩ = some (.pointer (some ⟨a, 0, none⟩)) := by rw [h.top.cell]; rfl
theorem KinX.c2 (h : KinX Xc B w k a g n F S) : w.cell? ⟨k, 2, none⟩ = some (.slice (some ⟨g, 0, none⟩) S.length S.length) := by rw [h.top.cell]; rfl
theorem KinX.sec (h : KinX Xc B w k a g n F S) {f : Nat} (hf : f < n) : f / 8 < S.length := by have := h.cnt; omega
theorem KinX.at_ (h : KinX Xc B w k a g n F S) {i : Nat} (hi : i < S.length) : w.cell? ⟨g, i, none⟩ = some (.int .i64 (S.getD i 0 : Nat)) := by
  rw [h.row.cell, kcl_get, getD_of S 0 i hi]; rfl
theorem KinX.lt (h : KinX Xc B w k a g n F S) : k < w.heap.size := h.top.lt
theorem KinX.lo (h : KinX Xc B w k a g n F S) : B ≤ w.heap.size := by have := h.top.lt; have := h.lk; omega
theorem KinX.call (h : KinX Xc B w k a g n F S) (hb : Below w.heap.size w w') : KinX Xc B w' k a g n F S := by
  obtain ⟨L, h1, h2⟩ := h.bud
  exact ⟨h.top.call hb, h.row.call hb, ⟨L, h1.call hb, h2⟩, h.len, h.cnt, h.kin, h.n8, h.hi, h.lk, h.lg, h.exg⟩
theorem KinX.alloc (h : KinX Xc B w k a g n F S) (o : Obj) : KinX Xc B (w.alloc o) k a g n F S := h.call ((Below.refl _ _).alloc (Nat.le_refl _) o)
theorem KinX.drewN (h : KinX Xc B w k a g n F S) (q : Nat) : KinX Xc B (w.drewN q) k a g n F S := h.call (below_dN (Below.refl _ _) q)
/-- The free lists have been turned. -/
theorem KinX.budTurn (h : KinX Xc B w k a g n F S) (ht : Turn (fun b => Xc b ∨ b = g) B w w') {L' : Nat → List Nat} (hb : BudAt (fun b => Xc b ∨ b = g) B w' a n L') (hg : Good F' L') (hl : F'.length = n) : KinX Xc B w' k a g n F' S :=
  ⟨ht.row _ _ _ h.top (by decide) (by decide), (ht.exc g (Or.inr rfl) h.row.lt).trans h.row, ⟨L', hb, hg⟩, hl, h.cnt, h.kin, h.n8, h.hi, h.lk, h.lg, h.exg⟩
/-- The sections' kinds have been turned. -/
theorem KinX.secTurn (h : KinX Xc B w k a g n F S) (hg : w.grownBy w' (some g)) (hr : Lrow w' g 3 (kcl S')) (hl : S'.length = S.length) (hk : ∀ x ∈ S', x ≤ 3) : KinX Xc B w' k a g n F S' := by
  obtain ⟨L, h1, h2⟩ := h.bud
  have ht := h.top.grown hg (by intro e; injection e with e; exact h.top.apart h.row (by decide) e)
  rw [← hl] at ht
  exact ⟨ht, hr, ⟨L, h1.named hg (Or.inr rfl), h2⟩, h.len, hl.trans h.cnt, hk, h.n8, h.hi, h.lk, h.lg, h.exg⟩
/-- A block of another kind has been turned. -/
theorem KinX.grown {b : Nat} {t : TypeId} {vs : List Value} (h : KinX Xc B w k a g n F S) (r : Lrow w b t vs) (hg : w.grownBy w' (some b)) (h1 : t ≠ 3) (h2 : t ≠ 95) (h3 : t ≠ 64) : KinX Xc B w' k a g n F S := by
  obtain ⟨L, g1, g2⟩ := h.bud
  exact ⟨h.top.grown hg (by intro e; injection e with e; subst e; exact r.apart h.top h3 rfl), h.row.grown hg (by intro e; injection e with e; subst e; exact r.apart h.row h1 rfl),
    ⟨L, g1.grown hg (fun b' e => by injection e with e; subst e; exact ⟨t, vs, r, h1, h2⟩), g2⟩, h.len, h.cnt, h.kin, h.n8, h.hi, h.lk, h.lg, h.exg⟩
/-- A block that is named has been turned. -/
theorem KinX.named {b : Nat} {t : TypeId} {vs : List Value} (h : KinX Xc B w k a g n F S) (r : Lrow w b t vs) (hg : w.grownBy w' (some b)) (hX : Xc b) (h3 : t ≠ 64) : KinX Xc B w' k a g n F S := by
  obtain ⟨L, g1, g2⟩ := h.bud
  exact ⟨h.top.grown hg (by intro e; injection e with e; subst e; exact r.apart h.top h3 rfl), h.row.grown hg (by intro e; injection e with e; subst e; exact h.exg hX),
    ⟨L, g1.named hg (Or.inl hX), g2⟩, h.len, h.cnt, h.kin, h.n8, h.hi, h.lk, h.lg, h.exg⟩
/-- More blocks are named, that are newer. -/
theorem KinX.more {Y : Nat → Prop} (h : KinX Xc B w k a g n F S) (hb : Below w.heap.size w w') (hY : ∀ b, Y b → b < w'.heap.size ∧ (Xc b ∨ w.heap.size ≤ b)) : KinX Y B w' k a g n F S := by
  obtain ⟨L, g1, g2⟩ := h.bud
  have h1 := h.call hb
  have hg := h.row.lt
  refine ⟨h1.top, h1.row, ⟨L, g1.more hb (fun b hb' => ?_), g2⟩, h.len, h.cnt, h.kin, h.n8, h.hi, h.lk, h.lg, fun hy => ?_⟩
  · rcases hb' with e | rfl
    · rcases (hY b e).2 with g3 | g3
      · exact ⟨(hY b e).1, Or.inl (Or.inl g3)⟩
      · exact ⟨(hY b e).1, Or.inr g3⟩
    · exact ⟨Nat.lt_of_lt_of_le hg hb.size, Or.inl (Or.inr rfl)⟩
  · rcases (hY g hy).2 with g3 | g3
    · exact h.exg g3
    · omega

/-- The kind of any number: -1 of what is no frame. -/
def kdZ (n : Nat) (S : List Nat) (f : Int) : Int := if 0 ≤ f ∧ f < n then (knd S f.toNat : Nat) else -1
theorem kind_nil (f : Int) (w : World) : Calls Try.prog 12 #[.pointer none, .int .i64 f] w fun e w' => e = .returned (.int .i64 (-1)) ∧ w = w' := by
  go_enter Try.func12, Try.ntmps12
  go_wp2
  go_ret
  exact ⟨rfl, rfl⟩
theorem kind_any (h : KinX Xc B w k a g n F S) (f : Int) : Calls Try.prog 12 #[.pointer (some ⟨k, 0, none⟩), .int .i64 f] w fun e w' => e = .returned (.int .i64 (kdZ n S f)) ∧ w = w' := by
  have hc0 := h.c0
  by_cases h1 : f < 0
  · have HE : Hid (-1 = kdZ n S f) := by show _ = _; unfold kdZ; rw [if_neg (by omega)]
    clear h
    go_enter Try.func12, Try.ntmps12
    go_wp2
    go_ret
    exact ⟨ret_int HE.out, rfl⟩
  · by_cases h2 : (n : Int) ≤ f
    · have HE : Hid (-1 = kdZ n S f) := by show _ = _; unfold kdZ; rw [if_neg (by omega)]
      clear h
      go_enter Try.func12, Try.ntmps12
      go_wp2
      go_ret
      exact ⟨ret_int HE.out, rfl⟩
    · obtain ⟨f, rfl⟩ : ∃ x : Nat, f = x := ⟨f.toNat, by omega⟩
      have hc2 := h.c2
      have hs := h.sec (f := f) (by omega)
      have hm : S.length ≤ 128 := by have := h.cnt; have := h.hi; omega
      have hcf := h.at_ hs
      have HE : Hid (((S.getD (f / 8) 0 : Nat) : Int) = kdZ n S f) := by show _ = _; unfold kdZ knd; rw [if_pos (by omega), Int.toNat_natCast]
      obtain ⟨v, hv⟩ : ∃ v : Nat, v = S.getD (f / 8) 0 := ⟨_, rfl⟩
      rw [← hv] at hcf HE
      obtain ⟨m, em⟩ : ∃ m, m = S.length := ⟨_, rfl⟩
      rw [← em] at hc2 hs hm
      clear h hv em
      go_enter Try.func12, Try.ntmps12
      go_wp2
      go_ret
      exact ⟨ret_int HE.out, rfl⟩
end
end Go.Proofs.Ytfjphlickpgbnaa
