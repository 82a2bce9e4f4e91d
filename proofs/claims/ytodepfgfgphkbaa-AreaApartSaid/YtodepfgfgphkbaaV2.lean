/- The reference of areas as it lies; its small functions. -/
import Derived.Test.YtodepfgfgphkbaaProg
import Derived.Test.YtodepfgfgphkbaaV1
import Derived.Test.YtodepfgfgphkbaaK0
import Derived.BigQuiet
import Derived.Deep.QuietTactic
import Derived.Deep.RegionHeld3
import Derived.Deep.LoopGhost
import Derived.Deep.CutRange
import Derived.Deep.RegionLaw
import Derived.WalkLawsBesides
import Derived.IntWalk
import Derived.Outline
namespace Go.Proofs.Ytodepfgfgphkbaa
open Go.RowKit

def EPg : Enc Try.prog Pg where
  enc x := [.int .i64 x.h, .int .i64 x.p, .int .i64 x.o, .int .i64 x.x]
  sz := 4
  el := 40
  sl := 41
  zero := .agg #[.int .i64 0, .int .i64 0, .int .i64 0, .int .i64 0]
  bytes := 32
  len _ := rfl
  one a u h := by
    simp only [List.mem_cons, List.not_mem_nil, or_false] at h
    rcases h with rfl | rfl | rfl | rfl <;> rfl
  pos := by decide
  zsz := rfl
  und := by kernel_rfl
  info := by kernel_rfl
  small := by decide
def EAr : Enc Try.prog Ar where
  enc x := [.int .i64 x.f, .int .i64 x.t, .int .i64 x.h, .int .i64 x.p, .int .i64 x.o, .int .i64 x.x]
  sz := 6
  el := 33
  sl := 29
  zero := .agg #[.int .i64 0, .int .i64 0, .int .i64 0, .int .i64 0, .int .i64 0, .int .i64 0]
  bytes := 48
  len _ := rfl
  one a u h := by
    simp only [List.mem_cons, List.not_mem_nil, or_false] at h
    rcases h with rfl | rfl | rfl | rfl | rfl | rfl <;> rfl
  pos := by decide
  zsz := rfl
  und := by kernel_rfl
  info := by kernel_rfl
  small := by decide
theorem below_new (w : World) (o : Obj) : Below w.heap.size w (w.alloc o) := (Below.refl _ _).alloc (Nat.le_refl _) o
theorem pg_at {w : World} {g o : Nat} {x : Pg} (h : EPg.At w g o x) : w.cell? ⟨g, o, none⟩ = some (.int .i64 x.h) ∧ w.cell? ⟨g, o + 1, none⟩ = some (.int .i64 x.p) ∧ w.cell? ⟨g, o + 2, none⟩ = some (.int .i64 x.o) ∧ w.cell? ⟨g, o + 3, none⟩ = some (.int .i64 x.x) :=
  ⟨h 0 (by decide), h 1 (by decide), h 2 (by decide), h 3 (by decide)⟩
/-- The reference: its struct in block xa, its pages in a row. -/
structure Px (B : Nat) (w : World) (xa : Nat) (v : Value) (P : Int → Pg) : Prop where
  top : Lrow w xa 43 [v]
  own : ∃ L : List Pg, L.length = 4096 ∧ EPg.Own B w v L ∧ ∀ (i : Nat) (h : i < L.length), L[i] = P i
  ok : PsOk P
  lo : B ≤ xa
  lw : B ≤ w.heap.size
section
variable {w w' : World} {B xa : Nat} {v : Value} {P : Int → Pg}
theorem Px.form (h : Px B w xa v P) : ∃ g c, v = .slice (some ⟨g, 0, none⟩) 4096 c ∧ B ≤ g ∧ g < w.heap.size ∧ ∀ i : Nat, i < 4096 → EPg.At w g (i * 4) (P i) := by
  obtain ⟨L, hl, ho, hp⟩ := h.own
  obtain ⟨A, c, rfl⟩ := ho.form
  obtain ⟨g, rfl, hB, hg, -, hat⟩ := ho.some_ (by omega)
  refine ⟨g, c, by rw [hl], hB, hg, fun i hi => ?_⟩
  rw [← hp i (by omega)]
  exact hat i (by omega)
theorem Px.keep (h : Px B w xa v P) (hs : w.heap.size ≤ w'.heap.size) (hk : ∀ k, (k = xa ∨ v.ownBlock = some k) → k < w.heap.size → w'.heap[k]? = w.heap[k]?) : Px B w' xa v P := by
  obtain ⟨L, hl, ho, hp⟩ := h.own
  exact ⟨(hk xa (Or.inl rfl) h.top.lt).trans h.top, ⟨L, hl, ho.heap (fun g e => hk g (Or.inr e) (by obtain ⟨vs, r, _⟩ := ho.block e; exact r.lt)), hp⟩, h.ok, h.lo, Nat.le_trans h.lw hs⟩
theorem Px.call (h : Px B w xa v P) (hb : Below w.heap.size w w') : Px B w' xa v P := h.keep hb.size fun k _ hl => hb.block k hl
theorem Px.drewN (h : Px B w xa v P) (k : Nat) : Px B (w.drewN k) xa v P := h.call (below_dN (Below.refl _ _) k)
theorem Px.c0 (h : Px B w xa v P) : w.cell? ⟨xa, 0, none⟩ = some v := h.top.cell 0
end
theorem size_is (h : Int) (w : World) : Calls Try.prog 50 #[.int .i64 h] w fun e w' => e = .returned (.int .i64 (szO h)) ∧ w = w' := by
  unfold szO
  by_cases h1 : h = 3 ∨ h = 5 ∨ h = 6
  · rw [if_pos h1]
    rcases h1 with rfl | rfl | rfl
    all_goals
      go_enter Try.func50, Try.ntmps50
      go_wp2
      go_ret
      exact ⟨rfl, rfl⟩
  · rw [if_neg h1]
    have k3 : (h == 3) = false := by simpa using (by omega : ¬ h = 3)
    have k5 : (h == 5) = false := by simpa using (by omega : ¬ h = 5)
    have k6 : (h == 6) = false := by simpa using (by omega : ¬ h = 6)
    clear h1
    by_cases h4 : h = 4
    · subst h4
      go_enter Try.func50, Try.ntmps50
      go_wp2
      go_ret
      exact ⟨rfl, rfl⟩
    · rw [if_neg h4]
      have k4 : (h == 4) = false := by simpa using h4
      go_enter Try.func50, Try.ntmps50
      go_wp2
      go_ret
      exact ⟨rfl, rfl⟩
theorem shared_is (h : Int) (w : World) : Calls Try.prog 13 #[.int .i64 h] w fun e w' => e = .returned (.bool (decide (shr h))) ∧ w = w' := by
  have H : Hid (decide (shr h) = (h == 2 || h == 5)) := by
    show _ = _
    rw [Bool.eq_iff_iff]; simp only [decide_eq_true_eq, Bool.or_eq_true, beq_iff_eq]; exact Iff.rfl
  go_enter Try.func13, Try.ntmps13
  go_wp2
  all_goals
    go_ret
    exact ⟨ret_bool (by rw [H.out] <;> simp [*]), rfl⟩
theorem prot_is (p : Int) (w : World) : Calls Try.prog 49 #[.int .i64 p] w fun e w' => e = .returned (.bool (prB p)) ∧ w = w' := by
  have H : Hid (prB p = (p == 0 || p == 1 || p == 3)) := by
    show _ = _
    unfold prB
    rw [Bool.eq_iff_iff]; simp [or_assoc]
  go_enter Try.func49, Try.ntmps49
  go_wp2
  all_goals
    go_ret
    exact ⟨ret_bool (by rw [H.out] <;> simp [*]), rfl⟩
theorem next_is {a b : Pg} (ha : -9223372036854775808 ≤ a.x + 1) (hb : a.x + 1 ≤ 9223372036854775807) (w : World) : Calls Try.prog 42 #[.agg #[.int .i64 a.h, .int .i64 a.p, .int .i64 a.o, .int .i64 a.x], .agg #[.int .i64 b.h, .int .i64 b.p, .int .i64 b.o, .int .i64 b.x]] w fun e w' => e = .returned (.bool (nxt a b)) ∧ Below w.heap.size w w' := by
  obtain ⟨ah, ap, ao, ax⟩ := a
  obtain ⟨bh, bp, bo, bx⟩ := b
  dsimp only at ha hb ⊢
  have hbl := ((Below.refl w.heap.size w).alloc (Nat.le_refl _) (.cells #[.int .i64 ah, .int .i64 ap, .int .i64 ao, .int .i64 ax] 40)).alloc (by simp) (.cells #[.int .i64 bh, .int .i64 bp, .int .i64 bo, .int .i64 bx] 40)
  have HB := Lib.hid hbl
  clear hbl
  have hw : IntKind.i64.wrap (ax + 1) = ax + 1 := by rw [IntKind.wrap_i64]; omega
  by_cases h1 : ah = bh
  · by_cases h2 : ap = bp
    · by_cases h3 : ao = bo
      · subst h1 h2 h3
        by_cases hs : shr ah
        · have hd : decide (shr ah) = true := by simpa using hs
          have H : Hid (nxt ⟨ah, ap, ao, ax⟩ ⟨ah, ap, ao, bx⟩ = (bx == ax + 1)) := by
            show _ = _
            unfold nxt
            rw [Bool.eq_iff_iff]; simp [hs]
          go_enter Try.func42, Try.ntmps42
          go_wp2_with (go_at_call 13; refine (shared_is _ _).mono ?_; rintro e w1 ⟨rfl, rfl⟩; rw [hd])
          go_ret
          exact ⟨ret_bool (by rw [H.out]), HB.out⟩
        · have hd : decide (shr ah) = false := by simpa using hs
          have H : Hid (nxt ⟨ah, ap, ao, ax⟩ ⟨ah, ap, ao, bx⟩ = true) := by
            show _ = _
            unfold nxt
            simp [hs]
          go_enter Try.func42, Try.ntmps42
          go_wp2_with (go_at_call 13; refine (shared_is _ _).mono ?_; rintro e w1 ⟨rfl, rfl⟩; rw [hd])
          go_ret
          exact ⟨ret_bool (by rw [H.out]), HB.out⟩
      · have H : Hid (nxt ⟨ah, ap, ao, ax⟩ ⟨bh, bp, bo, bx⟩ = false) := by
          show _ = _
          unfold nxt
          rw [decide_eq_false_iff_not]; exact fun h => h3 h.2.2.1
        subst h1 h2
        go_enter Try.func42, Try.ntmps42
        go_wp2
        go_ret
        exact ⟨ret_bool H.out.symm, HB.out⟩
    · have H : Hid (nxt ⟨ah, ap, ao, ax⟩ ⟨bh, bp, bo, bx⟩ = false) := by
        show _ = _
        unfold nxt
        rw [decide_eq_false_iff_not]; exact fun h => h2 h.2.1
      subst h1
      go_enter Try.func42, Try.ntmps42
      go_wp2
      go_ret
      exact ⟨ret_bool H.out.symm, HB.out⟩
  · have H : Hid (nxt ⟨ah, ap, ao, ax⟩ ⟨bh, bp, bo, bx⟩ = false) := by
      show _ = _
      unfold nxt
      rw [decide_eq_false_iff_not]; exact fun h => h1 h.1
    go_enter Try.func42, Try.ntmps42
    go_wp2
    go_ret
    exact ⟨ret_bool H.out.symm, HB.out⟩
end Go.Proofs.Ytodepfgfgphkbaa
