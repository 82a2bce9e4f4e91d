/- Any call of both sides; a list of calls, one after another; the start of each law. -/
import Derived.Test.YtgkjkjpeolhgbaaCv
import Derived.Test.YtgkjkjpeolhgbaaCw
import Derived.Test.YtgkjkjpeolhgbaaCo
import Derived.Test.YtgkjkjpeolhgbaaCh
namespace Go.Proofs.Ytgkjkjpeolhgbaa
open Go.RowKit

section
variable {w : World} {B s a x y n : Nat} {F G : List Bool} {T : List (Nat × Nat)} {tv : Value}
/-- A call as a value. -/
def actV (c : Int × Int × Int × Int × Bool) : Value := .agg #[.int .i64 c.1, .int .i64 c.2.1, .int .i64 c.2.2.1, .int .i64 c.2.2.2.1, .bool c.2.2.2.2]
theorem do_any (h : St B w s a x y n F F T tv) (hH : Held F T) {c : Int × Int × Int × Int × Bool} (hc : IsAct c) :
    Calls Try.prog 13 #[.pointer (some ⟨s, 0, none⟩), actV c] w (Did B s a x y n tv w) := by
  obtain ⟨K, Fr, o, N, hf⟩ := c
  obtain ⟨-, ⟨h1, h2⟩, -, -⟩ := hc
  show Calls Try.prog 13 #[.pointer (some ⟨s, 0, none⟩), .agg #[.int .i64 K, .int .i64 Fr, .int .i64 o, .int .i64 N, .bool hf]] w (Did B s a x y n tv w)
  by_cases k0 : K = 0
  · exact do_take h hH (Or.inl k0)
  · by_cases k1 : K = 1
    · exact do_take h hH (Or.inr (Or.inl k1))
    · by_cases k2 : K = 2
      · exact do_take h hH (Or.inr (Or.inr k2))
      · by_cases k3 : K = 3
        · exact do_at h hH k3 h1 h2
        · by_cases k4 : K = 4
          · exact do_give h hH k4
          · exact do_other h hH k0 k1 k2 k3 k4 h1 h2
/-- A call of a list of calls, as it lies in a later world. -/
theorem acts_now {W w : World} {b m i : Nat} {A : Option Addr} (h : Acts W b A m) (hb : Below b W w) (hi : i < m) :
    ∃ ad, A = some ad ∧ ∃ c, IsAct c ∧ ActAt w (ad.add (i * 5)) c := by
  obtain ⟨p, e, hlt, hc⟩ := (h.below hb) (by omega)
  obtain ⟨c, ok, hat⟩ := hc i hi
  exact ⟨p, e, c, ok, hat⟩
/-- The state as the loops of the laws see it: both sides have the same frames, and what is held is held. -/
def Going (B s a x y n : Nat) (w0 : World) (w : World) : Prop := ∃ F T tv, St B w s a x y n F F T tv ∧ Held F T ∧ Step B w0 w (.slice none 0 0) tv
theorem Going.drewN {G0 : World} (h : Going B s a x y n G0 w) (q : Nat) : Going B s a x y n G0 (w.drewN q) := by
  obtain ⟨F, T, tv, h1, h2, h3⟩ := h
  exact ⟨F, T, tv, h1.drewN q, h2, h3.trans (Step.call (below_dN (Below.refl _ _) q) h1.lo _)⟩
theorem Going.call {G0 w' : World} (h : Going B s a x y n G0 w) (hb : Below w.heap.size w w') : Going B s a x y n G0 w' := by
  obtain ⟨F, T, tv, h1, h2, h3⟩ := h
  exact ⟨F, T, tv, h1.call hb, h2, h3.trans (Step.call hb h1.lo _)⟩
theorem Going.below {G0 : World} (h : Going B s a x y n G0 w) : Below B G0 w := by
  obtain ⟨F, T, tv, _, _, h3⟩ := h
  exact h3.below
theorem Going.do_ {G0 : World} (h : Going B s a x y n G0 w) {c : Int × Int × Int × Int × Bool} (hc : IsAct c) :
    Calls Try.prog 13 #[.pointer (some ⟨s, 0, none⟩), .agg #[.int .i64 c.1, .int .i64 c.2.1, .int .i64 c.2.2.1, .int .i64 c.2.2.2.1, .bool c.2.2.2.2]] w fun e w' => e = .returned (.bool true) ∧ Going B s a x y n G0 w' := by
  obtain ⟨F, T, tv, h1, h2, h3⟩ := h
  refine (do_any h1 h2 hc).mono ?_
  rintro e w' ⟨rfl, F', T', tv', k1, k2, k3⟩
  exact ⟨rfl, F', T', tv', k1, k2, h3.trans k3⟩
theorem Made.going {w' : World} {e : Ending} (h : Made n w e w') : ∃ s a x y : Nat, e = .returned (.tuple #[.pointer (some ⟨s, 0, none⟩), .bool true]) ∧ Going w.heap.size s a x y n w' w' ∧ Below w.heap.size w w' := by
  obtain ⟨s, a, x, y, h1, h2, h3⟩ := h
  exact ⟨s, a, x, y, h1, ⟨_, _, _, h2, held_start n, Step.refl _ _ _⟩, h3⟩
theorem smI_bad {f : Int} (h : f < 8 ∨ 1024 < f) : smI f = f := by unfold smI; rw [if_neg (by omega)]
theorem smI_good {f : Int} (h : ¬ (f < 8 ∨ 1024 < f)) : ∃ n : Nat, smI f = n ∧ 8 ≤ n ∧ n ≤ 300 := by
  unfold smI
  split
  · exact ⟨300, rfl, by omega, by omega⟩
  · exact ⟨f.toNat, by omega, by omega, by omega⟩
end
end Go.Proofs.Ytgkjkjpeolhgbaa
