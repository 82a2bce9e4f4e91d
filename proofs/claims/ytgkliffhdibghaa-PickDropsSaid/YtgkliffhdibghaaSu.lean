/- The contracts of the queue's small calls: which queue, how many, what comes first, where a frame stands. -/
import Derived.Test.YtgkliffhdibghaaSt
import Derived.WalkLawsBesides
import Derived.IntWalk
import Derived.Outline
import Derived.Deep.QuietTactic
import Derived.BigQuiet
import Derived.Deep.RegionHeld3
namespace Go.Proofs.Ytgkliffhdibghaa
open Go.RowKit

theorem lower_some {w : World} {p q : Nat} (hc : w.cell? ⟨p, 0, none⟩ = some (.pointer (some ⟨q, 0, none⟩))) :
    Calls Try.prog 22 #[.pointer (some ⟨p, 0, none⟩)] w fun e w' => e = .returned (.pointer (some ⟨q, 0, none⟩)) ∧ w = w' := by
  go_enter Try.func22, Try.ntmps22
  go_wp2
  go_ret
  exact ⟨rfl, rfl⟩
theorem lower_nil (w : World) :
    Calls Try.prog 22 #[.pointer none] w fun e w' => e = .returned (.pointer none) ∧ w = w' := by
  go_enter Try.func22, Try.ntmps22
  go_wp2
  go_ret
  exact ⟨rfl, rfl⟩
theorem len_some {w : World} {q n c : Nat} {A : Option Addr} (hc : w.cell? ⟨q, 0, none⟩ = some (.slice A n c)) :
    Calls Try.prog 29 #[.pointer (some ⟨q, 0, none⟩)] w fun e w' => e = .returned (.int .i64 n) ∧ w = w' := by
  go_enter Try.func29, Try.ntmps29
  go_wp2
  go_ret
  exact ⟨rfl, rfl⟩
theorem len_nil (w : World) :
    Calls Try.prog 29 #[.pointer none] w fun e w' => e = .returned (.int .i64 0) ∧ w = w' := by
  go_enter Try.func29, Try.ntmps29
  go_wp2
  go_ret
  exact ⟨rfl, rfl⟩
/-- One item comes ahead of another. -/
def Before (x y : It) (w : World) (e : Ending) (w' : World) : Prop := e = .returned (.bool (ltB x y)) ∧ Below w.heap.size w w'
theorem before_any (a b c d : Int) (w : World) :
    Calls Try.prog 21 #[.agg #[.int .i64 a, .int .i64 b], .agg #[.int .i64 c, .int .i64 d]] w (Before (a, b) (c, d) w) := by
  by_cases h : b = d
  · subst h
    go_enter Try.func21, Try.ntmps21
    go_wp2
    go_ret
    exact ⟨ret_bool (by simp [ltB]), ((Below.refl _ _).alloc (Nat.le_refl _) _).alloc (by simp) _⟩
  · go_enter Try.func21, Try.ntmps21
    go_wp2
    go_ret
    exact ⟨ret_bool (by simp [ltB, h]), ((Below.refl _ _).alloc (Nat.le_refl _) _).alloc (by simp) _⟩
set_option maxHeartbeats 1000000 in
theorem less_any {B : Nat} {w : World} {q m : Nat} {iv : Value} {L : List It} {M : Int → Option Int} (h : Que B w q m iv L M) {i j : Nat} (hi : i < L.length) (hj : j < L.length) :
    Calls Try.prog 52 #[.pointer (some ⟨q, 0, none⟩), .int .i64 i, .int .i64 j] w (Before (at' L i) (at' L j) w) := by
  obtain ⟨A, c, hv⟩ := own_form h.own
  subst hv
  have h2 := h.drewN 1
  have h0 := h.c0
  have h1 := h.c2
  obtain ⟨g, hA, hc, _, _, _, _, hit⟩ := h2.items (by omega)
  subst hA
  obtain ⟨a1, a2⟩ := hit i hi
  obtain ⟨b1, b2⟩ := hit j hj
  have d0 := h2.c0
  have d1 := h2.c2
  have i0 : (0 : Int) ≤ i := by omega
  have j0 : (0 : Int) ≤ j := by omega
  have il : (i : Int) < L.length := by omega
  have jl : (j : Int) < L.length := by omega
  generalize L.length = n at *
  show Calls _ _ _ _ (Before ((at' L i).1, (at' L i).2) ((at' L j).1, (at' L j).2) w)
  generalize (at' L i).1 = x1 at a1 ⊢
  generalize (at' L i).2 = x2 at a2 ⊢
  generalize (at' L j).1 = y1 at b1 ⊢
  generalize (at' L j).2 = y2 at b2 ⊢
  have hs : w.drew.cell? ⟨q, 0, none⟩ = some (.slice (some ⟨g, 0, none⟩) n c) ∧ w.drew.cell? ⟨q, 2, none⟩ = some (.func (.func 21) #[] #[]) ∧ w.drew.cell? ⟨g, i * 2, none⟩ = some (.int .i64 x1) ∧ w.drew.cell? ⟨g, i * 2 + 1, none⟩ = some (.int .i64 x2) ∧ w.drew.cell? ⟨g, j * 2, none⟩ = some (.int .i64 y1) ∧ w.drew.cell? ⟨g, j * 2 + 1, none⟩ = some (.int .i64 y2) := ⟨d0, d1, a1, a2, b1, b2⟩
  clear hit h h2 hi hj hc h0 h1 d0 d1 a1 a2 b1 b2
  go_enter Try.func52, Try.ntmps52
  go_wp2_with fail
  go_region_held3 (fun v => v.cell? ⟨q, 0, none⟩ = some (.slice (some ⟨g, 0, none⟩) n c) ∧ v.cell? ⟨q, 2, none⟩ = some (.func (.func 21) #[] #[]) ∧ v.cell? ⟨g, i * 2, none⟩ = some (.int .i64 x1) ∧ v.cell? ⟨g, i * 2 + 1, none⟩ = some (.int .i64 x2) ∧ v.cell? ⟨g, j * 2, none⟩ = some (.int .i64 y1) ∧ v.cell? ⟨g, j * 2 + 1, none⟩ = some (.int .i64 y2))
    (first | exact hs | exact ⟨(hb.cell (World.block_lt_of_cell? _ _ hs.1)).trans hs.1, (hb.cell (World.block_lt_of_cell? _ _ hs.2.1)).trans hs.2.1, (hb.cell (World.block_lt_of_cell? _ _ hs.2.2.1)).trans hs.2.2.1, (hb.cell (World.block_lt_of_cell? _ _ hs.2.2.2.1)).trans hs.2.2.2.1, (hb.cell (World.block_lt_of_cell? _ _ hs.2.2.2.2.1)).trans hs.2.2.2.2.1, (hb.cell (World.block_lt_of_cell? _ _ hs.2.2.2.2.2)).trans hs.2.2.2.2.2⟩)
    (first | (go_at_call 21; refine (before_any _ _ _ _ _).mono ?_; rintro e w1 ⟨rfl, hb⟩))
  go_wp2
  go_ret
  exact ⟨rfl, ⟨hb.os, hb.tape, hb.output, hb.size, hb.block⟩⟩

/-- Where a frame's item stands, and an error. -/
def Found (M : Int → Option Int) (f : Int) (w : World) (e : Ending) (w' : World) : Prop :=
  w = w' ∧ ((∃ k, M f = some k ∧ e = .returned (.tuple #[.int .i64 k, .int .i64 0])) ∨ M f = none ∧ e = .returned (.tuple #[.int .i64 0, .int .i64 6]))
theorem find_some {w : World} {q m n : Nat} {M : Int → Option Int} (hc : w.cell? ⟨q, 1, none⟩ = some (.map (some m))) (hm : MapIs w m n M) {f : Int} (hf : Fits f) :
    Calls Try.prog 24 #[.pointer (some ⟨q, 0, none⟩), .int .i64 f] w (Found M f w) := by
  obtain ⟨v, hr, hv⟩ := hm.look hf
  cases hM : M f with
  | none =>
    rw [hM] at hr
    simp only [Option.isSome_none] at hr
    have HM := Lib.hid hM
    clear hM hv hm
    go_enter Try.func24, Try.ntmps24
    go_wp2
    go_ret2
    exact ⟨rfl, Or.inr ⟨HM.out, rfl⟩⟩
  | some k =>
    rw [hM] at hr
    simp only [Option.isSome_some] at hr
    obtain rfl := hv k hM
    have HM := Lib.hid hM
    clear hM hv hm
    go_enter Try.func24, Try.ntmps24
    go_wp2
    go_ret2
    exact ⟨rfl, Or.inl ⟨_, HM.out, rfl⟩⟩
theorem find_nil (w : World) (f : Int) :
    Calls Try.prog 24 #[.pointer none, .int .i64 f] w fun e w' => e = .returned (.tuple #[.int .i64 0, .int .i64 1]) ∧ w = w' := by
  go_enter Try.func24, Try.ntmps24
  go_wp2
  go_ret2
  exact ⟨rfl, rfl⟩
end Go.Proofs.Ytgkliffhdibghaa
