/- The reference of stretches: wrong, Put. -/
import Derived.Test.YtekfkglielmfaaaProg
import Derived.Test.YtekfkglielmfaaaTrA
import Derived.Lib.Hide
import Derived.BigQuiet
import Derived.Deep.QuietTactic
import Derived.Deep.RegionHeld3
import Derived.Deep.LoopGhost
import Derived.Deep.CutRange
import Derived.Deep.RegionLaw
import Derived.Deep.OwnRows
import Derived.WalkLawsBesides
import Derived.IntWalk
import Derived.Outline
import Derived.StillTailTactics
namespace Go.Proofs.Ytekfkglielmfaaa
open Go.RowKit
def Fits (n : Int) : Prop := -9223372036854775808 ≤ n ∧ n ≤ 9223372036854775807
def ETr : Enc Try.prog (Nat × Nat) where
  enc x := [.int .i64 x.1, .int .i64 x.2]
  sz := 2
  el := 31
  sl := 32
  zero := .agg #[.int .i64 0, .int .i64 0]
  bytes := 16
  len _ := rfl
  one a u h := by
    simp only [List.mem_cons, List.not_mem_nil, or_false] at h
    rcases h with rfl | rfl <;> rfl
  pos := by decide
  zsz := rfl
  und := by kernel_rfl
  info := by kernel_rfl
  small := by decide
theorem below_new (w : World) (o : Obj) : Below w.heap.size w (w.alloc o) := (Below.refl _ _).alloc (Nat.le_refl _) _
theorem wpList_append_run {P : Program} {w : World} {ops : Array Oper} {rest : List Oper} {o : Oper} {a : Act} {Q : Exit → Act → World → Prop} (hgd : o.guard = none) (d s : Operand) (t : TypeId)
    (ho : o.op = .call { callee := .builtin .append, args := #[d, s], argTypes := #[t, t] }) (v u : Value) (hd : a.eval d = v) (hs : a.eval s = u) {v' : Value} {w' : World}
    (hr : (Builtin.append_ #[t, t] o.type #[v, u]).run P w = .ok v' w') (h : wpList P ops Q rest (a.put o.dst v') w') : wpList P ops Q (o :: rest) a w := by
  refine wpList_plain hgd fun K' hK' => ?_
  unfold Oper.wp
  simp [execOp, ho, resolve, invoke, builtin, hd, hs, hr, Result.andThen]
  exact hK' _ _ h
/-- The reference's: its struct in block x, its list in a slice of its own. -/
def RtT (B : Nat) (w : World) (x : Nat) (v : Value) (L : List (Nat × Nat)) : Prop := Lrow w x 34 [v] ∧ ETr.Own B w v L ∧ B ≤ x
/-- What a call that turns it leaves. -/
def DidT (B : Nat) (x : Nat) (v : Value) (L' : List (Nat × Nat)) (w w' : World) : Prop := ∃ v', RtT B w' x v' L' ∧ Foot (fun k => k = x) w w' ∧ (v' = v ∨ v'.ownBlock = none ∨ ∃ k, v'.ownBlock = some k ∧ w.heap.size ≤ k)
section
variable {w w' : World} {B x : Nat} {v v' : Value} {L L' : List (Nat × Nat)} {f t : Int}
theorem RtT.keep (h : RtT B w x v L) (hx : w'.heap[x]? = w.heap[x]?) (hk : ∀ k, v.ownBlock = some k → w'.heap[k]? = w.heap[k]?) : RtT B w' x v L := ⟨hx.trans h.1, h.2.1.heap hk, h.2.2⟩
theorem RtT.call (h : RtT B w x v L) (hb : Below w.heap.size w w') : RtT B w' x v L :=
  h.keep (hb.block x h.1.lt) fun k e => by obtain ⟨vs, r, _⟩ := h.2.1.block e; exact hb.block k r.lt
theorem DidT.same (h : RtT B w x v L) (hb : Below w.heap.size w w') : DidT B x v L w w' := ⟨v, h.call hb, Foot.of_below hb, Or.inl rfl⟩
/-- The list has been laid anew, and the struct tells so. -/
theorem RtT.laid (h : RtT B w x v L) (hb : Below w.heap.size w w') (ho : ETr.Own w.heap.size w' v' L') : DidT B x v L' w (w'.setCell ⟨x, 0, none⟩ v') := by
  have hx := h.1.lt
  have hB : B ≤ w.heap.size := Nat.le_trans h.2.2 (Nat.le_of_lt hx)
  refine ⟨v', ⟨?_, ?_, h.2.2⟩, ?_, ?_⟩
  · have := (h.1.call hb).set_ 0 v'
    exact this
  · refine (ho.base hB).heap fun k e => Below.heap_setCell w' _ _ k ?_
    obtain ⟨vs, r, hk⟩ := ho.block e
    show k ≠ x
    omega
  · exact (Foot.of_below hb).trans (Foot.grown (X := fun k => k = x) (grown_set w' x 0 v') rfl) fun _ e _ => e
  · cases e : v'.ownBlock with
    | none => exact Or.inr (Or.inl rfl)
    | some k =>
      obtain ⟨vs, r, hk⟩ := ho.block e
      exact Or.inr (Or.inr ⟨k, rfl, hk⟩)
/-- One of the list, as it lies. -/
theorem RtT.at_ {A : Option Addr} {n c : Nat} (h : RtT B w x (.slice A n c) L) {j : Nat} (hj : j < L.length) : ∃ g, A = some ⟨g, 0, none⟩ ∧ n = L.length ∧ g < w.heap.size ∧ w.cell? ⟨g, j * 2, none⟩ = some (.int .i64 (L[j].1 : Nat)) ∧ w.cell? ⟨g, j * 2 + 1, none⟩ = some (.int .i64 (L[j].2 : Nat)) := by
  obtain ⟨g, rfl, hB, hg, hn, hat⟩ := h.2.1.some_ (by omega)
  exact ⟨g, rfl, hn, hg, hat j hj 0 (by decide), hat j hj 1 (by decide)⟩
theorem wrong_r (f t : Int) (w : World) : Calls Try.prog 48 #[.int .i64 f, .int .i64 t] w fun e w' => e = .returned (.int .i64 (wrS f t)) ∧ w = w' := by
  by_cases c1 : f < 1
  · have d1 : wrS f t = 3 := by unfold wrS; rw [if_pos (Or.inl c1)]
    rw [d1]; clear d1
    go_enter Try.func48, Try.ntmps48
    go_wp2_with fail
    go_ret
    exact ⟨rfl, rfl⟩
  · by_cases c2 : 4096 < t
    · have d1 : wrS f t = 3 := by unfold wrS; rw [if_pos (Or.inr (Or.inl c2))]
      rw [d1]; clear d1
      go_enter Try.func48, Try.ntmps48
      go_wp2_with fail
      go_ret
      exact ⟨rfl, rfl⟩
    · by_cases c3 : t ≤ f
      · have d1 : wrS f t = 3 := by unfold wrS; rw [if_pos (Or.inr (Or.inr c3))]
        rw [d1]; clear d1
        go_enter Try.func48, Try.ntmps48
        go_wp2_with fail
        go_ret
        exact ⟨rfl, rfl⟩
      · have d1 : wrS f t = 0 := by unfold wrS; rw [if_neg (by omega)]
        rw [d1]; clear d1
        go_enter Try.func48, Try.ntmps48
        go_wp2_with fail
        go_ret
        exact ⟨rfl, rfl⟩
end
end Go.Proofs.Ytekfkglielmfaaa
