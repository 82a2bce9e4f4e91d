/- Frames as they lie: the program's and the reference's; the small functions. -/
import Derived.Test.YtnbphpkcpipbkaaProg
import Derived.Test.YtnbphpkcpipbkaaFrA
import Derived.BigQuiet
import Derived.Deep.QuietTactic
import Derived.Deep.RegionHeld3
import Derived.Deep.LoopGhost
import Derived.Deep.CutRange
import Derived.Deep.RegionLaw
import Derived.Deep.OwnRows
import Derived.WalkLawsBesides
import Derived.IntWalk
import Derived.Outline
import Derived.StillTailTactics
namespace Go.Proofs.Ytnbphpkcpipbkaa
open Go.RowKit
def Fits (n : Int) : Prop := -9223372036854775808 ≤ n ∧ n ≤ 9223372036854775807
def EI : Enc Try.prog Int where
  enc x := [.int .i64 x]
  sz := 1
  el := 3
  sl := 30
  zero := .int .i64 0
  bytes := 8
  len _ := rfl
  one a u h := by
    simp only [List.mem_cons, List.not_mem_nil, or_false] at h
    rcases h with rfl
    rfl
  pos := by decide
  zsz := rfl
  und := by kernel_rfl
  info := by kernel_rfl
  small := by decide
theorem EI_cells (L : List Int) : EI.cells L = L.map (Value.int .i64) := by
  induction L with
  | nil => rfl
  | cons x r ih => rw [Enc.cells_cons, ih]; rfl
theorem below_new (w : World) (o : Obj) : Below w.heap.size w (w.alloc o) := (Below.refl _ _).alloc (Nat.le_refl _) o
theorem wpList_append_run {P : Program} {w : World} {ops : Array Oper} {rest : List Oper} {o : Oper} {a : Act} {Q : Exit → Act → World → Prop} (hgd : o.guard = none) (d s : Operand) (t : TypeId)
    (ho : o.op = .call { callee := .builtin .append, args := #[d, s], argTypes := #[t, t] }) (v u : Value) (hd : a.eval d = v) (hs : a.eval s = u) {v' : Value} {w' : World}
    (hr : (Builtin.append_ #[t, t] o.type #[v, u]).run P w = .ok v' w') (h : wpList P ops Q rest (a.put o.dst v') w') : wpList P ops Q (o :: rest) a w := by
  refine wpList_plain hgd fun K' hK' => ?_
  unfold Oper.wp
  simp [execOp, ho, resolve, invoke, builtin, hd, hs, hr, Result.andThen]
  exact hK' _ _ h
/-- The program's: its struct in block s, its row in block g. -/
structure Fx (B : Nat) (w : World) (s g : Nat) (I : List Int) : Prop where
  top : Lrow w s 52 (.slice (some ⟨g, 0, none⟩) I.length I.length :: (ctF I).map (Value.int .i64))
  row : Lrow w g 3 (I.map (Value.int .i64))
  ap : s ≠ g
  lo : B ≤ s ∧ B ≤ g
def MineF (s g k : Nat) : Prop := k = s ∨ k = g
/-- The reference's: its struct in block x, a row of its own. -/
def Rx (B : Nat) (w : World) (x : Nat) (v : Value) (I : List Int) : Prop := Lrow w x 32 [v] ∧ EI.Own B w v I ∧ B ≤ x
section
variable {w w' : World} {B s g x : Nat} {v : Value} {I : List Int} {a b : Int}
theorem Fx.lw (h : Fx B w s g I) : B ≤ w.heap.size := by have := h.lo.1; have := h.top.lt; omega
theorem Fx.mine (h : Fx B w s g I) : ∀ k, MineF s g k → B ≤ k ∧ k < w.heap.size := by
  rintro k (rfl | rfl)
  · exact ⟨h.lo.1, h.top.lt⟩
  · exact ⟨h.lo.2, h.row.lt⟩
theorem Fx.keep (h : Fx B w s g I) (hk : ∀ k, MineF s g k → w'.heap[k]? = w.heap[k]?) : Fx B w' s g I :=
  ⟨(hk _ (Or.inl rfl)).trans h.top, (hk _ (Or.inr rfl)).trans h.row, h.ap, h.lo⟩
theorem Fx.call (h : Fx B w s g I) (hb : Below w.heap.size w w') : Fx B w' s g I := h.keep fun k hk => hb.block k (h.mine k hk).2
theorem Fx.at_ (h : Fx B w s g I) (i : Nat) : w.cell? ⟨g, i, none⟩ = (I[i]?).map (Value.int .i64) := by
  rw [h.row.cell i, List.getElem?_map]
theorem Fx.ct (h : Fx B w s g I) {k : Nat} (hk : k < 6) : w.cell? ⟨s, 1 + k, none⟩ = some (.int .i64 (I.count (k : Int) : Nat)) := by
  rw [h.top.cell, Nat.add_comm, List.getElem?_cons_succ, List.getElem?_map, ct_get _ hk]; rfl
theorem Rx.keep (h : Rx B w x v I) (hx : w'.heap[x]? = w.heap[x]?) (hk : ∀ k, v.ownBlock = some k → w'.heap[k]? = w.heap[k]?) : Rx B w' x v I := ⟨hx.trans h.1, h.2.1.heap hk, h.2.2⟩
theorem Rx.call (h : Rx B w x v I) (hb : Below w.heap.size w w') : Rx B w' x v I := ⟨h.1.call hb, h.2.1.call hb, h.2.2⟩
theorem EI_row {c : Nat} {A : Option Addr} {L : List Int} (h : EI.Own B w (.slice A L.length c) L) (hl : 0 < L.length) : ∃ g rest, A = some ⟨g, 0, none⟩ ∧ Lrow w g 3 (L.map (Value.int .i64) ++ rest) ∧ B ≤ g ∧ L.length ≤ c ∧ c ≤ maxLen ∧ L.length + rest.length = c := by
  rcases h.2 with ⟨e, h0⟩ | ⟨g, cap, cur, e, hB, hg, hnc, hc, hs, ht⟩
  · omega
  · injection e with e1 e2 e3
    subst e1
    obtain ⟨rest, r1, r2, r3, r4, r5⟩ := own_row (g := g) h rfl
    rw [EI_cells] at r1
    rw [EI_cells, List.length_map] at r5
    refine ⟨g, rest, rfl, r1, r2, r3, r4, ?_⟩
    rw [r5]; show c * 1 = c; omega
theorem EI_of {c g : Nat} {L : List Int} {rest : List Value} (hr : Lrow w g 3 (L.map (Value.int .i64) ++ rest)) (hB : B ≤ g) (hn : L.length ≤ c) (hc : c ≤ maxLen) (hl : L.length + rest.length = c) : EI.Own B w (.slice (some ⟨g, 0, none⟩) L.length c) L := by
  refine own_of_row (rest := rest) (by rw [EI_cells]; exact hr) hB hn hc ?_ ?_
  · rw [EI_cells, List.length_map]; show L.length = L.length * 1; omega
  · rw [EI_cells, List.length_map]; show L.length + rest.length = c * 1; omega
/-! The small functions. -/
theorem state_f (x : Int) (w : World) : Calls Try.prog 22 #[.int .i64 x] w fun e w' => e = .returned (.bool (isF x)) ∧ w = w' := by
  by_cases c1 : 0 ≤ x
  · have d1 : isF x = decide (x < 6) := by unfold isF; rw [decide_eq_decide]; omega
    rw [d1]
    go_enter Try.func22, Try.ntmps22
    go_wp2
    go_ret
    exact ⟨rfl, rfl⟩
  · have d1 : isF x = false := by unfold isF; rw [decide_eq_false_iff_not]; omega
    rw [d1]
    go_enter Try.func22, Try.ntmps22
    go_wp2
    go_ret
    exact ⟨rfl, rfl⟩
theorem apart_f (x : Int) (w : World) : Calls Try.prog 26 #[.int .i64 x] w fun e w' => e = .returned (.bool (decide (x = 4 ∨ x = 5))) ∧ w = w' := by
  by_cases c1 : x = 4
  · subst c1
    go_enter Try.func26, Try.ntmps26
    go_wp2
    go_ret
    exact ⟨rfl, rfl⟩
  · have b1 : (x == 4) = false := by simpa using c1
    have d1 : decide (x = 4 ∨ x = 5) = (x == 5) := by
      by_cases c : x = 5
      · subst c; rfl
      · simp [c1, c]
    rw [d1]
    clear c1 d1
    go_enter Try.func26, Try.ntmps26
    go_wp2
    go_ret
    exact ⟨rfl, rfl⟩
set_option maxRecDepth 100000 in
set_option maxHeartbeats 4000000 in
theorem may_f (ha : isF a = true) (hb : isF b = true) (w : World) : Calls Try.prog 23 #[.int .i64 a, .int .i64 b] w fun e w' => e = .returned (.bool (mayF a b)) ∧ w = w' := by
  have ha := isF_iff.1 ha
  have hb := isF_iff.1 hb
  have h1 := apart_f a w
  have h2 := apart_f b w
  rcases (show a = 0 ∨ a = 1 ∨ a = 2 ∨ a = 3 ∨ a = 4 ∨ a = 5 by omega) with rfl | rfl | rfl | rfl | rfl | rfl <;>
  rcases (show b = 0 ∨ b = 1 ∨ b = 2 ∨ b = 3 ∨ b = 4 ∨ b = 5 by omega) with rfl | rfl | rfl | rfl | rfl | rfl
  all_goals
    clear ha hb
    go_enter Try.func23, Try.ntmps23
    go_wp2_with (go_at_call 26; first | (with_reducible refine h1.mono ?_; rintro e w1 ⟨rfl, rfl⟩) | (with_reducible refine h2.mono ?_; rintro e w1 ⟨rfl, rfl⟩))
    go_ret
    exact ⟨rfl, rfl⟩
set_option maxRecDepth 100000 in
set_option maxHeartbeats 4000000 in
theorem may_x (ha : isF a = true) (hb : isF b = true) (w : World) : Calls Try.prog 25 #[.int .i64 a, .int .i64 b] w fun e w' => e = .returned (.bool (mayF a b)) ∧ Below w.heap.size w w' := by
  have ha := isF_iff.1 ha
  have hb := isF_iff.1 hb
  rcases (show a = 0 ∨ a = 1 ∨ a = 2 ∨ a = 3 ∨ a = 4 ∨ a = 5 by omega) with rfl | rfl | rfl | rfl | rfl | rfl <;>
  rcases (show b = 0 ∨ b = 1 ∨ b = 2 ∨ b = 3 ∨ b = 4 ∨ b = 5 by omega) with rfl | rfl | rfl | rfl | rfl | rfl
  all_goals
    clear ha hb
    go_enter Try.func25, Try.ntmps25
    go_wp2
    go_ret
    exact ⟨rfl, below_new _ _⟩
end
end Go.Proofs.Ytnbphpkcpipbkaa
