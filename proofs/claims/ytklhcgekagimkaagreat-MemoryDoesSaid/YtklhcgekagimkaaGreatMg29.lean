/- Frames as they lie: the program's and the reference's; the small functions. -/
import Derived.Test.YtklhcgekagimkaaGreatProg
import Derived.Test.YtklhcgekagimkaaGreatMg28
import Derived.BigQuiet
import Derived.Deep.QuietTactic
import Derived.Deep.RegionHeld3
import Derived.Deep.LoopGhost
import Derived.Deep.CutRange
import Derived.Deep.RegionLaw
import Derived.Deep.OwnRows
import Derived.WalkLawsBesides
import Derived.IntWalk
import Derived.Outline
import Derived.StillTailTactics
import Derived.Test.YtklhcgekagimkaaGreatMg22
namespace Go.Proofs.YtklhcgekagimkaaGreat
open Go.RowKit
def Fits (n : Int) : Prop := -9223372036854775808 ≤ n ∧ n ≤ 9223372036854775807
def EI : Enc Tryz.prog Int where
  enc x := [.int .i64 x]
  sz := 1
  el := 3
  sl := 30
  zero := .int .i64 0
  bytes := 8
  len _ := rfl
  one a u h := by
    simp only [List.mem_cons, List.not_mem_nil, or_false] at h
    rcases h with rfl
    rfl
  pos := by decide
  zsz := rfl
  und := by kernel_rfl
  info := by kernel_rfl
  small := by decide
theorem EI_cells (L : List Int) : EI.cells L = L.map (Value.int .i64) := by
  induction L with
  | nil => rfl
  | cons x r ih => rw [Enc.cells_cons, ih]; rfl
theorem below_new (w : World) (o : Obj) : Below w.heap.size w (w.alloc o) := (Below.refl _ _).alloc (Nat.le_refl _) o
theorem wpList_append_run {P : Program} {w : World} {ops : Array Oper} {rest : List Oper} {o : Oper} {a : Act} {Q : Exit → Act → World → Prop} (hgd : o.guard = none) (d s : Operand) (t : TypeId)
    (ho : o.op = .call { callee := .builtin .append, args := #[d, s], argTypes := #[t, t] }) (v u : Value) (hd : a.eval d = v) (hs : a.eval s = u) {v' : Value} {w' : World}
    (hr : (Builtin.append_ #[t, t] o.type #[v, u]).run P w = .ok v' w') (h : wpList P ops Q rest (a.put o.dst v') w') : wpList P ops Q (o :: rest) a w := by
  refine wpList_plain hgd fun K' hK' => ?_
  unfold Oper.wp
  simp [execOp, ho, resolve, invoke, builtin, hd, hs, hr, Result.andThen]
  exact hK' _ _ h
/-- The program's: its struct in block s, its row in block g. -/
structure Fx (B : Nat) (w : World) (s g : Nat) (I : List Int) : Prop where
  top : Lrow w s 110 (.slice (some ⟨g, 0, none⟩) I.length I.length :: (ctF I).map (Value.int .i64))
  row : Lrow w g 3 (I.map (Value.int .i64))
  ap : s ≠ g
  lo : B ≤ s ∧ B ≤ g
def MineF (s g k : Nat) : Prop := k = s ∨ k = g
/-- The reference's: its struct in block x, a row of its own. -/
def Rx (B : Nat) (w : World) (x : Nat) (v : Value) (I : List Int) : Prop := Lrow w x 44 [v] ∧ EI.Own B w v I ∧ B ≤ x
section
variable {w w' : World} {B s g x : Nat} {v : Value} {I : List Int} {a b : Int}
theorem Fx.lw (h : Fx B w s g I) : B ≤ w.heap.size := by have := h.lo.1; have := h.top.lt; omega
theorem Fx.mine (h : Fx B w s g I) : ∀ k, MineF s g k → B ≤ k ∧ k < w.heap.size := by
  rintro k (rfl | rfl)
  · exact ⟨h.lo.1, h.top.lt⟩
  · exact ⟨h.lo.2, h.row.lt⟩
theorem Fx.keep (h : Fx B w s g I) (hk : ∀ k, MineF s g k → w'.heap[k]? = w.heap[k]?) : Fx B w' s g I :=
  ⟨(hk _ (Or.inl rfl)).trans h.top, (hk _ (Or.inr rfl)).trans h.row, h.ap, h.lo⟩
theorem Fx.call (h : Fx B w s g I) (hb : Below w.heap.size w w') : Fx B w' s g I := h.keep fun k hk => hb.block k (h.mine k hk).2
theorem Fx.at_ (h : Fx B w s g I) (i : Nat) : w.cell? ⟨g, i, none⟩ = (I[i]?).map (Value.int .i64) := by
  rw [h.row.cell i, List.getElem?_map]
theorem Fx.ct (h : Fx B w s g I) {k : Nat} (hk : k < 6) : w.cell? ⟨s, 1 + k, none⟩ = some (.int .i64 (I.count (k : Int) : Nat)) := by
  rw [h.top.cell, Nat.add_comm, List.getElem?_cons_succ, List.getElem?_map, ct_get _ hk]; rfl
theorem Rx.keep (h : Rx B w x v I) (hx : w'.heap[x]? = w.heap[x]?) (hk : ∀ k, v.ownBlock = some k → w'.heap[k]? = w.heap[k]?) : Rx B w' x v I := ⟨hx.trans h.1, h.2.1.heap hk, h.2.2⟩
theorem Rx.call (h : Rx B w x v I) (hb : Below w.heap.size w w') : Rx B w' x v I := ⟨h.1.call hb, h.2.1.call hb, h.2.2⟩
theorem EI_row {c : Nat} {A : Option Addr} {L : List Int} (h : EI.Own B w (.slice A L.length c) L) (hl : 0 < L.length) : ∃ g rest, A = some ⟨g, 0, none⟩ ∧ Lrow w g 3 (L.map (Value.int .i64) ++ rest) ∧ B ≤ g ∧ L.length ≤ c ∧ c ≤ maxLen ∧ L.length + rest.length = c := by
  rcases h.2 with ⟨e, h0⟩ | ⟨g, cap, cur, e, hB, hg, hnc, hc, hs, ht⟩
  · omega
  · injection e with e1 e2 e3
    subst e1
    obtain ⟨rest, r1, r2, r3, r4, r5⟩ := own_rowK (g := g) h rfl
    rw [EI_cells] at r1
    rw [EI_cells, List.length_map] at r5
    refine ⟨g, rest, rfl, r1, r2, r3, r4, ?_⟩
    rw [r5]; show c * 1 = c; omega
theorem EI_of {c g : Nat} {L : List Int} {rest : List Value} (hr : Lrow w g 3 (L.map (Value.int .i64) ++ rest)) (hB : B ≤ g) (hn : L.length ≤ c) (hc : c ≤ maxLen) (hl : L.length + rest.length = c) : EI.Own B w (.slice (some ⟨g, 0, none⟩) L.length c) L := by
  refine own_of_row (rest := rest) (by rw [EI_cells]; exact hr) hB hn hc ?_ ?_
  · rw [EI_cells, List.length_map]; show L.length = L.length * 1; omega
  · rw [EI_cells, List.length_map]; show L.length + rest.length = c * 1; omega
/-! The small functions. -/
theorem state_f (x : Int) (w : World) : Calls Tryz.prog 72 #[.int .i64 x] w fun e w' => e = .returned (.bool (isF x)) ∧ w = w' := by
  by_cases c1 : 0 ≤ x
  · have d1 : isF x = decide (x < 6) := by unfold isF; rw [decide_eq_decide]; omega
    rw [d1]
    go_enter Tryz.func72, Tryz.ntmps72
    go_wp2
    go_ret
    exact ⟨rfl, rfl⟩
  · have d1 : isF x = false := by unfold isF; rw [decide_eq_false_iff_not]; omega
    rw [d1]
    go_enter Tryz.func72, Tryz.ntmps72
    go_wp2
    go_ret
    exact ⟨rfl, rfl⟩
theorem apart_f (x : Int) (w : World) : Calls Tryz.prog 108 #[.int .i64 x] w fun e w' => e = .returned (.bool (decide (x = 4 ∨ x = 5))) ∧ w = w' := by
  by_cases c1 : x = 4
  · subst c1
    go_enter Tryz.func108, Tryz.ntmps108
    go_wp2
    go_ret
    exact ⟨rfl, rfl⟩
  · have b1 : (x == 4) = false := by simpa using c1
    have d1 : decide (x = 4 ∨ x = 5) = (x == 5) := by
      by_cases c : x = 5
      · subst c; rfl
      · simp [c1, c]
    rw [d1]
    clear c1 d1
    go_enter Tryz.func108, Tryz.ntmps108
    go_wp2
    go_ret
    exact ⟨rfl, rfl⟩
set_option maxRecDepth 100000 in
set_option maxHeartbeats 4000000 in
theorem may_f (ha : isF a = true) (hb : isF b = true) (w : World) : Calls Tryz.prog 86 #[.int .i64 a, .int .i64 b] w fun e w' => e = .returned (.bool (mayF a b)) ∧ w = w' := by
  have ha := isF_iff.1 ha
  have hb := isF_iff.1 hb
  have h1 := apart_f a w
  have h2 := apart_f b w
  rcases (show a = 0 ∨ a = 1 ∨ a = 2 ∨ a = 3 ∨ a = 4 ∨ a = 5 by omega) with rfl | rfl | rfl | rfl | rfl | rfl <;>
  rcases (show b = 0 ∨ b = 1 ∨ b = 2 ∨ b = 3 ∨ b = 4 ∨ b = 5 by omega) with rfl | rfl | rfl | rfl | rfl | rfl
  all_goals
    clear ha hb
    go_enter Tryz.func86, Tryz.ntmps86
    go_wp2_with (go_at_call 108; first | (with_reducible refine h1.mono ?_; rintro e w1 ⟨rfl, rfl⟩) | (with_reducible refine h2.mono ?_; rintro e w1 ⟨rfl, rfl⟩))
    go_ret
    exact ⟨rfl, rfl⟩
set_option maxRecDepth 100000 in
set_option maxHeartbeats 4000000 in
theorem may_x (ha : isF a = true) (hb : isF b = true) (w : World) : Calls Tryz.prog 105 #[.int .i64 a, .int .i64 b] w fun e w' => e = .returned (.bool (mayF a b)) ∧ Below w.heap.size w w' := by
  have ha := isF_iff.1 ha
  have hb := isF_iff.1 hb
  rcases (show a = 0 ∨ a = 1 ∨ a = 2 ∨ a = 3 ∨ a = 4 ∨ a = 5 by omega) with rfl | rfl | rfl | rfl | rfl | rfl <;>
  rcases (show b = 0 ∨ b = 1 ∨ b = 2 ∨ b = 3 ∨ b = 4 ∨ b = 5 by omega) with rfl | rfl | rfl | rfl | rfl | rfl
  all_goals
    clear ha hb
    go_enter Tryz.func105, Tryz.ntmps105
    go_wp2
    go_ret
    exact ⟨rfl, below_new _ _⟩
end
end Go.Proofs.YtklhcgekagimkaaGreat
/- Package frames: Len, Is, Count, Next, what they ask; of nil as well; New. -/
namespace Go.Proofs.YtklhcgekagimkaaGreat
open Go.RowKit
/-- Whether a number is a frame's. -/
def frB (I : List Int) (f : Int) : Bool := decide (0 ≤ f ∧ f < I.length)
def isV (I : List Int) (f : Int) : Int := if frB I f = true then I.getD f.toNat 0 else -1
def newF (n : Int) : List Int := List.replicate n.toNat 0
def nwF (n : Int) : Bool := decide (8 ≤ n ∧ n ≤ 1024)
theorem newF_ok {n : Int} (h : nwF n = true) : OkF (newF n) := by
  unfold nwF at h
  have h := of_decide_eq_true h
  unfold newF
  refine ⟨by rw [List.length_replicate]; omega, by rw [List.length_replicate]; omega, fun x hx => ?_⟩
  have := List.eq_of_mem_replicate hx
  omega
section
variable {w w' : World} {B s g : Nat} {I : List Int} {x f : Int}
theorem len_f (h : Fx B w s g I) : Calls Tryz.prog 61 #[.pointer (some ⟨s, 0, none⟩)] w fun e w' => e = .returned (.int .i64 I.length) ∧ w = w' := by
  have c0 := h.top.cell 0
  generalize I.length = n at *
  clear h
  go_enter Tryz.func61, Tryz.ntmps61
  go_wp2_with fail
  go_ret
  exact ⟨rfl, rfl⟩
theorem len_nil (w : World) : Calls Tryz.prog 61 #[.pointer none] w fun e w' => e = .returned (.int .i64 0) ∧ w = w' := by
  go_enter Tryz.func61, Tryz.ntmps61
  go_wp2_with fail
  go_ret
  exact ⟨rfl, rfl⟩
theorem isFrame_f (h : Fx B w s g I) (f : Int) : Calls Tryz.prog 70 #[.pointer (some ⟨s, 0, none⟩), .int .i64 f] w fun e w' => e = .returned (.bool (frB I f)) ∧ w = w' := by
  have hl := len_f h
  unfold frB
  generalize I.length = n at *
  clear h
  by_cases c1 : 0 ≤ f
  · have d1 : decide (0 ≤ f ∧ f < (n : Int)) = decide (f < (n : Int)) := by rw [decide_eq_decide]; omega
    rw [d1]
    go_enter Tryz.func70, Tryz.ntmps70
    go_wp2_with (go_at_call 61; (with_reducible refine hl.mono ?_); rintro e w1 ⟨rfl, rfl⟩)
    go_ret
    exact ⟨rfl, rfl⟩
  · have d1 : decide (0 ≤ f ∧ f < (n : Int)) = false := by rw [decide_eq_false_iff_not]; omega
    rw [d1]
    go_enter Tryz.func70, Tryz.ntmps70
    go_wp2_with (go_at_call 61; (with_reducible refine hl.mono ?_); rintro e w1 ⟨rfl, rfl⟩)
    go_ret
    exact ⟨rfl, rfl⟩
theorem isFrame_nil (f : Int) (w : World) : Calls Tryz.prog 70 #[.pointer none, .int .i64 f] w fun e w' => e = .returned (.bool false) ∧ w = w' := by
  have hl := len_nil w
  by_cases c1 : 0 ≤ f
  · have d1 : decide (f < 0) = false := by rw [decide_eq_false_iff_not]; omega
    go_enter Tryz.func70, Tryz.ntmps70
    go_wp2_with (go_at_call 61; (with_reducible refine hl.mono ?_); rintro e w1 ⟨rfl, rfl⟩)
    go_ret
    exact ⟨rfl, rfl⟩
  · go_enter Tryz.func70, Tryz.ntmps70
    go_wp2_with (go_at_call 61; (with_reducible refine hl.mono ?_); rintro e w1 ⟨rfl, rfl⟩)
    go_ret
    exact ⟨rfl, rfl⟩
theorem is_f (h : Fx B w s g I) (f : Int) : Calls Tryz.prog 38 #[.pointer (some ⟨s, 0, none⟩), .int .i64 f] w fun e w' => e = .returned (.int .i64 (isV I f)) ∧ w = w' := by
  have hl := isFrame_f h f
  unfold isV
  by_cases c1 : frB I f = true
  · rw [if_pos c1]
    rw [c1] at hl
    have c2 := of_decide_eq_true c1
    obtain ⟨k, rfl⟩ : ∃ k : Nat, f = k := ⟨f.toNat, by omega⟩
    have hk : k < I.length := by omega
    have c0 := h.top.cell 0
    have d0 : w.cell? ⟨g, k, none⟩ = some (.int .i64 (I.getD k 0)) := by rw [h.at_, List.getD_eq_getElem?_getD, List.getElem?_eq_getElem hk]; rfl
    rw [Int.toNat_natCast]
    generalize I.getD k 0 = y at *
    have k1 : (k : Int) < I.length := by omega
    have k0 : (0 : Int) ≤ k := by omega
    generalize I.length = n at *
    clear h c1 c2 hk
    go_enter Tryz.func38, Tryz.ntmps38
    go_wp2_with (go_at_call 70; (with_reducible refine hl.mono ?_); rintro e w1 ⟨rfl, rfl⟩)
    go_ret
    exact ⟨rfl, rfl⟩
  · rw [if_neg c1]
    have c2 : frB I f = false := by simpa using c1
    rw [c2] at hl
    clear h c1 c2
    go_enter Tryz.func38, Tryz.ntmps38
    go_wp2_with (go_at_call 70; (with_reducible refine hl.mono ?_); rintro e w1 ⟨rfl, rfl⟩)
    go_ret
    exact ⟨rfl, rfl⟩
theorem is_nil (f : Int) (w : World) : Calls Tryz.prog 38 #[.pointer none, .int .i64 f] w fun e w' => e = .returned (.int .i64 (-1)) ∧ w = w' := by
  have hl := isFrame_nil f w
  go_enter Tryz.func38, Tryz.ntmps38
  go_wp2_with (go_at_call 70; (with_reducible refine hl.mono ?_); rintro e w1 ⟨rfl, rfl⟩)
  go_ret
  exact ⟨rfl, rfl⟩
theorem count_f (h : Fx B w s g I) (ok : OkF I) (x : Int) : Calls Tryz.prog 42 #[.pointer (some ⟨s, 0, none⟩), .int .i64 x] w fun e w' => e = .returned (.int .i64 (I.count x : Nat)) ∧ w = w' := by
  have hs := state_f x w
  by_cases c1 : isF x = true
  · rw [c1] at hs
    have c2 := isF_iff.1 c1
    obtain ⟨k, rfl⟩ : ∃ k : Nat, x = k := ⟨x.toNat, by omega⟩
    have hk : k < 6 := by omega
    have d0 := h.ct hk
    have k1 : (k : Int) < 6 := by omega
    have k0 : (0 : Int) ≤ k := by omega
    generalize I.count (k : Int) = y at *
    clear h ok c1 c2 hk
    go_enter Tryz.func42, Tryz.ntmps42
    go_wp2_with (go_at_call 72; (with_reducible refine hs.mono ?_); rintro e w1 ⟨rfl, rfl⟩)
    go_ret
    exact ⟨rfl, rfl⟩
  · have c2 : isF x = false := by simpa using c1
    rw [c2] at hs
    rw [ok.none c2]
    clear h ok c1 c2
    go_enter Tryz.func42, Tryz.ntmps42
    go_wp2_with (go_at_call 72; (with_reducible refine hs.mono ?_); rintro e w1 ⟨rfl, rfl⟩)
    go_ret
    exact ⟨rfl, rfl⟩
theorem count_nil (x : Int) (w : World) : Calls Tryz.prog 42 #[.pointer none, .int .i64 x] w fun e w' => e = .returned (.int .i64 0) ∧ w = w' := by
  go_enter Tryz.func42, Tryz.ntmps42
  go_wp2_with fail
  go_ret
  exact ⟨rfl, rfl⟩
end
end Go.Proofs.YtklhcgekagimkaaGreat
/- Package frames: Next, New, are. -/
namespace Go.Proofs.YtklhcgekagimkaaGreat
open Go.RowKit
section
variable {w w' : World} {B s g : Nat} {I : List Int} {x f r : Int}
end
/-! New. -/
section
variable {n : Int}
set_option maxRecDepth 100000 in
theorem new_no (h : nwF n = false) (w : World) : Calls Tryz.prog 51 #[.int .i64 n] w fun e w' => e = .returned (.tuple #[.pointer none, .int .i64 2]) ∧ w = w' := by
  have h := of_decide_eq_false h
  rcases (show n < 8 ∨ (¬ n < 8 ∧ 1024 < n) by omega) with c1 | ⟨c1, c2⟩
  all_goals
    clear h
    go_enter Tryz.func51, Tryz.ntmps51
    go_wp2_with fail
    go_ret2
    exact ⟨rfl, rfl⟩
set_option maxRecDepth 100000 in
set_option maxHeartbeats 2000000 in
theorem new_f (h : nwF n = true) (w : World) : Calls Tryz.prog 51 #[.int .i64 n] w fun e w' => ∃ s g, e = .returned (.tuple #[.pointer (some ⟨s, 0, none⟩), .int .i64 0]) ∧ Fx w.heap.size w' s g (newF n) ∧ Below w.heap.size w w' := by
  have h := of_decide_eq_true h
  obtain ⟨m, rfl⟩ : ∃ m : Nat, n = m := ⟨n.toNat, by omega⟩
  have hmk : (Instr.makeSlice 30 (.int .i64 m) (.int .i64 m)).run Tryz.prog w = .ok (.slice (some ⟨w.heap.size, 0, none⟩) m m) (w.alloc (.cells (madeCells #[.int .i64 0] m) 3)) :=
    run_make_row' (P := Tryz.prog) 30 3 (.int .i64 0) 8 Tryz.underlying30 info_int rfl .i64 .i64 m (by omega) (by omega) w
  obtain ⟨g, hg⟩ : ∃ g, g = w.heap.size := ⟨_, rfl⟩
  obtain ⟨W1, hW1⟩ : ∃ W1, W1 = w.alloc (.cells (madeCells #[.int .i64 0] m) 3) := ⟨_, rfl⟩
  have hr : Lrow W1 g 3 ((List.replicate m (0 : Int)).map (Value.int .i64)) := by
    rw [hW1, hg, List.map_replicate, ← made_ints]
    simpa using Lrow.new w 3 (madeCells #[Value.int .i64 0] m).toList
  have hb1 : Below w.heap.size w W1 := by rw [hW1]; exact below_new _ _
  rw [← hW1, ← hg] at hmk
  obtain ⟨s, hs⟩ : ∃ s, s = W1.heap.size := ⟨_, rfl⟩
  obtain ⟨W2, hW2⟩ : ∃ W2, W2 = W1.alloc (.cells #[.slice (some ⟨g, 0, none⟩) m m, .int .i64 0, .int .i64 0, .int .i64 0, .int .i64 0, .int .i64 0, .int .i64 0] 110) := ⟨_, rfl⟩
  have hb2 : Below W1.heap.size W1 W2 := by rw [hW2]; exact below_new _ _
  have ht : Lrow W2 s 110 [.slice (some ⟨g, 0, none⟩) m m, .int .i64 0, .int .i64 0, .int .i64 0, .int .i64 0, .int .i64 0, .int .i64 0] := by rw [hW2, hs]; exact Lrow.new W1 _ _
  have hgs : g < W1.heap.size := hr.lt
  have HD : Hid (Fx w.heap.size (W2.setCell ⟨s, 1, none⟩ (.int .i64 m)) s g (newF m) ∧ Below w.heap.size w (W2.setCell ⟨s, 1, none⟩ (.int .i64 m))) := by
    refine ⟨⟨?_, ?_, by omega, ?_⟩, (hb1.trans (hb2.mono hb1.size)).grown (grown_set W2 s 1 _) (hb1.trans (hb2.mono hb1.size)).size (fun k e => by injection e with e; have := hb1.size; omega)⟩
    · have := ht.set_ 1 (.int .i64 m)
      unfold newF ctF
      rw [Int.toNat_natCast, List.length_replicate]
      simp only [List.count_replicate]
      exact this
    · unfold newF
      rw [Int.toNat_natCast]
      exact (hr.call hb2).far (p := ⟨s, 1, none⟩) (show g ≠ s by omega) _
    · exact ⟨by rw [hs]; exact hb1.size, by rw [hg]; exact Nat.le_refl _⟩
  have y1 := ht.frozen 1
  have e1 := ht.cell 1
  have HW := Lib.hid (And.intro hW2 hs)
  have m1 : ¬ (m : Int) < 8 := by omega
  have m2 : ¬ (1024 : Int) < m := by omega
  clear hr hb1 hb2 hW1 hW2 hs hg ht hgs h
  go_enter Tryz.func51, Tryz.ntmps51
  go_upto_region 4 with (fail)
  rw [← HW.out.1, ← HW.out.2]
  go_wp2_with fail
  go_ret2
  exact ⟨s, rfl, ⟨g, HD.out.1⟩, HD.out.2⟩
end
end Go.Proofs.YtklhcgekagimkaaGreat
