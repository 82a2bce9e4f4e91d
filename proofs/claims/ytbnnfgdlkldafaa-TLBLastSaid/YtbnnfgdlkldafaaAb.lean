/- A range over a function whose iterator is itself a range over a function: the caller's invariant is handed to the inner loop, and the iterator knows of the world what the invariant says. -/
import Derived.RangeFuncNested
import Derived.RangeFuncBound
import Derived.RangeFuncCalls
import Derived.RangeFuncLeaves
import Derived.RangeFuncWrites
import Derived.Test.YtbnnfgdlkldafaaAq
namespace Go.Proofs.Ytbnnfgdlkldafaa
open Go.RowKit
theorem wide_room (k : Nat) : Fence.wide.room k := fun d h => by cases h
/-- At the wide fence all depths are one. -/
theorem roundAny {m m' : Nat} {P : Program} {l : Nat} {f : FuncId} {tmps : Array Value} {assign body : Code} {w : World} {R : Ending → World → Prop}
    (h : RoundIn Fence.wide m P l f tmps assign body w R) : RoundIn Fence.wide m' P l f tmps assign body w R := ⟨h.1, fun c cs _ => h.2 c cs (wide_room _)⟩
theorem yieldAny {m : Nat} (m' : Nat) {P : Program} {l : Nat} {args : Array Value} {W : World} {R : Ending → World → Prop} (h : YieldAt Fence.wide m P l args W R) : YieldAt Fence.wide m' P l args W R := by
  obtain ⟨fn, tmps, assign, body, hy, hR⟩ := h
  exact ⟨fn, tmps, assign, body, hy, roundAny hR⟩
/-- What lies from B on stays. -/
structure Hi (B : Nat) (W W' : World) : Prop where
  size : W.heap.size ≤ W'.heap.size
  keep : ∀ k, B ≤ k → k < W.heap.size → W'.heap[k]? = W.heap[k]?
theorem Hi.refl (B : Nat) (W : World) : Hi B W W := ⟨Nat.le_refl _, fun _ _ _ => rfl⟩
theorem Hi.trans {B : Nat} {X Y Z : World} (h : Hi B X Y) (k : Hi B Y Z) : Hi B X Z := ⟨Nat.le_trans h.size k.size, fun i hi hl => (k.keep i hi (Nat.lt_of_lt_of_le hl h.size)).trans (h.keep i hi hl)⟩
theorem Hi.mono {B D : Nat} {X Y : World} (h : Hi B X Y) (hd : B ≤ D) : Hi D X Y := ⟨h.size, fun i hi hl => h.keep i (Nat.le_trans hd hi) hl⟩
theorem Hi.of_below {B : Nat} {X Y : World} (h : Below X.heap.size X Y) : Hi B X Y := ⟨h.size, fun k _ hl => h.block k hl⟩
theorem Hi.kept {B : Nat} {X Y : World} (h : Hi B X Y) : KeepsFrom B X Y := ⟨h.size, fun k _ hB hk _ => (h.keep k hB (Array.getElem?_eq_some_iff.1 hk).1).trans hk⟩
theorem Hi.row {B g : Nat} {X Y : World} {t : TypeId} {vs : List Value} (h : Hi B X Y) (r : Lrow X g t vs) (hB : B ≤ g) : Lrow Y g t vs := (h.keep g hB r.lt).trans r
/-- An iterator that gives the elements of X in turn, as long as it is told to go on: C is what it wants of the world when some have come; what it has laid itself stays. -/
def SeqO {α : Type} (n : Nat) (P : Program) (g : Nat) (lb : Array Value) (encs : α → Array Value) (C : List α → World → Prop) (X : List α) : Prop :=
  ∀ (l : Nat) (J Jx : List α → World → Prop) (W : World), OwnFrom W.heap.size J → OwnFrom W.heap.size Jx → (∀ pre W1, J pre W1 → C pre W1) →
    (∀ pre x rest W1, X = pre ++ x :: rest → J pre W1 → YieldAt Fence.wide (n - 1) P l (encs x) W1 fun e W' => Hi W.heap.size W1 W' ∧ ((e = .returned (.bool true) ∧ J (pre ++ [x]) W') ∨ (e = .returned (.bool false) ∧ Jx (pre ++ [x]) W'))) →
    J [] W → CallsIn Fence.wide n P g (#[.func (.yield l) #[] #[]] ++ lb) W fun e W' => (∃ v, e = .returned v) ∧ (J X W' ∨ ∃ pre, Jx pre W')
/-- How the body of a round may be left. -/
def post9 {α : Type} (B : Nat) (I : List α → World → Prop) (Ix : Code → List α → World → Prop) (xs : List α) (W : World) : Exit → Act → World → Prop
  | .normal, _, W' => Hi B W W' ∧ I xs W'
  | .ret, _, W' => Hi B W W' ∧ Ix .ret xs W'
  | .exit id, _, W' => Hi B W W' ∧ Ix (.exit id) xs W'
  | .goto t, _, W' => Hi B W W' ∧ Ix (.goto t) xs W'
  | .panic _, _, _ => False
  | .outgrown, _, _ => False
theorem wpIn_range9 {α : Type} {n : Nat} {P : Program} {g : Operand} {ps : Array Tmp} {assign body : Code} {Q : Exit → Act → World → Prop} {a : Act} {w : World}
    (h1 : 1 ≤ n) {gf : Nat} {lb : Array Value} (hg : a.eval g = .func (.func gf) #[] lb) (eg : ∀ args w, (callFunc gf args).run P w = .ok (.enter gf args) w)
    {encs : α → Array Value} {C : List α → World → Prop} {X : List α} (hseq : SeqO (n - 1) P gf lb encs C X) (hps : ∀ x, (encs x).size = ps.size)
    (I : List α → World → Prop) (Ix : Code → List α → World → Prop) (hI : OwnFrom w.heap.size I) (hIx : ∀ c, OwnFrom w.heap.size (Ix c)) (hC : ∀ pre W, I pre W → C pre W) (h0 : I [] w)
    (Ax : α → Act → World → Prop) (hAx : ∀ x a', OwnFrom w.heap.size (fun (_ : Unit) W => Ax x a' W))
    (hassign : ∀ (l : Nat) (pre : List α) (x : α) (W : World) (K : Act → World → Prop), I pre W → (∀ a' W', Hi w.heap.size W W' → I pre W' → Ax x a' W' → K a' W') →
      assign.wpIn (Fence.wide.inRound l) (n - 1 - 1) P (Exit.then K (fun _ _ _ => False)) { tmps := (ps.zip (encs x)).foldl (fun t (p, v) => t.setIfInBounds p v) a.tmps, defers := [] } W)
    (hbody : ∀ (l : Nat) (pre : List α) (x : α) (rest : List α) (a' : Act) (W : World), X = pre ++ x :: rest → I pre W → Ax x a' W → body.wpIn (Fence.wide.inRound l) (n - 1 - 1) P (post9 w.heap.size I Ix (pre ++ [x]) W) a' W)
    (hdone : ∀ (D : Nat) (W : World), w.heap.size ≤ D → I X W → W.heap[D]? = some (.deferred (some [])) → Q .normal { a with defers := { target := .collected D, args := #[] } :: a.defers } W)
    (hstop : ∀ (D : Nat) (c : Code) (pre : List α) (W : World), w.heap.size ≤ D → Ix c pre W → W.heap[D]? = some (.deferred (some [])) → c.wpIn Fence.wide n P Q { a with defers := { target := .collected D, args := #[] } :: a.defers } W) :
    (Code.rangeFunc g ps assign body).wpIn Fence.wide n P Q a w := by
  refine wpIn_rangeFunc ?_
  intro fn hfn
  show ∃ _, _
  obtain ⟨rec, hrec⟩ : ∃ rec : LoopState → Option Code → Loop, rec = fun st pe => { state := st, pending := pe, fn, tmps := a.tmps, params := ps, assign, body, defers := w.heap.size } := ⟨_, rfl⟩
  obtain ⟨b0, hb0⟩ : ∃ b0, b0 = w.heap.size := ⟨_, rfl⟩
  obtain ⟨W1, hW1⟩ : ∃ W1, (w.alloc (.deferred (some []))).alloc (.loop (rec .ready none)) = W1 := ⟨_, rfl⟩
  have hs1 : W1.heap.size = b0 + 2 := by rw [← hW1, hb0]; simp
  have hL1 : W1.heap[b0 + 1]? = some (.loop (rec .ready none)) := by
    have := World.alloc_heap_new (w.alloc (.deferred (some []))) (.loop (rec .ready none))
    rwa [World.size_alloc, hW1, ← hb0] at this
  have hK1 : W1.heap[b0]? = some (.deferred (some [])) := by
    rw [← hW1, hb0]; exact (Below.heap_alloc _ _ _ (by simp)).trans (World.alloc_heap_new w _)
  have hI1 : I [] W1 := by rw [← hW1]; exact hI.alloc _ (hI.alloc _ h0)
  refine ⟨b0 + 1, [{ target := .collected b0, args := #[] }], W1, { target := .fn (.func gf) lb, args := #[.func (.yield (b0 + 1)) #[] #[]] }, W1, gf, #[.func (.yield (b0 + 1)) #[] #[]] ++ lb, W1, ?_, ?_, ?_, ?_, fun _ => h1, ?_⟩
  · rw [← hW1, hrec, hb0]; exact run_enterLoop_outer _ _ _ _ _
  · simp only [resolve, hg]
    simp [go_sem]
  · intro f' _; exact trivial
  · simp [invoke, go_sem, eg]
  -- what the iterator must keep: the caller's invariant, and the loop's two blocks
  have far : ∀ {A B : World} {row : Option Nat}, A.grownBy B row → (∀ r, row = some r → W1.heap.size ≤ r ∧ ∃ o : Obj, A.heap[r]? = some o ∧ o.isCells = false) → ∀ k (o : Obj), k < b0 + 2 → A.heap[k]? = some o → B.heap[k]? = some o := fun hg' hr k o hk ho =>
    (hg'.block k (Array.getElem?_eq_some_iff.1 ho).1 (fun e => by have := (hr k e.symm).1; omega)).trans ho
  have low : ∀ {A : World} {row : Option Nat}, (∀ r, row = some r → W1.heap.size ≤ r ∧ ∃ o : Obj, A.heap[r]? = some o ∧ o.isCells = false) → (∀ r, row = some r → w.heap.size ≤ r ∧ ∃ o : Obj, A.heap[r]? = some o ∧ o.isCells = false) := fun hr r e => ⟨by have := (hr r e).1; omega, (hr r e).2⟩
  refine (hseq (b0 + 1)
    (fun pre W => I pre W ∧ W.heap[b0 + 1]? = some (.loop (rec .ready none)) ∧ W.heap[b0]? = some (.deferred (some [])))
    (fun pre W => ∃ c, Ix c pre W ∧ W.heap[b0 + 1]? = some (.loop (rec .done (some c))) ∧ W.heap[b0]? = some (.deferred (some [])))
    W1
    (fun s A B row hs hg' hr => ⟨hI s A B row hs.1 hg' (low hr), far hg' hr _ _ (by omega) hs.2.1, far hg' hr _ _ (by omega) hs.2.2⟩)
    (fun s A B row hs hg' hr => by
      obtain ⟨c, hc, hl, hk⟩ := hs
      exact ⟨c, hIx c s A B row hc hg' (low hr), far hg' hr _ _ (by omega) hl, far hg' hr _ _ (by omega) hk⟩)
    (fun pre W h => hC pre W h.1) ?_ ⟨hI1, hL1, hK1⟩).mono ?_
  · rintro pre x rest W hX ⟨hi, hl, hk⟩
    have hy := run_yield (P := P) (args := encs x) hl (by rw [hrec]; exact hps x)
    rw [hrec] at hy
    refine ⟨fn, _, assign, body, hy, roundIn_of_wpIn hfn (hassign _ pre x W _ hi ?_)⟩
    intro a' Wa hkf hia hax
    have hl2 := hkf.kept.same _ _ (by omega) hl rfl
    have hk2 := hkf.kept.same _ _ (by omega) hk rfl
    have hlt : b0 + 1 < Wa.heap.size := (Array.getElem?_eq_some_iff.1 hl2).1
    refine ⟨_, run_beginRound hl2 (by rw [hrec]), ?_⟩
    obtain ⟨Wb, hWb⟩ : ∃ Wb, Wb = Wa.putObj (b0 + 1) (.loop { rec .ready none with state := .busy }) := ⟨_, rfl⟩
    have hl3 : Wb.heap[b0 + 1]? = some (.loop { rec .ready none with state := .busy }) := by rw [hWb]; exact World.putObj_heap_same hlt
    have hk3 : Wb.heap[b0]? = some (.deferred (some [])) := by rw [hWb]; exact (World.putObj_heap_other (by omega)).trans hk2
    have hib : I pre Wb := by rw [hWb]; exact hI.putObj _ hia (by omega) hl2 rfl
    have hab : Ax x a' Wb := by rw [hWb]; exact (hAx x a').putObj (s := ()) _ hax (by omega) hl2 rfl
    rw [← hWb]
    have hput : ∀ (Z : World) (o : Obj), Hi W1.heap.size Z (Z.putObj (b0 + 1) o) := fun Z o => ⟨by simp, fun k hk _ => World.putObj_heap_other (by omega)⟩
    have hi1 : Hi W1.heap.size W Wb := (hkf.mono (by omega)).trans (hWb ▸ hput _ _)
    refine wpIn_mono (hbody _ pre x rest a' _ hX hib hab) ?_
    have fin : ∀ (jump : Option Code) (W3 : World), Hi w.heap.size Wb W3 →
        (Instr.endRound (b0 + 1) jump).run P W3 = .ok (.bool jump.isNone) (W3.putObj (b0 + 1) (.loop (rec (if jump.isNone then .ready else .done) jump))) ∧
        W3.heap[b0 + 1]? = some (.loop { rec .ready none with state := .busy }) ∧
        (W3.putObj (b0 + 1) (.loop (rec (if jump.isNone then .ready else .done) jump))).heap[b0 + 1]? = some (.loop (rec (if jump.isNone then .ready else .done) jump)) ∧
        (W3.putObj (b0 + 1) (.loop (rec (if jump.isNone then .ready else .done) jump))).heap[b0]? = some (.deferred (some [])) := fun jump W3 hk4 => by
      have h5 := hk4.kept.same _ _ (by omega) hl3 rfl
      have := run_endRound (P := P) jump h5
      rw [hrec] at this ⊢
      exact ⟨this, by rw [hrec] at h5; exact h5, World.putObj_heap_same (Array.getElem?_eq_some_iff.1 h5).1, (World.putObj_heap_other (by omega)).trans (hk4.kept.same _ _ (by omega) hk3 rfl)⟩
    rintro e a3 W3 hp
    cases e with
    | normal =>
      obtain ⟨hk4, hi4⟩ := hp
      obtain ⟨hr, h5, h6, h7⟩ := fin none W3 hk4
      exact ⟨_, _, hr, (hi1.trans (hk4.mono (by omega))).trans (hput _ _), .inl ⟨rfl, hI.putObj _ hi4 (by omega) h5 rfl, h6, h7⟩⟩
    | ret =>
      obtain ⟨hk4, hi4⟩ := hp
      obtain ⟨hr, h5, h6, h7⟩ := fin (some .ret) W3 hk4
      exact ⟨_, _, hr, (hi1.trans (hk4.mono (by omega))).trans (hput _ _), .inr ⟨rfl, .ret, (hIx _).putObj _ hi4 (by omega) h5 rfl, h6, h7⟩⟩
    | exit id =>
      obtain ⟨hk4, hi4⟩ := hp
      obtain ⟨hr, h5, h6, h7⟩ := fin (some (.exit id)) W3 hk4
      exact ⟨_, _, hr, (hi1.trans (hk4.mono (by omega))).trans (hput _ _), .inr ⟨rfl, .exit id, (hIx _).putObj _ hi4 (by omega) h5 rfl, h6, h7⟩⟩
    | goto t =>
      obtain ⟨hk4, hi4⟩ := hp
      obtain ⟨hr, h5, h6, h7⟩ := fin (some (.goto t)) W3 hk4
      exact ⟨_, _, hr, (hi1.trans (hk4.mono (by omega))).trans (hput _ _), .inr ⟨rfl, .goto t, (hIx _).putObj _ hi4 (by omega) h5 rfl, h6, h7⟩⟩
    | panic ch => exact hp.elim
    | outgrown => exact hp.elim
  · rintro e W2 ⟨⟨v, rfl⟩, (⟨hi, hl, hk⟩ | ⟨pre, c, hi, hl, hk⟩)⟩
    · exact ⟨none, _, by have := run_endLoop (P := P) hl (by rw [hrec]; simp); rw [hrec] at this; exact this, hdone _ _ (by omega) (hI.putObj _ hi (by omega) hl rfl) ((World.putObj_heap_other (by omega)).trans hk)⟩
    · exact ⟨some c, _, by have := run_endLoop (P := P) hl (by rw [hrec]; simp); rw [hrec] at this; exact this, hstop _ c pre _ (by omega) ((hIx c).putObj _ hi (by omega) hl rfl) ((World.putObj_heap_other (by omega)).trans hk)⟩
end Go.Proofs.Ytbnnfgdlkldafaa
