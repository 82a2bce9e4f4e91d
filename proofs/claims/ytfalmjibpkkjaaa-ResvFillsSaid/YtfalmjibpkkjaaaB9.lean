/- All keys, rising: AppendSeq, Collect, SortFunc, SortedFunc, keys. -/
import Derived.Test.YtfalmjibpkkjaaaB8
import Derived.Test.YtfalmjibpkkjaaaC0
import Derived.Deep.RegionHeld3
namespace Go.Proofs.Ytfalmjibpkkjaaa
open Go.RowKit Go.Maps Go.Sort Go.Shelf
/-- Keys that a call told. -/
def ToldK (P : List (Int × Int) → Prop) (w : World) (e : Ending) (w' : World) : Prop := ∃ A c ss, e = .returned (.slice A ss.length c) ∧ P ss ∧ EK.Own w.heap.size w' (.slice A ss.length c) ss ∧ Below w.heap.size w w'
set_option maxRecDepth 100000 in
set_option maxHeartbeats 2000000 in
theorem appendSeq_k (F : Fence) (n : Nat) (h11 : F.fn 58) (hro : F.round = none) (hn : 2 ≤ n) (g : Nat) (lb : Array Value) (hFg : F.fn g) (eg : ∀ args w, (callFunc g args).run Try.prog w = .ok (.enter g args) w)
    (S : List (Int × Int) → Prop) (N : Nat) (hN : N ≤ 10000) (w : World) (hseq : SeqGives F (n - 1) Try.prog g lb kvK S N w) :
    CallsIn F n Try.prog 58 #[.slice none 0 0, .func (.func g) #[] lb] w (ToldK S w) := by
  have h1 : 1 ≤ n := by omega
  refine callsIn_of_wp_marks Try.func58 rfl h11 ?_ hro
  simp only [Try.ntmps58, List.size_toArray, List.length_cons, List.length_nil, Nat.reduceAdd, Nat.reduceSub, Array.replicate_succ, Array.replicate_zero, List.push_toArray, List.append_toArray, List.nil_append, List.cons_append]
  gi_wp2
  refine wpIn_rangeFunc ?_
  intro fn hfn
  rw [hro]
  obtain ⟨W0, hW0⟩ : ∃ W0, w.alloc (.cells #[.slice none 0 0] 63) = W0 := ⟨_, rfl⟩
  have hs0 : W0.heap.size = w.heap.size + 1 := by rw [← hW0]; simp
  have hv0 : Lrow W0 w.heap.size 63 [.slice none 0 0] := by rw [← hW0]; exact Lrow.new w _ _
  have hb0 : Below w.heap.size w W0 := by rw [← hW0]; exact below_new _ _
  rw [hW0]
  obtain ⟨W1, hW1⟩ : ∃ W1, (W0.alloc (.deferred (some []))).alloc (.loop (recK fn (.func (.func g) #[] lb) w.heap.size W0.heap.size .ready none)) = W1 := ⟨_, rfl⟩
  have hold : Below W0.heap.size W0 W1 := by rw [← hW1]; exact (below_new _ _).alloc (below_new W0 _).size _
  have hb1 : Below w.heap.size w W1 := hb0.trans (hold.mono hb0.size)
  have hM : SoFar w fn (.func (.func g) #[] lb) w.heap.size (W0.heap.size + 1) W0.heap.size [] W1 :=
    ⟨⟨_, hv0.call hold, Enc.Own.nil _ _⟩,
     by rw [← hW1]; have := World.alloc_heap_new (W0.alloc (.deferred (some []))) (.loop (recK fn (.func (.func g) #[] lb) w.heap.size W0.heap.size .ready none)); rwa [World.size_alloc] at this,
     by rw [← hW1]; exact (Below.heap_alloc _ _ _ (by simp)).trans (World.alloc_heap_new W0 _), hb1⟩
  refine ⟨W0.heap.size + 1, [{ target := .collected W0.heap.size, args := #[] }], W1, { target := .fn (.func g) lb, args := #[.func (.yield (W0.heap.size + 1)) #[] #[]] }, W1, g,
    #[.func (.yield (W0.heap.size + 1)) #[] #[]] ++ lb, W1, ?_, ?_, ?_, ?_, fun _ => h1, ?_⟩
  · rw [← hW1]; exact run_enterLoop_outer _ _ _ _ _
  · simp [resolve, go_sem]
  · intro f' hf'; simp [Target.leads] at hf'; subst hf'; exact hFg
  · simp [invoke, go_sem, eg]
  · refine (hseq (W0.heap.size + 1) (SoFar w fn (.func (.func g) #[] lb) w.heap.size (W0.heap.size + 1) W0.heap.size) W1 hb1 (SoFar.abides _ _ _ _ _ _ _ hb1.size)
      (fun pre x W hJ hl => SoFar.yield F (n - 1 - 1) w fn hfn _ w.heap.size (W0.heap.size + 1) W0.heap.size (by omega) (by omega) (by omega) (Nat.le_refl _) (by omega) N hN pre x W hJ hl) hM).mono ?_
    rintro e W2 ⟨⟨v0, rfl⟩, ss, hS, h2⟩
    obtain ⟨v, hv, hrow⟩ := h2.box
    obtain ⟨A, c, rfl⟩ := hrow.form
    have hend := run_endLoop (P := Try.prog) h2.L (by simp [recK])
    obtain ⟨W3, hW3⟩ : ∃ W3, W2.putObj (W0.heap.size + 1) (.loop { recK fn (.func (.func g) #[] lb) w.heap.size W0.heap.size .ready none with state := .exhausted }) = W3 := ⟨_, rfl⟩
    rw [hW3] at hend
    have k3 : ∀ k, k ≠ W0.heap.size + 1 → W3.heap[k]? = W2.heap[k]? := fun k hk => by rw [← hW3]; exact World.putObj_heap_other hk
    have hv3 : Lrow W3 w.heap.size 63 [.slice A ss.length c] := (k3 _ (by omega)).trans hv
    have hK3 : W3.heap[W0.heap.size]? = some (.deferred (some [])) := (k3 _ (by omega)).trans h2.K
    have hrow3 : EK.Own w.heap.size W3 (.slice A ss.length c) ss := hrow.heap fun g e => k3 g fun e' => not_own hrow h2.L (fun cs k => by cases k) (by rw [e, e'])
    have hb3 : Below w.heap.size w W3 := by rw [← hW3]; exact h2.below.grown (grownBy_putObj_a _ _ _) h2.below.size (fun k e => by cases e; omega)
    have hc3 := hv3.cell 0
    obtain ⟨W4, hW4⟩ : ∃ W4, W3.putObj W0.heap.size (.deferred none) = W4 := ⟨_, rfl⟩
    have HFIN : Hid (EK.Own w.heap.size W4 (.slice A ss.length c) ss ∧ Below w.heap.size w W4) := by
      rw [← hW4]
      exact ⟨hrow3.heap fun g e => World.putObj_heap_other fun e' => not_own hrow3 hK3 (fun cs k => by cases k) (by rw [e, e']), hb3.grown (grownBy_putObj_a _ _ _) hb3.size (fun k e => by cases e; omega)⟩
    have hdf := run_takeDeferred (P := Try.prog) hK3
    rw [hW4] at hdf
    clear hW3 hW4 hrow hrow3 hb3 hv3 hv k3
    refine ⟨none, W3, hend, ?_⟩
    gi_wp2
    rw [← hs0]
    refine ⟨by simp, .inl ⟨_, _, rfl, hdf, ?_⟩⟩
    exact ⟨_, results_tmp rfl _ _ _, A, c, ss, rfl, hS, HFIN.out⟩
set_option maxHeartbeats 1000000 in
theorem collect_k (F : Fence) (n : Nat) (h8 : F.fn 52) (h11 : F.fn 58) (hro : F.round = none) (hn : 3 ≤ n) (g : Nat) (lb : Array Value) (hFg : F.fn g) (eg : ∀ args w, (callFunc g args).run Try.prog w = .ok (.enter g args) w)
    (S : List (Int × Int) → Prop) (N : Nat) (hN : N ≤ 10000) (w : World) (hseq : SeqGives F (n - 1 - 1) Try.prog g lb kvK S N w) :
    CallsIn F n Try.prog 52 #[.func (.func g) #[] lb] w (ToldK S w) := by
  have h1 : 1 ≤ n := by omega
  have hap := appendSeq_k F (n - 1) h11 hro (by omega) g lb hFg eg S N hN w hseq
  have e11 : ∀ args w, (callFunc 58 args).run Try.prog w = .ok (.enter 58 args) w := enters_of Try.func58 (by kernel_rfl) rfl
  refine callsIn_of_wp Try.func52 rfl h8 ?_ hro
  simp only [Try.ntmps52, List.size_toArray, List.length_cons, List.length_nil, Nat.reduceAdd, Nat.reduceSub, Array.replicate_succ, Array.replicate_zero, List.push_toArray, List.append_toArray, List.nil_append, List.cons_append]
  gi_wp2_with (gi_at_call 58; refine hap.mono ?_; rintro e w' ⟨A, c, ss, rfl, hS, hrow, hb⟩)
  go_ret
  exact ⟨A, c, ss, rfl, hS, hrow, hb⟩
end Go.Proofs.Ytfalmjibpkkjaaa
