/- Frames for tables that are given back: the contract of give. -/
import Derived.Test.YtnlimecbbockoaaMg28
namespace Go.Proofs.Ytnlimecbbockoaa
open Go.RowKit Go.Shelf
attribute [local go_sem] Oper.semAt_some
section
variable {w : World} {s : Seat} {v : Value} {ws L R : List Int}
/-- What stands between two rounds of give. -/
structure Giv (w : World) (s : Seat) (v : Value) (ws L R : List Int) (A : Option Addr) (n c : Nat) (W : World) : Prop where
  st : ∃ v', Tab W s v' ws L R ∧ Mv s v w v' W
  box : Row W w.heap.size 34 [.pointer (some ⟨s.x, 0, none⟩)]
  sl : Row W (w.heap.size + 1) 44 [.slice A n c]
theorem Giv.step {A : Option Addr} {n c B : Nat} {W W' : World} {row : Option Nat} (h : Giv w s v ws L R A n c W) (hm : s.m < B) (hB : w.heap.size ≤ B) (hg : W.grownBy W' row) (hr : ∀ r, row = some r → B ≤ r ∧ ∃ o : Obj, W.heap[r]? = some o ∧ o.isCells = false) : Giv w s v ws L R A n c W' := by
  obtain ⟨v', hT, hM⟩ := h.st
  have hrow : ∀ {g : Nat} {t : TypeId} {c : List Value}, Row W g t c → some g ≠ row := fun hc e => by
    obtain ⟨-, o, ho, hno⟩ := hr _ e.symm
    unfold Row at hc
    rw [hc] at ho
    injection ho with ho
    rw [← ho] at hno
    cases hno
  exact ⟨⟨v', hT.step hm hg hr, hM.step hB hg hr⟩, h.box.grown hg (hrow h.box), h.sl.grown hg (hrow h.sl)⟩
set_option maxRecDepth 100000 in
set_option maxHeartbeats 4000000 in
theorem give_any (h : Tab w s v ws L R) {A : Option Addr} {n : Nat} (c : Nat) {l : List Int} (hl : Loc w s v A n l) (hLl : L.length + l.length ≤ 2000) :
    Calls Try.prog 33 #[.pointer (some ⟨s.x, 0, none⟩), .slice A n c] w fun e w' => e = .returned (.tuple #[]) ∧ ∃ v', Tab w' s v' ws (L ++ l.reverse) R ∧ Mv s v w v' w' := by
  have hn := hl.ints.len
  subst hn
  have hsm := h.set.lt
  obtain ⟨W0, hW0⟩ : ∃ W0, W0 = (w.alloc (.cells #[.pointer (some ⟨s.x, 0, none⟩)] 34)).alloc (.cells #[.slice A l.length c] 44) := ⟨_, rfl⟩
  have hsz : W0.heap.size = w.heap.size + 2 := by rw [hW0]; simp
  have B0 : Below w.heap.size w W0 := by rw [hW0]; exact ((Below.refl _ _).alloc (Nat.le_refl _) _).alloc (by simp) _
  have hbox : Row W0 w.heap.size 34 [.pointer (some ⟨s.x, 0, none⟩)] := by rw [hW0]; exact (Row.new w _ [.pointer (some ⟨s.x, 0, none⟩)]).alloc _
  have hsl : Row W0 (w.heap.size + 1) 44 [.slice A l.length c] := by
    have := Row.new (w.alloc (.cells #[.pointer (some ⟨s.x, 0, none⟩)] 34)) 44 [.slice A l.length c]
    rw [hW0]; simpa using this
  have hT0 := h.call B0
  have hG0 : Giv w s v ws L R A l.length c W0 := ⟨⟨v, hT0, Mv.of_below B0⟩, hbox, hsl⟩
  obtain ⟨g, hg, hgl, hA⟩ : ∃ g, (0 < l.length → g < w.heap.size ∧ ¬ Mine s v g) ∧ g < W0.heap.size ∧ (0 < l.length → ∃ a, A = some a ∧ a.block = g ∧ g < W0.heap.size ∧ ∀ j, j < l.length → W0.cell? (a.add j) = some (.int .i64 (l.getD j 0))) := by
    by_cases h0 : 0 < l.length
    · obtain ⟨a, rfl, hab, hc⟩ := hl.ints.at_ h0
      refine ⟨a.block, fun _ => ⟨hab, hl.off h0 a rfl⟩, by omega, fun _ => ⟨a, rfl, rfl, by omega, fun j hj => ?_⟩⟩
      rw [← hc j hj]
      have : (a.add j).block = a.block := by unfold Addr.add; split <;> rfl
      exact B0.cell (by rw [this]; exact hab)
    · exact ⟨w.heap.size, fun k => absurd k h0, by omega, fun k => absurd k h0⟩
  have hst := back_stops Fence.wide 2 trivial rfl (by omega) (w.heap.size + 1) g A c l (by omega) W0 (by omega) (hsl.cell 0) hA
  have HLL := Lib.hid hLl
  have HW := Lib.hid hW0
  have HA := Lib.hid hA
  have HG := Lib.hid hg
  clear hl h hA hT0 hbox hsl hLl hg
  refine (callsIn_wide (n := 3)).1 ?_
  refine callsIn_of_wp_marks Try.func33 rfl trivial ?_ rfl
  simp only [Try.ntmps33, List.size_toArray, List.length_cons, List.length_nil, Nat.reduceAdd, Nat.reduceSub, Array.replicate_succ, Array.replicate_zero, List.push_toArray, List.append_toArray, List.nil_append, List.cons_append]
  gi_wp2_with (refine ⟨trivial, ?_⟩; gi_at_call 55; refine (backward_in Fence.wide 2 trivial rfl _ _ _ _).mono ?_; rintro e w' ⟨rfl, rfl⟩)
  rw [← hW0]
  refine wpIn_rangeFunc_ownG (F := Fence.wide) rfl (by omega) (gf := 75) (lb := #[.pointer (some ⟨w.heap.size + 1, 0, none⟩)]) rfl trivial (enters_of Try.func75 (by kernel_rfl) rfl)
    hst (fun h k => h.trans k) (KpC.put hgl (by omega)) (Below.refl _ _) (fun _ => rfl)
    (fun pre W => Giv w s v ws (L ++ pre.map (·.2)) R A l.length c W) (fun _ _ _ => False)
    (fun pre W W' row hs hg hr => hs.step (by omega) (by omega) hg hr) (fun _ _ _ _ _ hs _ _ => hs) (by simpa using hG0)
    (fun x => { tmps := #[.pointer (some ⟨s.x, 0, none⟩), .slice A l.length c, .pointer (some ⟨w.heap.size, 0, none⟩), undef, undef, .int .i64 x.2, .slice A l.length c, .func (.func 75) #[] #[.pointer (some ⟨w.heap.size + 1, 0, none⟩)], .int .i64 x.1, .int .i64 x.2, undef, undef, undef, undef, undef, undef], defers := [] }) ?assign ?body ?done ?stop
  case assign =>
    intro q x W K hK
    gi_wp2
    exact hK
  case body =>
    rintro q pre x W hI hlt
    obtain ⟨⟨v', hT, hM⟩, hb, hs⟩ := hI
    have c0 : W.cell? ⟨w.heap.size, 0, none⟩ = some (.pointer (some ⟨s.x, 0, none⟩)) := hb.cell 0
    obtain ⟨-, c1, -⟩ := hT.cells
    unfold bagV at c1
    have hmp := fun k => meth_put k W ⟨s.y, 0, none⟩
    have hput := tabPut (f := x.2) hT (by have := HLL.out; simp at hlt ⊢; omega)
    gi_wp2_with (refine ⟨trivial, ?_⟩; gi_at_call 115; refine (CallsIn.inRound q (callsIn_wide.2 hput)).mono ?_; rintro e W1 ⟨rfl, v1, hT1, hM1, hcl⟩)
    have hg := HG.out (by omega)
    refine ⟨⟨hM1.size, fun k o _ hk ho => hcl k o hk ho⟩, ⟨hM1.size, fun k hk hl => hM1.foot.keep k hl ?_⟩, ⟨v1, ?_, hM.trans hM1⟩, hT.row hM1 hb (by decide) (by decide) (by decide), hT.row hM1 hs (by decide) (by decide) (by decide)⟩
    · rcases hk with rfl | rfl
      · exact fun e => hg.2 (hM.back hg.1 e)
      · exact hT.apart hs (by decide) (by decide) (by decide)
    · rw [List.map_append, ← List.append_assoc]; exact hT1
  case done =>
    rintro D ys W hD rfl hI hK
    gi_wp2
    refine ⟨by simp, .inl ⟨_, _, rfl, run_takeDeferred hK, ?_⟩⟩
    have hI2 := hI.step (B := W0.heap.size) (by omega) (by omega) (grownBy_putObj' W D (.deferred none)) (fun r e => by injection e with e; subst e; exact ⟨hD, _, hK, rfl⟩)
    obtain ⟨⟨v1, hT1, hM1⟩, -, -⟩ := hI2
    rw [bkUp_all] at hT1
    exact ⟨_, results_none rfl _ _ _, rfl, v1, hT1, hM1⟩
  case stop =>
    rintro D c pre W _ _ h _
    exact h.elim
end
end Go.Proofs.Ytnlimecbbockoaa
