/- Tables that are made: New; a root that is made: Root. -/
import Derived.Test.YtnlimecbbockoaaMg30
namespace Go.Proofs.Ytnlimecbbockoaa
open Go.RowKit
theorem tnew_nil (v : Value) (w : World) : Calls Try.prog 20 #[.pointer none, v] w fun e w' => e = .returned (.tuple #[.pointer none, .int .i64 1]) ∧ w = w' := by
  go_enter Try.func20, Try.ntmps20
  go_wp2
  go_ret2
  exact ⟨rfl, rfl⟩
set_option maxHeartbeats 800000 in
theorem tnew_any (s : Seat) (w : World) (hm : s.m = w.heap.size) (hx : s.x = w.heap.size + 1) : Calls Try.prog 20 #[.pointer (some ⟨s.a, 0, none⟩), bagV s] w fun e w' => e = .returned (.tuple #[.pointer (some ⟨s.x, 0, none⟩), .int .i64 0]) ∧
    Row w' s.x 91 [.pointer (some ⟨s.a, 0, none⟩), bagV s, .map (some s.m)] ∧ SetIs w' s.m [] ∧ Below w.heap.size w w' ∧ w'.heap.size = w.heap.size + 2 := by
  have hmm := @run_makeMap Try.prog
  unfold bagV
  go_enter Try.func20, Try.ntmps20
  go_wp2
  go_ret2
  have h1 := SetIs.new w
  have h2 := Row.new (w.alloc (.map #[] 0)) 91 [.pointer (some ⟨s.a, 0, none⟩), .iface 36 (.pointer (some ⟨s.y, 0, none⟩)), .map (some w.heap.size)]
  refine ⟨by show Ending.returned (.tuple #[.pointer (some ⟨w.heap.size + 1, 0, none⟩), .int .i64 0]) = _; rw [hx], ?_, ?_, ((Below.refl _ _).alloc (Nat.le_refl _) _).alloc (by simp) _, by simp⟩
  · rw [hx, hm]; simpa using h2
  · rw [hm]; exact h1.heap (Below.heap_alloc _ _ _ h1.lt)
section
variable {w : World} {s : Seat} {v : Value} {ws L R : List Int}
theorem root_nil (w : World) : Calls Try.prog 21 #[.pointer none] w fun e w' => e = .returned (.tuple #[.int .i64 0, .int .i64 1]) ∧ w = w' := by
  go_enter Try.func21, Try.ntmps21
  go_wp2
  go_ret2
  exact ⟨rfl, rfl⟩
theorem tk_one (L : List Int) (f : Int) : tk (L ++ [f]) 1 = [f] := by simp [tk]
theorem Tab.setTurned {w' : World} {R' : List Int} (h : Tab w s v ws L R) (h' : SetIs w' s.m R') (g : w.grownBy w' (some s.m)) : Tab w' s v ws L R' := by
  have hne : ∀ {b : Nat} {t : TypeId} {c : List Value}, Row w b t c → some b ≠ some s.m := fun r e => by injection e with e; exact h.set.apart r e
  refine ⟨h.ram.grown g (hne h.ram.top) (hne h.ram.row), ⟨h.bag.top.grown g (hne h.bag.top), ?_, h.bag.len⟩, h.top.grown g (hne h.top), h', h.yC, Nat.le_trans h.Cw g.size⟩
  refine own_keep h.bag.row fun b hb => ?_
  obtain ⟨-, hl, cur, hc⟩ := h.own hb
  exact g.block b hl (fun e => by injection e with e; exact h.set.apart hc e)
set_option maxRecDepth 100000 in
set_option maxHeartbeats 800000 in
theorem root_any {f : Int} (h : Tab w s v ws (L ++ [f]) R) (hf : ∀ x ∈ L ++ [f], 0 ≤ x ∧ x < 512) (hL : L.length < 1000) (hR : f ∉ R) (hRl : R.length < 1000) : Calls Try.prog 21 #[.pointer (some ⟨s.x, 0, none⟩)] w fun e w' =>
    e = .returned (.tuple #[.int .i64 f, .int .i64 0]) ∧ ∃ v', Tab w' s v' (zeL ws f 1) L (f :: R) ∧ Mv s v w v' w' := by
  have hget := get_any h hf (by simp; omega) 1 (by omega)
  have hff : Fits f := by have := hf f (by simp); unfold Fits; omega
  clear h hf
  go_enter Try.func21, Try.ntmps21
  go_wp2_with fail
  refine hget.mono ?_
  rintro e w1 (⟨hn, -⟩ | ⟨-, v', A, c, rfl, hT, hM, hl⟩)
  · simp at hn
  · rw [tk_one] at hT hl
    simp only [List.length_append, List.length_singleton, Nat.add_sub_cancel, List.take_left'] at hT
    have hT' : Tab w1 s v' (zeL ws f 1) L R := hT
    obtain ⟨a, rfl, hab, hc⟩ := hl.cell (j := 0) (by omega)
    have hc' : w1.cell? a = some (.int .i64 f) := by simpa [Addr.add] using hc
    obtain ⟨-, -, x2⟩ := hT'.cells
    have hset : SetIs w1.drew s.m R := hT'.set
    obtain ⟨w4, hr4, g4, s4⟩ := hset.put (by omega) hff hR
    have hab' : s.m ≠ a.block := fun e => hl.off (by omega) a rfl (Or.inr (Or.inr (Or.inl e.symm)))
    have hc4 : w4.cell? a = some (.int .i64 f) := by
      rw [← hc']
      exact World.cell?_of_block (g4.block a.block hab (fun e => by injection e with e; exact hab' e.symm))
    have HT := Lib.hid hT'
    have HM := Lib.hid hM
    have HG4 := Lib.hid g4
    have HS4 := Lib.hid s4
    clear hT hT' hM hl hc g4 s4 hget hset
    go_wp2_with fail
    go_still_tail 8, (by kernel_rfl)
    change wpList _ _ _ _ _ w1.drew
    go_wp2_with fail
    go_ret2
    have G4 : w1.grownBy w4 (some s.m) := ⟨HG4.out.os, HG4.out.tape, HG4.out.output, HG4.out.size, HG4.out.block⟩
    exact ⟨rfl, v', HT.out.setTurned HS4.out G4, HM.out.trans (Mv.turned G4 (Or.inr (Or.inr (Or.inl rfl))))⟩
end
end Go.Proofs.Ytnlimecbbockoaa
