/- Package table: what TableKeeps' calls tell, told for its cases. -/
import Derived.Test.YtpcpcgbejinlmaaMk51
namespace Go.Proofs.Ytpcpcgbejinlmaa
open Go.RowKit
def LeafIs (r : Fd) (o : Int) (f : Int) (b0 b1 b7 b9 b5 b6 : Bool) (vv fr er : Int) : Prop :=
  lfF r = f ∧ lfB r 0 = b0 ∧ lfB r 1 = b1 ∧ lfB r 7 = b7 ∧ lfB r 9 = b9 ∧ lfB r 5 = b5 ∧ lfB r 6 = b6 ∧ lfV r = vv ∧ lfP r o = fr ∧ r.er = er
theorem leaf_is (r : Fd) (o : Int) : ∃ f b0 b1 b7 b9 b5 b6 vv fr er, LeafIs r o f b0 b1 b7 b9 b5 b6 vv fr er := ⟨_, _, _, _, _, _, _, _, _, _, rfl, rfl, rfl, rfl, rfl, rfl, rfl, rfl, rfl, rfl⟩
section
variable {w W W' : World} {k : Lk} {v : Value} {ws L ws2 : List Int} {v0 : Value} {L0 : List Mp} {v1 : Value} {L1 : List Mp} {lf : Int} {K : Nat} {f : Int} {b0 b1 b7 b9 b5 b6 : Bool} {vv fr er o p : Int}
theorem walk_is (h : Lw w W k v ws L v0 L0 v1 L1 lf K) (hl : LeafIs (fol ws k.r0 o) o f b0 b1 b7 b9 b5 b6 vv fr er) : Calls Try.prog 9 #[.pointer (some ⟨k.s.a, 0, none⟩), .int .i64 k.r0, .int .i64 o] W fun e W' => e = .returned (.tuple #[.agg #[.int .i64 f, .bool b0, .bool b1, .bool b7, .bool b9, .bool b5, .bool b6, .int .i64 vv, .int .i64 fr], .int .i64 er]) ∧ Below W.heap.size W W' := by
  have := lw_walk h o
  obtain ⟨rfl, rfl, rfl, rfl, rfl, rfl, rfl, rfl, rfl, rfl⟩ := hl
  exact this
theorem split_no (h : Lw w W k v ws L v0 L0 v1 L1 lf K) (hk : Nice k) (p : Int) {c : Int} (hc : c = spE ws L [k.r1, k.r0] k.r0 p) (hz : c ≠ 0) : Calls Try.prog 10 #[.pointer (some ⟨k.s.x, 0, none⟩), .int .i64 k.r0, .int .i64 p] W fun e W' => e = .returned (.int .i64 c) ∧ ∃ v' L', Lw w W' k v' ws L' v0 L0 v1 L1 lf K ∧ Mv k.s v W v' W' := by
  have := lw_split_is h hk p
  unfold spX at this
  rw [← hc, if_neg hz] at this
  exact this
theorem split_ok (h : Lw w W k v ws L v0 L0 v1 L1 lf K) (hk : Nice k) (p : Int) (hz : spE ws L [k.r1, k.r0] k.r0 p = 0) (h2 : ws2 = spW ws L k.r0 p) : Calls Try.prog 10 #[.pointer (some ⟨k.s.x, 0, none⟩), .int .i64 k.r0, .int .i64 p] W fun e W' => e = .returned (.int .i64 0) ∧ ∃ v' L', Lw w W' k v' ws2 L' v0 L0 v1 L1 lf K ∧ Mv k.s v W v' W' := by
  have := lw_split_is h hk p
  unfold spX at this
  rw [hz, if_pos rfl, ← h2] at this
  exact this
theorem merge_no (h : Lw w W k v ws L v0 L0 v1 L1 lf K) (hk : Nice k) (p : Int) (hp : Fits p) (hz : meE ws [k.r1, k.r0] k.r0 p = 6) : Calls Try.prog 11 #[.pointer (some ⟨k.s.x, 0, none⟩), .int .i64 k.r0, .int .i64 p] W fun e W' => e = .returned (.int .i64 6) ∧ ∃ v' L', Lw w W' k v' ws L' v0 L0 v1 L1 lf K ∧ Mv k.s v W v' W' := by
  have := lw_merge_is h hk p hp
  unfold meX at this
  rw [hz, if_neg (by decide)] at this
  exact this
theorem merge_ok (h : Lw w W k v ws L v0 L0 v1 L1 lf K) (hk : Nice k) (p : Int) (hp : Fits p) (hz : meE ws [k.r1, k.r0] k.r0 p = 0) (h2 : ws2 = meW ws k.r0 p) : Calls Try.prog 11 #[.pointer (some ⟨k.s.x, 0, none⟩), .int .i64 k.r0, .int .i64 p] W fun e W' => e = .returned (.int .i64 0) ∧ ∃ v' L', Lw w W' k v' ws2 L' v0 L0 v1 L1 lf K ∧ Mv k.s v W v' W' := by
  have := lw_merge_is h hk p hp
  unfold meX at this
  rw [hz, if_pos rfl, ← h2] at this
  exact this
theorem leaf_like {r0 r1 : Fd} (hl : LeafIs r0 o f b0 b1 b7 b9 b5 b6 vv fr er) (h : Like r0 r1 o) : ∃ f' b7' b5' b6' vv', LeafIs r1 o f' b0 b1 b7' b9 b5' b6' vv' fr er := by
  obtain ⟨rfl, rfl, rfl, rfl, rfl, rfl, rfl, rfl, rfl, rfl⟩ := hl
  exact ⟨_, _, _, _, _, rfl, h.b0, h.b1, rfl, h.b9, rfl, rfl, rfl, h.pl, h.er⟩
theorem leaf_same {r0 r1 : Fd} (hl : LeafIs r0 o f b0 b1 b7 b9 b5 b6 vv fr er) (h : leafE r1 o = leafE r0 o) (he : r1.er = r0.er) : LeafIs r1 o f b0 b1 b7 b9 b5 b6 vv fr er := by
  obtain ⟨rfl, rfl, rfl, rfl, rfl, rfl, rfl, rfl, rfl, rfl⟩ := hl
  unfold leafE at h
  injection h with h
  simp only [Array.mk.injEq, List.cons.injEq, Value.int.injEq, Value.bool.injEq, and_true, true_and] at h
  obtain ⟨h1, h2, h3, h4, h5, h6, h7, h8, h9⟩ := h
  exact ⟨h1, h2, h3, h4, h5, h6, h7, h8, h9, he⟩
theorem keeps_is (h : Lw w W k v ws L v0 L0 v1 L1 lf K) (hl : LeafIs (fol ws k.r0 o) o f b0 b1 b7 b9 b5 b6 vv fr er) (hz : spE ws L [k.r1, k.r0] k.r0 p = 0) :
    ∃ f' b7' b5' b6' vv', LeafIs (fol (spW ws L k.r0 p) k.r0 o) o f' b0 b1 b7' b9 b5' b6' vv' fr er ∧
      (meE (spW ws L k.r0 p) [k.r1, k.r0] k.r0 p = 6 ∨ (meE (spW ws L k.r0 p) [k.r1, k.r0] k.r0 p = 0 ∧ LeafIs (fol (meW (spW ws L k.r0 p) k.r0 p) k.r0 o) o f b0 b1 b7 b9 b5 b6 vv fr er)) := by
  obtain ⟨hlk, hm⟩ := keeps_all h.inv (rt_mem k false) hz o
  obtain ⟨f', b7', b5', b6', vv', hl'⟩ := leaf_like hl hlk
  exact ⟨f', b7', b5', b6', vv', hl', hm.imp id fun ⟨e1, e2, e3⟩ => ⟨e1, leaf_same hl e2 e3⟩⟩
end
end Go.Proofs.Ytpcpcgbejinlmaa
