/- Reservations: both sides over one state; what a call of both makes. -/
import Derived.Test.YtfalmjibpkkjaaaL0
import Derived.Test.YtfalmjibpkkjaaaA9
import Derived.Test.YtfalmjibpkkjaaaC6
import Derived.Test.YtfalmjibpkkjaaaB6
namespace Go.Proofs.Ytfalmjibpkkjaaa
open Go.RowKit
/-- What a call of both makes of the reservations. -/
def doS (S : Rs) (l : Ac) : Rs := if l.k = 0 ∨ l.k = 1 then mkS S l.s l.p l.f else if l.k = 2 ∨ l.k = 3 ∨ l.k = 4 then fiS S l.s l.p else if l.k = 5 then clS S l.s l.p else brS S l.s l.p
def mdS (M : List Ac) : Rs := M.foldl doS ⟨[], 0⟩
theorem mdS_next (M : List Ac) {j : Nat} (hj : j < M.length) : mdS (M.take (j + 1)) = doS (mdS (M.take j)) M[j] := by
  unfold mdS
  rw [List.take_add_one, List.getElem?_eq_getElem hj, List.foldl_append]
  rfl
theorem Bnd.do_ {S : Rs} {n : Nat} (h : Bnd n S) {l : Ac} (hl : IsAc l) : Bnd (n + 1) (doS S l) := by
  unfold doS
  split
  · exact h.make _ _ _ hl.s.2
  · split
    · exact h.fill _ _
    · split
      · exact h.clear _ _
      · exact (h.brk _ _).mono (Nat.le_succ _)
/-- Both sides over one state, apart. -/
def St (B : Nat) (w : World) (s xa : Nat) (S : Rs) : Prop := ∃ T v K, T.s = s ∧ ObAt B w T S ∧ Rx B w xa v K S ∧ ∀ k, MineO T S.L k → ¬ MineX xa v K k
section
variable {w w' : World} {B s xa : Nat} {T : ObT} {S S' : Rs} {v : Value} {K : List Rw}
theorem ObAt.down (h : ObAt B w T S) (d : DidM B w T S S' w') : Below B w w' := by
  obtain ⟨_, _, _, f, _⟩ := d
  exact f.below h.lw fun k hk => h.low k hk
theorem St.call (h : St B w s xa S) (hb : Below w.heap.size w w') : St B w' s xa S := by
  obtain ⟨T, v, K, h0, h1, h2, h3⟩ := h
  exact ⟨T, v, K, h0, h1.call hb, h2.call hb, h3⟩
theorem St.lw (h : St B w s xa S) : B ≤ w.heap.size := by obtain ⟨T, v, K, h0, h1, _⟩ := h; exact h1.lw
/-- The program has made its call. -/
theorem half (h1 : ObAt B w T S) (h2 : Rx B w xa v K S) (h3 : ∀ k, MineO T S.L k → ¬ MineX xa v K k) (d : DidM B w T S S' w') :
    ∃ T', T'.s = T.s ∧ ObAt B w' T' S' ∧ Rx B w' xa v K S ∧ (∀ k, MineO T' S'.L k → ¬ MineX xa v K k) ∧ Below B w w' := by
  have hb := h1.down d
  obtain ⟨T', d0, d1, d2, d3⟩ := d
  refine ⟨T', d0, d1, h2.keep d2.size fun k hk hl => d2.keep k hl fun e => h3 k e hk, fun k e hk => ?_, hb⟩
  rcases d3 k e with e | e
  · exact h3 k e hk
  · have := (h2.mine k hk).2; omega
/-- The reference has made its call. -/
theorem whole (h1 : ObAt B w T S') (h2 : Rx B w xa v K S) (h3 : ∀ k, MineO T S'.L k → ¬ MineX xa v K k) (d : DidR B w xa v K S' w') : St B w' T.s xa S' ∧ Below B w w' := by
  obtain ⟨a, b, d1, d2, d3⟩ := d
  refine ⟨⟨T, a, b, rfl, h1.keep fun k hk => d2.keep k (h1.lt k hk) (h3 k hk), d1, fun k e hk => ?_⟩, d2.below h2.lw fun k hk => (h2.mine k hk).1⟩
  rcases d3 k hk with c | c
  · exact h3 k e c
  · have := h1.lt k e; omega
/-- A told list stays behind a call of the reference. -/
theorem own_ref {D : Nat} {u : Value} {R : List Int} (ho : EI.Own D w u R) (hD : ∀ k, MineX xa v K k → k < D) (d : DidR B w xa v K S w') : EI.Own D w' u R := by
  obtain ⟨a, b, d1, d2, d3⟩ := d
  refine ho.heap fun g e => ?_
  obtain ⟨vs, r, hlo⟩ := ho.block e
  exact d2.keep g r.lt fun hk => by have := hD g hk; omega
theorem brV_len (S : Rs) (s p : Int) : (brV S s p).length ≤ 8 := by
  unfold brV
  split
  · exact Nat.zero_le _
  · exact opN_len _ _
end
end Go.Proofs.Ytfalmjibpkkjaaa
