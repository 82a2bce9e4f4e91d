/- Leaves that are mapped, as the reference of package table lists them: plain facts, and how they lie in memory. -/
import Derived.Test.YtnlimecbbockoaaMg15
import Derived.Test.YtnlimecbbockoaaMg13
import Derived.Test.YtnlimecbbockoaaMg01
import Derived.Test.YtnlimecbbockoaaProg
import Derived.Test.YtnlimecbbockoaaMg02
import Derived.Maps.AppendAt
import Derived.Deep.AppendLies
import Derived.OwnWalk
import Derived.Deep.OwnRows
namespace Go.Proofs.Ytnlimecbbockoaa
open Go.RowKit
/-- A leaf that is mapped. -/
structure Mp where
  g : Int
  o : Int
  f : Int
  p : Bool
  w : Bool
  h : Bool
  k : Bool
  u : Bool
  d : Bool
def szO (o : Int) : Int := if o = 3 then 8 else if o = 6 then 64 else 1
/-- What every one of them keeps to. -/
structure MOk (m : Mp) : Prop where
  g0 : 0 ≤ m.g
  g1 : m.g ≤ 4095
  o : m.o = 0 ∨ m.o = 3 ∨ m.o = 6
  even : m.g % szO m.o = 0
  f0 : 0 ≤ m.f
  f1 : m.f + szO m.o ≤ 512
theorem szO_pos (o : Int) : 1 ≤ szO o ∧ szO o ≤ 64 := by unfold szO; split <;> (try split) <;> omega
def mcell (m : Mp) : List Value := [.int .i64 m.g, .int .i64 m.o, .int .i64 m.f, .bool m.p, .bool m.w, .bool m.h, .bool m.k, .bool m.u, .bool m.d]
def mcells : List Mp → List Value
  | [] => []
  | m :: r => mcell m ++ mcells r
theorem mcells_length (L : List Mp) : (mcells L).length = L.length * 9 := by
  induction L with
  | nil => rfl
  | cons m r ih => simp only [mcells, List.length_append, ih, List.length_cons, mcell, List.length_nil]; omega
theorem mcells_append (L M : List Mp) : mcells (L ++ M) = mcells L ++ mcells M := by
  induction L with
  | nil => rfl
  | cons m r ih => simp only [mcells, List.cons_append, ih, List.append_assoc]
theorem mcells_snoc (L : List Mp) (m : Mp) : mcells (L ++ [m]) = mcells L ++ mcell m := by rw [mcells_append]; simp [mcells]
theorem mcell_one (m : Mp) : ∀ u ∈ mcell m, u.oneCell' = true := by
  intro u hu; simp [mcell] at hu; rcases hu with rfl | rfl | rfl | rfl | rfl | rfl | rfl | rfl | rfl <;> rfl
theorem mcells_one (L : List Mp) : ∀ u ∈ mcells L, u.oneCell' = true := by
  induction L with
  | nil => intro u hu; cases hu
  | cons m r ih =>
    intro u hu
    simp only [mcells, List.mem_append] at hu
    rcases hu with hu | hu
    · exact mcell_one m u hu
    · exact ih u hu
theorem mcells_at : ∀ (L : List Mp) (j : Nat) (hj : j < L.length) (i : Nat), i < 9 → (mcells L)[j * 9 + i]? = (mcell L[j])[i]?
  | [], _, hj, _, _ => absurd hj (Nat.not_lt_zero _)
  | m :: r, 0, _, i, hi => by
    simp only [mcells, Nat.zero_mul, Nat.zero_add]
    rw [List.getElem?_append_left (by simp [mcell]; omega)]; rfl
  | m :: r, j + 1, hj, i, hi => by
    simp only [mcells]
    rw [List.getElem?_append_right (by simp [mcell]; omega), show (j + 1) * 9 + i - (mcell m).length = j * 9 + i by simp [mcell]; omega]
    have := mcells_at r j (by simpa using hj) i hi
    simpa using this
/-- One of them as it lies from an address on. -/
structure MpAt (w : World) (p : Addr) (m : Mp) : Prop where
  c0 : w.cell? p = some (.int .i64 m.g)
  c1 : w.cell? ⟨p.block, p.off + 1, none⟩ = some (.int .i64 m.o)
  c2 : w.cell? ⟨p.block, p.off + 2, none⟩ = some (.int .i64 m.f)
  c3 : w.cell? ⟨p.block, p.off + 3, none⟩ = some (.bool m.p)
  c4 : w.cell? ⟨p.block, p.off + 4, none⟩ = some (.bool m.w)
  c5 : w.cell? ⟨p.block, p.off + 5, none⟩ = some (.bool m.h)
  c6 : w.cell? ⟨p.block, p.off + 6, none⟩ = some (.bool m.k)
  c7 : w.cell? ⟨p.block, p.off + 7, none⟩ = some (.bool m.u)
  c8 : w.cell? ⟨p.block, p.off + 8, none⟩ = some (.bool m.d)
theorem add_offs (g j : Nat) (h : 0 < j) : (⟨g, 0, none⟩ : Addr).add j = ⟨g, j, none⟩ := by unfold Addr.add; rw [if_neg (by omega)]; simp
/-- A list of them in a row of the call's own. -/
def Ms (w : World) (C : Nat) (v : Value) (L : List Mp) : Prop := w.ownsRow C 95 9 v L.length (mcells L)
theorem info_mapped : (Try.prog.info? 95).map (fun i => (i.zero, i.size, i.bytes)) = some (some (.agg #[.int .i64 0, .int .i64 0, .int .i64 0, .bool false, .bool false, .bool false, .bool false, .bool false, .bool false]), 9, 32) := by kernel_rfl
section
variable {w w' : World} {C : Nat} {v : Value} {L : List Mp}
theorem Ms.nil (w : World) (C : Nat) : Ms w C (.slice none 0 0) [] := World.ownsRow_nil _ _ _ _
theorem Ms.form (h : Ms w C v L) : ∃ A c, v = .slice A L.length c := own_form h
theorem Ms.call (h : Ms w C v L) (hb : Below w.heap.size w w') : Ms w' C v L := own_call h hb
theorem Ms.base {D : Nat} (h : Ms w C v L) (hD : D ≤ C) : Ms w D v L := ⟨h.1, by
  rcases h.2 with hn | ⟨g, cap, cur, e, hb, r⟩
  · exact Or.inl hn
  · exact Or.inr ⟨g, cap, cur, e, Nat.le_trans hD hb, r⟩⟩
theorem Ms.at_ {A : Option Addr} {c : Nat} (h : Ms w C (.slice A L.length c) L) (j : Nat) (hj : j < L.length) : ∃ a, A = some a ∧ a.block < w.heap.size ∧ C ≤ a.block ∧ MpAt w (a.add (j * 9)) L[j] := by
  obtain ⟨g, rfl⟩ : ∃ g, A = some ⟨g, 0, none⟩ := by
    rcases h.2 with ⟨_, h2⟩ | ⟨g, cap, cur, h1, _⟩
    · omega
    · injection h1 with h1; exact ⟨g, h1⟩
  have hlt := h.lt g rfl
  have k : ∀ i, i < 9 → w.cell? ⟨g, j * 9 + i, none⟩ = (mcell L[j])[i]? := fun i hi => by
    rw [← mcells_at L j hj i hi, ← h.cellAt (j * 9 + i) (by omega)]
  refine ⟨_, rfl, hlt.2, hlt.1, ?_⟩
  by_cases h0 : j = 0
  · subst h0
    exact ⟨k 0 (by omega), k 1 (by omega), k 2 (by omega), k 3 (by omega), k 4 (by omega), k 5 (by omega), k 6 (by omega), k 7 (by omega), k 8 (by omega)⟩
  · rw [add_offs g (j * 9) (by omega)]
    exact ⟨k 0 (by omega), k 1 (by omega), k 2 (by omega), k 3 (by omega), k 4 (by omega), k 5 (by omega), k 6 (by omega), k 7 (by omega), k 8 (by omega)⟩
/-- One more behind them. -/
theorem Ms.app (h : Ms w C v L) (hC : C ≤ w.heap.size) (hL : L.length ≤ 100000) (m : Mp) : ∃ A c w3,
    (Builtin.append_ #[53, 53] 53 #[v, .slice (some ⟨w.heap.size, 0, none⟩) 1 1]).run Try.prog (w.alloc (.cells (mcell m).toArray 95)) = .ok (.slice A (L.length + 1) c) w3 ∧
    Ms w3 C (.slice A (L.length + 1) c) (L ++ [m]) ∧ w.grownBy w3 v.ownBlock := by
  obtain ⟨i0, hi0, hz0, hz1, hz2⟩ := info_parts info_mapped
  have ho : (w.alloc (.cells (mcell m).toArray 95)).ownsRow C _ 9 v L.length (mcells L) := World.ownsRow.alloc h (.cells (mcell m).toArray 95)
  have hnew : ∀ (i : Nat) (u : Value), (mcell m)[i]? = some u → (w.alloc (.cells (mcell m).toArray 95)).cell? ((⟨w.heap.size, 0, none⟩ : Addr).add i) = some u := fun i u hu => by
    rw [add_zero_off, (Row.new w _ (mcell m)).cell]; exact hu
  obtain ⟨v1, W1, r1, o1, g1, -, t1⟩ := run_append_own_at (P := Try.prog) (w := w.alloc (.cells (mcell m).toArray 95)) C 53 53 95 i0 _ 9 32 Try.underlying53 hi0 hz0 hz1 hz2 rfl (by decide) v L.length _ ho ⟨w.heap.size, 0, none⟩ 1 1 (mcell m) rfl hnew (mcell_one m) (by unfold maxLen; omega) (by omega) (by simp; omega)
  obtain ⟨A, c, hv⟩ := own_form o1
  subst hv
  refine ⟨A, c, W1, r1, ?_, ?_⟩
  · unfold Ms
    rw [List.length_append, mcells_snoc]
    exact o1
  · have : w.grownBy (w.alloc (.cells (mcell m).toArray 95)) v.ownBlock := ⟨rfl, rfl, rfl, by simp, fun i hi _ => Below.heap_alloc w _ i hi⟩
    exact this.trans g1
end
end Go.Proofs.Ytnlimecbbockoaa
