/- The greedy cut of a stretch, and that it is the cut from the middle. -/
import Derived.Test.YtpcpcgbejinlmaaMk01
namespace Go.Proofs.Ytpcpcgbejinlmaa
def gk (a n o : Nat) : Nat := if 6 ≤ o ∧ a % 64 = 0 ∧ 64 ≤ n then 6 else if 3 ≤ o ∧ a % 8 = 0 ∧ 8 ≤ n then 3 else 0
def grF : Nat → Nat → Nat → Nat → List (Nat × Nat)
  | 0, _, _, _ => []
  | f + 1, a, n, o => if n = 0 then [] else (a, gk a n o) :: grF f (a + 2 ^ gk a n o) (n - 2 ^ gk a n o) o
def gr (a n o : Nat) : List (Nat × Nat) := grF n a n o
end Go.Proofs.Ytpcpcgbejinlmaa
/- Lists of numbers and of blocks as they lie in memory. -/
namespace Go.Proofs.Ytpcpcgbejinlmaa
open Go.RowKit
theorem add_block (a : Addr) (n : Nat) : (a.add n).block = a.block := by unfold Addr.add; split <;> rfl
theorem add_zero_off (g j : Nat) : (⟨g, 0, none⟩ : Addr).add j = ⟨g, j, none⟩ := by unfold Addr.add; split <;> simp_all
theorem getD_of {α : Type} (l : List α) (d : α) (j : Nat) (h : j < l.length) : l[j]? = some (l.getD j d) := by
  rw [List.getD_eq_getElem?_getD, List.getElem?_eq_getElem h]; rfl
structure IntsAt (w : World) (B : Nat) (A : Option Addr) (n : Nat) (l : List Int) : Prop where
  len : l.length = n
  at_ : 0 < n → ∃ a, A = some a ∧ a.block < B ∧ ∀ j, j < n → w.cell? (a.add j) = some (.int .i64 (l.getD j 0))
section
variable {w w' : World} {B B' n : Nat} {A : Option Addr} {l : List Int}
theorem IntsAt.nil (w : World) (B : Nat) (A : Option Addr) : IntsAt w B A 0 [] := ⟨rfl, fun h => absurd h (by omega)⟩
theorem IntsAt.keep (h : IntsAt w B A n l) (hB : B ≤ B') (hk : ∀ p : Addr, p.block < B → w'.cell? p = w.cell? p) : IntsAt w' B' A n l :=
  ⟨h.len, fun hn => by
    obtain ⟨a, e, hb, hc⟩ := h.at_ hn
    exact ⟨a, e, by omega, fun j hj => (hk _ (by rw [add_block]; exact hb)).trans (hc j hj)⟩⟩
theorem IntsAt.below (h : IntsAt w B A n l) (hb : Below B w w') : IntsAt w' B A n l := h.keep (Nat.le_refl _) fun _ hp => hb.cell hp
theorem IntsAt.call (h : IntsAt w w.heap.size A n l) (hb : Below w.heap.size w w') : IntsAt w' w'.heap.size A n l := h.keep hb.size fun _ hp => hb.cell hp
theorem IntsAt.cell (h : IntsAt w B A n l) {j : Nat} (hj : j < n) : ∃ a, A = some a ∧ a.block < B ∧ w.cell? (a.add j) = some (.int .i64 (l.getD j 0)) := by
  obtain ⟨a, e, hb, hc⟩ := h.at_ (by omega)
  exact ⟨a, e, hb, hc j hj⟩
end
def RowA (w : World) (g : Nat) (t : TypeId) (cs : Array Value) : Prop := w.heap[g]? = some (.cells cs t (0, 0))
section
variable {w w' : World} {g : Nat} {t : TypeId} {cs : Array Value}
theorem RowA.lt (h : RowA w g t cs) : g < w.heap.size := by
  rcases Nat.lt_or_ge g w.heap.size with hl | hl
  · exact hl
  · unfold RowA at h; rw [Array.getElem?_eq_none hl] at h; cases h
theorem RowA.cell (h : RowA w g t cs) (i : Nat) : w.cell? ⟨g, i, none⟩ = cs[i]? := cell_of_row w g i cs t (0, 0) h
theorem RowA.frozen (h : RowA w g t cs) (i : Nat) : w.frozen? ⟨g, i, none⟩ = false := by
  unfold RowA at h
  simp [World.frozen?, h]
theorem RowA.new (w : World) (t : TypeId) (cs : Array Value) : RowA (w.alloc (.cells cs t)) w.heap.size t cs := heap_alloc_new w _
theorem RowA.set_ (h : RowA w g t cs) (i : Nat) (u : Value) : RowA (w.setCell ⟨g, i, none⟩ u) g t (cs.setIfInBounds i u) := by
  unfold RowA at h ⊢
  simp [World.setCell, Array.getElem?_modify, h]
theorem RowA.ints (h : RowA w g t cs) (l : List Int) (n : Nat) (hn : l.length = n) (hc : ∀ j, j < n → cs[j]? = some (.int .i64 (l.getD j 0))) : IntsAt w w.heap.size (some ⟨g, 0, none⟩) n l :=
  ⟨hn, fun _ => ⟨_, rfl, h.lt, fun j hj => by rw [add_zero_off, h.cell]; exact hc j hj⟩⟩
end
def SomeInts (w : World) (l : List Int) (er : Int) (e : Ending) (w' : World) : Prop :=
  ∃ A n c, e = .returned (.tuple #[.slice A n c, .int .i64 er]) ∧ IntsAt w' w'.heap.size A n l ∧ Below w.heap.size w w'
def NewInts (w : World) (l : List Int) (er : Int) (e : Ending) (w' : World) : Prop :=
  ∃ A n c, e = .returned (.tuple #[.slice A n c, .int .i64 er]) ∧ IntsAt w' w'.heap.size A n l ∧ Below w.heap.size w w' ∧ ∀ g, A = some g → w.heap.size ≤ g.block
theorem NewInts.weak {w : World} {l : List Int} {er : Int} (e : Ending) (w' : World) (h : NewInts w l er e w') : SomeInts w l er e w' := by
  obtain ⟨A, n, c, h1, h2, h3, -⟩ := h
  exact ⟨A, n, c, h1, h2, h3⟩
theorem drewN_add (w : World) (a b : Nat) : (w.drewN a).drewN b = w.drewN (a + b) := by simp
def dgL (p : Int) : List Int := if 0 ≤ p ∧ p ≤ 4095 then [p / 512, p / 64 % 8, p / 8 % 8, p % 8] else []
def dgE (p : Int) : Int := if 0 ≤ p ∧ p ≤ 4095 then 0 else 3
def hor (l : List Int) : Int := l.foldl (fun p d => p * 8 + d) 0
def bcells : List (Nat × Nat) → List Value
  | [] => []
  | x :: r => .int .i64 x.1 :: .int .i64 x.2 :: bcells r
def BlksAt (w : World) (B : Nat) (A : Option Addr) (L : List (Nat × Nat)) : Prop :=
  0 < L.length → ∃ g, A = some ⟨g, 0, none⟩ ∧ g < B ∧ ∀ j, j < L.length → w.cell? ⟨g, j * 2, none⟩ = some (.int .i64 (L.getD j (0, 0)).1) ∧ w.cell? ⟨g, j * 2 + 1, none⟩ = some (.int .i64 (L.getD j (0, 0)).2)
end Go.Proofs.Ytpcpcgbejinlmaa
