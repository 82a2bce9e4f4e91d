/- Objects: a list of numbers that comes in; what ObjectKept stands on. -/
import Derived.Test.YtnpacdbkmpchnaaP7
import Derived.ChangeSlices
namespace Go.Proofs.Ytnpacdbkmpchnaa
open Go.RowKit
theorem cellsInt : Try.prog.cellsOf 3 = 1 := by kernel_rfl
/-- A list of numbers as it lies below block b. -/
def Nums (w : World) (b : Nat) (A : Option Addr) (n : Nat) : Prop :=
  0 < n → ∃ a, A = some a ∧ a.block < b ∧ ∀ i, i < n → ∃ z : Int, Fits z ∧ w.cell? (a.add i) = some (.int .i64 z)
theorem Nums.below {w w' : World} {b n : Nat} {A : Option Addr} (h : Nums w b A n) (hb : Below b w w') : Nums w' b A n := fun hn => by
  obtain ⟨a, e, hlt, hc⟩ := h hn
  refine ⟨a, e, hlt, fun i hi => ?_⟩
  obtain ⟨c, ok, g⟩ := hc i hi
  exact ⟨c, ok, (hb.cell (by rw [add_blk]; exact hlt)).trans g⟩
section
open Go.Joins Go.ChangeShapes Go.WideShapes Go.ChangeAt Go.RowKit Go.Deep
variable {H : Type} {enc : TypeId × Value → H} {w : World} {base : Nat} {spare : Nat → Bool} {held : Bool}
theorem open_nums {r : Reach} {b0 : Nat} {v : Value} {x : DataW H} {ps : List MemPlace} (hv : Value.okWide Try.prog w r b0 29 v) (h : DataW.Trod enc Try.prog w base spare held 29 v x ps) :
    ∃ A n c, v = .slice A n c ∧ n ≤ maxLen ∧ Nums w w.heap.size A n := by
  obtain ⟨A, n, c, rfl⟩ := okWide_slice Try.underlying29 hv
  obtain ⟨fuel, hf⟩ := h
  rcases open_ints Try.underlying29 Try.underlying3 cellsInt hf with ⟨e, _⟩ | ⟨a, len, cap, zs, e, _, hlc, hcap, hlen, _, hc, hwf⟩
  · simp only [Value.cells] at e
    injection e with e
    injection e with e1 e2 e3
    subst e1 e2 e3
    exact ⟨_, _, _, rfl, Nat.zero_le _, fun h0 => absurd h0 (Nat.lt_irrefl 0)⟩
  · simp only [Value.cells] at e
    injection e with e
    injection e with e1 e2 e3
    subst e1 e2 e3
    have hl : n ≤ zs.length := by rw [hlen]; split <;> omega
    refine ⟨_, _, _, rfl, Nat.le_trans hlc hcap, fun h0 => ⟨a, rfl, ?_, fun j hj => ⟨zs.getD j 0, ?_, hc j (by omega)⟩⟩⟩
    · have := World.block_lt_of_cell? w _ (hc 0 (by omega))
      rwa [add_blk] at this
    · have hm : zs.getD j 0 ∈ zs := by rw [List.getD_eq_getElem?_getD, List.getElem?_eq_getElem (by omega)]; exact List.getElem_mem _
      exact fits_wf (hwf _ hm)
end
/-- Two objects, the second held h times; all pages are of the second. -/
structure Kp (h : Int) (L : List Og) (n : Nat) : Prop where
  good : Good [1, h] L
  ll : L.length ≤ n
  all : ∀ x ∈ L, x.i = 1
theorem isB_1 (h : Int) : isB [1, h] 1 = decide (0 < h) := by
  unfold isB
  simp
section
variable {h : Int} {L : List Og} {n : Nat}
theorem Kp.bnd (k : Kp h L n) (h0 : 0 ≤ h) (h1 : h ≤ 100) (hn : n ≤ 100) : Bnd 200 [1, h] L :=
  ⟨k.good, by simp, by have := k.ll; omega, fun j => by
    match j with
    | 0 => exact ⟨by show (0 : Int) ≤ 1; omega, by show (1 : Int) ≤ _; omega⟩
    | 1 => exact ⟨h0, by show h ≤ _; omega⟩
    | j + 2 => exact ⟨by simp, by simp⟩⟩
theorem Kp.start : Kp 1 [] 0 := ⟨Good.nil.make.make, Nat.le_refl _, fun x hx => by cases hx⟩
theorem seL_yes {H : List Int} {L : List Og} {i p f : Int} (c : seE H L i p f = 0) : seL H L i p f = L ++ [⟨i, p, f⟩] := if_pos c
theorem seL_no {H : List Int} {L : List Og} {i p f : Int} (c : ¬ seE H L i p f = 0) : seL H L i p f = L := if_neg c
theorem Kp.set (k : Kp h L n) (p f : Int) : Kp h (seL [1, h] L 1 p f) (n + 1) := by
  refine ⟨k.good.set 1 p f, ?_, fun x hx => ?_⟩
  · have := k.ll
    by_cases c : seE [1, h] L 1 p f = 0
    · rw [seL_yes c, List.length_append]; simp; omega
    · rw [seL_no c]; omega
  · by_cases c : seE [1, h] L 1 p f = 0
    · rw [seL_yes c, List.mem_append, List.mem_singleton] at hx
      rcases hx with hx | rfl
      · exact k.all x hx
      · rfl
    · rw [seL_no c] at hx; exact k.all x hx
theorem ho_1 (h0 : 0 < h) : hoE [1, h] 1 = 0 ∧ hoH [1, h] 1 = [1, h + 1] ∧ drH [1, h] 1 = [1, h - 1] := by
  unfold hoE hoH drH
  rw [isB_1, decide_eq_true h0]
  exact ⟨rfl, rfl, rfl⟩
theorem Kp.hold (k : Kp h L n) (h0 : 0 < h) : Kp (h + 1) L n := ⟨by have := k.good.hold 1; rw [(ho_1 h0).2.1] at this; exact this, k.ll, k.all⟩
theorem lst_1 (h : Int) : lstB [1, h] 1 = (decide (0 < h) && decide (h - 1 ≤ 0)) := by unfold lstB; rw [isB_1]; rfl
theorem dr_more (h0 : 1 < h) (L : List Og) : drL [1, h] L 1 = L ∧ drT [1, h] L 1 = [] := by
  unfold drL drT
  rw [lst_1, decide_eq_false (show ¬ h - 1 ≤ 0 by omega), Bool.and_false]
  exact ⟨rfl, rfl⟩
theorem Kp.less (k : Kp h L n) (h0 : 1 < h) : Kp (h - 1) L n := ⟨by
  have := k.good.drop 1
  rw [(ho_1 (show 0 < h by omega)).2.2, (dr_more h0 L).1] at this
  exact this, k.ll, k.all⟩
theorem Kp.out (k : Kp 1 L n) : drL [1, 1] L 1 = [] ∧ drT [1, 1] L 1 = frs L 1 := by
  unfold drL drT
  rw [lst_1]
  refine ⟨?_, rfl⟩
  show outL L 1 = []
  unfold outL
  rw [List.filter_eq_nil_iff]
  intro x hx
  rw [k.all x hx]
  decide
theorem Kp.gone (k : Kp 1 L n) : Kp 0 [] n := ⟨by
  have := k.good.drop 1
  rw [k.out.1] at this
  exact this, Nat.zero_le _, fun x hx => by cases hx⟩
theorem Kp.count (k : Kp h L n) : (frs L 1).length = L.length := by
  rw [frs_count k.good, List.filter_eq_self.2]
  intro x hx
  exact decide_eq_true (k.all x hx)
theorem none_1 : hoE [1, 0] 1 = 6 ∧ drH [1, 0] 1 = [1, 0] ∧ drL [1, 0] [] 1 = [] ∧ drT [1, 0] [] 1 = [] ∧ lenI [1, 0] = 1 ∧ hoH [1, 0] 1 = [1, 0] := by
  refine ⟨by decide, by decide, by decide, ?_, by decide, by decide⟩
  unfold drT
  rw [lst_1]
  rfl
end
/-- The program's side alone. -/
def PrAt (I : ObI) (B : Nat) (w : World) (s : Nat) (H : List Int) (L : List Og) : Prop := ∃ X, I.Ob B w s X H L
theorem PrAt.call {I : ObI} {w w' : World} {B s : Nat} {H : List Int} {L : List Og} (h : PrAt I B w s H L) (hb : Below w.heap.size w w') : PrAt I B w' s H L := by
  obtain ⟨X, h⟩ := h
  exact ⟨X, I.call h hb⟩
theorem PrAt.did {I : ObI} {w w' : World} {B s : Nat} {X : Nat → Prop} {H H' : List Int} {L L' : List Og} (h : I.Ob B w s X H L) (d : DidO I.Ob B w s X H' L' w') : PrAt I B w' s H' L' ∧ Below B w w' := by
  have := I.down h d
  obtain ⟨X', d1, _⟩ := d
  exact ⟨⟨X', d1⟩, this⟩
end Go.Proofs.Ytnpacdbkmpchnaa
