/- Lists of numbers and of blocks as they lie in memory. -/
import Derived.Test.YtaphihoomipdaaaGq
namespace Go.Proofs.Ytaphihoomipdaaa
open Go.RowKit

theorem add_block (a : Addr) (n : Nat) : (a.add n).block = a.block := by unfold Addr.add; split <;> rfl
theorem add_zero_off (g j : Nat) : (⟨g, 0, none⟩ : Addr).add j = ⟨g, j, none⟩ := by unfold Addr.add; split <;> simp_all
theorem getD_of {α : Type} (l : List α) (d : α) (j : Nat) (h : j < l.length) : l[j]? = some (l.getD j d) := by
  rw [List.getD_eq_getElem?_getD, List.getElem?_eq_getElem h]; rfl
theorem getD_mem {α : Type} (l : List α) (d : α) (j : Nat) (h : j < l.length) : l.getD j d ∈ l := by
  rw [List.getD_eq_getElem?_getD, List.getElem?_eq_getElem h]; exact List.getElem_mem h
theorem take_snoc {α : Type} (l : List α) (d : α) (j : Nat) (h : j < l.length) : l.take (j + 1) = l.take j ++ [l.getD j d] := by
  rw [List.take_succ_eq_append_getElem h, List.getD_eq_getElem?_getD, List.getElem?_eq_getElem h]; rfl

/-- A slice of numbers that reads as a list, below block B. -/
structure IntsAt (w : World) (B : Nat) (A : Option Addr) (n : Nat) (l : List Int) : Prop where
  len : l.length = n
  at_ : 0 < n → ∃ a, A = some a ∧ a.block < B ∧ ∀ j, j < n → w.cell? (a.add j) = some (.int .i64 (l.getD j 0))
section
variable {w w' : World} {B B' n : Nat} {A : Option Addr} {l : List Int}
theorem IntsAt.nil (w : World) (B : Nat) (A : Option Addr) : IntsAt w B A 0 [] := ⟨rfl, fun h => absurd h (by omega)⟩
theorem IntsAt.keep (h : IntsAt w B A n l) (hB : B ≤ B') (hk : ∀ p : Addr, p.block < B → w'.cell? p = w.cell? p) : IntsAt w' B' A n l :=
  ⟨h.len, fun hn => by
    obtain ⟨a, e, hb, hc⟩ := h.at_ hn
    exact ⟨a, e, by omega, fun j hj => (hk _ (by rw [add_block]; exact hb)).trans (hc j hj)⟩⟩
theorem IntsAt.below (h : IntsAt w B A n l) (hb : Below B w w') : IntsAt w' B A n l := h.keep (Nat.le_refl _) fun _ hp => hb.cell hp
theorem IntsAt.call (h : IntsAt w w.heap.size A n l) (hb : Below w.heap.size w w') : IntsAt w' w'.heap.size A n l := h.keep hb.size fun _ hp => hb.cell hp
theorem IntsAt.drewN (h : IntsAt w B A n l) (k : Nat) : IntsAt (w.drewN k) B A n l := h.keep (Nat.le_refl _) fun _ _ => rfl
theorem IntsAt.cell (h : IntsAt w B A n l) {j : Nat} (hj : j < n) : ∃ a, A = some a ∧ a.block < B ∧ w.cell? (a.add j) = some (.int .i64 (l.getD j 0)) := by
  obtain ⟨a, e, hb, hc⟩ := h.at_ (by omega)
  exact ⟨a, e, hb, hc j hj⟩
end
/-- A block that is known whole. -/
def RowA (w : World) (g : Nat) (t : TypeId) (cs : Array Value) : Prop := w.heap[g]? = some (.cells cs t (0, 0))
section
variable {w w' : World} {g : Nat} {t : TypeId} {cs : Array Value}
theorem RowA.lt (h : RowA w g t cs) : g < w.heap.size := by
  rcases Nat.lt_or_ge g w.heap.size with hl | hl
  · exact hl
  · unfold RowA at h; rw [Array.getElem?_eq_none hl] at h; cases h
theorem RowA.cell (h : RowA w g t cs) (i : Nat) : w.cell? ⟨g, i, none⟩ = cs[i]? := cell_of_row w g i cs t (0, 0) h
theorem RowA.frozen (h : RowA w g t cs) (i : Nat) : w.frozen? ⟨g, i, none⟩ = false := by
  unfold RowA at h
  simp [World.frozen?, h]
theorem RowA.new (w : World) (t : TypeId) (cs : Array Value) : RowA (w.alloc (.cells cs t)) w.heap.size t cs := heap_alloc_new w _
theorem RowA.set_ (h : RowA w g t cs) (i : Nat) (u : Value) : RowA (w.setCell ⟨g, i, none⟩ u) g t (cs.setIfInBounds i u) := by
  unfold RowA at h ⊢
  simp [World.setCell, Array.getElem?_modify, h]
theorem RowA.below {B : Nat} (h : RowA w g t cs) (hb : Below B w w') (hg : g < B) : RowA w' g t cs := (hb.block g hg).trans h
theorem RowA.ints (h : RowA w g t cs) (l : List Int) (n : Nat) (hn : l.length = n) (hc : ∀ j, j < n → cs[j]? = some (.int .i64 (l.getD j 0))) : IntsAt w w.heap.size (some ⟨g, 0, none⟩) n l :=
  ⟨hn, fun _ => ⟨_, rfl, h.lt, fun j hj => by rw [add_zero_off, h.cell]; exact hc j hj⟩⟩
end
/-- What is returned: a list of numbers in memory, and an error. -/
def SomeInts (w : World) (l : List Int) (er : Int) (e : Ending) (w' : World) : Prop :=
  ∃ A n c, e = .returned (.tuple #[.slice A n c, .int .i64 er]) ∧ IntsAt w' w'.heap.size A n l ∧ Below w.heap.size w w'
/-- Reading alone. -/
def Drawn (r : Value) (w : World) (e : Ending) (w' : World) : Prop := e = .returned r ∧ ∃ n, w' = w.drewN n
theorem drewN_add (w : World) (a b : Nat) : (w.drewN a).drewN b = w.drewN (a + b) := by simp
theorem below_drewN {B : Nat} (w : World) (n : Nat) : Below B w (w.drewN n) := by
  induction n with
  | zero => exact Below.refl _ _
  | succ n ih => exact ih.drew

/-! Digits, and the page that has them. -/
def dgL (p : Int) : List Int := if 0 ≤ p ∧ p ≤ 4095 then [p / 512, p / 64 % 8, p / 8 % 8, p % 8] else []
def dgE (p : Int) : Int := if 0 ≤ p ∧ p ≤ 4095 then 0 else 3
def okD (d : Int) : Bool := decide (0 ≤ d ∧ d ≤ 7)
def pgOk (l : List Int) : Bool := decide (l.length = 4) && l.all okD
def hor (l : List Int) : Int := l.foldl (fun p d => p * 8 + d) 0
def pgI (l : List Int) : Int := if pgOk l = true then hor l else 0
def pgE (l : List Int) : Int := if pgOk l = true then 0 else 2
theorem hor_snoc (l : List Int) (d : Int) : hor (l ++ [d]) = hor l * 8 + d := by simp [hor]
theorem hor_bound : ∀ (n : Nat) (l : List Int), l.length = n → l.all okD = true → 0 ≤ hor l ∧ hor l < 8 ^ n := by
  intro n
  induction n with
  | zero => intro l h _; rw [List.length_eq_zero_iff.1 h]; decide
  | succ n ih =>
    intro l h ha
    rcases List.eq_nil_or_concat l with rfl | ⟨r, d, rfl⟩
    · simp at h
    · rw [List.concat_eq_append] at h ha ⊢
      rw [List.all_append, Bool.and_eq_true] at ha
      obtain ⟨h0, h1⟩ := ih r (by simpa using h) ha.1
      have hd : 0 ≤ d ∧ d ≤ 7 := by simpa [okD] using ha.2
      rw [hor_snoc, Int.pow_succ]
      omega
theorem pg_len {l : List Int} (h : l.length ≠ 4) : pgI l = 0 ∧ pgE l = 2 := by simp [pgI, pgE, pgOk, h]
theorem pg_bad {l : List Int} (j : Nat) (hj : j < l.length) (h : okD (l.getD j 0) = false) : pgI l = 0 ∧ pgE l = 2 := by
  have : l.all okD = false := by
    rw [List.all_eq_false]
    exact ⟨_, getD_mem l 0 j hj, by rw [h]; simp⟩
  simp [pgI, pgE, pgOk, this]
theorem pg_good {l : List Int} (hl : l.length = 4) (h : l.all okD = true) : pgI l = hor l ∧ pgE l = 0 := by simp [pgI, pgE, pgOk, hl, h]
theorem all_snoc {l : List Int} {j : Nat} (hj : j < l.length) (h : (l.take j).all okD = true) (g : okD (l.getD j 0) = true) : (l.take (j + 1)).all okD = true := by
  rw [take_snoc l 0 j hj, List.all_append, h]; simpa using g
theorem dg_back {p : Int} (h : 0 ≤ p ∧ p ≤ 4095) : pgI (dgL p) = p ∧ pgE (dgL p) = 0 := by
  have e : dgL p = [p / 512, p / 64 % 8, p / 8 % 8, p % 8] := by simp [dgL, h]
  rw [e]
  have ok : [p / 512, p / 64 % 8, p / 8 % 8, p % 8].all okD = true := by
    simp [okD]; omega
  obtain ⟨h1, h2⟩ := pg_good rfl ok
  rw [h1, h2]
  refine ⟨?_, rfl⟩
  simp only [hor, List.foldl]
  omega

/-! Blocks. -/
def bcells : List (Nat × Nat) → List Value
  | [] => []
  | x :: r => .int .i64 x.1 :: .int .i64 x.2 :: bcells r
theorem bcells_length (L : List (Nat × Nat)) : (bcells L).length = L.length * 2 := by
  induction L with
  | nil => rfl
  | cons x r ih => simp only [bcells, List.length_cons, ih]; omega
theorem bcells_append (L M : List (Nat × Nat)) : bcells (L ++ M) = bcells L ++ bcells M := by
  induction L with
  | nil => rfl
  | cons x r ih => simp [bcells, ih]
theorem bcells_one (L : List (Nat × Nat)) : ∀ u ∈ bcells L, u.oneCell' = true := by
  induction L with
  | nil => intro u h; simp [bcells] at h
  | cons x r ih =>
    intro u h
    simp only [bcells, List.mem_cons] at h
    rcases h with rfl | rfl | h
    · rfl
    · rfl
    · exact ih u h
theorem bcells_at : ∀ (L : List (Nat × Nat)) (j : Nat), j < L.length → (bcells L)[j * 2]? = some (.int .i64 (L.getD j (0, 0)).1) ∧ (bcells L)[j * 2 + 1]? = some (.int .i64 (L.getD j (0, 0)).2) := by
  intro L
  induction L with
  | nil => intro j h; simp at h
  | cons x r ih =>
    intro j h
    match j with
    | 0 => exact ⟨rfl, rfl⟩
    | j + 1 =>
      have := ih j (by simpa using h)
      simp only [bcells, show (j + 1) * 2 = j * 2 + 1 + 1 by omega, List.getElem?_cons_succ, List.getD_cons_succ]
      exact this
/-- A slice of blocks that reads as a list, below block B. -/
def BlksAt (w : World) (B : Nat) (A : Option Addr) (L : List (Nat × Nat)) : Prop :=
  0 < L.length → ∃ g, A = some ⟨g, 0, none⟩ ∧ g < B ∧ ∀ j, j < L.length → w.cell? ⟨g, j * 2, none⟩ = some (.int .i64 (L.getD j (0, 0)).1) ∧ w.cell? ⟨g, j * 2 + 1, none⟩ = some (.int .i64 (L.getD j (0, 0)).2)
theorem BlksAt.keep {w w' : World} {B B' : Nat} {A : Option Addr} {L : List (Nat × Nat)} (h : BlksAt w B A L) (hB : B ≤ B') (hk : ∀ p : Addr, p.block < B → w'.cell? p = w.cell? p) : BlksAt w' B' A L := fun hn => by
  obtain ⟨g, e, hb, hc⟩ := h hn
  exact ⟨g, e, by omega, fun j hj => ⟨(hk ⟨g, _, none⟩ hb).trans (hc j hj).1, (hk ⟨g, _, none⟩ hb).trans (hc j hj).2⟩⟩
theorem BlksAt.below {w w' : World} {B : Nat} {A : Option Addr} {L : List (Nat × Nat)} (h : BlksAt w B A L) (hb : Below B w w') : BlksAt w' B A L := h.keep (Nat.le_refl _) fun _ hp => hb.cell hp
theorem BlksAt.call {w w' : World} {A : Option Addr} {L : List (Nat × Nat)} (h : BlksAt w w.heap.size A L) (hb : Below w.heap.size w w') : BlksAt w' w'.heap.size A L := h.keep hb.size fun _ hp => hb.cell hp
theorem BlksAt.drewN {w : World} {B : Nat} {A : Option Addr} {L : List (Nat × Nat)} (h : BlksAt w B A L) (k : Nat) : BlksAt (w.drewN k) B A L := h.keep (Nat.le_refl _) fun _ _ => rfl
theorem BlksAt.own {w : World} {base n c : Nat} {t : TypeId} {A : Option Addr} {L : List (Nat × Nat)} (h : w.ownsRow base t 2 (.slice A n c) n (bcells L)) : n = L.length ∧ BlksAt w w.heap.size A L := by
  have hl : n = L.length := by have := h.1; rw [bcells_length] at this; omega
  refine ⟨hl, fun hn => ?_⟩
  obtain ⟨g, cap, hv, _, hlt⟩ := h.form (by omega)
  injection hv with hA _ hc
  subst hA
  refine ⟨g, rfl, hlt, fun j hj => ?_⟩
  have h1 := h.cellAt (j * 2) (by omega)
  have h2 := h.cellAt (j * 2 + 1) (by omega)
  obtain ⟨b1, b2⟩ := bcells_at L j hj
  exact ⟨h1.trans b1, h2.trans b2⟩
end Go.Proofs.Ytaphihoomipdaaa
