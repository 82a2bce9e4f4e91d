/- Spaces: what the program's calls come to, as one structure (to be filled over the program); both sides. -/
import Derived.Test.YtnppnoabhpkmkaaMg46
namespace Go.Proofs.Ytnppnoabhpkmkaa
open Go.RowKit
/-- A call that changes the spaces: its blocks X become X'. -/
def DidX (Fo : Nat → World → Nat → (Nat → Prop) → Fl → Prop) (B : Nat) (w : World) (s : Nat) (X : Nat → Prop) (F : Fl) (w' : World) : Prop :=
  ∃ X', Fo B w' s X' F ∧ Foot X w w' ∧ ∀ k, X' k → X k ∨ w.heap.size ≤ k
/-- A word's error, its value. -/
def wdE (F : Fl) (i a : Int) : Int := if isS F i = true then celE 10 4 (sp F i) a else 11
def wdV (F : Fl) (i a : Int) : Int := if isS F i = true ∧ celE 10 4 (sp F i) a = 0 then celV F (sp F i) a else 0
def arsF (F : Fl) (i : Int) : List Ar := if isS F i = true then allA (sp F i).P else []
/-- The types of the rows of a program's spaces. -/
def FlatX : List TypeId := [58, 37, 54, 67]
/-- The program's spaces and their calls. -/
structure FlI where
  Fo : Nat → World → Nat → (Nat → Prop) → Fl → Prop
  keep : ∀ {B : Nat} {w w' : World} {s : Nat} {X : Nat → Prop} {F : Fl}, Fo B w s X F → w.heap.size ≤ w'.heap.size → (∀ k, X k → k < w.heap.size → w'.heap[k]? = w.heap[k]?) → (∀ k vs, Lrow w k 60 vs → w'.heap[k]? = w.heap[k]?) → Fo B w' s X F
  lo : ∀ {B : Nat} {w : World} {s : Nat} {X : Nat → Prop} {F : Fl}, Fo B w s X F → ∀ k, X k → B ≤ k ∧ k < w.heap.size
  lw : ∀ {B : Nat} {w : World} {s : Nat} {X : Nat → Prop} {F : Fl}, Fo B w s X F → B ≤ w.heap.size
  ty : ∀ {B : Nat} {w : World} {s : Nat} {X : Nat → Prop} {F : Fl}, Fo B w s X F → ∀ k, X k → ∀ t vs, Lrow w k t vs → t ∈ FlatX
  new : ∀ w, Calls Try.prog 12 #[] w fun e w' => ∃ s X, e = .returned (.pointer (some ⟨s, 0, none⟩)) ∧ Fo w.heap.size w' s X ⟨[], []⟩ ∧ Below w.heap.size w w'
  do_ : ∀ {B : Nat} {w : World} {s : Nat} {X : Nat → Prop} {F : Fl}, Fo B w s X F → FlOk F → F.O.length ≤ 200 → ∀ r, IsRq r → Calls Try.prog 6 #[.pointer (some ⟨s, 0, none⟩), .agg (opL r).toArray] w fun e w' => e = .returned (.agg #[.int .i64 (stF F r).1, .int .u64 (stF F r).2.1]) ∧ DidX Fo B w s X (stF F r).2.2 w'
  word : ∀ {B : Nat} {w : World} {s : Nat} {X : Nat → Prop} {F : Fl}, Fo B w s X F → FlOk F → F.O.length ≤ 200 → ∀ i a, Fits i → Fits a → Calls Try.prog 4 #[.pointer (some ⟨s, 0, none⟩), .int .i64 i, .int .i64 a] w fun e w' => e = .returned (.tuple #[.int .u64 (wdV F i a), .int .i64 (wdE F i a)]) ∧ Below w.heap.size w w'
  areas : ∀ {B : Nat} {w : World} {s : Nat} {X : Nat → Prop} {F : Fl}, Fo B w s X F → FlOk F → ∀ i, Fits i → Calls Try.prog 7 #[.pointer (some ⟨s, 0, none⟩), .int .i64 i] w (ToldA (arsF F i) w)
  spaces : ∀ {B : Nat} {w : World} {s : Nat} {X : Nat → Prop} {F : Fl}, Fo B w s X F → FlOk F → Calls Try.prog 8 #[.pointer (some ⟨s, 0, none⟩)] w fun e w' => e = .returned (.int .i64 F.L.length) ∧ Below w.heap.size w w'
section
variable (I : FlI) {w w' : World} {B s xa : Nat} {X : Nat → Prop} {T : RfT} {F F' G G' : Fl}
theorem FlI.call (h : I.Fo B w s X F) (hb : Below w.heap.size w w') : I.Fo B w' s X F := I.keep h hb.size (fun k _ hl => hb.block k hl) fun k _ r => hb.block k r.lt
theorem FlI.down (h : I.Fo B w s X F) (d : DidX I.Fo B w s X F' w') : Below B w w' := by
  obtain ⟨X', _, f, _⟩ := d
  exact f.below (I.lw h) fun b hb => (I.lo h b hb).1
variable {I}
end
/-- What the laws' operations keep. -/
structure FlB (n : Nat) (F : Fl) : Prop where
  ok : FlOk F
  ob : F.O.length ≤ n
theorem FlB.mono {n m : Nat} {F : Fl} (h : FlB n F) (e : n ≤ m) : FlB m F := ⟨h.ok, Nat.le_trans h.ob e⟩
theorem FlB.nil : FlB 0 ⟨[], []⟩ := ⟨FlOk.none, Nat.le_refl _⟩
theorem objF_O (F : Fl) (how : Int) : (objF F how).O.length ≤ F.O.length + 1 := by
  unfold objF
  split
  · show (F.O ++ [_]).length ≤ _; rw [List.length_append]; exact Nat.le_refl _
  · omega
theorem mapAt_O (F : Fl) (r : Rq) (a v : Int) : (mapAt F r a v).2.2.O.length ≤ F.O.length + 1 := by
  unfold mapAt
  split
  · exact Nat.le_succ _
  · exact objF_O F r.h
theorem stF_O (F : Fl) (r : Rq) : (stF F r).2.2.O.length ≤ F.O.length + 1 := by
  have hadd : ∀ S, (addF F S).2.2.O.length ≤ F.O.length + 1 := fun S => by unfold addF; split <;> exact Nat.le_succ _
  unfold stF
  split
  · exact Nat.le_succ _
  split
  · exact hadd _
  split
  · exact Nat.le_succ _
  split
  · exact hadd _
  split
  · unfold accR
    split
    · exact Nat.le_succ _
    split
    · exact Nat.le_succ _
    split
    · show (celS F r.s r.a r.v).O.length ≤ _
      unfold celS
      dsimp only
      split
      · show (F.O.modify _ _).length ≤ _; rw [List.length_modify]; exact Nat.le_succ _
      · exact Nat.le_succ _
    · exact Nat.le_succ _
  split
  · unfold mapR
    split
    · split
      · exact Nat.le_succ _
      split
      · exact Nat.le_succ _
      · exact mapAt_O _ _ _ _
    · exact mapAt_O _ _ _ _
  split
  · exact Nat.le_succ _
  · exact Nat.le_succ _
theorem FlB.step {n : Nat} {F : Fl} (h : FlB n F) (r : Rq) : FlB (n + 1) (stF F r).2.2 := ⟨h.ok.step r, by have := stF_O F r; have := h.ob; omega⟩
end Go.Proofs.Ytnppnoabhpkmkaa
