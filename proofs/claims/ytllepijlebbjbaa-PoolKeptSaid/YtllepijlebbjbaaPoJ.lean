/- Pools: what the program's calls come to, as one structure (to be filled over the program); both sides over one state. -/
import Derived.Test.YtllepijlebbjbaaPoI
import Derived.Test.YtllepijlebbjbaaPoH
namespace Go.Proofs.Ytllepijlebbjbaa
open Go.RowKit
/-- A call that changes the pool: its blocks X become X'. -/
def DidO (Ob : Nat → World → Nat → (Nat → Prop) → Pk → Prop) (B : Nat) (w : World) (s : Nat) (X : Nat → Prop) (S : Pk) (w' : World) : Prop :=
  ∃ X', Ob B w' s X' S ∧ Foot X w w' ∧ ∀ k, X' k → X k ∨ w.heap.size ≤ k
/-- The program's pool and its calls. -/
structure PoI where
  Ob : Nat → World → Nat → (Nat → Prop) → Pk → Prop
  keep : ∀ {B : Nat} {w w' : World} {s : Nat} {X : Nat → Prop} {S : Pk}, Ob B w s X S → w.heap.size ≤ w'.heap.size → (∀ k, X k → k < w.heap.size → w'.heap[k]? = w.heap[k]?) → Ob B w' s X S
  lo : ∀ {B : Nat} {w : World} {s : Nat} {X : Nat → Prop} {S : Pk}, Ob B w s X S → ∀ k, X k → B ≤ k ∧ k < w.heap.size
  lw : ∀ {B : Nat} {w : World} {s : Nat} {X : Nat → Prop} {S : Pk}, Ob B w s X S → B ≤ w.heap.size
  new : ∀ {o m : Int}, nwB o m = true → ∀ w, Calls Try.prog 9 #[.int .i64 o, .int .i64 m] w fun e w' => ∃ s X, e = .returned (.tuple #[.pointer (some ⟨s, 0, none⟩), .int .i64 0]) ∧ Ob w.heap.size w' s X (newP o m) ∧ Below w.heap.size w w'
  newN : ∀ {o m : Int}, nwB o m = false → ∀ w, Calls Try.prog 9 #[.int .i64 o, .int .i64 m] w fun e w' => e = .returned (.tuple #[.pointer none, .int .i64 2]) ∧ Below w.heap.size w w'
  grow : ∀ {B : Nat} {w : World} {s : Nat} {X : Nat → Prop} {S : Pk}, Ob B w s X S → POk S → ∀ f, Fits f → Calls Try.prog 23 #[.pointer (some ⟨s, 0, none⟩), .int .i64 f] w fun e w' => e = .returned (.int .i64 (maE S f)) ∧ DidO Ob B w s X (grS S f) w'
  shrink : ∀ {B : Nat} {w : World} {s : Nat} {X : Nat → Prop} {S : Pk}, Ob B w s X S → POk S → Calls Try.prog 21 #[.pointer (some ⟨s, 0, none⟩)] w fun e w' => e = .returned (.tuple #[.int .i64 (shV S), .int .i64 (shE S)]) ∧ DidO Ob B w s X (shS S) w'
  promise : ∀ {B : Nat} {w : World} {s : Nat} {X : Nat → Prop} {S : Pk}, Ob B w s X S → POk S → ∀ n, Fits n → Calls Try.prog 26 #[.pointer (some ⟨s, 0, none⟩), .int .i64 n] w fun e w' => e = .returned (.int .i64 (prE S n)) ∧ DidO Ob B w s X (prS S n) w'
  unpromise : ∀ {B : Nat} {w : World} {s : Nat} {X : Nat → Prop} {S : Pk}, Ob B w s X S → POk S → ∀ n, Fits n → Calls Try.prog 27 #[.pointer (some ⟨s, 0, none⟩), .int .i64 n] w fun e w' => e = .returned (.int .i64 (unE S n)) ∧ DidO Ob B w s X (unS S n) w'
  take : ∀ {B : Nat} {w : World} {s : Nat} {X : Nat → Prop} {S : Pk}, Ob B w s X S → POk S → ∀ b, Calls Try.prog 22 #[.pointer (some ⟨s, 0, none⟩), .bool b] w fun e w' => e = .returned (.tuple #[.int .i64 (taV S b), .int .i64 (taE S b)]) ∧ DidO Ob B w s X (taS S b) w'
  extra : ∀ {B : Nat} {w : World} {s : Nat} {X : Nat → Prop} {S : Pk}, Ob B w s X S → POk S → ∀ f, Fits f → Calls Try.prog 24 #[.pointer (some ⟨s, 0, none⟩), .int .i64 f] w fun e w' => e = .returned (.int .i64 (exE S f)) ∧ DidO Ob B w s X (exS S f) w'
  give : ∀ {B : Nat} {w : World} {s : Nat} {X : Nat → Prop} {S : Pk}, Ob B w s X S → POk S → ∀ f b, Fits f → Calls Try.prog 25 #[.pointer (some ⟨s, 0, none⟩), .int .i64 f, .bool b] w fun e w' => e = .returned (.tuple #[.bool (giV S f b), .int .i64 (giE S f)]) ∧ DidO Ob B w s X (giS S f b) w'
  free : ∀ {B : Nat} {w : World} {s : Nat} {X : Nat → Prop} {S : Pk}, Ob B w s X S → POk S → Calls Try.prog 14 #[.pointer (some ⟨s, 0, none⟩)] w (ToldI (frL S.I) w)
  total : ∀ {B : Nat} {w : World} {s : Nat} {X : Nat → Prop} {S : Pk}, Ob B w s X S → POk S → Calls Try.prog 16 #[.pointer (some ⟨s, 0, none⟩)] w fun e w' => e = .returned (.int .i64 ((S.I.count 1 : Nat) + (S.I.count 2 : Nat))) ∧ Below w.heap.size w w'
  promised : ∀ {B : Nat} {w : World} {s : Nat} {X : Nat → Prop} {S : Pk}, Ob B w s X S → POk S → Calls Try.prog 18 #[.pointer (some ⟨s, 0, none⟩)] w fun e w' => e = .returned (.int .i64 S.P) ∧ Below w.heap.size w w'
  surplus : ∀ {B : Nat} {w : World} {s : Nat} {X : Nat → Prop} {S : Pk}, Ob B w s X S → POk S → Calls Try.prog 19 #[.pointer (some ⟨s, 0, none⟩)] w fun e w' => e = .returned (.int .i64 S.U) ∧ Below w.heap.size w w'
/-- What a call of both makes of a pool. -/
def doS (S : Pk) (l : Ac) : Pk :=
  if l.k = 0 ∨ l.k = 1 then grS S l.f else if l.k = 2 then shS S else if l.k = 3 then prS S l.n else if l.k = 4 then unS S l.n
  else if l.k = 5 ∨ l.k = 6 then taS S l.y else if l.k = 7 then exS S l.f else giS S l.f l.y
theorem POk.do_ {S : Pk} (h : POk S) (l : Ac) : POk (doS S l) := by
  unfold doS
  split
  · exact h.grow _
  · split
    · exact h.shrink
    · split
      · exact h.promise _
      · split
        · exact h.unpromise _
        · split
          · exact h.take _
          · split
            · exact h.extra _
            · exact h.give _ _
def mdS (S : Pk) (M : List Ac) : Pk := M.foldl doS S
theorem mdS_next (S : Pk) (M : List Ac) {j : Nat} (hj : j < M.length) : mdS S (M.take (j + 1)) = doS (mdS S (M.take j)) M[j] := by
  unfold mdS
  rw [List.take_add_one, List.getElem?_eq_getElem hj, List.foldl_append]
  rfl
theorem POk.md {S : Pk} (h : POk S) : ∀ M : List Ac, POk (mdS S M) := fun M => by
  unfold mdS
  induction M generalizing S with
  | nil => exact h
  | cons l r ih => exact ih (h.do_ l)
section
variable (I : PoI) {w w' : World} {B s xa g : Nat} {X : Nat → Prop} {S S' : Pk}
theorem PoI.call (h : I.Ob B w s X S) (hb : Below w.heap.size w w') : I.Ob B w' s X S := I.keep h hb.size fun k _ hl => hb.block k hl
theorem PoI.down (h : I.Ob B w s X S) (d : DidO I.Ob B w s X S' w') : Below B w w' := by
  obtain ⟨X', _, f, _⟩ := d
  exact f.below (I.lw h) fun b hb => (I.lo h b hb).1
/-- Both sides over one state, apart. -/
def St (I : PoI) (B : Nat) (w : World) (s xa : Nat) (S : Pk) : Prop := ∃ X g, I.Ob B w s X S ∧ Px B w xa g S ∧ ∀ k, X k → ¬ MineX xa g k
variable {I}
theorem St.call (h : St I B w s xa S) (hb : Below w.heap.size w w') : St I B w' s xa S := by
  obtain ⟨X, g, h1, h2, h3⟩ := h
  exact ⟨X, g, I.call h1 hb, h2.call hb, h3⟩
theorem St.lw (h : St I B w s xa S) : B ≤ w.heap.size := by obtain ⟨X, g, h1, _⟩ := h; exact I.lw h1
/-- The program has made its call. -/
theorem half (h1 : I.Ob B w s X S) (h2 : Px B w xa g S) (h3 : ∀ k, X k → ¬ MineX xa g k) (d : DidO I.Ob B w s X S' w') :
    ∃ X', I.Ob B w' s X' S' ∧ Px B w' xa g S ∧ (∀ k, X' k → ¬ MineX xa g k) ∧ Below B w w' := by
  have hb := I.down h1 d
  obtain ⟨X', d1, d2, d3⟩ := d
  refine ⟨X', d1, h2.keep fun k hk => d2.keep k (h2.mine k hk).2 fun e => h3 k e hk, fun k e hk => ?_, hb⟩
  rcases d3 k e with e | e
  · exact h3 k e hk
  · have := (h2.mine k hk).2; omega
/-- The reference has made its call. -/
theorem whole (h1 : I.Ob B w s X S') (h2 : Px B w xa g S) (h3 : ∀ k, X k → ¬ MineX xa g k) (d : DidX B w xa g S' w') : St I B w' s xa S' ∧ Below B w w' :=
  ⟨⟨X, g, I.keep h1 d.2.size fun k hk hl => d.2.keep k hl (h3 k hk), d.1, h3⟩, d.2.below h2.lw fun k hk => (h2.mine k hk).1⟩
/-- A told list stays behind a call of the reference. -/
theorem own_ref {D : Nat} {u : Value} {R : List Int} (ho : EI.Own D w u R) (hD : ∀ k, MineX xa g k → k < D) (d : DidX B w xa g S w') : EI.Own D w' u R := by
  refine ho.heap fun j e => ?_
  obtain ⟨vs, r, hlo⟩ := ho.block e
  exact d.2.keep j r.lt fun hk => by have := hD j hk; omega
end
end Go.Proofs.Ytllepijlebbjbaa
