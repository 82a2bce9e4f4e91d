/- Objects: what the program's calls come to, as one structure (to be filled over the program); both sides. -/
import Derived.Test.YtnpacdbkmpchnaaO6
import Derived.Test.YtnpacdbkmpchnaaO9
namespace Go.Proofs.Ytnpacdbkmpchnaa
open Go.RowKit
/-- A call that changes the object: its blocks X become X'. -/
def DidO (Ob : Nat → World → Nat → (Nat → Prop) → List Int → List Og → Prop) (B : Nat) (w : World) (s : Nat) (X : Nat → Prop) (H : List Int) (L : List Og) (w' : World) : Prop :=
  ∃ X', Ob B w' s X' H L ∧ Foot X w w' ∧ ∀ k, X' k → X k ∨ w.heap.size ≤ k
/-- The program's object and its calls. -/
structure ObI where
  Ob : Nat → World → Nat → (Nat → Prop) → List Int → List Og → Prop
  keep : ∀ {B : Nat} {w w' : World} {s : Nat} {X : Nat → Prop} {H : List Int} {L : List Og}, Ob B w s X H L → w.heap.size ≤ w'.heap.size → (∀ k, X k → k < w.heap.size → w'.heap[k]? = w.heap[k]?) → Ob B w' s X H L
  lo : ∀ {B : Nat} {w : World} {s : Nat} {X : Nat → Prop} {H : List Int} {L : List Og}, Ob B w s X H L → ∀ k, X k → B ≤ k ∧ k < w.heap.size
  lw : ∀ {B : Nat} {w : World} {s : Nat} {X : Nat → Prop} {H : List Int} {L : List Og}, Ob B w s X H L → B ≤ w.heap.size
  new : ∀ w, Calls Try.prog 13 #[] w fun e w' => ∃ s X, e = .returned (.pointer (some ⟨s, 0, none⟩)) ∧ Ob w.heap.size w' s X [] [] ∧ Below w.heap.size w w'
  make : ∀ {B : Nat} {w : World} {s : Nat} {X : Nat → Prop} {H : List Int} {L : List Og}, Ob B w s X H L → Bnd 200 H L → Calls Try.prog 14 #[.pointer (some ⟨s, 0, none⟩)] w fun e w' => e = .returned (.int .i64 H.length) ∧ DidO Ob B w s X (mkH H) L w'
  hold : ∀ {B : Nat} {w : World} {s : Nat} {X : Nat → Prop} {H : List Int} {L : List Og}, Ob B w s X H L → Bnd 200 H L → ∀ i, Fits i → Calls Try.prog 16 #[.pointer (some ⟨s, 0, none⟩), .int .i64 i] w fun e w' => e = .returned (.int .i64 (hoE H i)) ∧ DidO Ob B w s X (hoH H i) L w'
  drop : ∀ {B : Nat} {w : World} {s : Nat} {X : Nat → Prop} {H : List Int} {L : List Og}, Ob B w s X H L → Bnd 200 H L → ∀ i, Fits i → Calls Try.prog 17 #[.pointer (some ⟨s, 0, none⟩), .int .i64 i] w fun e w' => ∃ A c, e = .returned (.tuple #[.slice A (drT H L i).length c, .int .i64 (hoE H i)]) ∧ EI.Own w.heap.size w' (.slice A (drT H L i).length c) (drT H L i) ∧ DidO Ob B w s X (drH H i) (drL H L i) w'
  set : ∀ {B : Nat} {w : World} {s : Nat} {X : Nat → Prop} {H : List Int} {L : List Og}, Ob B w s X H L → Bnd 200 H L → ∀ i p f, Fits i → Fits p → Fits f → Calls Try.prog 15 #[.pointer (some ⟨s, 0, none⟩), .int .i64 i, .int .i64 p, .int .i64 f] w fun e w' => e = .returned (.int .i64 (seE H L i p f)) ∧ DidO Ob B w s X H (seL H L i p f) w'
  change : ∀ {B : Nat} {w : World} {s : Nat} {X : Nat → Prop} {H : List Int} {L : List Og}, Ob B w s X H L → Bnd 200 H L → ∀ a t, Fits a → Fits t → Calls Try.prog 20 #[.pointer (some ⟨s, 0, none⟩), .int .i64 a, .int .i64 t] w fun e w' => e = .returned (.int .i64 (chE L a t)) ∧ DidO Ob B w s X H (chL L a t) w'
  frame : ∀ {B : Nat} {w : World} {s : Nat} {X : Nat → Prop} {H : List Int} {L : List Og}, Ob B w s X H L → Bnd 200 H L → ∀ i p, Fits i → Fits p → Calls Try.prog 12 #[.pointer (some ⟨s, 0, none⟩), .int .i64 i, .int .i64 p] w fun e w' => e = .returned (.tuple #[.int .i64 (frV L i p), .int .i64 (frE L i p)]) ∧ Below w.heap.size w w'
  owner : ∀ {B : Nat} {w : World} {s : Nat} {X : Nat → Prop} {H : List Int} {L : List Og}, Ob B w s X H L → Bnd 200 H L → ∀ f, Fits f → Calls Try.prog 11 #[.pointer (some ⟨s, 0, none⟩), .int .i64 f] w fun e w' => e = .returned (.tuple #[.int .i64 (owI L f), .int .i64 (owP L f), .int .i64 (owE L f)]) ∧ Below w.heap.size w w'
  frames : ∀ {B : Nat} {w : World} {s : Nat} {X : Nat → Prop} {H : List Int} {L : List Og}, Ob B w s X H L → Bnd 200 H L → ∀ i, Fits i → Calls Try.prog 10 #[.pointer (some ⟨s, 0, none⟩), .int .i64 i] w (ToldI (frs L i) w)
  len : ∀ {B : Nat} {w : World} {s : Nat} {X : Nat → Prop} {H : List Int} {L : List Og}, Ob B w s X H L → Bnd 200 H L → Calls Try.prog 18 #[.pointer (some ⟨s, 0, none⟩)] w fun e w' => e = .returned (.int .i64 (lenI H)) ∧ Below w.heap.size w w'
section
variable (I : ObI) {w w' : World} {B s x : Nat} {X : Nat → Prop} {H H' : List Int} {L L' : List Og} {vh vl : Value}
theorem ObI.call (h : I.Ob B w s X H L) (hb : Below w.heap.size w w') : I.Ob B w' s X H L := I.keep h hb.size fun k _ hl => hb.block k hl
theorem ObI.down (h : I.Ob B w s X H L) (d : DidO I.Ob B w s X H' L' w') : Below B w w' := by
  obtain ⟨X', _, f, _⟩ := d
  exact f.below (I.lw h) fun b hb => (I.lo h b hb).1
theorem Rx.mine (h : Rx B w x vh vl H L) : ∀ k, MineX x vh vl k → B ≤ k ∧ k < w.heap.size := fun k hk => by
  rcases hk with rfl | e | e
  · exact ⟨h.lo, h.top.lt⟩
  · obtain ⟨vs, r, hlo⟩ := h.hel.block e
    exact ⟨hlo, r.lt⟩
  · obtain ⟨vs, r, hlo⟩ := h.ons.block e
    exact ⟨hlo, r.lt⟩
/-- Both sides over one state, apart. -/
def St (I : ObI) (B : Nat) (w : World) (s x : Nat) (H : List Int) (L : List Og) : Prop := ∃ X vh vl, I.Ob B w s X H L ∧ Rx B w x vh vl H L ∧ ∀ k, X k → ¬ MineX x vh vl k
variable {I}
theorem St.call (h : St I B w s x H L) (hb : Below w.heap.size w w') : St I B w' s x H L := by
  obtain ⟨X, vh, vl, h1, h2, h3⟩ := h
  exact ⟨X, vh, vl, I.call h1 hb, h2.call hb, h3⟩
theorem St.lw (h : St I B w s x H L) : B ≤ w.heap.size := by obtain ⟨X, vh, vl, h1, _⟩ := h; exact I.lw h1
/-- The program has made its call. -/
theorem half (h1 : I.Ob B w s X H L) (h2 : Rx B w x vh vl H L) (h3 : ∀ k, X k → ¬ MineX x vh vl k) (d : DidO I.Ob B w s X H' L' w') :
    ∃ X', I.Ob B w' s X' H' L' ∧ Rx B w' x vh vl H L ∧ (∀ k, X' k → ¬ MineX x vh vl k) ∧ Below B w w' := by
  have hb := I.down h1 d
  obtain ⟨X', d1, d2, d3⟩ := d
  refine ⟨X', d1, h2.keep d2.size fun k hk hl => d2.keep k hl fun e => h3 k e hk, fun k e hk => ?_, hb⟩
  rcases d3 k e with e | e
  · exact h3 k e hk
  · have := (h2.mine k hk).2; omega
/-- The reference has made its call. -/
theorem whole (h1 : I.Ob B w s X H' L') (h2 : Rx B w x vh vl H L) (h3 : ∀ k, X k → ¬ MineX x vh vl k) (d : DidR B w x vh vl H' L' w') : St I B w' s x H' L' ∧ Below B w w' := by
  obtain ⟨a, b, d1, d2, d3⟩ := d
  refine ⟨⟨X, a, b, I.keep h1 d2.size fun k hk hl => d2.keep k hl (h3 k hk), d1, fun k e hk => ?_⟩, d2.below h2.lw fun k hk => (h2.mine k hk).1⟩
  rcases d3 k hk with c | c
  · exact h3 k e c
  · have := (I.lo h1 k e).2; omega
/-- A told list stays behind a call of the reference. -/
theorem own_ref {D : Nat} {v : Value} {R : List Int} (ho : EI.Own D w v R) (hD : ∀ k, MineX x vh vl k → k < D) (d : DidR B w x vh vl H L w') : EI.Own D w' v R := by
  obtain ⟨a, b, d1, d2, d3⟩ := d
  refine ho.heap fun g e => ?_
  obtain ⟨vs, r, hlo⟩ := ho.block e
  exact d2.keep g r.lt fun hk => by have := hD g hk; omega
end
end Go.Proofs.Ytnpacdbkmpchnaa
