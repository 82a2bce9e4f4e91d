/- Both sides, held together; a list of calls as it lies in a later world. -/
import Derived.Test.YtgkliffhdibghaaUc
import Derived.Test.YtgkliffhdibghaaUo
namespace Go.Proofs.Ytgkliffhdibghaa
open Go.RowKit

section
variable {w w' : World} {B p q m x : Nat} {iv iv' rv rv' : Value} {N N' : List It}
/-- The reference is as it was behind a call of the program. -/
theorem RefX.beside (r : RefX B w x rv N) (h : Qs B w q m iv N') (g : Grew w w' q m iv iv') : RefX B w' x rv N :=
  r.foot g.foot fun k hk hm => by
    rcases hk with rfl | e
    · exact h.other r.top (by decide) (by decide) hm
    · obtain ⟨vs, r2, _⟩ := own_block r.own e
      exact h.other r2 (by decide) (by decide) hm
/-- The program is as it was behind a call of the reference. -/
theorem PickAt.beside (h : PickAt B w p q m iv N) (r : RefX B w x rv N') (g : GrewR w w' x rv rv') : PickAt B w' p q m iv N :=
  h.foot g.foot (r.other h.top (by decide) (by decide)) fun k hm hk => by
    rcases hk with rfl | e
    · exact h.qs.other r.top (by decide) (by decide) hm
    · obtain ⟨vs, r2, _⟩ := own_block r.own e
      exact h.qs.other r2 (by decide) (by decide) hm
theorem GrewR.row (g : GrewR w w' x rv rv') (r : RefX B w x rv N) {b : Nat} {t : TypeId} {vs : List Value} (h : Lrow w b t vs) (h1 : t ≠ 28) (h2 : t ≠ 38) : Lrow w' b t vs := g.foot.row h (r.other h h1 h2)
theorem RefX.new (w : World) (hB : B ≤ w.heap.size) : RefX B (w.alloc (.cells #[.slice none 0 0] 28)) w.heap.size (.slice none 0 0) [] :=
  ⟨Lrow.new w _ _, ⟨rfl, Or.inl ⟨rfl, rfl⟩⟩, hB⟩
end
/-- Both sides have the same frames. -/
structure St (B : Nat) (w0 w : World) (p q m x : Nat) (iv rv : Value) (N : List It) : Prop where
  pick : PickAt B w p q m iv N
  ref : RefX B w x rv N
  dst : Dst N
  below : Below B w0 w
/-- Both sides as the loops of the laws see them, behind k puttings. -/
def Going (B p q m x : Nat) (w0 : World) (k : Nat) (w : World) : Prop := ∃ iv rv N, St B w0 w p q m x iv rv N ∧ N.length ≤ k
section
variable {w0 w w' : World} {B p q m x k : Nat} {iv iv' rv rv' : Value} {N N' : List It}
theorem St.call (h : St B w0 w p q m x iv rv N) (hb : Below w.heap.size w w') : St B w0 w' p q m x iv rv N :=
  ⟨h.pick.call hb, h.ref.call hb, h.dst, h.below.trans (hb.mono h.pick.lo)⟩
theorem St.drewN (h : St B w0 w p q m x iv rv N) (j : Nat) : St B w0 (w.drewN j) p q m x iv rv N := h.call (below_dN (Below.refl _ _) j)
theorem St.drew (h : St B w0 w p q m x iv rv N) : St B w0 w.drew p q m x iv rv N := h.drewN 1
theorem St.alloc (h : St B w0 w p q m x iv rv N) (o : Obj) : St B w0 (w.alloc o) p q m x iv rv N := h.call ((Below.refl _ _).alloc (Nat.le_refl _) o)
theorem Going.call (h : Going B p q m x w0 k w) (hb : Below w.heap.size w w') : Going B p q m x w0 k w' := by
  obtain ⟨iv, rv, N, h1, h2⟩ := h; exact ⟨iv, rv, N, h1.call hb, h2⟩
theorem Going.mono (h : Going B p q m x w0 k w) {j : Nat} (hj : k ≤ j) : Going B p q m x w0 j w := by
  obtain ⟨iv, rv, N, h1, h2⟩ := h; exact ⟨iv, rv, N, h1, Nat.le_trans h2 hj⟩
theorem Going.below (h : Going B p q m x w0 k w) : Below B w0 w := by
  obtain ⟨iv, rv, N, h1, h2⟩ := h; exact h1.below
theorem putL_len (N : List It) (f v : Int) : (putL N f v).length ≤ N.length + 1 := by
  unfold putL
  split
  · split
    · simp
    · simp
  · omega
/-- Behind the program's call: the reference still has what was there. -/
structure Half (B : Nat) (w0 w : World) (p q m x : Nat) (iv rv : Value) (N N' : List It) : Prop where
  pick : PickAt B w p q m iv N'
  ref : RefX B w x rv N
  dst : Dst N
  below : Below B w0 w
theorem St.half (h : St B w0 w p q m x iv rv N) {r : Value} {e : Ending} (d : Did B w p q m iv N' r e w') : e = .returned r ∧ ∃ iv', Half B w0 w' p q m x iv' rv N N' ∧ Grew w w' q m iv iv' := by
  obtain ⟨e1, iv', h1, g⟩ := d
  exact ⟨e1, iv', ⟨h1, h.ref.beside h.pick.qs g, h.dst, h.below.trans (h.pick.below g)⟩, g⟩
theorem Half.drew (h : Half B w0 w p q m x iv rv N N') : Half B w0 w.drew p q m x iv rv N N' := ⟨h.pick.drewN 1, h.ref.drewN 1, h.dst, ⟨h.below.os, h.below.tape, h.below.output, h.below.size, h.below.block⟩⟩
theorem Half.call (h : Half B w0 w p q m x iv rv N N') (hb : Below w.heap.size w w') : Half B w0 w' p q m x iv rv N N' := ⟨h.pick.call hb, h.ref.call hb, h.dst, h.below.trans (hb.mono h.pick.lo)⟩
theorem Half.whole (h : Half B w0 w p q m x iv rv N N') {r : Value} {e : Ending} (d : DidR B w x rv N' r e w') (hd : Dst N') : e = .returned r ∧ ∃ rv', St B w0 w' p q m x iv rv' N' ∧ GrewR w w' x rv rv' := by
  obtain ⟨e1, rv', h1, g⟩ := d
  exact ⟨e1, rv', ⟨h.pick.beside h.ref g, h1, hd, h.below.trans (g.below h.ref)⟩, g⟩
/-- A call of a list of calls, as it lies in a later world. -/
theorem acts_now {W w : World} {b n i : Nat} {A : Option Addr} (h : Acts W b A n) (hb : Below b W w) (hi : i < n) :
    ∃ ad, A = some ad ∧ (ad.add (i * 3)).block < b ∧ ∃ c, IsAct c ∧ ActAt w (ad.add (i * 3)) c := by
  obtain ⟨p, e, hlt, hc⟩ := (h.below hb) (by omega)
  obtain ⟨c, ok, hat⟩ := hc i hi
  exact ⟨p, e, by rw [block_add]; exact hlt, c, ok, hat⟩
theorem fits_i64 {z : Int} (h : I64 z) : Fits z := h
end
end Go.Proofs.Ytgkliffhdibghaa
