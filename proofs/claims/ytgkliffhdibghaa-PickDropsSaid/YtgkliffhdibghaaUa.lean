/- The reference: frames in the order in which they came, as they lie; At, Put. -/
import Derived.Test.YtgkliffhdibghaaTf
namespace Go.Proofs.Ytgkliffhdibghaa
open Go.RowKit

/-- The reference in block x: its items in the slice rv. -/
structure RefX (B : Nat) (w : World) (x : Nat) (rv : Value) (N : List It) : Prop where
  top : Lrow w x 28 [rv]
  own : w.ownsRow B 38 2 rv N.length (pcells N)
  lx : B ≤ x
/-- The blocks that its calls turn. -/
def MineR (x : Nat) (rv : Value) (k : Nat) : Prop := k = x ∨ rv.ownBlock = some k
/-- What a call of it leaves. -/
structure GrewR (w w' : World) (x : Nat) (rv rv' : Value) : Prop where
  foot : Foot (MineR x rv) w w'
  at_ : ∀ g, rv'.ownBlock = some g → rv.ownBlock = some g ∨ w.heap.size ≤ g
section
variable {w w' w'' : World} {B x n i : Nat} {rv rv' rv'' : Value} {N N' : List It}
theorem RefX.keep (h : RefX B w x rv N) (hk : ∀ k, MineR x rv k → w'.heap[k]? = w.heap[k]?) : RefX B w' x rv N :=
  ⟨(hk x (Or.inl rfl)).trans h.top, own_heap h.own (fun g e => hk g (Or.inr e)), h.lx⟩
theorem RefX.lt (h : RefX B w x rv N) : ∀ k, MineR x rv k → k < w.heap.size := by
  rintro k (rfl | e)
  · exact h.top.lt
  · obtain ⟨vs, r, _⟩ := own_block h.own e; exact r.lt
theorem RefX.lo (h : RefX B w x rv N) : ∀ k, MineR x rv k → B ≤ k := by
  rintro k (rfl | e)
  · exact h.lx
  · obtain ⟨vs, _, r⟩ := own_block h.own e; exact r
theorem RefX.lB (h : RefX B w x rv N) : B ≤ w.heap.size := by have := h.lx; have := h.top.lt; omega
theorem RefX.call (h : RefX B w x rv N) (hb : Below w.heap.size w w') : RefX B w' x rv N := h.keep fun k hk => hb.block k (h.lt k hk)
theorem RefX.alloc (h : RefX B w x rv N) (o : Obj) : RefX B (w.alloc o) x rv N := h.call ((Below.refl _ _).alloc (Nat.le_refl _) o)
theorem RefX.drewN (h : RefX B w x rv N) (k : Nat) : RefX B (w.drewN k) x rv N := h.call (below_dN (Below.refl _ _) k)
theorem RefX.foot {X : Nat → Prop} (h : RefX B w x rv N) (hf : Foot X w w') (hx : ∀ k, MineR x rv k → ¬ X k) : RefX B w' x rv N := h.keep fun k hk => hf.keep k (h.lt k hk) (hx k hk)
theorem RefX.other (h : RefX B w x rv N) {g : Nat} {t : TypeId} {vs : List Value} (r : Lrow w g t vs) (h1 : t ≠ 28) (h2 : t ≠ 38) : ¬ MineR x rv g := by
  rintro (rfl | e)
  · exact r.apart h.top h1 rfl
  · obtain ⟨us, r2, _⟩ := own_block h.own e
    exact r.apart r2 h2 rfl
theorem RefX.c0 (h : RefX B w x rv N) : w.cell? ⟨x, 0, none⟩ = some rv := by rw [h.top.cell]; rfl
theorem RefX.items {A : Option Addr} {c : Nat} (h : RefX B w x (.slice A N.length c) N) (h0 : 0 < N.length) : ∃ g, A = some ⟨g, 0, none⟩ ∧ g < w.heap.size ∧ (∀ i, w.frozen? ⟨g, i, none⟩ = false) ∧ ∀ k, k < N.length → w.cell? ⟨g, k * 2, none⟩ = some (.int .i64 (at' N k).1) ∧ w.cell? ⟨g, k * 2 + 1, none⟩ = some (.int .i64 (at' N k).2) := by
  rcases h.own.2 with ⟨e, e2⟩ | ⟨g, cap, cur, e, hB, hg, hn, hc, hs, ht⟩
  · omega
  · injection e with e _ ec
    subst ec
    obtain ⟨rest, r, _⟩ := own_row h.own e
    refine ⟨g, e, r.lt, r.frozen, fun k hk => ?_⟩
    obtain ⟨p1, p2⟩ := pcells_at N k hk
    have hl := pcells_length N
    rw [r.cell, r.cell, List.getElem?_append_left (by omega), List.getElem?_append_left (by omega)]
    exact ⟨p1, p2⟩
theorem GrewR.mine (h : GrewR w w' x rv rv') : ∀ b, MineR x rv' b → b < w.heap.size → MineR x rv b := by
  rintro b (rfl | e) hb
  · exact Or.inl rfl
  · rcases h.at_ b e with e2 | e2
    · exact Or.inr e2
    · omega
theorem GrewR.of_below (h : Below w.heap.size w w') : GrewR w w' x rv rv := ⟨Foot.of_below h, fun _ e => Or.inl e⟩
theorem at_of (h : rv'.ownBlock = rv.ownBlock ∨ ∃ g, rv'.ownBlock = some g ∧ w.heap.size ≤ g) : ∀ g, rv'.ownBlock = some g → rv.ownBlock = some g ∨ w.heap.size ≤ g := fun g e => by
  rcases h with h | ⟨g2, e2, hg⟩
  · exact Or.inl (h ▸ e)
  · rw [e2] at e; injection e with e; exact Or.inr (e ▸ hg)
theorem GrewR.trans (h : GrewR w w' x rv rv') (k : GrewR w' w'' x rv' rv'') : GrewR w w'' x rv rv'' := by
  refine ⟨h.foot.trans k.foot h.mine, fun g e => ?_⟩
  rcases k.at_ g e with e2 | e2
  · exact h.at_ g e2
  · exact Or.inr (Nat.le_trans h.foot.size e2)
theorem GrewR.below (g : GrewR w w' x rv rv') (h : RefX B w x rv N) : Below B w w' := g.foot.below h.lB h.lo
/-- The row has been laid anew, and the struct tells so. -/
theorem RefX.laid {w5 : World} (h : RefX B w x rv N) (hg : w.grownBy w5 rv.ownBlock) (ho : w5.ownsRow B 38 2 rv' N'.length (pcells N')) :
    RefX B (w5.setCell ⟨x, 0, none⟩ rv') x rv' N' ∧ Foot (MineR x rv) w (w5.setCell ⟨x, 0, none⟩ rv') ∧ Lrow w5 x 28 [rv] := by
  have hq : some x ≠ rv.ownBlock := fun e => by
    obtain ⟨vs, r, _⟩ := own_block h.own e.symm
    exact h.top.apart r (by decide) rfl
  have htp := h.top.grown hg hq
  refine ⟨⟨htp.set_ 0 rv', own_heap ho (fun g e => ?_), h.lx⟩, ?_, htp⟩
  · obtain ⟨vs, r, _⟩ := own_block ho e
    exact Below.heap_setCell w5 ⟨x, 0, none⟩ rv' g (r.apart htp (by decide))
  · exact (Foot.grownO hg (fun b e _ => Or.inr e)).trans (Foot.grown (X := fun k => k = x) (grown_set w5 x 0 rv') rfl) (fun b e _ => Or.inl e)
end
/-- Where a frame stands; below 0: nowhere. -/
def atI (N : List It) (f : Int) : Int := if hasF N f = true then (ix N f : Int) else -1
section
variable {w : World} {B x : Nat} {rv : Value} {N : List It}
set_option maxHeartbeats 1000000 in
theorem refAt_any (h : RefX B w x rv N) (hl : N.length ≤ 6000) (f : Int) : Calls Try.prog 19 #[.pointer (some ⟨x, 0, none⟩), .int .i64 f] w fun e w' => e = .returned (.int .i64 (atI N f)) ∧ w = w' := by
  obtain ⟨A, c, e⟩ := own_form h.own
  subst e
  have hc := h.c0
  have H := Lib.hid h
  obtain ⟨n, hn⟩ : ∃ n, n = N.length := ⟨_, rfl⟩
  rw [← hn] at hc hl
  have HN := Lib.hid hn
  have n6 : (n : Int) ≤ 6000 := by omega
  clear h hn
  go_enter Try.func19, Try.ntmps19
  go_wp2
  go_loop [5] (fun i => ∃ k : Nat, k ≤ n ∧ i = .int .i64 k ∧ Hid (∀ j, j < k → (at' N j).1 ≠ f)) (fun i => n - (intOf i).toNat)
  case atStart => exact ⟨0, Nat.zero_le _, rfl, fun j hj => by omega⟩
  case round =>
    obtain ⟨k, hk, rfl, hb⟩ := hrel
    by_cases hlt : k < n
    · obtain ⟨g, hA, hgl, -, hit⟩ := H.out.items (by have := HN.out; omega)
      subst hA
      obtain ⟨a1, -⟩ := hit k (by have := HN.out; omega)
      have hkN := Lib.hid hlt
      have k0 : (0 : Int) ≤ k := by omega
      have kl : (k : Int) < n := by omega
      obtain ⟨y, hy⟩ : ∃ y, y = (at' N k).1 := ⟨_, rfl⟩
      rw [← hy] at a1
      have HY := Lib.hid hy
      clear hit hy hgl
      by_cases hf : y = f
      · subst hf
        have e := Lib.hid (show atI N y = (k : Int) by
          have h1 : ix N y = k := ix_eq (by have := HN.out; have := hkN.out; omega) HY.out.symm hb.out
          unfold atI
          rw [if_pos (hasF_iff.2 ⟨_, at_mem (k := k) (by have := HN.out; have := hkN.out; omega), HY.out.symm⟩), h1])
        clear hb
        go_wp2
        go_ret
        exact ⟨ret_int e.out.symm, rfl⟩
      · have hne : (y == f) = false := by simpa using hf
        go_wp2
        go_round
        case rel => exact ⟨k + 1, by have := hkN.out; omega, by go_num, (show Hid _ from fun j hj => by
          by_cases e : j = k
          · subst e; rw [← HY.out]; exact hf
          · exact hb.out j (by omega))⟩
        case measure => have := hkN.out; simp [intOf]; omega
    · have hkn : k = n := by omega
      have e := Lib.hid (show atI N f = -1 by
        unfold atI
        rw [if_neg (by rw [ix_none (fun j hj => hb.out j (by have := HN.out; omega))]; decide)])
      have hd : ¬ (k : Int) < n := by omega
      clear hb hkn
      go_wp2
      go_ret
      exact ⟨ret_int e.out.symm, rfl⟩
end
end Go.Proofs.Ytgkliffhdibghaa
