/- Package pool: a pool as it lies; has, with, without, loose. -/
import Derived.Test.YtllepijlebbjbaaPoR
namespace Go.Proofs.Ytllepijlebbjbaa
open Go.RowKit
/-- A pool: its struct in block s, two lists of numbers of its own. -/
structure PlR (B : Nat) (w : World) (s : Nat) (z m : Int) (F U : Value) (Lf Lu : List Int) (P Q : Int) : Prop where
  top : Lrow w s 56 [.int .i64 z, .int .i64 m, F, U, .int .i64 P, .int .i64 Q]
  f : EI.Own B w F Lf
  u : EI.Own B w U Lu
  lo : B ≤ s
  fu : ∀ k, F.ownBlock = some k → U.ownBlock ≠ some k
def MineP (s : Nat) (F U : Value) (k : Nat) : Prop := k = s ∨ F.ownBlock = some k ∨ U.ownBlock = some k
/-- What some calls have done: nothing but X has turned, X' is of X or new. -/
def Chg (X X' : Nat → Prop) (w w' : World) : Prop := Foot X w w' ∧ ∀ k, X' k → X k ∨ w.heap.size ≤ k
theorem Chg.trans {X X' X'' : Nat → Prop} {w w' w'' : World} (h : Chg X X' w w') (k : Chg X' X'' w' w'') : Chg X X'' w w'' :=
  ⟨h.1.trans k.1 fun b hb hl => by
    rcases h.2 b hb with e | e
    · exact e
    · omega, fun b hb => by
    rcases k.2 b hb with e | e
    · exact h.2 b e
    · have := h.1.size; exact Or.inr (by omega)⟩
theorem Chg.of_below {X : Nat → Prop} {w w' : World} (h : Below w.heap.size w w') : Chg X X w w' := ⟨Foot.of_below h, fun _ e => Or.inl e⟩
theorem grown_to {w W W' : World} {r : Option Nat} (h : w.grownBy W r) (k : Below w.heap.size W W') : w.grownBy W' r :=
  ⟨k.os.trans h.os, k.tape.trans h.tape, k.output.trans h.output, Nat.le_trans h.size k.size, fun b hb hn => (k.block b hb).trans (h.block b hb hn)⟩
section
variable {w w' W : World} {B s : Nat} {z m P Q : Int} {F U F' U' : Value} {Lf Lu R : List Int}
theorem PlR.sf (h : PlR B w s z m F U Lf Lu P Q) : F.ownBlock ≠ some s := fun e => by
  obtain ⟨vs, r, _⟩ := h.f.block e
  exact r.apart h.top (by decide) rfl
theorem PlR.su (h : PlR B w s z m F U Lf Lu P Q) : U.ownBlock ≠ some s := fun e => by
  obtain ⟨vs, r, _⟩ := h.u.block e
  exact r.apart h.top (by decide) rfl
theorem PlR.mine (h : PlR B w s z m F U Lf Lu P Q) : ∀ k, MineP s F U k → B ≤ k ∧ k < w.heap.size := by
  rintro k (rfl | e | e)
  · exact ⟨h.lo, h.top.lt⟩
  · obtain ⟨vs, r, hl⟩ := h.f.block e; exact ⟨hl, r.lt⟩
  · obtain ⟨vs, r, hl⟩ := h.u.block e; exact ⟨hl, r.lt⟩
theorem PlR.lw (h : PlR B w s z m F U Lf Lu P Q) : B ≤ w.heap.size := by have := h.lo; have := h.top.lt; omega
theorem PlR.keep (h : PlR B w s z m F U Lf Lu P Q) (hk : ∀ k, MineP s F U k → w'.heap[k]? = w.heap[k]?) : PlR B w' s z m F U Lf Lu P Q :=
  ⟨(hk _ (Or.inl rfl)).trans h.top, h.f.heap fun g e => hk g (Or.inr (Or.inl e)), h.u.heap fun g e => hk g (Or.inr (Or.inr e)), h.lo, h.fu⟩
theorem PlR.call (h : PlR B w s z m F U Lf Lu P Q) (hb : Below w.heap.size w w') : PlR B w' s z m F U Lf Lu P Q := h.keep fun k hk => hb.block k (h.mine k hk).2
theorem PlR.drewN (h : PlR B w s z m F U Lf Lu P Q) (k : Nat) : PlR B (w.drewN k) s z m F U Lf Lu P Q := h.call (below_dN (Below.refl _ _) k)
theorem set_foot (s : Nat) (X : Nat → Prop) (hX : X s) (w : World) (i : Nat) (v : Value) : Foot X w (w.setCell ⟨s, i, none⟩ v) where
  keep j _ hj := Below.heap_setCell _ _ _ j (fun e => hj (by rw [e]; exact hX))
  size := by simp [World.setCell]
  os := rfl
  tape := rfl
  output := rfl
theorem PlR.setP (h : PlR B w s z m F U Lf Lu P Q) (v : Int) : PlR B (w.setCell ⟨s, 4, none⟩ (.int .i64 v)) s z m F U Lf Lu v Q ∧ Chg (MineP s F U) (MineP s F U) w (w.setCell ⟨s, 4, none⟩ (.int .i64 v)) :=
  ⟨⟨h.top.set_ 4 (.int .i64 v), h.f.heap fun g e => Below.heap_setCell _ _ _ g (fun d => h.sf (e.trans (congrArg some (show g = s from d)))), h.u.heap fun g e => Below.heap_setCell _ _ _ g (fun d => h.su (e.trans (congrArg some (show g = s from d)))), h.lo, h.fu⟩, set_foot s _ (Or.inl rfl) w 4 _, fun _ e => Or.inl e⟩
theorem PlR.setQ (h : PlR B w s z m F U Lf Lu P Q) (v : Int) : PlR B (w.setCell ⟨s, 5, none⟩ (.int .i64 v)) s z m F U Lf Lu P v ∧ Chg (MineP s F U) (MineP s F U) w (w.setCell ⟨s, 5, none⟩ (.int .i64 v)) :=
  ⟨⟨h.top.set_ 5 (.int .i64 v), h.f.heap fun g e => Below.heap_setCell _ _ _ g (fun d => h.sf (e.trans (congrArg some (show g = s from d)))), h.u.heap fun g e => Below.heap_setCell _ _ _ g (fun d => h.su (e.trans (congrArg some (show g = s from d)))), h.lo, h.fu⟩, set_foot s _ (Or.inl rfl) w 5 _, fun _ e => Or.inl e⟩
/-- Another list of the free. -/
theorem PlR.putF (h : PlR B w s z m F U Lf Lu P Q) (ho : EI.Own B W F' R) (hg : w.grownBy W F.ownBlock) (hb : F'.ownBlock = F.ownBlock ∨ ∃ b, F'.ownBlock = some b ∧ w.heap.size ≤ b) :
    (∀ i, W.cell? ⟨s, i, none⟩ = w.cell? ⟨s, i, none⟩ ∧ W.frozen? ⟨s, i, none⟩ = false) ∧ PlR B (W.setCell ⟨s, 2, none⟩ F') s z m F' U R Lu P Q ∧ Chg (MineP s F U) (MineP s F' U) w (W.setCell ⟨s, 2, none⟩ F') := by
  have ht : Lrow W s 56 [.int .i64 z, .int .i64 m, F, U, .int .i64 P, .int .i64 Q] := h.top.grown hg (fun e => h.sf e.symm)
  have hu : EI.Own B W U Lu := h.u.heap fun g e => by
    obtain ⟨vs, r, _⟩ := h.u.block e
    exact hg.block g r.lt fun d => h.fu g d.symm e
  refine ⟨fun i => ⟨by rw [ht.cell, h.top.cell], ht.frozen i⟩, ⟨ht.set_ 2 F', ho.heap fun g e => Below.heap_setCell _ _ _ g fun d => ?_, hu.heap fun g e => Below.heap_setCell _ _ _ g fun d => ?_, h.lo, fun k e d => ?_⟩, ⟨rfl |>.trans hg.os, hg.tape, hg.output, by have := hg.size; simpa [World.setCell] using this, fun k hk hn => ?_⟩, ?_⟩
  · obtain ⟨vs, r, _⟩ := ho.block e
    exact r.apart ht (by decide) d
  · exact h.su (e.trans (congrArg some (show g = s from d)))
  · rcases hb with c | ⟨b, c, l⟩
    · exact h.fu k (c ▸ e) d
    · rw [c] at e
      injection e with e
      obtain ⟨vs, r, _⟩ := h.u.block d
      have := r.lt; omega
  · exact (Below.heap_setCell _ _ _ k fun d => hn (Or.inl d)).trans (hg.block k hk fun d => hn (Or.inr (Or.inl d.symm)))
  · rintro k (e | e | e)
    · exact Or.inl (Or.inl e)
    · rcases hb with c | ⟨b, c, l⟩
      · exact Or.inl (Or.inr (Or.inl (c ▸ e)))
      · rw [c] at e; injection e with e; exact Or.inr (by omega)
    · exact Or.inl (Or.inr (Or.inr e))
theorem PlR.putU (h : PlR B w s z m F U Lf Lu P Q) (ho : EI.Own B W U' R) (hg : w.grownBy W U.ownBlock) (hb : U'.ownBlock = U.ownBlock ∨ ∃ b, U'.ownBlock = some b ∧ w.heap.size ≤ b) :
    (∀ i, W.cell? ⟨s, i, none⟩ = w.cell? ⟨s, i, none⟩ ∧ W.frozen? ⟨s, i, none⟩ = false) ∧ PlR B (W.setCell ⟨s, 3, none⟩ U') s z m F U' Lf R P Q ∧ Chg (MineP s F U) (MineP s F U') w (W.setCell ⟨s, 3, none⟩ U') := by
  have ht : Lrow W s 56 [.int .i64 z, .int .i64 m, F, U, .int .i64 P, .int .i64 Q] := h.top.grown hg (fun e => h.su e.symm)
  have hf : EI.Own B W F Lf := h.f.heap fun g e => by
    obtain ⟨vs, r, _⟩ := h.f.block e
    exact hg.block g r.lt fun d => h.fu g e d.symm
  refine ⟨fun i => ⟨by rw [ht.cell, h.top.cell], ht.frozen i⟩, ⟨ht.set_ 3 U', hf.heap fun g e => Below.heap_setCell _ _ _ g fun d => ?_, ho.heap fun g e => Below.heap_setCell _ _ _ g fun d => ?_, h.lo, fun k e d => ?_⟩, ⟨rfl |>.trans hg.os, hg.tape, hg.output, by have := hg.size; simpa [World.setCell] using this, fun k hk hn => ?_⟩, ?_⟩
  · exact h.sf (e.trans (congrArg some (show g = s from d)))
  · obtain ⟨vs, r, _⟩ := ho.block e
    exact r.apart ht (by decide) d
  · rcases hb with c | ⟨b, c, l⟩
    · exact h.fu k e (c ▸ d)
    · rw [c] at d
      injection d with d
      obtain ⟨vs, r, _⟩ := h.f.block e
      have := r.lt; omega
  · exact (Below.heap_setCell _ _ _ k fun d => hn (Or.inl d)).trans (hg.block k hk fun d => hn (Or.inr (Or.inr d.symm)))
  · rintro k (e | e | e)
    · exact Or.inl (Or.inl e)
    · exact Or.inl (Or.inr (Or.inl e))
    · rcases hb with c | ⟨b, c, l⟩
      · exact Or.inl (Or.inr (Or.inr (c ▸ e)))
      · rw [c] at e; injection e with e; exact Or.inr (by omega)
end
section
variable {w : World} {B : Nat} {v : Value} {L : List Int}
theorem has_i (h : EI.Own B w v L) (hu : UpN L) (hl : L.length ≤ 4096) (x : Int) :
    Calls Try.prog 46 #[v, .int .i64 x] w fun e w' => e = .returned (.bool (decide (x ∈ L))) ∧ ∃ q, w' = w.drewN q := by
  obtain ⟨A, c, rfl⟩ := h.form
  have hs := search_i h hu hl x
  generalize cutN x L = i at hs
  generalize decide (x ∈ L) = b at hs ⊢
  generalize L.length = n at hs ⊢
  clear h hu hl
  go_enter Try.func46, Try.ntmps46
  go_wp2_with fail
  refine hs.mono ?_
  rintro e w1 ⟨rfl, q, rfl⟩
  clear hs
  go_wp2_with fail
  go_ret
  exact ⟨rfl, q, rfl⟩
theorem with_i (h : EI.Own B w v L) (hB : B ≤ w.heap.size) (hu : UpN L) (hl : L.length ≤ 4096) (x : Int) :
    Calls Try.prog 44 #[v, .int .i64 x] w (InsI B v (insN x L) w) := by
  obtain ⟨A, c, rfl⟩ := h.form
  have hs := search_i h hu hl x
  have hle := cutN_le x L
  have HI : Hid (∀ q, Calls Try.prog 50 #[.slice A L.length c, .int .i64 (cutN x L : Nat), .slice (some ⟨w.heap.size, 0, none⟩) 1 1] ((w.drewN q).alloc (.cells #[.int .i64 x] 3)) (InsI B (.slice A L.length c) (insN x L) ((w.drewN q).alloc (.cells #[.int .i64 x] 3)))) := fun q => by
    have hb : Below w.heap.size w ((w.drewN q).alloc (.cells #[.int .i64 x] 3)) := (below_dN (Below.refl _ _) q).alloc (Nat.le_refl _) _
    exact insert_i (h.call hb) (Nat.le_trans hB hb.size) (Lrow.new (w.drewN q) 3 [.int .i64 x]) (fun e => by
      obtain ⟨vs, r, _⟩ := h.block e
      exact absurd r.lt (Nat.lt_irrefl _)) hle hl
  have HE : Hid (∀ q e w', InsI B (.slice A L.length c) (insN x L) ((w.drewN q).alloc (.cells #[.int .i64 x] 3)) e w' → InsI B (.slice A L.length c) (insN x L) w e w') := by
    rintro q e w' ⟨v', rfl, o, g, t⟩
    have hb : Below w.heap.size w ((w.drewN q).alloc (.cells #[.int .i64 x] 3)) := (below_dN (Below.refl _ _) q).alloc (Nat.le_refl _) _
    refine ⟨v', rfl, o, ⟨g.os.trans hb.os, g.tape.trans hb.tape, g.output.trans hb.output, Nat.le_trans hb.size g.size, fun k hk hn => (g.block k (Nat.lt_of_lt_of_le hk hb.size) hn).trans (hb.block k hk)⟩, t.imp id fun ⟨b, e, l⟩ => ⟨b, e, Nat.le_trans hb.size l⟩⟩
  have i0 : (0 : Int) ≤ (cutN x L : Nat) := by omega
  generalize insN x L = R at HI HE ⊢
  generalize cutN x L = i at hs HI i0
  generalize decide (x ∈ L) = b at hs
  generalize L.length = n at hs HI HE ⊢
  clear h hu hl hle hB
  go_enter Try.func44, Try.ntmps44
  go_wp2_with fail
  refine hs.mono ?_
  rintro e w1 ⟨rfl, q, rfl⟩
  clear hs
  have hi := HI.out q
  go_wp2_with fail
  refine hi.mono ?_
  rintro e w2 hins
  have hins := HE.out q e w2 hins
  obtain ⟨v', rfl, o, g, t⟩ := hins
  have HO := Lib.hid (And.intro o (And.intro g t))
  clear hi o g t
  go_wp2_with fail
  go_ret
  exact ⟨v', rfl, HO.out.1, HO.out.2.1, HO.out.2.2⟩
theorem without_i (h : EI.Own B w v L) (hu : UpN L) (hl : L.length ≤ 4096) {x : Int} (hx : x ∈ L) :
    Calls Try.prog 43 #[v, .int .i64 x] w (DelI B v (delN x L) w) := by
  obtain ⟨A, c, rfl⟩ := h.form
  have hs := search_i h hu hl x
  have hle := cutN_le x L
  have HI : Hid (∀ q, Calls Try.prog 49 #[.slice A L.length c, .int .i64 (cutN x L : Nat), .int .i64 ((cutN x L : Nat) + 1)] (w.drewN q) (DelI B (.slice A L.length c) (delN x L) (w.drewN q))) := fun q => delete_i (h.drewN q) hu hx
  have HE : Hid (∀ q e w', DelI B (.slice A L.length c) (delN x L) (w.drewN q) e w' → DelI B (.slice A L.length c) (delN x L) w e w') := by
    rintro q e w' ⟨v', rfl, o, g, t⟩
    exact ⟨v', rfl, o, (grown_drewN w q _).trans g, t⟩
  have i0 : (0 : Int) ≤ (cutN x L : Nat) := by omega
  have hw : IntKind.i64.wrap ((cutN x L : Nat) + 1) = (cutN x L : Nat) + 1 := IntWalk.i64_in _ (by omega)
  generalize delN x L = R at HI HE ⊢
  generalize cutN x L = i at hs HI i0 hw
  generalize decide (x ∈ L) = b at hs
  generalize L.length = n at hs HI HE ⊢
  clear h hu hl hle hx
  go_enter Try.func43, Try.ntmps43
  go_wp2_with fail
  refine hs.mono ?_
  rintro e w1 ⟨rfl, q, rfl⟩
  clear hs
  have hi := HI.out q
  go_wp2_with fail
  refine hi.mono ?_
  rintro e w2 hins
  have hins := HE.out q e w2 hins
  obtain ⟨v', rfl, o, g, t⟩ := hins
  have HO := Lib.hid (And.intro o (And.intro g t))
  clear hi o g t
  go_wp2_with fail
  go_ret
  exact ⟨v', rfl, HO.out.1, HO.out.2.1, HO.out.2.2⟩
end
end Go.Proofs.Ytllepijlebbjbaa
