/- Both sides and what is taken, held together in one state; what a step leaves as it was. -/
import Derived.Test.YtgkjkjpeolhgbaaCn
namespace Go.Proofs.Ytgkjkjpeolhgbaa
open Go.RowKit

/-- The types of the blocks that steps turn. -/
def Own (t : TypeId) : Prop := t = 3 ∨ t = 66 ∨ t = 35 ∨ t = 40 ∨ t = 4
/-- A step: all below B stands, and each block that is known whole, but of the types that steps turn, and but for the row of what is taken. -/
structure Step (B : Nat) (w w' : World) (tv tv' : Value) : Prop where
  below : Below B w w'
  keep : ∀ g t vs, Lrow w g t vs → ¬ Own t → some g ≠ tv.ownBlock → Lrow w' g t vs
  tb : tv'.ownBlock = tv.ownBlock ∨ ∃ g, tv'.ownBlock = some g ∧ w.heap.size ≤ g
section
variable {w w' w'' : World} {B g : Nat} {t : TypeId} {vs : List Value} {tv tv' tv'' : Value}
theorem Step.refl (B : Nat) (w : World) (tv : Value) : Step B w w tv tv := ⟨Below.refl _ _, fun _ _ _ r _ _ => r, Or.inl rfl⟩
theorem Step.trans (h : Step B w w' tv tv') (k : Step B w' w'' tv' tv'') : Step B w w'' tv tv'' := by
  refine ⟨h.below.trans k.below, fun g t vs r h1 h2 => ?_, ?_⟩
  · refine k.keep g t vs (h.keep g t vs r h1 h2) h1 ?_
    rcases h.tb with e | ⟨q, e, hq⟩
    · rw [e]; exact h2
    · rw [e]
      intro e2
      injection e2 with e2
      have := r.lt; omega
  · rcases k.tb with e | ⟨q, e, hq⟩
    · rw [e]; exact h.tb
    · exact Or.inr ⟨q, e, Nat.le_trans h.below.size hq⟩
theorem Step.turn (h : Turn B w w') (tv : Value) : Step B w w' tv tv := ⟨h.below, fun g t vs r h1 _ => h.row g t vs r (fun e => h1 (Or.inl e)) (fun e => h1 (Or.inr (Or.inl e))), Or.inl rfl⟩
theorem Step.call (h : Below w.heap.size w w') (hB : B ≤ w.heap.size) (tv : Value) : Step B w w' tv tv := Step.turn (Turn.of_below h hB) tv
theorem Step.grown {b : Nat} (r : Lrow w b t vs) (ht : Own t) (hB : B ≤ b) (hg : w.grownBy w' (some b)) (tv : Value) : Step B w w' tv tv := by
  refine ⟨⟨hg.os, hg.tape, hg.output, hg.size, fun k hk => hg.block k (by have := r.lt; omega) (by intro e; injection e with e; omega)⟩, fun g s us q h1 _ => q.grown hg ?_, Or.inl rfl⟩
  intro e
  injection e with e
  subst e
  exact q.apart r (fun e => h1 (e ▸ ht)) rfl
/-- What is taken has grown. -/
theorem Step.took (hg : w.grownBy w' tv.ownBlock) (hB : B ≤ w.heap.size) (ho : ∀ k, tv.ownBlock = some k → B ≤ k) (ht : tv'.ownBlock = tv.ownBlock ∨ ∃ g, tv'.ownBlock = some g ∧ w.heap.size ≤ g) : Step B w w' tv tv' :=
  ⟨(Below.refl B w).grown hg hB ho, fun _ _ _ q _ h2 => q.grown hg h2, ht⟩
end
/-- The state: the lists of free blocks over F, the reference over G, and what is taken, T, in the slice tv. -/
structure St (B : Nat) (w : World) (s a x y n : Nat) (F G : List Bool) (T : List (Nat × Nat)) (tv : Value) : Prop where
  bud : ∃ L, BudAt B w a n L ∧ Good F L
  ref : RefAt w x y n G
  top : Lrow w s 35 [.pointer (some ⟨a, 0, none⟩), .pointer (some ⟨x, 0, none⟩), tv]
  own : w.ownsRow B 59 2 tv T.length (bcells T)
  len : F.length = n
  n10 : n ≤ 1024
  ls : B ≤ s
  lx : B ≤ x
  ly : B ≤ y
section
variable {w w' : World} {B s a x y n : Nat} {F G F' G' : List Bool} {T T' : List (Nat × Nat)} {tv tv' : Value}
theorem St.lo (h : St B w s a x y n F G T tv) : B ≤ w.heap.size := by have := h.top.lt; have := h.ls; omega
theorem St.c0 (h : St B w s a x y n F G T tv) : w.cell? ⟨s, 0, none⟩ = some (.pointer (some ⟨a, 0, none⟩)) := by rw [h.top.cell]; rfl
theorem St.c1 (h : St B w s a x y n F G T tv) : w.cell? ⟨s, 1, none⟩ = some (.pointer (some ⟨x, 0, none⟩)) := by rw [h.top.cell]; rfl
theorem St.c2 (h : St B w s a x y n F G T tv) : w.cell? ⟨s, 2, none⟩ = some tv := by rw [h.top.cell]; rfl
theorem ownRow_call {v : Value} {m : Nat} {xs : List Value} (h : w.ownsRow B 59 2 v m xs) (hb : Below w.heap.size w w') : w'.ownsRow B 59 2 v m xs := by
  refine ⟨h.1, ?_⟩
  rcases h.2 with hn | ⟨g, cap, cur, rfl, hbg, hg, rest⟩
  · exact Or.inl hn
  · exact Or.inr ⟨g, cap, cur, rfl, hbg, (hb.block g (Array.getElem?_eq_some_iff.1 hg).1).trans hg, rest⟩
theorem ownRow_keep {v : Value} {m : Nat} {xs : List Value} (h : w.ownsRow B 59 2 v m xs) (hk : ∀ g vs, Lrow w g 59 vs → Lrow w' g 59 vs) : w'.ownsRow B 59 2 v m xs := by
  refine ⟨h.1, ?_⟩
  rcases h.2 with hn | ⟨g, cap, cur, rfl, hbg, hg, rest⟩
  · exact Or.inl hn
  · exact Or.inr ⟨g, cap, cur, rfl, hbg, hk g cur.toList hg, rest⟩
theorem St.call (h : St B w s a x y n F G T tv) (hb : Below w.heap.size w w') : St B w' s a x y n F G T tv := by
  obtain ⟨L, h1, h2⟩ := h.bud
  exact ⟨⟨L, h1.call hb, h2⟩, h.ref.call hb, h.top.call hb, ownRow_call h.own hb, h.len, h.n10, h.ls, h.lx, h.ly⟩
theorem St.alloc (h : St B w s a x y n F G T tv) (o : Obj) : St B (w.alloc o) s a x y n F G T tv := h.call ((Below.refl _ _).alloc (Nat.le_refl _) o)
theorem St.drewN (h : St B w s a x y n F G T tv) (q : Nat) : St B (w.drewN q) s a x y n F G T tv := h.call (below_dN (Below.refl _ _) q)
theorem St.budTurn (h : St B w s a x y n F G T tv) (ht : Turn B w w') {L' : Nat → List Nat} (hb : BudAt B w' a n L') (hg : Good F' L') (hl : F'.length = n) : St B w' s a x y n F' G T tv :=
  ⟨⟨L', hb, hg⟩, h.ref.turn ht, ht.row _ _ _ h.top (by decide) (by decide), ownRow_keep h.own (fun g vs r => ht.row _ _ _ r (by decide) (by decide)), hl, h.n10, h.ls, h.lx, h.ly⟩
theorem lrow_grown_ne {b : Nat} {t : TypeId} {vs : List Value} (r : Lrow w b t vs) (hg : w.grownBy w' (some b)) {g : Nat} {t' : TypeId} {us : List Value} (q : Lrow w g t' us) (hne : t' ≠ t) : Lrow w' g t' us :=
  q.grown hg (fun e => by injection e with e; exact q.apart r hne e)
theorem St.refGrown (h : St B w s a x y n F G T tv) (hg : w.grownBy w' (some y)) (hr : RefAt w' x y n G') : St B w' s a x y n F G' T tv := by
  obtain ⟨L, h1, h2⟩ := h.bud
  exact ⟨⟨L, h1.grown hg (fun b e => by injection e with e; subst e; exact ⟨_, _, h.ref.row, by decide, by decide⟩), h2⟩, hr, lrow_grown_ne h.ref.row hg h.top (by decide), ownRow_keep h.own (fun g vs r => lrow_grown_ne h.ref.row hg r (by decide)), h.len, h.n10, h.ls, h.lx, h.ly⟩
/-- What is taken has been laid anew: first its row, then the struct's field. -/
theorem St.taken (h : St B w s a x y n F G T tv) (hg : w.grownBy w' tv.ownBlock) (ho : w'.ownsRow B 59 2 tv' T'.length (bcells T')) (ht : tv'.ownBlock = tv.ownBlock ∨ ∃ g, tv'.ownBlock = some g ∧ w.heap.size ≤ g) :
    St B (w'.setCell ⟨s, 2, none⟩ tv') s a x y n F G T' tv' ∧ Step B w (w'.setCell ⟨s, 2, none⟩ tv') tv tv' := by
  obtain ⟨L, h1, h2⟩ := h.bud
  have hno : ∀ g t vs, Lrow w g t vs → t ≠ 59 → Lrow w' g t vs := fun g t vs r hne => r.grown hg (fun e => by
    rcases h.own.2 with ⟨e2, _⟩ | ⟨q, cap, cur, e2, _, hq, _⟩
    · rw [e2] at e; simp [Value.ownBlock] at e
    · rw [e2] at e
      simp only [Value.ownBlock, Option.some.injEq] at e
      exact r.apart (show Lrow w q 59 cur.toList from hq) hne e)
  have htop := hno _ _ _ h.top (by decide)
  have hbud : BudAt B w' a n L := h1.grown hg (fun b e => by
    rcases h.own.2 with ⟨e2, _⟩ | ⟨q, cap, cur, e2, _, hq, _⟩
    · rw [e2] at e; simp [Value.ownBlock] at e
    · rw [e2] at e
      simp only [Value.ownBlock, Option.some.injEq] at e
      subst e
      exact ⟨_, _, (show Lrow w q 59 cur.toList from hq), by decide, by decide⟩)
  have hset := grown_set w' s 2 tv'
  refine ⟨⟨⟨L, hbud.setFar htop (by decide) (by decide) _ _, h2⟩, ?_, htop.set_ 2 tv', ownRow_keep ho (fun g vs r => lrow_grown_ne htop hset r (by decide)), h.len, h.n10, h.ls, h.lx, h.ly⟩, ?_⟩
  · exact ⟨h.ref.len, h.ref.hi, lrow_grown_ne htop hset (hno _ _ _ h.ref.top (by decide)) (by decide), lrow_grown_ne htop hset (hno _ _ _ h.ref.row (by decide)) (by decide)⟩
  · exact (Step.took hg h.lo (fun k e => (h.own.lt k e).1) ht).trans (Step.grown htop (Or.inr (Or.inr (Or.inl rfl))) h.ls hset tv')
/-- As many are held as frames are not free, at the most. -/
theorem Held.len : ∀ (T : List (Nat × Nat)) {F : List Bool}, Held F T → T.length ≤ F.count false := by
  intro T
  induction T with
  | nil => intro F _; exact Nat.zero_le _
  | cons t r ih =>
    intro F h
    have h1 := h.give 0 (by simp)
    simp only [List.getElem_cons_zero, List.take_zero, List.nil_append, Nat.zero_add, List.drop_succ_cons, List.drop_zero] at h1
    have h2 := ih h1
    have h3 := count_setR (F := F) (a := t.1) (v := true) (m := 2 ^ t.2) (h.even t List.mem_cons_self).2.2 (h.all List.mem_cons_self)
    have := two_pos t.2
    simp only [Bool.not_true] at h3
    simp only [List.length_cons]
    omega
theorem Held.len_n {T : List (Nat × Nat)} {F : List Bool} (h : Held F T) : T.length ≤ F.length := Nat.le_trans (Held.len T h) List.count_le_length
end
end Go.Proofs.Ytgkjkjpeolhgbaa
