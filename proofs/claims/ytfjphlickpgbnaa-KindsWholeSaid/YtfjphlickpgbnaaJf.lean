/- Both sides and what is taken, held together in one state; what a step leaves as it was; both sides made. -/
import Derived.Test.YtfjphlickpgbnaaJe
import Derived.Test.YtfjphlickpgbnaaKm
import Derived.Test.YtfjphlickpgbnaaKo
namespace Go.Proofs.Ytfjphlickpgbnaa
open Go.RowKit

/-- The types of the blocks that steps turn. -/
def Own (t : TypeId) : Prop := t = 3 ∨ t = 95 ∨ t = 34 ∨ t = 4
/-- A step: all below B stands, and each block that is known whole, but of the types that steps turn, and but for the row of what is taken. -/
structure Step (B : Nat) (w w' : World) (tv tv' : Value) : Prop where
  below : Below B w w'
  keep : ∀ g t vs, Lrow w g t vs → ¬ Own t → some g ≠ tv.ownBlock → Lrow w' g t vs
  tb : tv'.ownBlock = tv.ownBlock ∨ ∃ g, tv'.ownBlock = some g ∧ w.heap.size ≤ g
section
variable {w w' w'' : World} {B g : Nat} {t : TypeId} {vs : List Value} {tv tv' tv'' : Value} {Xc : Nat → Prop}
theorem Step.refl (B : Nat) (w : World) (tv : Value) : Step B w w tv tv := ⟨Below.refl _ _, fun _ _ _ r _ _ => r, Or.inl rfl⟩
theorem Step.trans (h : Step B w w' tv tv') (k : Step B w' w'' tv' tv'') : Step B w w'' tv tv'' := by
  refine ⟨h.below.trans k.below, fun g t vs r h1 h2 => ?_, ?_⟩
  · refine k.keep g t vs (h.keep g t vs r h1 h2) h1 ?_
    rcases h.tb with e | ⟨q, e, hq⟩
    · rw [e]; exact h2
    · rw [e]
      intro e2
      injection e2 with e2
      have := r.lt; omega
  · rcases k.tb with e | ⟨q, e, hq⟩
    · rw [e]; exact h.tb
    · exact Or.inr ⟨q, e, Nat.le_trans h.below.size hq⟩
theorem Step.turn (h : Turn Xc B w w') (tv : Value) : Step B w w' tv tv := ⟨h.below, fun g t vs r h1 _ => h.row g t vs r (fun e => h1 (Or.inl e)) (fun e => h1 (Or.inr (Or.inl e))), Or.inl rfl⟩
theorem Step.call (h : Below w.heap.size w w') (hB : B ≤ w.heap.size) (tv : Value) : Step B w w' tv tv := Step.turn (Turn.of_below (Xc := fun _ => False) h hB) tv
theorem Step.grown {b : Nat} (r : Lrow w b t vs) (ht : Own t) (hB : B ≤ b) (hg : w.grownBy w' (some b)) (tv : Value) : Step B w w' tv tv := by
  refine ⟨⟨hg.os, hg.tape, hg.output, hg.size, fun k hk => hg.block k (by have := r.lt; omega) (by intro e; injection e with e; omega)⟩, fun g s us q h1 _ => q.grown hg ?_, Or.inl rfl⟩
  intro e
  injection e with e
  subst e
  exact q.apart r (fun e => h1 (e ▸ ht)) rfl
/-- What is taken has grown. -/
theorem Step.took (hg : w.grownBy w' tv.ownBlock) (hB : B ≤ w.heap.size) (ho : ∀ k, tv.ownBlock = some k → B ≤ k) (ht : tv'.ownBlock = tv.ownBlock ∨ ∃ g, tv'.ownBlock = some g ∧ w.heap.size ≤ g) : Step B w w' tv tv' :=
  ⟨(Below.refl B w).grown hg hB ho, fun _ _ _ q _ h2 => q.grown hg h2, ht⟩
end
/-- The names of a run: the struct; the program's kinds, lists, sections; the reference's kinds, frames' struct, frames, sections; how many frames. -/
structure Nms where
  s : Nat
  k : Nat
  a : Nat
  g : Nat
  z : Nat
  x : Nat
  y : Nat
  h : Nat
  n : Nat
/-- The state: the program over the frames F and the sections S, the reference over G and R, and what is taken, T, in the slice tv. -/
structure St (B : Nat) (w : World) (m : Nms) (F G : List Bool) (S R : List Nat) (T : List (Nat × Nat)) (tv : Value) : Prop where
  kin : KinX (fun b => b = m.h) B w m.k m.a m.g m.n F S
  ref : RefK w m.z m.x m.y m.h m.n G R
  top : Lrow w m.s 34 [.pointer (some ⟨m.k, 0, none⟩), .pointer (some ⟨m.z, 0, none⟩), tv]
  own : w.ownsRow B 53 2 tv T.length (bcells T)
  ls : B ≤ m.s
  lz : B ≤ m.z
  lx : B ≤ m.x
  ly : B ≤ m.y
  lh : B ≤ m.h
section
variable {w w' : World} {B : Nat} {m : Nms} {F G F' G' : List Bool} {S R S' R' : List Nat} {T T' : List (Nat × Nat)} {tv tv' : Value}
theorem St.lo (h : St B w m F G S R T tv) : B ≤ w.heap.size := by have := h.top.lt; have := h.ls; omega
theorem St.c0 (h : St B w m F G S R T tv) : w.cell? ⟨m.s, 0, none⟩ = some (.pointer (some ⟨m.k, 0, none⟩)) := by rw [h.top.cell]; rfl
theorem St.c1 (h : St B w m F G S R T tv) : w.cell? ⟨m.s, 1, none⟩ = some (.pointer (some ⟨m.z, 0, none⟩)) := by rw [h.top.cell]; rfl
theorem St.c2 (h : St B w m F G S R T tv) : w.cell? ⟨m.s, 2, none⟩ = some tv := by rw [h.top.cell]; rfl
theorem St.call (h : St B w m F G S R T tv) (hb : Below w.heap.size w w') : St B w' m F G S R T tv :=
  ⟨h.kin.call hb, h.ref.call hb, h.top.call hb, ownsRow_call h.own hb, h.ls, h.lz, h.lx, h.ly, h.lh⟩
theorem St.alloc (h : St B w m F G S R T tv) (o : Obj) : St B (w.alloc o) m F G S R T tv := h.call ((Below.refl _ _).alloc (Nat.le_refl _) o)
theorem St.drewN (h : St B w m F G S R T tv) (q : Nat) : St B (w.drewN q) m F G S R T tv := h.call (below_dN (Below.refl _ _) q)
theorem St.kinTurn (h : St B w m F G S R T tv) (ht : Turn (fun b => b = m.h) B w w') (hk : KinX (fun b => b = m.h) B w' m.k m.a m.g m.n F' S') : St B w' m F' G S' R T tv :=
  ⟨hk, h.ref.turn ht rfl, ht.row _ _ _ h.top (by decide) (by decide), ownsRow_keep h.own (fun _ _ _ r => ht.row _ _ _ r (by decide) (by decide)), h.ls, h.lz, h.lx, h.ly, h.lh⟩
theorem lrow_grown_ne {b : Nat} {t : TypeId} {vs : List Value} (r : Lrow w b t vs) (hg : w.grownBy w' (some b)) {g : Nat} {t' : TypeId} {us : List Value} (q : Lrow w g t' us) (hne : t' ≠ t) : Lrow w' g t' us :=
  q.grown hg (fun e => by injection e with e; exact q.apart r hne e)
/-- The reference's sections have been turned. -/
theorem St.refSec (h : St B w m F G S R T tv) (hg : w.grownBy w' (some m.h)) (hr : RefK w' m.z m.x m.y m.h m.n G R') : St B w' m F G S R' T tv := by
  obtain ⟨r, hrow⟩ := h.ref.row
  exact ⟨h.kin.named hrow hg rfl (by decide), hr, lrow_grown_ne hrow hg h.top (by decide), ownsRow_keep h.own (fun _ _ _ r => lrow_grown_ne hrow hg r (by decide)), h.ls, h.lz, h.lx, h.ly, h.lh⟩
/-- The reference's frames have been turned. -/
theorem St.refFrm (h : St B w m F G S R T tv) (hg : w.grownBy w' (some m.y)) (hr : RefK w' m.z m.x m.y m.h m.n G' R) : St B w' m F G' S R T tv :=
  ⟨h.kin.grown h.ref.ref.row hg (by decide) (by decide) (by decide), hr, lrow_grown_ne h.ref.ref.row hg h.top (by decide), ownsRow_keep h.own (fun _ _ _ r => lrow_grown_ne h.ref.ref.row hg r (by decide)), h.ls, h.lz, h.lx, h.ly, h.lh⟩
/-- A taking of the reference: the state behind it. -/
theorem St.refTook (h : St B w m F G S R T tv) {w1 w2 : World} (hb : Below w.heap.size w w1) (hg : w1.grownBy w2 (some m.h)) (hy : w2.grownBy w' (some m.y)) (hr : RefK w' m.z m.x m.y m.h m.n G' R') : St B w' m F G' S R' T tv ∧ Step B w w' tv tv := by
  have h1 := h.call hb
  obtain ⟨r, hrow⟩ := h1.ref.row
  have hk2 := h1.kin.named hrow hg rfl (by decide)
  have ht2 := lrow_grown_ne hrow hg h1.top (by decide)
  have hy2 := lrow_grown_ne hrow hg h1.ref.ref.row (by decide)
  have ho2 := ownsRow_keep h1.own (fun _ _ _ r => lrow_grown_ne hrow hg r (by decide))
  refine ⟨⟨hk2.grown hy2 hy (by decide) (by decide) (by decide), hr, lrow_grown_ne hy2 hy ht2 (by decide), ownsRow_keep ho2 (fun _ _ _ r => lrow_grown_ne hy2 hy r (by decide)), h.ls, h.lz, h.lx, h.ly, h.lh⟩, ?_⟩
  exact (Step.call hb h.lo tv).trans ((Step.grown hrow (Or.inl rfl) h.lh hg tv).trans (Step.grown hy2 (Or.inr (Or.inr (Or.inr rfl))) h.ly hy tv))
/-- What is taken has been laid anew: first its row, then the struct's field. -/
theorem St.taken (h : St B w m F G S R T tv) (hg : w.grownBy w' tv.ownBlock) (ho : w'.ownsRow B 53 2 tv' T'.length (bcells T')) (ht : tv'.ownBlock = tv.ownBlock ∨ ∃ g, tv'.ownBlock = some g ∧ w.heap.size ≤ g) :
    St B (w'.setCell ⟨m.s, 2, none⟩ tv') m F G S R T' tv' ∧ Step B w (w'.setCell ⟨m.s, 2, none⟩ tv') tv tv' := by
  have hno : ∀ {g : Nat} {t : TypeId} {vs : List Value}, Lrow w g t vs → t ≠ 53 → Lrow w' g t vs := fun r hne => own_far h.own hg r hne
  have htop := hno h.top (by decide)
  have hset := grown_set w' m.s 2 tv'
  have hkin : KinX (fun b => b = m.h) B w' m.k m.a m.g m.n F S := by
    rcases hob : tv.ownBlock with _ | q
    · rw [hob] at hg
      exact h.kin.call ⟨hg.os, hg.tape, hg.output, hg.size, fun k hk => hg.block k hk (by simp)⟩
    · rw [hob] at hg
      rcases h.own.2 with ⟨e2, _⟩ | ⟨q', cap, cur, e2, _, hq, _⟩
      · rw [e2] at hob; simp [Value.ownBlock] at hob
      · rw [e2] at hob
        simp only [Value.ownBlock, Option.some.injEq] at hob
        subst hob
        exact h.kin.grown (show Lrow w q' 53 cur.toList from hq) hg (by decide) (by decide) (by decide)
  have href : RefK w' m.z m.x m.y m.h m.n G R := by
    rcases hob : tv.ownBlock with _ | q
    · rw [hob] at hg
      exact h.ref.call ⟨hg.os, hg.tape, hg.output, hg.size, fun k hk => hg.block k hk (by simp)⟩
    · rw [hob] at hg
      rcases h.own.2 with ⟨e2, _⟩ | ⟨q', cap, cur, e2, _, hq, _⟩
      · rw [e2] at hob; simp [Value.ownBlock] at hob
      · rw [e2] at hob
        simp only [Value.ownBlock, Option.some.injEq] at hob
        subst hob
        exact h.ref.grown (show Lrow w q' 53 cur.toList from hq) hg (by decide) (by decide) (by decide) (by decide)
  refine ⟨⟨hkin.grown htop hset (by decide) (by decide) (by decide), href.grown htop hset (by decide) (by decide) (by decide) (by decide), htop.set_ 2 tv', ownsRow_keep ho (fun g vs _ r => lrow_grown_ne htop hset r (by decide)), h.ls, h.lz, h.lx, h.ly, h.lh⟩, ?_⟩
  exact (Step.took hg h.lo (fun k e => (h.own.lt k e).1) ht).trans (Step.grown htop (Or.inr (Or.inr (Or.inl rfl))) h.ls hset tv')
/-- As many are held as frames are not free, at the most. -/
theorem Held.len : ∀ (T : List (Nat × Nat)) {F : List Bool}, Held F T → T.length ≤ F.count false := by
  intro T
  induction T with
  | nil => intro F _; exact Nat.zero_le _
  | cons t r ih =>
    intro F h
    have h1 := h.give 0 (by simp)
    simp only [List.getElem_cons_zero, List.take_zero, List.nil_append, Nat.zero_add, List.drop_succ_cons, List.drop_zero] at h1
    have h2 := ih h1
    have h3 := count_setR (F := F) (a := t.1) (v := true) (m := 2 ^ t.2) (h.even t List.mem_cons_self).2.2 (h.all List.mem_cons_self)
    have := two_pos t.2
    simp only [Bool.not_true] at h3
    simp only [List.length_cons]
    omega
theorem Held.len_n {T : List (Nat × Nat)} {F : List Bool} (h : Held F T) : T.length ≤ F.length := Nat.le_trans (Held.len T h) List.count_le_length
/-- Not too many frames. -/
def smI (f : Int) : Int := if 150 < f ∧ f ≤ 1024 then 150 else f
theorem small_any (f : Int) (w : World) : Calls Try.prog 28 #[.int .i64 f] w fun e w' => e = .returned (.int .i64 (smI f)) ∧ w = w' := by
  by_cases h : 150 < f
  · by_cases h2 : f ≤ 1024
    · have HE : Hid (150 = smI f) := by
        show _ = _
        unfold smI; rw [if_pos ⟨h, h2⟩]
      go_enter Try.func28, Try.ntmps28
      go_wp2
      go_ret
      exact ⟨ret_int HE.out, rfl⟩
    · have HE : Hid (f = smI f) := by
        show _ = _
        unfold smI; rw [if_neg (fun g => h2 g.2)]
      go_enter Try.func28, Try.ntmps28
      go_wp2
      go_ret
      exact ⟨ret_int HE.out, rfl⟩
  · have HE : Hid (f = smI f) := by
      show _ = _
      unfold smI; rw [if_neg (fun g => h g.1)]
    go_enter Try.func28, Try.ntmps28
    go_wp2
    go_ret
    exact ⟨ret_int HE.out, rfl⟩
theorem smI_good {f : Int} (h : ¬ (f < 8 ∨ 1024 < f)) : ∃ n : Nat, smI f = n ∧ 8 ≤ n ∧ n ≤ 150 := by
  unfold smI
  split
  · exact ⟨150, rfl, by omega, by omega⟩
  · exact ⟨f.toNat, by omega, by omega, by omega⟩
theorem smI_bad {f : Int} (h : f < 8 ∨ 1024 < f) : smI f = f := by unfold smI; rw [if_neg (by omega)]
theorem made_bad {f : Int} (h : f < 8 ∨ 1024 < f) (w : World) : Calls Try.prog 8 #[.int .i64 f] w fun e w' => e = .returned (.tuple #[.pointer none, .bool true]) ∧ w = w' := by
  have hs : ∀ W', Calls Try.prog 28 #[.int .i64 f] W' fun e w' => e = .returned (.int .i64 f) ∧ W' = w' := fun W' => by
    have := small_any f W'
    rw [smI_bad h] at this
    exact this
  have h1 := fun W => kNew_bad h W
  have h2 := fun W => refKNew_bad h W
  clear h
  go_enter Try.func8, Try.ntmps8
  go_wp2_with (first | (go_at_call 28; refine (hs _).mono ?_; rintro e w' ⟨rfl, rfl⟩) | (go_at_call 27; refine (h1 _).mono ?_; rintro e w' ⟨rfl, rfl⟩) | (go_at_call 29; refine (h2 _).mono ?_; rintro e w' ⟨rfl, rfl⟩))
  go_ret2
  exact ⟨rfl, rfl⟩
/-- Both, new, over n frames that are all free, and sections that are all movable. -/
def Made (n : Nat) (w : World) (e : Ending) (w' : World) : Prop :=
  ∃ m : Nms, m.n = n ∧ e = .returned (.tuple #[.pointer (some ⟨m.s, 0, none⟩), .bool true]) ∧ St w.heap.size w' m (List.replicate n true) (List.replicate n true) (List.replicate ((n + 7) / 8) 1) (List.replicate ((n + 7) / 8) 1) [] (.slice none 0 0) ∧ Below w.heap.size w w'
set_option maxHeartbeats 1000000 in
theorem made_any {f : Int} (n : Nat) (hf : smI f = n) (h1 : 8 ≤ n) (h2 : n ≤ 150) (w : World) : Calls Try.prog 8 #[.int .i64 f] w (Made n w) := by
  have hs : ∀ W', Calls Try.prog 28 #[.int .i64 f] W' fun e w' => e = .returned (.int .i64 n) ∧ W' = w' := fun W' => by
    have := small_any f W'
    rw [hf] at this
    exact this
  have hN := kNew_any (Xc := fun _ => False) n h1 (by omega) w (fun _ h => h.elim)
  have hR := fun W => refKNew_any n h1 (by omega) W
  have HN := Lib.hid hN
  have HR := Lib.hid hR
  clear hR hN hf
  go_enter Try.func8, Try.ntmps8
  go_wp2_with (go_at_call 28; refine (hs _).mono ?_; rintro e w' ⟨rfl, rfl⟩)
  refine Calls.mono HN.out ?_
  rintro e w1 ⟨k, a, g, rfl, hb1, hk1⟩
  have HB1 := Lib.hid hb1
  have HK1 := Lib.hid hk1
  clear hb1 hk1 HN
  go_wp2_with (go_at_call 28; refine (hs _).mono ?_; rintro e w' ⟨rfl, rfl⟩)
  refine Calls.mono (HR.out w1) ?_
  rintro e w2 ⟨z, x, y, h, rfl, hb2, hr2, lz, lx, ly, lh⟩
  have HK2 : Hid (KinX (fun b => b = h) w.heap.size w2 k a g n (List.replicate n true) (List.replicate ((n + 7) / 8) 1)) := HK1.out.more hb2 (fun b hb => by subst hb; exact ⟨hr2.lt.2, Or.inr lh⟩)
  have HB2 := Lib.hid (HB1.out.trans (hb2.mono HB1.out.size))
  have HR2 := Lib.hid hr2
  have HL : Hid (w.heap.size ≤ z ∧ w.heap.size ≤ x ∧ w.heap.size ≤ y ∧ w.heap.size ≤ h) := by
    have := HB1.out.size
    exact ⟨by omega, by omega, by omega, by omega⟩
  clear hb2 hr2 HK1 HB1 HR lz lx ly lh
  go_wp2
  go_ret2
  have hsz := HB2.out.size
  refine ⟨⟨w2.heap.size, k, a, g, z, x, y, h, n⟩, rfl, rfl, ?_, HB2.out.alloc hsz _⟩
  exact ⟨HK2.out.alloc _, HR2.out.alloc _, Lrow.new w2 _ _, World.ownsRow_nil _ _ _ _, hsz, HL.out.1, HL.out.2.1, HL.out.2.2.1, HL.out.2.2.2⟩
end
end Go.Proofs.Ytfjphlickpgbnaa
