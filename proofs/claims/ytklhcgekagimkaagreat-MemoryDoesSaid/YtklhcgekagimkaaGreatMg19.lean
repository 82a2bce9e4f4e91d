/- Pieces by kinds as they lie in memory while they are put down, and the function that puts one down. -/
import Derived.Test.YtklhcgekagimkaaGreatMg17
import Derived.Test.YtklhcgekagimkaaGreatMg18
namespace Go.Proofs.YtklhcgekagimkaaGreat
variable {Xc : Nat → Prop}
open Go.RowKit

def updF {α : Type} (M : Nat → α) (k : Nat) (x : α) : Nat → α := fun i => if i = k then x else M i
theorem updF_same {α : Type} (M : Nat → α) (k : Nat) (x : α) : updF M k x k = x := if_pos rfl
theorem updF_other {α : Type} (M : Nat → α) {k i : Nat} (x : α) (h : i ≠ k) : updF M k x i = M i := if_neg h
/-- A piece is put down behind those of its kind, if it has the order. -/
def putM (S : List Nat) (o : Nat) (M : Nat → List (Nat × Nat)) (x : Nat × Nat) : Nat → List (Nat × Nat) := if o ≤ x.2 then updF M (knd S x.1) (M (knd S x.1) ++ [x]) else M
theorem four {i : Nat} (h : i ≤ 3) : i = 0 ∨ i = 1 ∨ i = 2 ∨ i = 3 := by omega
/-- What a call leaves as it was that turns block p and the blocks of four rows, which it may lay anew: any other block. -/
structure Beside (p : Nat) (w : World) (V : Nat → Value) (w' : World) (V' : Nat → Value) : Prop where
  os : w'.os = w.os
  tape : w'.tape = w.tape
  output : w'.output = w.output
  size : w.heap.size ≤ w'.heap.size
  block : ∀ b, b < w.heap.size → b ≠ p → (∀ i, i ≤ 3 → (V i).ownBlock ≠ some b) → w'.heap[b]? = w.heap[b]?
  fresh : ∀ i, i ≤ 3 → ∀ b, (V' i).ownBlock = some b → (∃ i', i' ≤ 3 ∧ (V i').ownBlock = some b) ∨ w.heap.size ≤ b
theorem Beside.trans {p : Nat} {w w' w'' : World} {V V' V'' : Nat → Value} (h : Beside p w V w' V') (k : Beside p w' V' w'' V'') : Beside p w V w'' V'' :=
  ⟨k.os.trans h.os, k.tape.trans h.tape, k.output.trans h.output, Nat.le_trans h.size k.size, fun b hb hp hV =>
    (k.block b (Nat.lt_of_lt_of_le hb h.size) hp (fun i hi e => by
      rcases h.fresh i hi b e with ⟨i', hi', e'⟩ | g
      · exact hV i' hi' e'
      · omega)).trans (h.block b hb hp hV), fun i hi b e => by
    rcases k.fresh i hi b e with ⟨i', hi', e'⟩ | g
    · exact h.fresh i' hi' b e'
    · exact Or.inr (Nat.le_trans h.size g)⟩
theorem Beside.of {p : Nat} {w w' : World} (V : Nat → Value) (h : Below w.heap.size w w') : Beside p w V w' V := ⟨h.os, h.tape, h.output, h.size, fun k hk _ _ => h.block k hk, fun i hi _ e => Or.inl ⟨i, hi, e⟩⟩
theorem Beside.row {p b : Nat} {t : TypeId} {vs : List Value} {w w' : World} {V V' : Nat → Value} (h : Beside p w V w' V') (r : Lrow w b t vs) (hp : b ≠ p) (hV : ∀ i, i ≤ 3 → (V i).ownBlock ≠ some b) : Lrow w' b t vs := (h.block b r.lt hp hV).trans r
/-- The struct in block p, of each kind its row, which it owns; the boxes of the order, of the kinds and of the struct. -/
structure PutX (w : World) (k p o ob kb lb : Nat) (V : Nat → Value) (M : Nat → List (Nat × Nat)) : Prop where
  top : Lrow w p 145 [V 0, V 1, V 2, V 3]
  bo : Lrow w ob 3 [.int .i64 o]
  bk : Lrow w kb 73 [.pointer (some ⟨k, 0, none⟩)]
  bl : Lrow w lb 125 [.pointer (some ⟨p, 0, none⟩)]
  own : ∀ i, i ≤ 3 → w.ownsRow 0 92 2 (V i) (M i).length (bcells (M i))
  apart : ∀ i j, i ≤ 3 → j ≤ 3 → i ≠ j → ∀ b, (V i).ownBlock = some b → (V j).ownBlock = some b → False
section
variable {w w' w5 : World} {k p o ob kb lb : Nat} {V : Nat → Value} {M : Nat → List (Nat × Nat)}
theorem ownsRow_call {B : Nat} {v : Value} {m : Nat} {xs : List Value} (h : w.ownsRow B 92 2 v m xs) (hb : Below w.heap.size w w') : w'.ownsRow B 92 2 v m xs := by
  refine ⟨h.1, ?_⟩
  rcases h.2 with hn | ⟨g, cap, cur, rfl, hbg, hg, rest⟩
  · exact Or.inl hn
  · exact Or.inr ⟨g, cap, cur, rfl, hbg, (hb.block g (Array.getElem?_eq_some_iff.1 hg).1).trans hg, rest⟩
theorem ownsRow_keep {B : Nat} {v : Value} {m : Nat} {xs : List Value} (h : w.ownsRow B 92 2 v m xs) (hk : ∀ g vs, v.ownBlock = some g → Lrow w g 92 vs → Lrow w' g 92 vs) : w'.ownsRow B 92 2 v m xs := by
  refine ⟨h.1, ?_⟩
  rcases h.2 with hn | ⟨g, cap, cur, rfl, hbg, hg, rest⟩
  · exact Or.inl hn
  · exact Or.inr ⟨g, cap, cur, rfl, hbg, hk g cur.toList rfl hg, rest⟩
theorem PutX.call (h : PutX w k p o ob kb lb V M) (hb : Below w.heap.size w w') : PutX w' k p o ob kb lb V M :=
  ⟨h.top.call hb, h.bo.call hb, h.bk.call hb, h.bl.call hb, fun i hi => ownsRow_call (h.own i hi) hb, h.apart⟩
/-- A row that is owned grows: a block of another type stays. -/
theorem own_far {B m b : Nat} {v : Value} {xs vs : List Value} {t : TypeId} (h : w.ownsRow B 92 2 v m xs) (hg : w.grownBy w' v.ownBlock) (r : Lrow w b t vs) (hne : t ≠ 92) : Lrow w' b t vs := r.grown hg (fun e => by
  rcases h.2 with ⟨e2, _⟩ | ⟨q, cap, cur, e2, _, hq, _⟩
  · rw [e2] at e; simp [Value.ownBlock] at e
  · rw [e2] at e
    simp only [Value.ownBlock, Option.some.injEq] at e
    exact r.apart (show Lrow w q 92 cur.toList from hq) hne e)
/-- One of the four rows has been laid anew: first the row, then the struct's cell. -/
theorem PutX.put (h : PutX w k p o ob kb lb V M) {kd : Nat} {v' : Value} {l' : List (Nat × Nat)} (hk : kd ≤ 3) (hg : w.grownBy w5 (V kd).ownBlock) (ho : w5.ownsRow 0 92 2 v' l'.length (bcells l'))
    (ht : v'.ownBlock = (V kd).ownBlock ∨ ∃ g, v'.ownBlock = some g ∧ w.heap.size ≤ g) :
    PutX (w5.setCell ⟨p, kd, none⟩ v') k p o ob kb lb (updF V kd v') (updF M kd l') ∧ Beside p w V (w5.setCell ⟨p, kd, none⟩ v') (updF V kd v') := by
  have hv := h.own kd hk
  have htop := own_far hv hg h.top (by decide)
  have hset := grown_set w5 p kd v'
  have hfar : ∀ {b : Nat} {t : TypeId} {vs : List Value}, Lrow w b t vs → t ≠ 92 → t ≠ 145 → Lrow (w5.setCell ⟨p, kd, none⟩ v') b t vs := fun r h1 h2 => by
    have r5 := own_far hv hg r h1
    exact r5.grown hset (fun e => by injection e with e; exact r5.apart htop h2 e)
  refine ⟨⟨?_, hfar h.bo (by decide) (by decide), hfar h.bk (by decide) (by decide), hfar h.bl (by decide) (by decide), fun i hi => ?_, fun i j hi hj hne b h1 h2 => ?_⟩, ?_⟩
  · have := htop.set_ kd v'
    rcases four hk with rfl | rfl | rfl | rfl <;> exact this
  · by_cases e : i = kd
    · subst e
      rw [updF_same, updF_same]
      refine ownsRow_keep ho fun g vs _ r => r.grown hset (fun e => by injection e with e; exact r.apart htop (by decide) e)
    · rw [updF_other _ _ e, updF_other _ _ e]
      refine ownsRow_keep (h.own i hi) fun g vs eg r => ?_
      have r5 : Lrow w5 g 92 vs := r.grown hg (fun e2 => h.apart i kd hi hk e g eg e2.symm)
      exact r5.grown hset (fun e => by injection e with e; exact r5.apart htop (by decide) e)
  · have hold : ∀ i, i ≤ 3 → ∀ b, (V i).ownBlock = some b → b < w.heap.size := fun i hi b e => ((h.own i hi).lt b e).2
    by_cases e1 : i = kd
    · have e2 : j ≠ kd := fun e => hne (e1.trans e.symm)
      rw [e1, updF_same] at h1
      rw [updF_other _ _ e2] at h2
      rcases ht with e | ⟨g, e, hgs⟩
      · rw [e] at h1; exact h.apart kd j hk hj (Ne.symm e2) b h1 h2
      · rw [e] at h1; injection h1 with h1
        have := hold j hj b h2; omega
    · rw [updF_other _ _ e1] at h1
      by_cases e2 : j = kd
      · rw [e2, updF_same] at h2
        rcases ht with e | ⟨g, e, hgs⟩
        · rw [e] at h2; exact h.apart i kd hi hk e1 b h1 h2
        · rw [e] at h2; injection h2 with h2
          have := hold i hi b h1; omega
      · rw [updF_other _ _ e2] at h2
        exact h.apart i j hi hj hne b h1 h2
  · refine ⟨hg.os, hg.tape, hg.output, by have := hg.size; simpa [World.setCell] using this, fun b hb hp hV => ?_, fun i hi b e => ?_⟩
    · exact (Below.heap_setCell w5 ⟨p, kd, none⟩ v' b hp).trans (hg.block b hb (fun e => hV kd hk e.symm))
    · by_cases e1 : i = kd
      · rw [e1, updF_same] at e
        rcases ht with e2 | ⟨q, e2, hq⟩
        · exact Or.inl ⟨kd, hk, by rw [← e2]; exact e⟩
        · rw [e2] at e; injection e with e; exact Or.inr (by omega)
      · rw [updF_other _ _ e1] at e
        exact Or.inl ⟨i, hi, e⟩
/-- What putting one down comes to. -/
def Put (k p o ob kb lb : Nat) (V : Nat → Value) (M : Nat → List (Nat × Nat)) (w : World) (e : Ending) (w' : World) : Prop := e = .returned (.tuple #[]) ∧ ∃ V', Beside p w V w' V' ∧ PutX w' k p o ob kb lb V' M
variable {B a g n : Nat} {F : List Bool} {S : List Nat}
set_option maxHeartbeats 1000000 in
set_option maxRecDepth 100000 in
theorem putIt_any (h : PutX w k p o ob kb lb V M) (hK : KinX Xc B w k a g n F S) (hM : ∀ i, i ≤ 3 → (M i).length ≤ 1024) {f j : Nat} (hf : f < n) :
    Calls Tryz.prog 129 #[.agg #[.int .i64 f, .int .i64 j], .pointer (some ⟨ob, 0, none⟩), .pointer (some ⟨kb, 0, none⟩), .pointer (some ⟨lb, 0, none⟩)] w (Put k p o ob kb lb V (putM S o M (f, j)) w) := by
  obtain ⟨W, hW⟩ : ∃ W, W = w.alloc (.cells #[.int .i64 f, .int .i64 j] 92) := ⟨_, rfl⟩
  obtain ⟨q, hq⟩ : ∃ q, q = w.heap.size := ⟨_, rfl⟩
  have hB : Below w.heap.size w W := by rw [hW]; exact (Below.refl _ _).alloc (Nat.le_refl _) _
  have HBX := Lib.hid (Beside.of (p := p) V hB)
  have hP := h.call hB
  have HQ : Hid (Lrow W q 92 [.int .i64 f, .int .i64 j]) := by rw [hW, hq]; exact Lrow.new w _ _
  have hKd := kind_any (hK.call hB) f
  have hkz : kdZ n S f = (knd S f : Nat) := by unfold kdZ; rw [if_pos (by omega), Int.toNat_natCast]
  have hk3 := knd_le hK.kin f
  obtain ⟨kd, ekd⟩ : ∃ kd, kd = knd S f := ⟨_, rfl⟩
  rw [hkz, ← ekd] at hKd
  rw [← ekd] at hk3
  have ho : w.cell? ⟨ob, 0, none⟩ = some (.int .i64 o) := h.bo.cell 0
  have hkc : w.cell? ⟨kb, 0, none⟩ = some (.pointer (some ⟨k, 0, none⟩)) := h.bk.cell 0
  have hob : ob < w.heap.size := h.bo.lt
  have hkb : kb < w.heap.size := h.bk.lt
  have hobn : ¬ ob = w.heap.size := by omega
  have hkbn : ¬ kb = w.heap.size := by omega
  have HP := Lib.hid hP
  have HW := Lib.hid hW
  have HQ0 := Lib.hid hq
  clear hW hq hB hP h hK hkz hf
  by_cases hjo : o ≤ j
  · have HM : Hid (putM S o M (f, j) = updF M kd (M kd ++ [(f, j)])) := by show _ = _; unfold putM; rw [if_pos hjo, ← ekd]
    obtain ⟨A5, c5, W5, r5, o5, g5, t5⟩ := app_run (Nat.zero_le _) (HP.out.own kd hk3) (hM kd hk3) f j
    obtain ⟨Av, cv, hv⟩ := own_form (HP.out.own kd hk3)
    have hput := HP.out.put hk3 g5 o5 t5
    have hv5 := own_far (HP.out.own kd hk3) g5 HP.out.top (by decide)
    have hl5 := own_far (HP.out.own kd hk3) g5 HP.out.bl (by decide)
    have hlc : W.cell? ⟨lb, 0, none⟩ = some (.pointer (some ⟨p, 0, none⟩)) := HP.out.bl.cell 0
    have hl5c : W5.cell? ⟨lb, 0, none⟩ = some (.pointer (some ⟨p, 0, none⟩)) := hl5.cell 0
    have hlb : lb < W.heap.size := HP.out.bl.lt
    have hpb : p < W.heap.size := HP.out.top.lt
    have hqb : q < W.heap.size := HQ.out.lt
    have hln : ¬ lb = W.heap.size := by omega
    have hpn : ¬ p = W.heap.size := by omega
    have hqn : ¬ q = W.heap.size := by omega
    rw [hv] at r5
    generalize (M kd).length = m at r5 hput hv
    have hM1 := hM
    clear o5 g5 t5 ekd hM hl5
    have hjo' : (o : Int) ≤ j := by omega
    have hpc : W.cell? ⟨p, kd, none⟩ = some (.slice Av m cv) := by rw [HP.out.top.cell]; rcases four hk3 with rfl | rfl | rfl | rfl <;> simp [hv]
    have hp5 : W5.cell? ⟨p, kd, none⟩ = some (.slice Av m cv) := by rw [hv5.cell]; rcases four hk3 with rfl | rfl | rfl | rfl <;> simp [hv]
    have hf5 := hv5.frozen kd
    have HPW : Hid (PutX (W5.setCell ⟨p, kd, none⟩ (.slice A5 (m + 1) c5)) k p o ob kb lb (updF V kd (.slice A5 (m + 1) c5)) (updF M kd (M kd ++ [(f, j)])) ∧ Beside p W V (W5.setCell ⟨p, kd, none⟩ (.slice A5 (m + 1) c5)) (updF V kd (.slice A5 (m + 1) c5))) := hput
    have k0 : (0 : Int) ≤ kd := by omega
    have k4 : (kd : Int) < 4 := by omega
    clear hv5 hv hk3 hput hM1
    go_enter Tryz.func129, Tryz.ntmps129
    go_wp2_with fail
    rw [← HW.out, ← HQ0.out]
    have h0 : W.cell? ⟨q, 0, none⟩ = some (.int .i64 f) := HQ.out.cell 0
    have h1 : W.cell? ⟨q, 1, none⟩ = some (.int .i64 j) := HQ.out.cell 1
    clear ho hkc hob hkb hobn hkbn
    refine hKd.mono ?_
    rintro e w' ⟨rfl, rfl⟩
    clear hKd hjo hjo'
    go_wp2_with fail
    go_region_law (refine step_append_run (by rfl) _ _ 50 (by rfl) (.slice Av m cv) (.slice (some ⟨W.heap.size, 0, none⟩) 1 1) (by simp [Act.eval, Act.put]) (by simp [Act.eval, Act.put]) r5 ?_)
    all_goals
      go_wp2_with fail
      go_end0
      exact ⟨rfl, _, HBX.out.trans HPW.out.2, by rw [HM.out]; exact HPW.out.1⟩
  · have HM : Hid (putM S o M (f, j) = M) := by show _ = _; unfold putM; rw [if_neg (by simpa using hjo)]
    have hjo' : ¬ (o : Int) ≤ j := by omega
    clear hKd hkc hkb hkbn ekd hk3 hM hjo
    go_enter Tryz.func129, Tryz.ntmps129
    go_wp2_with fail
    rw [← HW.out]
    go_end0
    exact ⟨rfl, _, HBX.out, by rw [HM.out]; exact HP.out⟩
end
end Go.Proofs.YtklhcgekagimkaaGreat
