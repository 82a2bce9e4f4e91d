/- Rows of blocks that a call owns: appendings whose run is known, and a row without one of its blocks. -/
import Derived.Test.YtklhcgekagimkaaGreatMg16
import Derived.Maps.AppendAt
import Derived.Deep.AppendLies
import Derived.BigRegion
import Derived.Deep.RegionLaw
import Derived.Deep.CutRange
import Derived.Deep.RegionHeld3
namespace Go.Proofs.YtklhcgekagimkaaGreat
open Go.RowKit

theorem blk_cell {w : World} {A : Option Addr} {M : List (Nat × Nat)} (h : BlkRow w A M) {i : Nat} (hi : i < M.length) : ∃ g, A = some ⟨g, 0, none⟩ ∧ g < w.heap.size ∧ w.cell? ⟨g, i * 2, none⟩ = some (.int .i64 (M[i].1 : Nat)) ∧ w.cell? ⟨g, i * 2 + 1, none⟩ = some (.int .i64 (M[i].2 : Nat)) := by
  obtain ⟨g, e, hg, hc⟩ := h.at_ (by omega)
  obtain ⟨c1, c2⟩ := hc i hi
  have e2 : M.getD i (0, 0) = M[i] := by rw [List.getD_eq_getElem?_getD, List.getElem?_eq_getElem hi]; rfl
  rw [e2] at c1 c2
  exact ⟨g, e, hg, c1, c2⟩
section
variable {w : World}
theorem bcells_take (T : List (Nat × Nat)) : ∀ (i : Nat), bcells (T.take i) = (bcells T).take (i * 2) := by
  induction T with
  | nil => intro i; simp [bcells]
  | cons t r ih =>
    intro i
    cases i with
    | zero => simp [bcells]
    | succ i => simp only [List.take_succ_cons, bcells, show (i + 1) * 2 = i * 2 + 1 + 1 by omega, ih]
theorem bcells_drop (T : List (Nat × Nat)) : ∀ (i : Nat), bcells (T.drop i) = (bcells T).drop (i * 2) := by
  induction T with
  | nil => intro i; simp [bcells]
  | cons t r ih =>
    intro i
    cases i with
    | zero => simp [bcells]
    | succ i => simp only [List.drop_succ_cons, bcells, show (i + 1) * 2 = i * 2 + 1 + 1 by omega, ih]
/-- The row of what is taken without one of its blocks, made anew by two appendings. -/
theorem without_run {W : World} {B g c i : Nat} {T : List (Nat × Nat)} (hB : B ≤ W.heap.size) (hown : W.ownsRow B 92 2 (.slice (some ⟨g, 0, none⟩) T.length c) T.length (bcells T)) (hi : i < T.length) (hT : T.length ≤ 1024) :
    ∃ v1 W1 v2 W2, (Builtin.append_ #[50, 50] 50 #[.slice (some ⟨W.heap.size, 0, none⟩) 0 0, .slice (some ⟨g, 0, none⟩) i c]).run Tryz.prog (W.alloc (.cells #[] 92)) = .ok v1 W1 ∧
      (c ≠ i + 1 → (Builtin.append_ #[50, 50] 50 #[v1, .slice (some ⟨g, (i + 1) * 2, none⟩) (T.length - (i + 1)) (c - (i + 1))]).run Tryz.prog W1 = .ok v2 W2) ∧
      (c = i + 1 → (Builtin.append_ #[50, 50] 50 #[v1, .slice (some ⟨g, 0, none⟩) 0 0]).run Tryz.prog W1 = .ok v2 W2) ∧
      W2.ownsRow B 92 2 v2 (T.take i ++ T.drop (i + 1)).length (bcells (T.take i ++ T.drop (i + 1))) ∧ Below W.heap.size W W2 ∧ (∃ g2, v2.ownBlock = some g2 ∧ W.heap.size ≤ g2) ∧ Below W.heap.size W W1 := by
  obtain ⟨i0, hi0, hz0, hz1, hz2⟩ := info_parts info_block
  have hcl := hown.cells (g := g) rfl
  have hgl := (hown.lt g rfl).2
  have hcap : T.length ≤ c := by
    rcases hown.2 with ⟨h1, _⟩ | ⟨g', cap, cur, h1, _, _, h2, _⟩
    · cases h1
    · injection h1 with _ _ h3; omega
  have hba : Below W.heap.size W (W.alloc (.cells #[] 92)) := (Below.refl _ _).alloc (Nat.le_refl _) _
  have hown0 : (W.alloc (.cells #[] 92)).ownsRow W.heap.size 92 2 (.slice (some ⟨W.heap.size, 0, none⟩) 0 0) 0 [] := World.ownsRow_made W #[] 0 (Nat.le_refl _) (by unfold maxLen; omega) rfl
  have hn1 : ∀ j u, (bcells (T.take i))[j]? = some u → (W.alloc (.cells #[] 92)).cell? ((⟨g, 0, none⟩ : Addr).add j) = some u := fun j u hu => by
    rw [hba.cell (by rw [add_block]; exact hgl)]
    refine hcl j u ?_
    rw [bcells_take] at hu
    have hj : j < i * 2 := by
      rcases Nat.lt_or_ge j (i * 2) with g1 | g1
      · exact g1
      · rw [List.getElem?_eq_none (by rw [List.length_take]; omega)] at hu; cases hu
    rwa [List.getElem?_take_of_lt hj] at hu
  have hl1 : (bcells (T.take i)).length = i * 2 := by rw [bcells_length, List.length_take]; omega
  obtain ⟨v1, W1, r1, o1, g1, -, t1⟩ := run_append_own_at (P := Tryz.prog) (w := W.alloc (.cells #[] 92)) W.heap.size 50 50 92 i0 (.agg #[.int .i64 0, .int .i64 0]) 2 16 Tryz.underlying50 hi0 hz0 hz1 hz2 rfl (by decide) _ 0 [] hown0 ⟨g, 0, none⟩ i c (bcells (T.take i)) hl1 hn1 (bcells_one _) (by unfold maxLen; omega) (by omega) (by simp)
  have hb1 : Below W.heap.size W W1 := hba.grown g1 (by simp) (fun k e => by simp only [Value.ownBlock, Option.some.injEq] at e; omega)
  have ht1 : ∃ q, v1.ownBlock = some q ∧ W.heap.size ≤ q := by
    rcases t1 with e | e
    · exact ⟨_, e, Nat.le_refl _⟩
    · exact ⟨_, e, by simp⟩
  simp only [Nat.zero_add, List.nil_append] at o1
  have hn2 : ∀ j u, (bcells (T.drop (i + 1)))[j]? = some u → W1.cell? ((⟨g, (i + 1) * 2, none⟩ : Addr).add j) = some u := fun j u hu => by
    rw [hb1.cell (by rw [add_block]; exact hgl)]
    rw [bcells_drop, List.getElem?_drop] at hu
    have := hcl _ u hu
    rw [add_zero_off] at this
    rw [← this]
    by_cases hj : j = 0
    · subst hj; simp [Addr.add]
    · unfold Addr.add; rw [if_neg hj]
  have hl2 : (bcells (T.drop (i + 1))).length = (T.length - (i + 1)) * 2 := by rw [bcells_length, List.length_drop]
  have hlen : (T.take i ++ T.drop (i + 1)).length = i + (T.length - (i + 1)) := by simp; omega
  have hbase : W.heap.size ≤ W1.heap.size := hb1.size
  have fin : ∀ (m : Nat) (v2 : Value) (W2 : World), m = T.length - (i + 1) → W2.ownsRow W.heap.size 92 2 v2 (i + m) (bcells (T.take i) ++ bcells (T.drop (i + 1))) → W1.grownBy W2 v1.ownBlock → (v2.ownBlock = v1.ownBlock ∨ v2.ownBlock = some W1.heap.size) →
      W2.ownsRow B 92 2 v2 (T.take i ++ T.drop (i + 1)).length (bcells (T.take i ++ T.drop (i + 1))) ∧ Below W.heap.size W W2 ∧ (∃ g2, v2.ownBlock = some g2 ∧ W.heap.size ≤ g2) ∧ Below W.heap.size W W1 := by
    intro m v2 W2 hm o2 g2 t2
    refine ⟨?_, hb1.grown g2 hbase (fun k e => ?_), ?_, hb1⟩
    · rw [hlen, bcells_append, ← hm]
      refine ⟨o2.1, ?_⟩
      rcases o2.2 with h | ⟨q, cap, cur, e1, e2, rest⟩
      · exact Or.inl h
      · exact Or.inr ⟨q, cap, cur, e1, Nat.le_trans hB e2, rest⟩
    · obtain ⟨q, e1, e2⟩ := ht1
      rw [e1] at e; injection e with e; omega
    · rcases t2 with e | e
      · rw [e]; exact ht1
      · exact ⟨_, e, hbase⟩
  by_cases hc : c = i + 1
  · have hTi : T.length = i + 1 := by omega
    obtain ⟨v2, W2, r2, o2, g2, -, t2⟩ := run_append_own_at (P := Tryz.prog) (w := W1) W.heap.size 50 50 92 i0 (.agg #[.int .i64 0, .int .i64 0]) 2 16 Tryz.underlying50 hi0 hz0 hz1 hz2 rfl (by decide) v1 i _ o1 ⟨g, 0, none⟩ 0 0 [] rfl (fun j u h => by simp at h) (fun u h => by cases h) (by unfold maxLen; omega) (by omega) hbase
    refine ⟨v1, W1, v2, W2, r1, fun h => absurd hc h, fun _ => r2, fin 0 v2 W2 (by omega) ?_ g2 t2⟩
    rw [List.append_nil] at o2
    rw [List.drop_of_length_le (by omega), show bcells [] = [] from rfl, List.append_nil]
    exact o2
  · obtain ⟨v2, W2, r2, o2, g2, -, t2⟩ := run_append_own_at (P := Tryz.prog) (w := W1) W.heap.size 50 50 92 i0 (.agg #[.int .i64 0, .int .i64 0]) 2 16 Tryz.underlying50 hi0 hz0 hz1 hz2 rfl (by decide) v1 i _ o1 ⟨g, (i + 1) * 2, none⟩ (T.length - (i + 1)) (c - (i + 1)) _ hl2 hn2 (bcells_one _) (by unfold maxLen; omega) (by omega) hbase
    exact ⟨v1, W1, v2, W2, r1, fun _ => r2, fun h => absurd h hc, fin _ v2 W2 rfl o2 g2 t2⟩
theorem ckE_zero {n f k : Nat} (hk : k ≤ 8) (h2 : f % 2 ^ k = 0) (h3 : f + 2 ^ k ≤ n) : ckE n f k = 0 := by
  have e : ((f : Int) % (2 ^ k : Nat)) = ((f % 2 ^ k : Nat) : Int) := by simp
  unfold ckE
  rw [if_neg (by rw [orB_nat hk]; decide), Int.toNat_natCast, two_zpow, e, h2, if_pos (by rfl), if_neg (by omega)]
theorem chE_free {F : List Bool} {f k : Nat} (hk : k ≤ 8) (h2 : f % 2 ^ k = 0) (h3 : f + 2 ^ k ≤ F.length) (hal : Alq F f (2 ^ k) false) : chE F f k true = 0 := by
  rw [chE_good true (ckE_zero hk h2 h3), Bool.not_true, if_pos (allB_iff.2 hal)]
/-- An appending whose run is known, as one step of a region that draws. -/
theorem step_append_run {P : Program} {ops : Array Oper} {o : Oper} {a : Act} {w : World} {K : Act → World → Prop} {Q : Exit → Act → World → Prop} {E : Prop}
    (hg : o.guard = none) (d x : Operand) (t : TypeId) (hop : o.op = Op.call { callee := Callee.builtin Builtin.append, args := #[d, x], argTypes := #[t, t] })
    (v u : Value) (hd : a.eval d = v) (hx : a.eval x = u) {v' : Value} {w' : World} (hr : (Builtin.append_ #[t, t] o.type #[v, u]).run P w = .ok v' w') (hK : K (a.put o.dst v') w') :
    if Region.wanted o (yielded ops a.tmps) = true then Oper.wp P o a w K Q else E := by
  have hw : Region.wanted o (yielded ops a.tmps) = true := by simp [Region.wanted, hg]
  rw [if_pos hw]
  unfold Oper.wp
  simp [execOp, hop, resolve, invoke, builtin, hd, hx, hr, Result.andThen]
  exact hK
theorem cells_of {C : Nat} {A : Option Addr} {c : Nat} {M : List (Nat × Nat)} (h : w.ownsRow C 92 2 (.slice A M.length c) M.length (bcells M)) {i : Nat} (hi : i < M.length) :
    ∃ g, A = some ⟨g, 0, none⟩ ∧ g < w.heap.size ∧ w.cell? ⟨g, i * 2, none⟩ = some (.int .i64 (M[i].1 : Nat)) ∧ w.cell? ⟨g, i * 2 + 1, none⟩ = some (.int .i64 (M[i].2 : Nat)) := by
  obtain ⟨_, hr, _⟩ := own_row h
  exact blk_cell hr hi
theorem cap_of {C g c m : Nat} {xs : List Value} (h : w.ownsRow C 92 2 (.slice (some ⟨g, 0, none⟩) m c) m xs) : m ≤ c ∧ c ≤ maxLen := by
  rcases h.2 with ⟨h1, _⟩ | ⟨g', cap, cur, h1, _, _, h2, h3, _⟩
  · cases h1
  · injection h1 with _ _ h4
    subst h4
    exact ⟨h2, h3⟩
/-- A block is added to a row: an appending whose run is known. -/
theorem app_run {W : World} {C : Nat} {v : Value} {M : List (Nat × Nat)} (hC : C ≤ W.heap.size) (hown : W.ownsRow C 92 2 v M.length (bcells M)) (hM : M.length ≤ 1024) (f k : Nat) : ∃ A c W3,
    (Builtin.append_ #[50, 50] 50 #[v, .slice (some ⟨W.heap.size, 0, none⟩) 1 1]).run Tryz.prog (W.alloc (.cells #[.int .i64 f, .int .i64 k] 92)).drew = .ok (.slice A (M.length + 1) c) W3 ∧
    W3.ownsRow C 92 2 (.slice A (M.length + 1) c) (M ++ [(f, k)]).length (bcells (M ++ [(f, k)])) ∧ W.grownBy W3 v.ownBlock ∧ ((Value.slice A (M.length + 1) c).ownBlock = v.ownBlock ∨ ∃ g, (Value.slice A (M.length + 1) c).ownBlock = some g ∧ W.heap.size ≤ g) := by
  obtain ⟨i0, hi0, hz0, hz1, hz2⟩ := info_parts info_block
  obtain ⟨v1, W1, r1, o1, g1, -, t1⟩ := run_append_own_at (P := Tryz.prog) (w := (W.alloc (.cells #[.int .i64 f, .int .i64 k] 92)).drewN 1) C 50 50 92 i0 (.agg #[.int .i64 0, .int .i64 0]) 2 16 Tryz.underlying50 hi0 hz0 hz1 hz2 rfl (by decide) v M.length _ (hown.alloc _) ⟨W.heap.size, 0, none⟩ 1 1 [.int .i64 f, .int .i64 k] rfl (new_cells W f k) (two_one f k) (by unfold maxLen; omega) (by omega) (by simp; omega)
  obtain ⟨A, c, hv⟩ := own_form o1
  subst hv
  refine ⟨A, c, W1, r1, ?_, ?_, ?_⟩
  · rw [List.length_append, bcells_append]
    simpa [bcells] using o1
  · exact World.grownBy.trans (World.grownBy.trans (grown_alloc (World.grownBy.refl W _) _) (grown_drewN _ 1 _)) g1
  · rcases t1 with e | e
    · exact Or.inl e
    · exact Or.inr ⟨_, e, by simp⟩
end
end Go.Proofs.YtklhcgekagimkaaGreat
