/- What was taken is given back: of both sides. -/
import Derived.Test.YtgkjkjpeolhgbaaCq
import Derived.Maps.AppendAt
import Derived.Deep.AppendLies
import Derived.BigRegion
import Derived.Deep.RegionLaw
import Derived.Deep.CutRange
import Derived.Deep.RegionHeld3
namespace Go.Proofs.Ytgkjkjpeolhgbaa
open Go.RowKit

section
variable {w : World} {B s a x y n : Nat} {F : List Bool} {T : List (Nat × Nat)} {tv : Value}
theorem bcells_take (T : List (Nat × Nat)) : ∀ (i : Nat), bcells (T.take i) = (bcells T).take (i * 2) := by
  induction T with
  | nil => intro i; simp [bcells]
  | cons t r ih =>
    intro i
    cases i with
    | zero => simp [bcells]
    | succ i => simp only [List.take_succ_cons, bcells, show (i + 1) * 2 = i * 2 + 1 + 1 by omega, ih]
theorem bcells_drop (T : List (Nat × Nat)) : ∀ (i : Nat), bcells (T.drop i) = (bcells T).drop (i * 2) := by
  induction T with
  | nil => intro i; simp [bcells]
  | cons t r ih =>
    intro i
    cases i with
    | zero => simp [bcells]
    | succ i => simp only [List.drop_succ_cons, bcells, show (i + 1) * 2 = i * 2 + 1 + 1 by omega, ih]
/-- The row of what is taken without one of its blocks, made anew by two appendings. -/
theorem without_run {W : World} {B g c i : Nat} {T : List (Nat × Nat)} (hB : B ≤ W.heap.size) (hown : W.ownsRow B 59 2 (.slice (some ⟨g, 0, none⟩) T.length c) T.length (bcells T)) (hi : i < T.length) (hT : T.length ≤ 1024) :
    ∃ v1 W1 v2 W2, (Builtin.append_ #[33, 33] 33 #[.slice (some ⟨W.heap.size, 0, none⟩) 0 0, .slice (some ⟨g, 0, none⟩) i c]).run Try.prog (W.alloc (.cells #[] 59)) = .ok v1 W1 ∧
      (c ≠ i + 1 → (Builtin.append_ #[33, 33] 33 #[v1, .slice (some ⟨g, (i + 1) * 2, none⟩) (T.length - (i + 1)) (c - (i + 1))]).run Try.prog W1 = .ok v2 W2) ∧
      (c = i + 1 → (Builtin.append_ #[33, 33] 33 #[v1, .slice (some ⟨g, 0, none⟩) 0 0]).run Try.prog W1 = .ok v2 W2) ∧
      W2.ownsRow B 59 2 v2 (T.take i ++ T.drop (i + 1)).length (bcells (T.take i ++ T.drop (i + 1))) ∧ Below W.heap.size W W2 ∧ (∃ g2, v2.ownBlock = some g2 ∧ W.heap.size ≤ g2) ∧ Below W.heap.size W W1 := by
  obtain ⟨i0, hi0, hz0, hz1, hz2⟩ := info_parts info_block
  have hcl := hown.cells (g := g) rfl
  have hgl := (hown.lt g rfl).2
  have hcap : T.length ≤ c := by
    rcases hown.2 with ⟨h1, _⟩ | ⟨g', cap, cur, h1, _, _, h2, _⟩
    · cases h1
    · injection h1 with _ _ h3; omega
  have hba : Below W.heap.size W (W.alloc (.cells #[] 59)) := (Below.refl _ _).alloc (Nat.le_refl _) _
  have hown0 : (W.alloc (.cells #[] 59)).ownsRow W.heap.size 59 2 (.slice (some ⟨W.heap.size, 0, none⟩) 0 0) 0 [] := World.ownsRow_made W #[] 0 (Nat.le_refl _) (by unfold maxLen; omega) rfl
  have hn1 : ∀ j u, (bcells (T.take i))[j]? = some u → (W.alloc (.cells #[] 59)).cell? ((⟨g, 0, none⟩ : Addr).add j) = some u := fun j u hu => by
    rw [hba.cell (by rw [add_block]; exact hgl)]
    refine hcl j u ?_
    rw [bcells_take] at hu
    have hj : j < i * 2 := by
      rcases Nat.lt_or_ge j (i * 2) with g1 | g1
      · exact g1
      · rw [List.getElem?_eq_none (by rw [List.length_take]; omega)] at hu; cases hu
    rwa [List.getElem?_take_of_lt hj] at hu
  have hl1 : (bcells (T.take i)).length = i * 2 := by rw [bcells_length, List.length_take]; omega
  obtain ⟨v1, W1, r1, o1, g1, -, t1⟩ := run_append_own_at (P := Try.prog) (w := W.alloc (.cells #[] 59)) W.heap.size 33 33 59 i0 (.agg #[.int .i64 0, .int .i64 0]) 2 16 Try.underlying33 hi0 hz0 hz1 hz2 rfl (by decide) _ 0 [] hown0 ⟨g, 0, none⟩ i c (bcells (T.take i)) hl1 hn1 (bcells_one _) (by unfold maxLen; omega) (by omega) (by simp)
  have hb1 : Below W.heap.size W W1 := hba.grown g1 (by simp) (fun k e => by simp only [Value.ownBlock, Option.some.injEq] at e; omega)
  have ht1 : ∃ q, v1.ownBlock = some q ∧ W.heap.size ≤ q := by
    rcases t1 with e | e
    · exact ⟨_, e, Nat.le_refl _⟩
    · exact ⟨_, e, by simp⟩
  simp only [Nat.zero_add, List.nil_append] at o1
  have hn2 : ∀ j u, (bcells (T.drop (i + 1)))[j]? = some u → W1.cell? ((⟨g, (i + 1) * 2, none⟩ : Addr).add j) = some u := fun j u hu => by
    rw [hb1.cell (by rw [add_block]; exact hgl)]
    rw [bcells_drop, List.getElem?_drop] at hu
    have := hcl _ u hu
    rw [add_zero_off] at this
    rw [← this]
    by_cases hj : j = 0
    · subst hj; simp [Addr.add]
    · unfold Addr.add; rw [if_neg hj]
  have hl2 : (bcells (T.drop (i + 1))).length = (T.length - (i + 1)) * 2 := by rw [bcells_length, List.length_drop]
  have hlen : (T.take i ++ T.drop (i + 1)).length = i + (T.length - (i + 1)) := by simp; omega
  have hbase : W.heap.size ≤ W1.heap.size := hb1.size
  have fin : ∀ (m : Nat) (v2 : Value) (W2 : World), m = T.length - (i + 1) → W2.ownsRow W.heap.size 59 2 v2 (i + m) (bcells (T.take i) ++ bcells (T.drop (i + 1))) → W1.grownBy W2 v1.ownBlock → (v2.ownBlock = v1.ownBlock ∨ v2.ownBlock = some W1.heap.size) →
      W2.ownsRow B 59 2 v2 (T.take i ++ T.drop (i + 1)).length (bcells (T.take i ++ T.drop (i + 1))) ∧ Below W.heap.size W W2 ∧ (∃ g2, v2.ownBlock = some g2 ∧ W.heap.size ≤ g2) ∧ Below W.heap.size W W1 := by
    intro m v2 W2 hm o2 g2 t2
    refine ⟨?_, hb1.grown g2 hbase (fun k e => ?_), ?_, hb1⟩
    · rw [hlen, bcells_append, ← hm]
      refine ⟨o2.1, ?_⟩
      rcases o2.2 with h | ⟨q, cap, cur, e1, e2, rest⟩
      · exact Or.inl h
      · exact Or.inr ⟨q, cap, cur, e1, Nat.le_trans hB e2, rest⟩
    · obtain ⟨q, e1, e2⟩ := ht1
      rw [e1] at e; injection e with e; omega
    · rcases t2 with e | e
      · rw [e]; exact ht1
      · exact ⟨_, e, hbase⟩
  by_cases hc : c = i + 1
  · have hTi : T.length = i + 1 := by omega
    obtain ⟨v2, W2, r2, o2, g2, -, t2⟩ := run_append_own_at (P := Try.prog) (w := W1) W.heap.size 33 33 59 i0 (.agg #[.int .i64 0, .int .i64 0]) 2 16 Try.underlying33 hi0 hz0 hz1 hz2 rfl (by decide) v1 i _ o1 ⟨g, 0, none⟩ 0 0 [] rfl (fun j u h => by simp at h) (fun u h => by cases h) (by unfold maxLen; omega) (by omega) hbase
    refine ⟨v1, W1, v2, W2, r1, fun h => absurd hc h, fun _ => r2, fin 0 v2 W2 (by omega) ?_ g2 t2⟩
    rw [List.append_nil] at o2
    rw [List.drop_of_length_le (by omega), show bcells [] = [] from rfl, List.append_nil]
    exact o2
  · obtain ⟨v2, W2, r2, o2, g2, -, t2⟩ := run_append_own_at (P := Try.prog) (w := W1) W.heap.size 33 33 59 i0 (.agg #[.int .i64 0, .int .i64 0]) 2 16 Try.underlying33 hi0 hz0 hz1 hz2 rfl (by decide) v1 i _ o1 ⟨g, (i + 1) * 2, none⟩ (T.length - (i + 1)) (c - (i + 1)) _ hl2 hn2 (bcells_one _) (by unfold maxLen; omega) (by omega) hbase
    exact ⟨v1, W1, v2, W2, r1, fun _ => r2, fun h => absurd h hc, fin _ v2 W2 rfl o2 g2 t2⟩
theorem ckE_zero {n f k : Nat} (hk : k ≤ 8) (h2 : f % 2 ^ k = 0) (h3 : f + 2 ^ k ≤ n) : ckE n f k = 0 := by
  have e : ((f : Int) % (2 ^ k : Nat)) = ((f % 2 ^ k : Nat) : Int) := by simp
  unfold ckE
  rw [if_neg (by rw [orB_nat hk]; decide), Int.toNat_natCast, two_zpow, e, h2, if_pos (by rfl), if_neg (by omega)]
theorem chE_free {F : List Bool} {f k : Nat} (hk : k ≤ 8) (h2 : f % 2 ^ k = 0) (h3 : f + 2 ^ k ≤ F.length) (hal : Alq F f (2 ^ k) false) : chE F f k true = 0 := by
  rw [chE_good true (ckE_zero hk h2 h3), Bool.not_true, if_pos (allB_iff.2 hal)]
/-- A box beside the state, behind the row of what is taken and the struct's field. -/
theorem lrow_grown_far {W W2 : World} {G : List Bool} {q : Nat} {vs : List Value} (h : St B W s a x y n F G T tv) (hq : Lrow W q 59 vs) (hb : Below W.heap.size W W2) (u : Value) : Lrow (W2.setCell ⟨s, 2, none⟩ u).drew q 59 vs :=
  ((hq.call hb).far (p := ⟨s, 2, none⟩) (by show q ≠ s; exact hq.apart h.top (by decide)) u).drewN 1
/-- An appending whose run is known, as one step of a region that draws. -/
theorem step_append_run {P : Program} {ops : Array Oper} {o : Oper} {a : Act} {w : World} {K : Act → World → Prop} {Q : Exit → Act → World → Prop} {E : Prop}
    (hg : o.guard = none) (d x : Operand) (t : TypeId) (hop : o.op = Op.call { callee := Callee.builtin Builtin.append, args := #[d, x], argTypes := #[t, t] })
    (v u : Value) (hd : a.eval d = v) (hx : a.eval x = u) {v' : Value} {w' : World} (hr : (Builtin.append_ #[t, t] o.type #[v, u]).run P w = .ok v' w') (hK : K (a.put o.dst v') w') :
    if Region.wanted o (yielded ops a.tmps) = true then Oper.wp P o a w K Q else E := by
  have hw : Region.wanted o (yielded ops a.tmps) = true := by simp [Region.wanted, hg]
  rw [if_pos hw]
  unfold Oper.wp
  simp [execOp, hop, resolve, invoke, builtin, hd, hx, hr, Result.andThen]
  exact hK
/-- What giving back comes to: it answers true; both sides have the same frames, and fewer are not free. -/
def Gave (B s a x y n : Nat) (F : List Bool) (tv : Value) (w : World) (e : Ending) (w' : World) : Prop :=
  e = .returned (.bool true) ∧ ∃ F' T' tv', St B w' s a x y n F' F' T' tv' ∧ Held F' T' ∧ Step B w w' tv tv' ∧ F'.count false < F.count false
theorem cells_of {C : Nat} {A : Option Addr} {c : Nat} {M : List (Nat × Nat)} (h : w.ownsRow C 59 2 (.slice A M.length c) M.length (bcells M)) {i : Nat} (hi : i < M.length) :
    ∃ g, A = some ⟨g, 0, none⟩ ∧ g < w.heap.size ∧ w.cell? ⟨g, i * 2, none⟩ = some (.int .i64 (M[i].1 : Nat)) ∧ w.cell? ⟨g, i * 2 + 1, none⟩ = some (.int .i64 (M[i].2 : Nat)) := by
  obtain ⟨_, hr, _⟩ := own_row h
  exact blk_cell hr hi
theorem cap_of {C g c m : Nat} {xs : List Value} (h : w.ownsRow C 59 2 (.slice (some ⟨g, 0, none⟩) m c) m xs) : m ≤ c ∧ c ≤ maxLen := by
  rcases h.2 with ⟨h1, _⟩ | ⟨g', cap, cur, h1, _, _, h2, h3, _⟩
  · cases h1
  · injection h1 with _ _ h4
    subst h4
    exact ⟨h2, h3⟩
set_option maxHeartbeats 1000000 in
set_option maxRecDepth 100000 in
theorem give_whole (h : St B w s a x y n F F T tv) (hH : Held F T) {i : Nat} (hi : i < T.length) {half : Bool} (hw : half = false ∨ T[i].2 = 0) :
    Calls Try.prog 22 #[.pointer (some ⟨s, 0, none⟩), .int .i64 i, .bool half] w (Gave B s a x y n F tv w) := by
  obtain ⟨A, c, hv⟩ := own_form h.own
  subst hv
  obtain ⟨g, hA, hg, hc1, hc2⟩ := cells_of h.own hi
  subst hA
  obtain ⟨hcap, hcm⟩ := cap_of h.own
  have hT10 : T.length ≤ 1024 := by have := hH.len_n; have := h.len; have := h.n10; omega
  obtain ⟨he1, he2, he3⟩ := hH.even _ (List.getElem_mem hi)
  have hgv := hH.give i hi
  have hal := hH.all (List.getElem_mem hi)
  obtain ⟨m1, hm1⟩ : ∃ m1, m1 = T.length := ⟨_, rfl⟩
  rw [← hm1] at h hcap ⊢
  have HM1 := Lib.hid hm1
  have him : i < m1 := by omega
  have hm10 : m1 ≤ 1024 := by omega
  clear hm1
  have hcz := h.c2
  obtain ⟨f, hf⟩ : ∃ f, f = T[i].1 := ⟨_, rfl⟩
  obtain ⟨k, hk⟩ : ∃ k, k = T[i].2 := ⟨_, rfl⟩
  rw [← hf] at hc1 he2 he3 hgv hal
  rw [← hk] at hc2 hw he1 he2 he3 hgv hal
  have hce : chE F f k true = 0 := chE_free he1 he2 he3 hal
  have hcl : chL F f k true = setR F f (2 ^ k) true := by
    have := chL_of hce
    simpa using this
  have hcnt : (setR F f (2 ^ k) true).count false < F.count false := by
    have := count_setR (F := F) (a := f) (v := true) (m := 2 ^ k) he3 hal
    have := two_pos k
    simp only [Bool.not_true] at *
    omega
  have hfn : f ≤ 1024 := by have := h.len; have := h.n10; have := two_pos k; omega
  have HS := Lib.hid h
  have HG := Lib.hid hgv
  have HCN := Lib.hid hcnt
  have HCE := Lib.hid hce
  have HCL := Lib.hid hcl
  have HT10 := Lib.hid hT10
  have i0 : (0 : Int) ≤ i := by omega
  have im : (i : Int) < m1 := by omega
  clear h hH hgv hal hce hcl hcnt he2 he3 hf hk hT10
  go_enter Try.func22, Try.ntmps22
  go_wp2_with fail
  have HS1 := Lib.hid (HS.out.alloc (.cells #[.int .i64 f, .int .i64 k] 59))
  have HT1 := Lib.hid (Lrow.new w 59 [.int .i64 f, .int .i64 k])
  have HST := Lib.hid (Step.call (B := B) ((Below.refl w.heap.size w).alloc (Nat.le_refl _) (.cells #[.int .i64 f, .int .i64 k] 59)) HS.out.lo (.slice (some ⟨g, 0, none⟩) m1 c))
  have hqs : w.heap.size < (w.alloc (.cells #[.int .i64 f, .int .i64 k] 59)).heap.size := by simp
  clear hc1 hc2 hcz HS
  generalize w.heap.size = q at HT1 hqs ⊢
  generalize (w.alloc (.cells #[.int .i64 f, .int .i64 k] 59)) = W at HS1 HT1 HST hqs ⊢
  have ho := (HS1.out.drewN 1).own
  rw [HM1.out] at ho
  obtain ⟨v1, W1, v2, W2, r1, r2a, r2b, o2, b2, t2, b1⟩ := without_run (W := W.drew) (B := B) (by have := HS1.out.lo; exact this) ho hi HT10.out
  rw [← HM1.out] at r2a
  clear ho
  obtain ⟨m2, hm2⟩ : ∃ m2, m2 = (T.take i ++ T.drop (i + 1)).length := ⟨_, rfl⟩
  rw [← hm2] at o2
  have HM2 := Lib.hid hm2
  clear hm2
  obtain ⟨A2, c2, hv2⟩ := own_form o2
  subst hv2
  have r1' : (Builtin.append_ #[33, 33] 33 #[.slice (some ⟨W.heap.size, 0, none⟩) 0 0, .slice (some ⟨g, 0, none⟩) i c]).run Try.prog (W.alloc (.cells #[] 59)).drew = .ok v1 W1 := r1
  have hcz := HS1.out.c2
  have hsW : s < W.heap.size := HS1.out.top.lt
  have hsne : ¬ s = W.heap.size := by omega
  have hs1 := HS1.out.top.call (w' := W1) ⟨b1.os, b1.tape, b1.output, b1.size, b1.block⟩
  have hs2 := HS1.out.top.call (w' := W2) ⟨b2.os, b2.tape, b2.output, b2.size, b2.block⟩
  have hc1 : W1.cell? ⟨s, 2, none⟩ = some (.slice (some ⟨g, 0, none⟩) m1 c) := hs1.cell 2
  have hc2 : W2.cell? ⟨s, 2, none⟩ = some (.slice (some ⟨g, 0, none⟩) m1 c) := hs2.cell 2
  have hf2 := hs2.frozen 2
  have HO2 := Lib.hid o2
  have HB2 := Lib.hid b2
  have HT2 := Lib.hid t2
  have iw : IntKind.i64.wrap ((i : Int) + 1) = i + 1 := IntWalk.i64_in _ (by have := HT10.out; omega)
  have it1 : ((i : Int) + 1).toNat = i + 1 := by omega
  have hic : (i : Int) ≤ c := by omega
  have i1 : (0 : Int) ≤ (i : Int) + 1 := by omega
  have i1m : (i : Int) + 1 ≤ m1 := by omega
  have himc : i ≤ c := by omega
  have htc : (m1 : Int) ≤ c := by omega
  have hs2f := hs2
  clear r1 o2 b2 t2 b1 hs1 hs2
  have HF2 := Lib.hid hs2f
  go_cut [17] from 17 to 35 (fun s17 wx => wx = W2.setCell ⟨s, 2, none⟩ (.slice A2 m2 c2))
  case first =>
    by_cases hc : c = i + 1
    · have r2' := r2b hc
      have hTi : m1 = i + 1 := by omega
      subst hc
      clear r2a r2b
      subst hTi
      have hle : (i : Int) ≤ (i : Int) + 1 := by omega
      go_region_law (first | (refine step_append_run (by rfl) _ _ 33 (by rfl) (.slice (some ⟨W.heap.size, 0, none⟩) 0 0) (.slice (some ⟨g, 0, none⟩) i (i + 1)) (by simp [Act.eval, Act.put]) (by simp [Act.eval, Act.put]) r1' ?_) | (refine step_append_run (by rfl) _ _ 33 (by rfl) v1 (.slice (some ⟨g, 0, none⟩) 0 0) (by simp [Act.eval, Act.put]) (by simp [Act.eval, Act.put]) r2' ?_))
      all_goals
        go_wp2_with fail
        go_meet
        rfl
    · have r2' := r2a hc
      have hc' : ¬ (c : Int) = (i : Int) + 1 := by omega
      clear r2a r2b
      go_region_law (first | (refine step_append_run (by rfl) _ _ 33 (by rfl) (.slice (some ⟨W.heap.size, 0, none⟩) 0 0) (.slice (some ⟨g, 0, none⟩) i c) (by simp [Act.eval, Act.put]) (by simp [Act.eval, Act.put]) r1' ?_) | (refine step_append_run (by rfl) _ _ 33 (by rfl) v1 (.slice (some ⟨g, (i + 1) * 2, none⟩) (m1 - (i + 1)) (c - (i + 1))) (by simp [Act.eval, Act.put]) (by simp [Act.eval, Act.put]) r2' ?_))
      all_goals
        go_wp2_with fail
        go_meet
        rfl
  case rest =>
    subst hcut
    have hg2 : W.grownBy W2 (Value.ownBlock (.slice (some ⟨g, 0, none⟩) m1 c)) := ⟨HB2.out.os, HB2.out.tape, HB2.out.output, HB2.out.size, fun k hk _ => HB2.out.block k hk⟩
    have hst := HS1.out.taken hg2 (T' := T.take i ++ T.drop (i + 1)) (by rw [← HM2.out]; exact HO2.out) (Or.inr HT2.out)
    have HSTEP := Lib.hid (HST.out.trans (hst.2.trans (Step.call (below_dN (Below.refl _ _) 1) hst.1.lo _)))
    have HS3 := Lib.hid (hst.1.drewN 1)
    have hT3 : Lrow (W2.setCell ⟨s, 2, none⟩ (.slice A2 m2 c2)).drew q 59 [.int .i64 f, .int .i64 k] := lrow_grown_far (HS1.out.drewN 1) (HT1.out.drewN 1) HB2.out _
    have HT3 := Lib.hid hT3
    have hs3 := And.intro HS3.out.c0 (And.intro HS3.out.c1 (And.intro (hT3.cell 0) (hT3.cell 1)))
    have HGV : Hid (Calls Try.prog 28 #[.pointer (some ⟨a, 0, none⟩), .int .i64 f, .int .i64 k] (W2.setCell ⟨s, 2, none⟩ (.slice A2 m2 c2)).drew (Chg B a n 0 (setR F f (2 ^ k) true) (W2.setCell ⟨s, 2, none⟩ (.slice A2 m2 c2)).drew)) := by
      obtain ⟨L, hL, hGd⟩ := HS3.out.bud
      have := give_any hL hGd HS3.out.len HS3.out.n10 f k (by omega) (by omega)
      rw [HCE.out, HCL.out] at this
      exact this
    have HCV : Hid (∀ w4, RefAt w4 x y n F → Calls Try.prog 31 #[.pointer (some ⟨x, 0, none⟩), .int .i64 f, .int .i64 k, .bool true] w4 (RefChg x y n 0 (setR F f (2 ^ k) true) w4)) := fun w4 h4 => by
      have := refChange_any h4 f k (by omega) (by omega) true
      rw [HCE.out, HCL.out] at this
      exact this
    have HLn : Hid ((setR F f (2 ^ k) true).length = n) := by
      show _ = _
      rw [setR_length]; exact HS1.out.len
    have hq1 : (W2.setCell ⟨s, 2, none⟩ (.slice A2 m2 c2)).cell? ⟨q, 1, none⟩ = some (.int .i64 k) := hT3.cell 1
    clear hst hT3 hg2 hcz hc1 hc2 hf2 r1' r2a r2b hs2f HF2
    generalize W2.setCell ⟨s, 2, none⟩ (.slice A2 m2 c2) = W3 at HSTEP HS3 HT3 hs3 HGV HCV hq1 ⊢
    rcases hw with rfl | rfl
    · go_wp2_with fail
      go_region_held3 (fun v => v.cell? ⟨s, 0, none⟩ = some (.pointer (some ⟨a, 0, none⟩)) ∧ v.cell? ⟨s, 1, none⟩ = some (.pointer (some ⟨x, 0, none⟩)) ∧ v.cell? ⟨q, 0, none⟩ = some (.int .i64 f) ∧ v.cell? ⟨q, 1, none⟩ = some (.int .i64 k)) (first | exact hs3 | exact ⟨hs4.c0, hs4.c1, q4.cell 0, q4.cell 1⟩ | exact ⟨hs5.c0, hs5.c1, q5.cell 0, q5.cell 1⟩)
        (first | (go_at_call 28; refine Calls.mono HGV.out ?_; rintro e w4 ⟨rfl, ht4, L4, hx4, hg4⟩; have hs4 := HS3.out.budTurn ht4 hx4 hg4 HLn.out; have q4 := ht4.row _ _ _ HT3.out (by decide) (by decide)) | (go_at_call 31; refine Calls.mono (HCV.out _ hs4.ref) ?_; rintro e w5 ⟨rfl, hr5, hg5⟩; have hs5 := hs4.refGrown hg5 hr5; have q5 := lrow_grown_ne hs4.ref.row hg5 q4 (by decide)))
      have HS5 := Lib.hid hs5
      have HST5 := Lib.hid (HSTEP.out.trans ((Step.turn ht4 _).trans (Step.grown hs4.ref.row (Or.inr (Or.inr (Or.inr (Or.inr rfl)))) HS3.out.ly hg5 _)))
      clear hs4 hs5 q4 q5 ht4 hx4 hg4 hr5 hg5
      go_wp2
      go_ret
      exact ⟨rfl, _, _, _, HS5.out, HG.out, HST5.out, HCN.out⟩
    · have hd0 : decide ((0 : Int) < 0) = false := by decide
      cases half with
      | false =>
        go_wp2_with fail
        go_region_held3 (fun v => v.cell? ⟨s, 0, none⟩ = some (.pointer (some ⟨a, 0, none⟩)) ∧ v.cell? ⟨s, 1, none⟩ = some (.pointer (some ⟨x, 0, none⟩)) ∧ v.cell? ⟨q, 0, none⟩ = some (.int .i64 f) ∧ v.cell? ⟨q, 1, none⟩ = some (.int .i64 ((0 : Nat) : Int))) (first | exact hs3 | exact ⟨hs4.c0, hs4.c1, q4.cell 0, q4.cell 1⟩ | exact ⟨hs5.c0, hs5.c1, q5.cell 0, q5.cell 1⟩)
          (first | (go_at_call 28; refine Calls.mono HGV.out ?_; rintro e w4 ⟨rfl, ht4, L4, hx4, hg4⟩; have hs4 := HS3.out.budTurn ht4 hx4 hg4 HLn.out; have q4 := ht4.row _ _ _ HT3.out (by decide) (by decide)) | (go_at_call 31; refine Calls.mono (HCV.out _ hs4.ref) ?_; rintro e w5 ⟨rfl, hr5, hg5⟩; have hs5 := hs4.refGrown hg5 hr5; have q5 := lrow_grown_ne hs4.ref.row hg5 q4 (by decide)))
        have HS5 := Lib.hid hs5
        have HST5 := Lib.hid (HSTEP.out.trans ((Step.turn ht4 _).trans (Step.grown hs4.ref.row (Or.inr (Or.inr (Or.inr (Or.inr rfl)))) HS3.out.ly hg5 _)))
        clear hs4 hs5 q4 q5 ht4 hx4 hg4 hr5 hg5
        go_wp2
        go_ret
        exact ⟨rfl, _, _, _, HS5.out, HG.out, HST5.out, HCN.out⟩
      | true =>
        go_wp2_with fail
        go_region_held3 (fun v => v.cell? ⟨s, 0, none⟩ = some (.pointer (some ⟨a, 0, none⟩)) ∧ v.cell? ⟨s, 1, none⟩ = some (.pointer (some ⟨x, 0, none⟩)) ∧ v.cell? ⟨q, 0, none⟩ = some (.int .i64 f) ∧ v.cell? ⟨q, 1, none⟩ = some (.int .i64 ((0 : Nat) : Int))) (first | exact hs3 | exact ⟨hs4.c0, hs4.c1, q4.cell 0, q4.cell 1⟩ | exact ⟨hs5.c0, hs5.c1, q5.cell 0, q5.cell 1⟩)
          (first | (go_at_call 28; refine Calls.mono HGV.out ?_; rintro e w4 ⟨rfl, ht4, L4, hx4, hg4⟩; have hs4 := HS3.out.budTurn ht4 hx4 hg4 HLn.out; have q4 := ht4.row _ _ _ HT3.out (by decide) (by decide)) | (go_at_call 31; refine Calls.mono (HCV.out _ hs4.ref) ?_; rintro e w5 ⟨rfl, hr5, hg5⟩; have hs5 := hs4.refGrown hg5 hr5; have q5 := lrow_grown_ne hs4.ref.row hg5 q4 (by decide)))
        have HS5 := Lib.hid hs5
        have HST5 := Lib.hid (HSTEP.out.trans ((Step.turn ht4 _).trans (Step.grown hs4.ref.row (Or.inr (Or.inr (Or.inr (Or.inr rfl)))) HS3.out.ly hg5 _)))
        clear hs4 hs5 q4 q5 ht4 hx4 hg4 hr5 hg5
        go_wp2
        go_ret
        exact ⟨rfl, _, _, _, HS5.out, HG.out, HST5.out, HCN.out⟩
end
end Go.Proofs.Ytgkjkjpeolhgbaa
