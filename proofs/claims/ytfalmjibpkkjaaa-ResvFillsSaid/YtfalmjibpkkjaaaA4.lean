/- The reference of reservations: the list laid anew; Open, Break. -/
import Derived.Test.YtfalmjibpkkjaaaA3
namespace Go.Proofs.Ytfalmjibpkkjaaa
open Go.RowKit
/-! A list with one put in, and how far that is. -/
def insG {α : Type} (q : α → Bool) (x : α) (L : List α) : List α := L.takeWhile q ++ x :: L.dropWhile q
def outJ {α : Type} (q : α → Bool) (x : α) (L : List α) (j : Nat) : List α := if (L.take j).all q = true then L.take j else insG q x (L.take j)
def dnJ {α : Type} (q : α → Bool) (L : List α) (j : Nat) : Bool := !(L.take j).all q
section
variable {α : Type} {q : α → Bool} {x : α} {L : List α} {j : Nat}
theorem take_while_all {T : List α} (h : T.all q = true) : T.takeWhile q = T ∧ T.dropWhile q = [] := by
  induction T with
  | nil => exact ⟨rfl, rfl⟩
  | cons a r ih =>
    rw [List.all_cons, Bool.and_eq_true] at h
    obtain ⟨i1, i2⟩ := ih h.2
    exact ⟨by rw [List.takeWhile_cons_of_pos h.1, i1], by rw [List.dropWhile_cons_of_pos h.1, i2]⟩
theorem insG_more {T : List α} (h : ¬ T.all q = true) (y : α) : insG q x (T ++ [y]) = insG q x T ++ [y] := by
  have e : (T ++ [y]).takeWhile q = T.takeWhile q ∧ (T ++ [y]).dropWhile q = T.dropWhile q ++ [y] := by
    induction T with
    | nil => exact absurd rfl h
    | cons a r ih =>
      by_cases c : q a = true
      · have hr : ¬ r.all q = true := fun k => h (by rw [List.all_cons, c, k]; rfl)
        obtain ⟨i1, i2⟩ := ih hr
        rw [List.cons_append, List.takeWhile_cons_of_pos c, List.takeWhile_cons_of_pos c, List.dropWhile_cons_of_pos c, List.dropWhile_cons_of_pos c, i1, i2]
        exact ⟨rfl, rfl⟩
      · rw [List.cons_append, List.takeWhile_cons_of_neg c, List.takeWhile_cons_of_neg c, List.dropWhile_cons_of_neg c, List.dropWhile_cons_of_neg c]
        exact ⟨rfl, rfl⟩
  unfold insG
  rw [e.1, e.2]
  simp
theorem all_next (hj : j < L.length) : (L.take (j + 1)).all q = ((L.take j).all q && q L[j]) := by
  rw [List.take_succ_eq_append_getElem hj, List.all_append]; simp
theorem outJ_done (hj : j < L.length) (h : dnJ q L j = true) : outJ q x L (j + 1) = outJ q x L j ++ [L[j]] ∧ dnJ q L (j + 1) = true := by
  unfold dnJ at h ⊢
  have hn : ¬ (L.take j).all q = true := by simpa using h
  have e := all_next (q := q) hj
  have hn' : ¬ (L.take (j + 1)).all q = true := by rw [e]; intro k; rw [Bool.and_eq_true] at k; exact hn k.1
  unfold outJ
  rw [if_neg hn, if_neg hn', List.take_succ_eq_append_getElem hj, insG_more hn]
  refine ⟨rfl, ?_⟩
  rw [← List.take_succ_eq_append_getElem hj]
  simpa using hn'
theorem outJ_bef (hj : j < L.length) (h : dnJ q L j = false) (hq : q L[j] = true) : outJ q x L (j + 1) = outJ q x L j ++ [L[j]] ∧ dnJ q L (j + 1) = false := by
  unfold dnJ at h ⊢
  have hn : (L.take j).all q = true := by simpa using h
  have e := all_next (q := q) hj
  rw [hn, hq] at e
  unfold outJ
  rw [if_pos hn, if_pos (by rw [e]; rfl), e, List.take_succ_eq_append_getElem hj]
  exact ⟨rfl, rfl⟩
theorem outJ_put (hj : j < L.length) (h : dnJ q L j = false) (hq : q L[j] = false) : outJ q x L (j + 1) = outJ q x L j ++ [x] ++ [L[j]] ∧ dnJ q L (j + 1) = true := by
  unfold dnJ at h ⊢
  have hn : (L.take j).all q = true := by simpa using h
  have e := all_next (q := q) hj
  rw [hn, hq] at e
  unfold outJ
  rw [if_pos hn, if_neg (by rw [e]; decide), e]
  refine ⟨?_, rfl⟩
  have e2 : (L.take j ++ [L[j]]).takeWhile q = L.take j ∧ (L.take j ++ [L[j]]).dropWhile q = [L[j]] := by
    generalize L.take j = T at hn
    generalize L[j] = y at hq
    clear e
    induction T with
    | nil => exact ⟨List.takeWhile_cons_of_neg (by rw [hq]; decide), List.dropWhile_cons_of_neg (by rw [hq]; decide)⟩
    | cons a r ih =>
      rw [List.all_cons, Bool.and_eq_true] at hn
      obtain ⟨i1, i2⟩ := ih hn.2
      rw [List.cons_append, List.takeWhile_cons_of_pos hn.1, List.dropWhile_cons_of_pos hn.1, i1, i2]
      exact ⟨rfl, rfl⟩
  rw [List.take_succ_eq_append_getElem hj]
  unfold insG
  rw [e2.1, e2.2]
  simp
theorem outJ_start : outJ q x L 0 = [] ∧ dnJ q L 0 = false := ⟨rfl, rfl⟩
theorem outJ_end (hj : L.length ≤ j) : (dnJ q L j = false → outJ q x L j ++ [x] = insG q x L) ∧ (dnJ q L j = true → outJ q x L j = insG q x L) := by
  unfold dnJ outJ
  rw [List.take_of_length_le hj]
  constructor
  · intro h
    have hn : L.all q = true := by simpa using h
    rw [if_pos hn]
    unfold insG
    rw [(take_while_all hn).1, (take_while_all hn).2]
  · intro h
    have hn : ¬ L.all q = true := by simpa using h
    rw [if_neg hn]
theorem mem_insG {y : α} : y ∈ insG q x L ↔ y = x ∨ y ∈ L := by
  unfold insG
  have e : y ∈ L ↔ y ∈ L.takeWhile q ∨ y ∈ L.dropWhile q := by
    rw [← List.mem_append, List.takeWhile_append_dropWhile]
  rw [e, List.mem_append, List.mem_cons]
  constructor
  · rintro (h | h | h)
    · exact Or.inr (Or.inl h)
    · exact Or.inl h
    · exact Or.inr (Or.inr h)
  · rintro (h | h | h)
    · exact Or.inr (Or.inl h)
    · exact Or.inl h
    · exact Or.inr (Or.inr h)
end
theorem insG_map (q : Rv → Bool) (x : Rw) : ∀ (K : List Rw), (insG (fun y => q y.v) x K).map Rw.v = insG q x.v (K.map Rw.v) := by
  intro K
  unfold insG
  rw [List.map_append, List.map_cons, List.takeWhile_map, List.dropWhile_map]
  rfl
section
variable {w w' : World} {B xa : Nat} {v : Value} {K : List Rw} {S S' : Rs} {n : Nat} {s p : Int}
/-- The list is laid anew. -/
theorem Rx.anew (h : Rx B w xa v K S) {wr : World} (f : Foot (fun k => k = xa) w wr) {T' : Int} (ht : Lrow wr xa 48 [v, .int .i64 T']) {v' : Value} {K' : List Rw} (ho : EOn.Own w.heap.size wr v' K')
    (hy : ∀ y ∈ K', (∃ rest, Lrow wr y.g 4 (bitsV y.v.n ++ rest)) ∧ (y ∈ K ∨ w.heap.size ≤ y.g)) (hS : K'.map Rw.v = S'.L) (hT : T' = S'.T) :
    wr.frozen? ⟨xa, 0, none⟩ = false ∧ wr.cell? ⟨xa, 0, none⟩ = some v ∧ DidR B w xa v K S' (wr.setCell ⟨xa, 0, none⟩ v') := by
  subst hT
  have g1 := grown_set wr xa 0 v'
  have kk : ∀ k, k < wr.heap.size → k ≠ xa → (wr.setCell ⟨xa, 0, none⟩ v').heap[k]? = wr.heap[k]? := fun k hk hne => g1.block k hk (by intro e; injection e with e; exact hne e)
  refine ⟨ht.frozen 0, ht.cell 0, v', K', ⟨ht.set_ 0 v', ?_, hS, fun y hyk => ?_, h.lo, ?_, fun y hyk => ?_⟩, ?_, fun k hk => ?_⟩
  · refine (ho.base h.lw).heap fun g e => ?_
    obtain ⟨vs, r, _⟩ := ho.block e
    exact kk g r.lt (r.apart ht (by decide))
  · obtain ⟨⟨rest, r⟩, _⟩ := hy y hyk
    exact ⟨rest, (kk _ r.lt (r.apart ht (by decide))).trans r⟩
  · exact Nat.le_trans h.lw (Nat.le_trans f.size g1.size)
  · rcases (hy y hyk).2 with e | e
    · exact h.bg y e
    · exact Nat.le_trans h.lw e
  · exact (f.mono (Y := MineX xa v K) fun b e => Or.inl e).trans (Foot.grown (X := MineX xa v K) g1 (Or.inl rfl)) fun _ e _ => e
  · rcases hk with rfl | e | ⟨y, hyk, rfl⟩
    · exact Or.inl (Or.inl rfl)
    · obtain ⟨vs, _, r⟩ := ho.block e
      exact Or.inr r
    · rcases (hy y hyk).2 with e | e
      · exact Or.inl (Or.inr (Or.inr ⟨y, e, rfl⟩))
      · exact Or.inr e
/-! Open: the frames that are not filled. -/
def opK (n : Nat) (f : Int) (k : Nat) : List Int := ((List.range k).filter fun i => !n.testBit i).map fun i => f + (i : Nat)
theorem opK_succ (n : Nat) (f : Int) (k : Nat) : opK n f (k + 1) = if n.testBit k = true then opK n f k else opK n f k ++ [f + (k : Nat)] := by
  unfold opK
  rw [List.range_succ, List.filter_append, List.map_append]
  by_cases c : n.testBit k = true
  · rw [if_pos c, List.filter_cons_of_neg (by simp [c])]; simp
  · rw [if_neg c, List.filter_cons_of_pos (by simpa using c)]; simp
theorem opK_len (n : Nat) (f : Int) (k : Nat) : (opK n f k).length ≤ k := by
  unfold opK
  rw [List.length_map]
  exact Nat.le_trans (List.length_filter_le _ _) (by simp)
theorem opK_all (n : Nat) (f : Int) : opK n f 8 = opN n f := rfl
/-- Numbers that are told. -/
def ToldI (R : List Int) (w : World) (e : Ending) (w' : World) : Prop := ∃ A c, e = .returned (.slice A R.length c) ∧ EI.Own w.heap.size w' (.slice A R.length c) R ∧ Below w.heap.size w w'
set_option maxRecDepth 100000 in
set_option maxHeartbeats 2000000 in
theorem open_x {g c nn : Nat} {sv pv fv tv : Int} (hm : ∀ i, i < 8 → w.cell? ⟨g, i, none⟩ = some (.bool (nn.testBit i))) (hg : g < w.heap.size) (f0 : 0 ≤ fv) (f1 : fv ≤ 1016) : Calls Try.prog 39 #[.agg #[.int .i64 sv, .int .i64 pv, .int .i64 fv, .slice (some ⟨g, 0, none⟩) 8 c, .int .i64 tv]] w (ToldI (opN nn fv) w) := by
  obtain ⟨W0, hW0⟩ : ∃ W0, W0 = w.alloc (.cells #[.int .i64 sv, .int .i64 pv, .int .i64 fv, .slice (some ⟨g, 0, none⟩) 8 c, .int .i64 tv] 53) := ⟨_, rfl⟩
  obtain ⟨q, hq⟩ : ∃ q, q = w.heap.size := ⟨_, rfl⟩
  have g0 : Below w.heap.size w W0 := by rw [hW0]; exact below_new _ _
  have rs : Lrow W0 q 53 [.int .i64 sv, .int .i64 pv, .int .i64 fv, .slice (some ⟨g, 0, none⟩) 8 c, .int .i64 tv] := by rw [hW0, hq]; exact Lrow.new w _ _
  have hm0 : ∀ i, i < 8 → W0.cell? ⟨g, i, none⟩ = some (.bool (nn.testBit i)) := fun i hi => (g0.cell (p := ⟨g, i, none⟩) hg).trans (hm i hi)
  have hg0 : g < W0.heap.size := Nat.lt_of_lt_of_le hg g0.size
  have HW := Lib.hid (And.intro hW0 hq)
  have HM := Lib.hid hm0
  have HS := Lib.hid rs
  have HG := Lib.hid (And.intro g0 hg0)
  clear hm hg hW0 hq rs hm0 g0 hg0
  go_enter Try.func39, Try.ntmps39
  go_upto_region 1 with (fail)
  rw [← HW.out.1, ← HW.out.2]
  go_wp2_with fail
  go_loopw [3, 4] (fun r k wr => ∃ j : Nat, j ≤ 8 ∧ k = .int .i64 j ∧ EI.Own w.heap.size wr r (opK nn fv j) ∧ Below W0.heap.size W0 wr) (fun _ k _ => 8 - (RowKit.intOf k).toNat)
  case atStart => exact ⟨0, Nat.zero_le _, rfl, ⟨rfl, Or.inl ⟨rfl, rfl⟩⟩, Below.refl _ _⟩
  case round =>
    obtain ⟨j, hj, rfl, hown, hb⟩ := hrel
    obtain ⟨Ar_, cr, rfl⟩ := hown.form
    have hlen := opK_len nn fv j
    have HSU := Lib.hid (opK_succ nn fv j)
    obtain ⟨R, hR⟩ : ∃ R, R = opK nn fv j := ⟨_, rfl⟩
    rw [← hR] at hown HSU hlen ⊢
    obtain ⟨m, hmm⟩ : ∃ m, m = R.length := ⟨_, rfl⟩
    have HR := Lib.hid (And.intro hR hmm)
    have HO := Lib.hid hown
    have HB := Lib.hid hb
    rw [← hmm]
    by_cases hlt : j < 8
    · have hx := HM.out j hlt
      have d0 : wr.cell? ⟨g, j, none⟩ = some (.bool (nn.testBit j)) := (hb.cell (p := ⟨g, j, none⟩) HG.out.2).trans hx
      have rw_ := HS.out.call hb
      have e3 := rw_.cell 3
      have e2 := rw_.cell 2
      have j1 : (j : Int) < 8 := by omega
      have j0 : (0 : Int) ≤ j := by omega
      clear hx rw_ hb hown hR hmm hlen
      by_cases hc : nn.testBit j = true
      · rw [hc] at d0
        have HF : Hid (opK nn fv (j + 1) = R) := by show _ = _; rw [HSU.out, if_pos hc]
        clear hc
        go_wp2_with fail
        go_roundw
        case rel => exact ⟨j + 1, by omega, by go_num, by rw [HF.out, HR.out.2]; exact HO.out, HB.out⟩
        case measure => simp [RowKit.intOf]; omega
      · rw [show nn.testBit j = false by simpa using hc] at d0
        have HF : Hid (opK nn fv (j + 1) = R ++ [fv + (j : Nat)]) := by show _ = _; rw [HSU.out, if_neg hc]
        have hlen : R.length ≤ 8 := by have h1 := opK_len nn fv j; have h2 := HR.out.1; rw [h2]; omega
        obtain ⟨y, hy⟩ : ∃ y, y = fv + (j : Int) := ⟨_, rfl⟩
        have s1 : IntKind.i64.wrap (fv + (j : Int)) = y := by rw [hy]; exact IntWalk.i64_in _ (by omega)
        obtain ⟨A5, c5, W5, r5, o5, g5, -⟩ := HO.out.app1 (Nat.le_trans HG.out.1.size HB.out.size) y (by omega) #[.int .i64 y] rfl
        have r5' := r5 _ rfl
        rw [← HR.out.2] at r5' o5
        change (Builtin.append_ #[42, 42] 42 _).run Try.prog (wr.alloc (.cells #[.int .i64 y] 3)) = _ at r5'
        have HO5 := Lib.hid o5
        have HY := Lib.hid hy
        have HB5 : Hid (Below W0.heap.size W0 W5) := Below.grown HB.out g5 HB.out.size (fun k e => by
          rcases Nat.lt_or_ge k W0.heap.size with hk | hk
          · exfalso
            obtain ⟨vs, r, hlo⟩ := HO.out.block e
            have hs : W0.heap.size = w.heap.size + 1 := by rw [HW.out.1]; simp
            obtain rfl : k = q := by have := HW.out.2; omega
            exact r.apart (HS.out.call HB.out) (by decide) rfl
          · exact hk)
        clear hc o5 g5 r5 hy
        go_wp2_with (at_builtin; refine wpList_append_run rfl _ _ 42 rfl _ _ rfl rfl r5' ?_)
        go_roundw
        case rel => exact ⟨j + 1, by omega, by go_num, by rw [HF.out, ← HY.out]; exact HO5.out, HB5.out⟩
        case measure => simp [RowKit.intOf]; omega
    · obtain rfl : j = 8 := by omega
      have HE : Hid (R = opN nn fv) := hR
      clear hown hb hR hmm hlen
      go_wp2_with fail
      go_ret
      exact ⟨Ar_, cr, by rw [← HE.out, ← HR.out.2]; rfl, by rw [← HE.out, ← HR.out.2]; rw [HR.out.2]; exact HO.out, HG.out.1.trans (HB.out.mono HG.out.1.size)⟩
end
end Go.Proofs.Ytfalmjibpkkjaaa
