/- slices.Insert of one spot. -/
import Derived.Test.YtgpbbmcadifdhaaR4
import Derived.Shelf.RegionOpenPlain
import Derived.Lib.JoinLaws
namespace Go.Proofs.Ytgpbbmcadifdhaa
open Go.RowKit Go.Shelf

theorem wpList_copy_run2 {P : Program} (w : World) {ops : Array Oper} {rest : List Oper} {o : Oper} {a : Act} {Q : Exit → Act → World → Prop} (hgd : o.guard = none) (d s : Operand) (t t' : TypeId)
    (ho : o.op = .call { callee := .builtin .copy, args := #[d, s], argTypes := #[t, t'] }) (v u : Value) (hd : a.eval d = v) (hs : a.eval s = u) {v' : Value} {w' : World}
    (hr : (Builtin.copy_ #[t, t'] o.type #[v, u]).run P w = .ok v' w') (h : wpList P ops Q rest (a.put o.dst v') w') : wpList P ops Q (o :: rest) a w := by
  refine wpList_plain hgd fun K' hK' => ?_
  unfold Oper.wp execOp
  simp only [ho, resolve, invoke, builtin, Sem.run_bind, Sem.run_pure, Result.andThen_ok, List.map_toArray, List.map_cons, List.map_nil, hd, hs, hr]
  exact hK' _ _ h
theorem step_copy_run2 {P : Program} {ops : Array Oper} {o : Oper} {a : Act} {w : World} {K : Act → World → Prop} {Q : Exit → Act → World → Prop} {E : Prop}
    (hg : o.guard = none) (d x : Operand) (dT sT : TypeId) (hop : o.op = Op.call { callee := Callee.builtin Builtin.copy, args := #[d, x], argTypes := #[dT, sT] })
    (v u : Value) (hd : a.eval d = v) (hx : a.eval x = u) {v' : Value} {w' : World} (hr : (Builtin.copy_ #[dT, sT] o.type #[v, u]).run P w = .ok v' w') (hK : K (a.put o.dst v') w') :
    if Region.wanted o (yielded ops a.tmps) = true then Oper.wp P o a w K Q else E := by
  have hw : Region.wanted o (yielded ops a.tmps) = true := by simp [Region.wanted, hg]
  rw [if_pos hw]
  unfold Oper.wp
  simp [execOp, hop, resolve, invoke, builtin, hd, hx, hr, Result.andThen]
  exact hK
/-- Spots go over. -/
theorem copy_spots (w : World) (ty : TypeId) (g o dLen dCap : Nat) (a : Addr) (sLen sCap k : Nat) (cs L : List Value) (hr : Lrow w g 27 L) (hk : k = Nat.min sLen dLen) (hn : cs.length = k * 2)
    (hsrc : ∀ j v, cs[j]? = some v → w.cell? (a.add j) = some v) (hc : o + cs.length ≤ L.length) (h1 : ∀ v ∈ cs, v.oneCell' = true) :
    (Builtin.copy_ #[36, 36] ty #[.slice (some ⟨g, o, none⟩) dLen dCap, .slice (some a) sLen sCap]).run Try.prog w = .ok (goInt k) (w.setCells g o cs) := by
  obtain ⟨i0, hi0, hz0, hz1, hz2⟩ := info_parts info_spot
  have hl := run_loadCells_list (P := Try.prog) w a cs hsrc
  have hst := run_storeCells_cells (P := Try.prog) g o cs 0 w (fun j hj => by rw [Nat.add_zero, hr.cell, List.getElem?_eq_getElem (by omega)]; rfl) (fun j _ => hr.frozen _) h1
  simp [Builtin.copy_, run_underlying spots_slice, Builtin.lenOf, Builtin.firstCells, sizeOf, typeInfo, hi0, hz1, ← hk, ← hn, hl, hst]
def Inserted (B : Nat) (v : Value) (N : List It) (w : World) (e : Ending) (w' : World) : Prop :=
  ∃ v', e = .returned v' ∧ Sp B w' v' N ∧ w.grownBy w' v.ownBlock ∧ (v'.ownBlock = v.ownBlock ∨ ∃ g, v'.ownBlock = some g ∧ w.heap.size ≤ g)
section
variable {B : Nat} {w : World} {l : List It} {x y : Int} {vb : Nat}
set_option maxHeartbeats 1000000 in
set_option maxRecDepth 100000 in
theorem insert_end {v : Value} (h : Sp B w v l) (hB : B ≤ w.heap.size) (hv : Lrow w vb 27 [.int .i64 x, .int .i64 y]) (hl : l.length ≤ 1000) :
    Calls Try.prog 25 #[v, .int .i64 l.length, .slice (some ⟨vb, 0, none⟩) 1 1] w (Inserted B v (l ++ [(x, y)]) w) := by
  obtain ⟨A, c, rfl⟩ := own_form h
  obtain ⟨A', c', W', hrun, ho, hg, ht⟩ := app_run h hB ⟨vb, 0, none⟩ 1 [(x, y)] (fun j u hj => by rw [add_offs, hv.cell]; exact hj) (by simp only [List.length_cons, List.length_nil]; omega)
  have hlc : l.length ≤ c := by
    rcases h.2 with ⟨e, h0⟩ | ⟨g, cap, cur, e, hB, hg, hnc, hc, hs, ht⟩
    · omega
    · injection e with e1 e2 e3; rw [e3]; exact hnc
  have hnil : A = none → l.length = 0 := by
    rintro rfl
    rcases h.2 with ⟨e, h0⟩ | ⟨g, cap, cur, e, hB, hg, hnc, hc, hs, ht⟩
    · exact h0
    · injection e with e1 e2 e3; cases e1
  have HO := Lib.hid ho
  have HG := Lib.hid hg
  have HT := Lib.hid ht
  simp only [List.length_cons, List.length_nil, Nat.zero_add] at hrun HT
  generalize l.length = n at *
  clear h ho hg ht hv
  cases A with
  | none =>
    obtain rfl : n = 0 := hnil rfl
    go_enter Try.func25, Try.ntmps25
    go_wp2_with (at_builtin; refine wpList_append_run rfl _ _ 36 rfl _ _ rfl rfl hrun ?_)
    go_ret
    exact ⟨_, rfl, HO.out, HG.out, HT.out.imp id fun e => ⟨_, e, Nat.le_refl _⟩⟩
  | some a =>
    go_enter Try.func25, Try.ntmps25
    go_wp2_with (at_builtin; refine wpList_append_run rfl _ _ 36 rfl _ _ rfl rfl hrun ?_)
    all_goals
      go_ret
      exact ⟨_, rfl, HO.out, HG.out, HT.out.imp id fun e => ⟨_, e, Nat.le_refl _⟩⟩
theorem splice_len {α : Type} (L cs : List α) (o : Nat) (h : o + cs.length ≤ L.length) : (splice L o cs).length = L.length := by
  simp only [splice, List.length_append, List.length_take, List.length_drop]; omega
/-- A stretch is moved by one spot. -/
theorem shift_cells {α : Type} (A D R X : List α) (hR : 2 ≤ R.length) (hX : X.length = 2) : splice (splice (A ++ D ++ R) (A.length + 2) D) A.length X = A ++ X ++ D ++ R.drop 2 := by
  have e1 : A ++ D ++ R = (A ++ (D ++ R.take 2).take 2) ++ (D ++ R.take 2).drop 2 ++ R.drop 2 := by
    rw [List.append_assoc A, List.append_assoc A, List.append_assoc A, List.append_cancel_left_eq, List.take_append_drop, List.append_assoc, List.take_append_drop]
  have h2 : (R.take 2).length = 2 := by rw [List.length_take]; omega
  rw [e1, splice_mid _ _ _ _ D.length (by rw [List.length_append, List.length_take, List.length_append, h2]; omega) (by rw [List.length_drop, List.length_append, h2]; omega) D rfl]
  rw [List.append_assoc (A ++ _), splice_mid A _ _ A.length 2 rfl (by rw [List.length_take, List.length_append, h2]; omega) X hX, List.append_assoc (A ++ X)]
theorem grow_cells {α : Type} (A Z D R X : List α) (hX : X.length = 2) (hZ : Z.length = D.length + 2) : splice (splice (A ++ Z ++ R) A.length X) (A.length + 2) D = A ++ X ++ D ++ R := by
  have e1 : A ++ Z ++ R = A ++ Z.take 2 ++ (Z.drop 2 ++ R) := by rw [← List.append_assoc, List.append_assoc A (Z.take 2), List.take_append_drop]
  rw [e1, splice_mid A _ _ A.length 2 rfl (by rw [List.length_take]; omega) X hX, ← List.append_assoc, splice_mid (A ++ X) _ R _ D.length (by rw [List.length_append, hX]) (by rw [List.length_drop]; omega) D rfl]
theorem pcells_ins (l : List It) (i : Nat) (x y : Int) : pcells (l.take i ++ (x, y) :: l.drop i) = pcells (l.take i) ++ [.int .i64 x, .int .i64 y] ++ pcells (l.drop i) := by
  rw [pcells_append]; simp [pcells]
set_option maxHeartbeats 4000000 in
set_option maxRecDepth 100000 in
theorem insert_shift {g c i : Nat} {R : List Value} (hr : Lrow w g 27 (pcells l ++ R)) (hB : B ≤ g) (hv : Lrow w vb 27 [.int .i64 x, .int .i64 y]) (hne : vb ≠ g) (hi : i < l.length) (hc : l.length + 1 ≤ c) (hcm : c ≤ maxLen) (hR : R.length = (c - l.length) * 2) (hl : l.length ≤ 1000) :
    Calls Try.prog 25 #[.slice (some ⟨g, 0, none⟩) l.length c, .int .i64 i, .slice (some ⟨vb, 0, none⟩) 1 1] w (Inserted B (.slice (some ⟨g, 0, none⟩) l.length c) (l.take i ++ (x, y) :: l.drop i) w) := by
  obtain ⟨n, hn⟩ : ∃ n, n = l.length := ⟨_, rfl⟩
  have hov : ∀ lb cb, (callFunc 35 #[.slice (some ⟨vb, 0, none⟩) 1 1, .slice (some ⟨g, (i + 1) * 2, none⟩) lb cb]).run Try.prog w = .ok (.value (.bool false)) w := fun lb cb => by
    rw [run_callFunc_extern Try.func35 (by kernel_rfl) (by kernel_rfl) (by kernel_rfl) (e := Extern.SlicesOverlaps.overlaps #[36, 36] #[4]) (by kernel_rfl),
      Lib.run_overlaps_apart w 36 4 27 spots_slice 2 (fun w => by kernel_rfl) ⟨vb, 0, none⟩ ⟨g, (i + 1) * 2, none⟩ 1 1 lb cb hne 27 27 2 (pcells l ++ R).length (by unfold Lrow at hv; simp [World.shape?, hv]) (by unfold Lrow at hr; simp [World.shape?, hr]) (by rw [List.length_append, pcells_length]; omega) (hv.frozen _) (hv.frozen _)]
    rfl
  have hA : (pcells (l.take i)).length = i * 2 := by rw [pcells_length, List.length_take]; omega
  have hD : (pcells (l.drop i)).length = (n - i) * 2 := by rw [pcells_length, List.length_drop, hn]
  have e0 : pcells l ++ R = pcells (l.take i) ++ pcells (l.drop i) ++ R := by rw [← pcells_append, List.take_append_drop]
  have hR2 : 2 ≤ R.length := by omega
  have hcp1 := fun ty dc sc => copy_spots w.drew ty g ((i + 1) * 2) (n - i) dc ⟨g, i * 2, none⟩ (n + 1 - i) sc (n - i) (pcells (l.drop i)) _ hr (by simp only [Nat.min_def]; split <;> omega) hD
    (fun j u hu => by
      rw [add_lit2]
      have : w.drew.cell? ⟨g, i * 2 + j, none⟩ = (pcells l ++ R)[i * 2 + j]? := hr.cell _
      rw [this, e0, List.append_assoc, List.getElem?_append_right (by omega), hA, show i * 2 + j - i * 2 = j by omega, List.getElem?_append_left (List.getElem?_eq_some_iff.1 hu).1]
      exact hu) (by rw [hD, List.length_append, pcells_length, ← hn]; omega) (pcells_one _)
  obtain ⟨W1, hW1⟩ : ∃ W1, W1 = w.drew.setCells g ((i + 1) * 2) (pcells (l.drop i)) := ⟨_, rfl⟩
  rw [← hW1] at hcp1
  obtain ⟨h1, g1⟩ := row_setCells g 27 (pcells (l.drop i)) ((i + 1) * 2) w.drew _ hr (by rw [hD, List.length_append, pcells_length, ← hn]; omega)
  rw [← hW1] at h1 g1
  have hv1 : Lrow W1 vb 27 [.int .i64 x, .int .i64 y] := Lrow.grown (w := w.drew) hv g1 (by intro e; injection e with e; exact hne e)
  have hcp2 := fun ty dc => copy_spots W1 ty g (i * 2) (n + 1 - i) dc ⟨vb, 0, none⟩ 1 1 1 [.int .i64 x, .int .i64 y] _ h1 (by simp only [Nat.min_def]; split <;> omega) rfl
    (fun j u hu => by rw [add_offs, hv1.cell]; exact hu)
    (by rw [splice_len _ _ _ (by rw [hD, List.length_append, pcells_length, ← hn]; omega), List.length_append, pcells_length, ← hn]; simp only [List.length_cons, List.length_nil]; omega) (by intro u hu; simp at hu; rcases hu with rfl | rfl <;> rfl)
  obtain ⟨W2, hW2⟩ : ∃ W2, W2 = W1.setCells g (i * 2) [.int .i64 x, .int .i64 y] := ⟨_, rfl⟩
  rw [← hW2] at hcp2
  obtain ⟨h2, g2⟩ := row_setCells g 27 [.int .i64 x, .int .i64 y] (i * 2) W1 _ h1 (by rw [splice_len _ _ _ (by rw [hD, List.length_append, pcells_length, ← hn]; omega), List.length_append, pcells_length, ← hn]; simp only [List.length_cons, List.length_nil]; omega)
  rw [← hW2, e0, show (i + 1) * 2 = (pcells (l.take i)).length + 2 by omega, show i * 2 = (pcells (l.take i)).length by omega, shift_cells _ _ _ _ hR2 rfl, ← pcells_ins] at h2
  rw [← hW2] at g2
  have HF : Hid (Sp B W2 (.slice (some ⟨g, 0, none⟩) (n + 1) c) (l.take i ++ (x, y) :: l.drop i)) := by
    have hle : (l.take i ++ (x, y) :: l.drop i).length = n + 1 := by rw [List.length_append, List.length_cons, List.length_take, List.length_drop]; omega
    show W2.ownsRow B 27 2 _ _ _
    rw [hle]
    exact own_of_row h2 hB (by omega) hcm (by rw [pcells_length, hle]) (by rw [pcells_length, hle, List.length_drop, hR, ← hn]; omega)
  have HG : Hid (w.grownBy W2 (some g)) := grown_trans1 (grown_trans1 (grown_drewN w 1 (some g)) g1) g2
  rw [← hn] at hc hi hl ⊢
  have hcap : c ≤ 9223372036854775807 := by unfold maxLen at hcm; omega
  have hq1 : ¬ c = i := by omega
  have hq2 : ¬ c = i + 1 := by omega
  have hq3 : (0 : Int) ≤ (i : Int) + 1 := by omega
  have hq4 : ((i : Int) + 1).toNat = i + 1 := by omega
  have hq5 : ¬ ((i : Int) = (n : Int)) := by omega
  have hw1 : IntKind.i64.wrap ((i : Int) + 1) = (i : Int) + 1 := by rw [IntKind.wrap_i64]; omega
  have hb1 : (i : Int) + 1 ≤ (n : Int) + 1 := by omega
  have hb3 : (i : Int) ≤ (n : Int) + 1 := by omega
  clear hn hA hD e0 hR2 hW1 h1 g1 hv1 hW2 h2 g2 hr hv hR hcm
  go_enter Try.func25, Try.ntmps25
  go_wp2_with (simp only [hov])
  have mixed : Try.prog.follows Departure.mixedOrders = true := by kernel_rfl
  go_region_law_o (refine step_copy_run2 rfl _ _ 36 36 rfl _ _ (by simp [Act.eval, Act.put]) (by simp [Act.eval, Act.put]) (hcp1 _ _ _) ?_)
  go_wp2_with (at_builtin; refine wpList_copy_run2 _ rfl _ _ 36 36 rfl _ _ rfl rfl (hcp2 _ _) ?_)
  go_ret
  exact ⟨_, rfl, HF.out, HG.out, Or.inl rfl⟩
set_option maxHeartbeats 4000000 in
set_option maxRecDepth 100000 in
theorem insert_grow {g c i : Nat} {R : List Value} (hr : Lrow w g 27 (pcells l ++ R)) (hB : B ≤ w.heap.size) (hv : Lrow w vb 27 [.int .i64 x, .int .i64 y]) (hi : i < l.length) (hlc : l.length ≤ c) (hc : c < l.length + 1) (hl : l.length ≤ 1000) :
    Calls Try.prog 25 #[.slice (some ⟨g, 0, none⟩) l.length c, .int .i64 i, .slice (some ⟨vb, 0, none⟩) 1 1] w (Inserted B (.slice (some ⟨g, 0, none⟩) l.length c) (l.take i ++ (x, y) :: l.drop i) w) := by
  obtain ⟨i0, hi0, hz0, hz1, hz2⟩ := info_parts info_spot
  obtain ⟨n, hn⟩ : ∃ n, n = l.length := ⟨_, rfl⟩
  have hA : (pcells (l.take i)).length = i * 2 := by rw [pcells_length, List.length_take]; omega
  have hD : (pcells (l.drop i)).length = (n - i) * 2 := by rw [pcells_length, List.length_drop, hn]
  have e0 : pcells l ++ R = pcells (l.take i) ++ pcells (l.drop i) ++ R := by rw [← pcells_append, List.take_append_drop]
  have hold : (Builtin.firstCells i0.size i (.slice (some ⟨g, 0, none⟩) i c)).run Try.prog w.drew = .ok (pcells (l.take i)).toArray w.drew := by
    rw [hz1]
    exact run_firstCells_some w.drew 2 i ⟨g, 0, none⟩ i c (pcells (l.take i)) hA (fun j u hu => by
      rw [add_offs]
      have : w.drew.cell? ⟨g, j, none⟩ = (pcells l ++ R)[j]? := hr.cell _
      rw [this, e0, List.append_assoc, List.getElem?_append_left (List.getElem?_eq_some_iff.1 hu).1]
      exact hu)
  obtain ⟨G, hG⟩ : ∃ G, G = grownCap w (n + 1) c 27 := ⟨_, rfl⟩
  have hGn : n + 1 ≤ G := by rw [hG]; exact grownCap_ge w _ _ _
  have hGm : G ≤ maxLen := by rw [hG]; exact grownCap_le_maxLen w (n + 1) c _ (by unfold maxLen; omega)
  have hrz := fun ty => Lib.run_append_grow_zeros w 36 3 ty 27 i0 _ .i64 .i64 spots_slice intT hi0 hz0 (some ⟨g, 0, none⟩) i c (pcells (l.take i)) hold (n + 1 - i) (by omega) (by omega) (by omega) (by omega) (by rw [hz2]; omega) (by rw [hz2, show i + (n + 1 - i) = n + 1 by omega]; exact growslice_fits (by omega) (by omega))
  rw [show i + (n + 1 - i) = n + 1 by omega, ← hG] at hrz
  obtain ⟨Z, hZ⟩ : ∃ Z, Z = (Builtin.zeroCells (Value.agg #[.int .i64 0, .int .i64 0]).cells (n + 1 - i)).toList := ⟨_, rfl⟩
  obtain ⟨Y, hY⟩ : ∃ Y, Y = (Builtin.zeroCells (Value.agg #[.int .i64 0, .int .i64 0]).cells (G - (n + 1))).toList := ⟨_, rfl⟩
  have hZl : Z.length = (n - i) * 2 + 2 := by rw [hZ]; simp [Builtin.zeroCells, Value.cells]; omega
  have hYl : Y.length = (G - (n + 1)) * 2 := by rw [hY]; simp [Builtin.zeroCells, Value.cells]
  obtain ⟨W1, hW1⟩ : ∃ W1, W1 = w.drew.alloc (.cells ((pcells (l.take i)) ++ Z ++ Y).toArray 27) := ⟨_, rfl⟩
  have eW : w.drew.alloc (.cells ((pcells (l.take i)).toArray ++ Builtin.zeroCells (Value.agg #[.int .i64 0, .int .i64 0]).cells (n + 1 - i) ++ Builtin.zeroCells (Value.agg #[.int .i64 0, .int .i64 0]).cells (G - (n + 1))) 27) = W1 := by
    rw [hW1, hZ, hY]; congr 2; apply Array.toList_inj.1; simp
  rw [eW] at hrz
  have hb : w.heap.size = w.drew.heap.size := rfl
  have h0 : Lrow W1 w.heap.size 27 (pcells (l.take i) ++ Z ++ Y) := by rw [hW1]; exact Lrow.new w.drew _ _
  have g0 : w.grownBy W1 (some w.heap.size) := by rw [hW1]; exact grown_alloc (grown_drewN w 1 _) _
  have hv0 : Lrow W1 vb 27 [.int .i64 x, .int .i64 y] := by rw [hW1]; exact Lrow.alloc (w := w.drew) hv _
  have hr0 : Lrow W1 g 27 (pcells l ++ R) := by rw [hW1]; exact Lrow.alloc (w := w.drew) hr _
  have hgl : g < w.heap.size := hr.lt
  obtain ⟨b, hbb⟩ : ∃ b, b = w.heap.size := ⟨_, rfl⟩
  rw [← hbb] at hrz h0 g0 hgl
  have hcp1 := fun ty dc => copy_spots W1 ty b (i * 2) (n + 1 - i) dc ⟨vb, 0, none⟩ 1 1 1 [.int .i64 x, .int .i64 y] _ h0 (by simp only [Nat.min_def]; split <;> omega) rfl
    (fun j u hu => by rw [add_offs, hv0.cell]; exact hu)
    (by simp only [List.length_append, hA, hZl, List.length_cons, List.length_nil]; omega) (by intro u hu; simp at hu; rcases hu with rfl | rfl <;> rfl)
  obtain ⟨W2, hW2⟩ : ∃ W2, W2 = W1.setCells b (i * 2) [.int .i64 x, .int .i64 y] := ⟨_, rfl⟩
  rw [← hW2] at hcp1
  obtain ⟨h1, g1⟩ := row_setCells b 27 [.int .i64 x, .int .i64 y] (i * 2) W1 _ h0 (by simp only [List.length_append, hA, hZl, List.length_cons, List.length_nil]; omega)
  rw [← hW2] at h1 g1
  have hr1 : Lrow W2 g 27 (pcells l ++ R) := hr0.grown g1 (by intro e; injection e with e; omega)
  have hsl : (splice (pcells (l.take i) ++ Z ++ Y) (i * 2) [Value.int .i64 x, Value.int .i64 y]).length = i * 2 + ((n - i) * 2 + 2) + (G - (n + 1)) * 2 := by
    rw [splice_len _ _ _ (by simp only [List.length_append, hA, hZl, List.length_cons, List.length_nil]; omega)]; simp only [List.length_append, hA, hZl, hYl]
  have hcp2 := fun ty dc sc => copy_spots W2.drew ty b ((i + 1) * 2) (n - i) dc ⟨g, i * 2, none⟩ (n - i) sc (n - i) (pcells (l.drop i)) _ (h1.drewN 1) (by simp only [Nat.min_def]; split <;> omega) hD
    (fun j u hu => by
      rw [add_lit2]
      have : W2.drew.cell? ⟨g, i * 2 + j, none⟩ = (pcells l ++ R)[i * 2 + j]? := hr1.cell _
      rw [this, e0, List.append_assoc, List.getElem?_append_right (by omega), hA, show i * 2 + j - i * 2 = j by omega, List.getElem?_append_left (List.getElem?_eq_some_iff.1 hu).1]
      exact hu) (by rw [hD, hsl]; omega) (pcells_one _)
  obtain ⟨W3, hW3⟩ : ∃ W3, W3 = W2.drew.setCells b ((i + 1) * 2) (pcells (l.drop i)) := ⟨_, rfl⟩
  rw [← hW3] at hcp2
  obtain ⟨h2, g2⟩ := row_setCells b 27 (pcells (l.drop i)) ((i + 1) * 2) W2.drew _ (h1.drewN 1) (by rw [hD, hsl]; omega)
  rw [← hW3, show (i + 1) * 2 = (pcells (l.take i)).length + 2 by omega, show i * 2 = (pcells (l.take i)).length by omega, grow_cells _ _ _ _ _ rfl (by omega), ← pcells_ins] at h2
  rw [← hW3] at g2
  have HF : Hid (Sp B W3 (.slice (some ⟨b, 0, none⟩) (n + 1) G) (l.take i ++ (x, y) :: l.drop i)) := by
    have hle : (l.take i ++ (x, y) :: l.drop i).length = n + 1 := by rw [List.length_append, List.length_cons, List.length_take, List.length_drop]; omega
    show W3.ownsRow B 27 2 _ _ _
    rw [hle]
    exact own_of_row h2 (by rw [hbb]; exact hB) hGn hGm (by rw [pcells_length, hle]) (by rw [pcells_length, hle, hYl]; omega)
  have HG : Hid (w.grownBy W3 (some g)) := by
    have k := grown_trans1 (grown_trans1 g0 g1) (grown_trans1 (grown_drewN W2 1 (some b)) g2)
    exact ⟨k.os, k.tape, k.output, k.size, fun j hj _ => k.block j hj (by intro e; injection e with e; omega)⟩
  have HBB := Lib.hid hbb
  rw [← hn] at hc hi hl hlc ⊢
  obtain rfl : c = n := by omega
  have hcap : G ≤ 9223372036854775807 := by unfold maxLen at hGm; omega
  have hq1 : ¬ G = i := by omega
  have hq2 : ¬ G = i + 1 := by omega
  have hq6 : ¬ c = i := by omega
  have hq3 : (0 : Int) ≤ (i : Int) + 1 := by omega
  have hq4 : ((i : Int) + 1).toNat = i + 1 := by omega
  have hq5 : ¬ ((i : Int) = (c : Int)) := by omega
  have hw1 : IntKind.i64.wrap ((i : Int) + 1) = (i : Int) + 1 := by rw [IntKind.wrap_i64]; omega
  have hb1 : (i : Int) + 1 ≤ (c : Int) + 1 := by omega
  have hb3 : (i : Int) ≤ (c : Int) := by omega
  have hq7 : (c : Int) + 1 - (i : Int) = ((c + 1 - i : Nat) : Int) := by omega
  have hz : ∀ ty, (Builtin.append_ #[36, 3] ty #[.slice (some ⟨g, 0, none⟩) i c, .int .i64 ((c : Int) + 1 - (i : Int))]).run Try.prog w = .ok (.slice (some ⟨b, 0, none⟩) (c + 1) G) W1 := fun ty => by rw [hq7]; exact hrz ty
  clear hrz hn hA hD e0 hold hG hZ hY hZl hYl hW1 eW h0 g0 hv0 hr0 hgl hW2 h1 g1 hr1 hsl hW3 h2 g2 hr hv hGm hbb hi0 hz0 hz1 hz2 hb hq7
  go_enter Try.func25, Try.ntmps25
  go_wp2_with (first
    | (at_builtin; refine Lib.wpList_append_run _ rfl _ _ _ _ rfl _ _ rfl rfl _ _ (hz _) ?_)
    | (at_builtin; refine wpList_copy_run2 _ rfl _ _ 36 36 rfl _ _ rfl rfl (hcp1 _ _) ?_))
  have mixed : Try.prog.follows Departure.mixedOrders = true := by kernel_rfl
  go_region_law_o (refine step_copy_run2 rfl _ _ 36 36 rfl _ _ (by simp [Act.eval, Act.put]) (by simp [Act.eval, Act.put]) (hcp2 _ _ _) ?_)
  go_wp2
  go_ret
  exact ⟨_, rfl, HF.out, HG.out, Or.inr ⟨b, rfl, by rw [HBB.out]; exact Nat.le_refl _⟩⟩
theorem insert_any {v : Value} {i : Nat} (h : Sp B w v l) (hB : B ≤ w.heap.size) (hv : Lrow w vb 27 [.int .i64 x, .int .i64 y]) (hne : ∀ b, v.ownBlock = some b → b ≠ vb) (hi : i ≤ l.length) (hl : l.length ≤ 1000) :
    Calls Try.prog 25 #[v, .int .i64 i, .slice (some ⟨vb, 0, none⟩) 1 1] w (Inserted B v (l.take i ++ (x, y) :: l.drop i) w) := by
  rcases Nat.lt_or_ge i l.length with hlt | hge
  · obtain ⟨A, c, rfl⟩ := own_form h
    obtain ⟨g, R, rfl, hBg, hr, h1, h2, h3⟩ := h.row (by omega)
    rcases Nat.lt_or_ge c (l.length + 1) with k | k
    · exact insert_grow hr hB hv hlt h1 k hl
    · exact insert_shift hr hBg hv (fun e => hne g rfl e.symm) hlt k h2 h3 hl
  · obtain rfl : i = l.length := by omega
    rw [List.take_length, List.drop_length]
    exact insert_end h hB hv hl
end
end Go.Proofs.Ytgpbbmcadifdhaa
