/- Lists of numbers in slices of one's own: slices.BinarySearch, Insert, Delete, Clone. -/
import Derived.Test.YtllepijlebbjbaaPoB
import Derived.Test.YtllepijlebbjbaaPoQ
import Derived.Test.YtllepijlebbjbaaPoV
import Derived.Outline
namespace Go.Proofs.Ytllepijlebbjbaa
open Go.RowKit
theorem EI_cells (L : List Int) : EI.cells L = L.map (Value.int .i64) := by
  induction L with
  | nil => rfl
  | cons x r ih => rw [Enc.cells_cons, ih]; rfl
section
variable {w w' : World} {B c : Nat} {A : Option Addr} {L : List Int} {v : Value} {x : Int}
theorem EI_row (h : EI.Own B w (.slice A L.length c) L) : (A = none ∧ L = [] ∧ c = 0) ∨ ∃ g rest, A = some ⟨g, 0, none⟩ ∧ Lrow w g 3 (L.map (Value.int .i64) ++ rest) ∧ B ≤ g ∧ L.length ≤ c ∧ c ≤ maxLen ∧ L.length + rest.length = c := by
  cases A with
  | none =>
    rcases h.2 with ⟨e, h0⟩ | ⟨g, cap, cur, e, _⟩
    · injection e with e1 e2 e3
      exact Or.inl ⟨rfl, List.eq_nil_of_length_eq_zero h0, e3⟩
    · cases e
  | some a =>
    rcases h.2 with ⟨e, h0⟩ | ⟨g, cap, cur, e, hB, hg, hnc, hc, hs, ht⟩
    · cases e
    · injection e with e1 e2 e3
      injection e1 with e1
      subst e1
      obtain ⟨rest, r1, r2, r3, r4, r5⟩ := own_row (g := g) h rfl
      rw [EI_cells] at r1
      rw [EI_cells, List.length_map] at r5
      refine Or.inr ⟨g, rest, rfl, r1, r2, r3, r4, ?_⟩
      rw [r5]; show c * 1 = c; omega
theorem EI_of {g : Nat} {rest : List Value} (hr : Lrow w g 3 (L.map (Value.int .i64) ++ rest)) (hB : B ≤ g) (hn : L.length ≤ c) (hc : c ≤ maxLen) (hl : L.length + rest.length = c) : EI.Own B w (.slice (some ⟨g, 0, none⟩) L.length c) L := by
  refine own_of_row (rest := rest) (by rw [EI_cells]; exact hr) hB hn hc ?_ ?_
  · rw [EI_cells, List.length_map]; show L.length = L.length * 1; omega
  · rw [EI_cells, List.length_map]; show L.length + rest.length = c * 1; omega
theorem row_at {g : Nat} {rest : List Value} (hr : Lrow w g 3 (L.map (Value.int .i64) ++ rest)) (j : Nat) (hj : j < L.length) : w.cell? ⟨g, 0 + j, none⟩ = some (.int .i64 (L.getD j 0)) := by
  rw [Nat.zero_add, hr.cell, List.getElem?_append_left (by rw [List.length_map]; exact hj), List.getElem?_map, List.getD_eq_getElem?_getD, List.getElem?_eq_getElem hj]; rfl
theorem search_i (h : EI.Own B w v L) (hu : UpN L) (hl : L.length ≤ 4096) (x : Int) :
    Calls Try.prog 48 #[v, .int .i64 x] w fun e w' => e = .returned (.tuple #[.int .i64 (cutN x L : Nat), .bool (decide (x ∈ L))]) ∧ ∃ q, w' = w.drewN q := by
  obtain ⟨A, c, rfl⟩ := h.form
  rcases EI_row h with ⟨rfl, rfl, rfl⟩ | ⟨g, rest, rfl, hr, _, hn, _, _⟩
  · exact (Try.slices_BinarySearch_int_empty none 0 x w).mono fun e w' ⟨he, hw⟩ => ⟨he, 0, hw⟩
  · have h1 := Try.slices_BinarySearch_int g 0 L.length c L x w (Nat.le_refl _) (by omega) (fun j hj => row_at hr j hj) (by rw [List.take_length]; exact hu.imp fun h => by omega)
    rw [List.take_length] at h1
    refine h1.mono ?_
    rintro e w' ⟨rfl, hq⟩
    refine ⟨?_, hq⟩
    unfold cutN
    rw [show L.contains x = decide (x ∈ L) by simp]
theorem splice_len {α : Type} (L cs : List α) (o : Nat) (h : o + cs.length ≤ L.length) : (splice L o cs).length = L.length := by
  simp only [splice, List.length_append, List.length_take, List.length_drop]; omega
theorem splice_zero {α : Type} (L cs : List α) : splice L 0 cs = cs ++ L.drop cs.length := by simp [splice]
/-- One is taken out: the same block. -/
def DelI (B : Nat) (v : Value) (R : List Int) (w : World) (e : Ending) (w' : World) : Prop := ∃ v', e = .returned v' ∧ EI.Own B w' v' R ∧ w.grownBy w' v.ownBlock ∧ v'.ownBlock = v.ownBlock
theorem delete_i (h : EI.Own B w v L) (hu : UpN L) (hx : x ∈ L) :
    Calls Try.prog 49 #[v, .int .i64 (cutN x L : Nat), .int .i64 ((cutN x L : Nat) + 1)] w (DelI B v (delN x L) w) := by
  obtain ⟨A, c, rfl⟩ := h.form
  obtain ⟨hc, _⟩ := cutN_lt hu hx
  rcases EI_row h with ⟨rfl, rfl, rfl⟩ | ⟨g, rest, rfl, hr, hB, hn, hm, hs⟩
  · cases hx
  · have hrl := delN_len hu hx
    have h1 := Try.slices_Delete_int_cells g 0 L.length c (cutN x L) (cutN x L + 1) L w (Nat.le_refl _) hn (by unfold maxLen at hm; omega) (by omega) (by omega) (fun j hj => row_at hr j hj) (fun j _ => by rw [Nat.zero_add]; exact hr.frozen j)
    rw [List.take_length, show ((cutN x L + 1 : Nat) : Int) = (cutN x L : Nat) + 1 by omega, show L.length - (cutN x L + 1 - cutN x L) = (delN x L).length by omega, show cutN x L + 1 - cutN x L = 1 by omega] at h1
    refine h1.mono ?_
    rintro e w' ⟨rfl, q, rfl⟩
    have hcs : (L.take (cutN x L) ++ L.drop (cutN x L + 1) ++ List.replicate 1 (0 : Int)) = delN x L ++ [0] := rfl
    rw [hcs]
    have hln : ((delN x L ++ [0]).map (Value.int .i64)).length = L.length := by simp; omega
    obtain ⟨r1, g1⟩ := row_setCells g 3 ((delN x L ++ [0]).map (Value.int .i64)) 0 (w.drewN q) _ (hr.drewN q) (by rw [hln]; simp)
    have es : (delN x L ++ [0]).map (Value.int .i64) ++ rest = (delN x L).map (Value.int .i64) ++ (Value.int .i64 0 :: rest) := by simp
    rw [splice_zero, hln, List.drop_left' (by simp), es] at r1
    exact ⟨_, rfl, EI_of r1 hB (by omega) hm (by rw [List.length_cons]; omega), (grown_drewN _ _ _).trans g1, rfl⟩
end
/-- One is put in: the same block, or a new one. -/
def InsI (B : Nat) (v : Value) (R : List Int) (w : World) (e : Ending) (w' : World) : Prop := ∃ v', e = .returned v' ∧ EI.Own B w' v' R ∧ w.grownBy w' v.ownBlock ∧ (v'.ownBlock = v.ownBlock ∨ ∃ b, v'.ownBlock = some b ∧ w.heap.size ≤ b)
theorem shift_list {α : Type} (A D R : List α) (x y z : α) : splice (splice (A ++ z :: D ++ y :: R) (A.length + 1) (z :: D)) A.length [x] = A ++ x :: z :: D ++ R := by
  have e1 : splice (A ++ z :: D ++ y :: R) (A.length + 1) (z :: D) = A ++ z :: (z :: D ++ R) := by
    unfold splice
    rw [show A ++ z :: D ++ y :: R = (A ++ [z]) ++ (D ++ y :: R) by simp, List.take_left' (by simp), show A.length + 1 + (z :: D).length = (A ++ [z]).length + (D.length + 1) by simp, ← List.drop_drop, List.drop_left]
    rw [show D ++ y :: R = (D ++ [y]) ++ R by simp, List.drop_left' (by simp)]
    simp
  rw [e1]
  unfold splice
  rw [List.take_left, show A.length + [x].length = A.length + 1 by rfl, ← List.drop_drop, List.drop_left]
  simp
theorem grow_list {α : Type} (A Z D R : List α) (x : α) (h : Z.length = D.length + 1) : splice (splice (A ++ Z ++ R) A.length [x]) (A.length + 1) D = A ++ x :: D ++ R := by
  obtain ⟨z, Z, rfl⟩ : ∃ z Y, Z = z :: Y := List.exists_cons_of_length_eq_add_one h
  simp only [List.length_cons] at h
  have e1 : splice (A ++ z :: Z ++ R) A.length [x] = A ++ [x] ++ (Z ++ R) := by
    unfold splice
    rw [List.append_assoc, List.take_left, show A.length + [x].length = A.length + 1 by rfl, ← List.drop_drop, List.drop_left]
    simp
  rw [e1]
  unfold splice
  rw [List.take_left' (by simp), show A.length + 1 + D.length = (A ++ [x]).length + Z.length by simp; omega, ← List.drop_drop, List.drop_left, List.drop_left]
  simp
theorem room_list {α : Type} (A R : List α) (x y : α) : splice (A ++ y :: R) A.length [x] = A ++ x :: R := by
  unfold splice
  rw [List.take_left, show A.length + [x].length = A.length + 1 by rfl, ← List.drop_drop, List.drop_left]
  simp
theorem ints_one (L : List Int) : ∀ u ∈ L.map (Value.int .i64), u.oneCell' = true := by
  intro u hu
  obtain ⟨z, _, rfl⟩ := List.mem_map.1 hu
  rfl
theorem zero_len (k : Nat) : (Builtin.zeroCells (Value.int .i64 0).cells k).toList.length = k := by simp [Builtin.zeroCells, Value.cells]
section
variable {w w' : World} {B c vb i : Nat} {A : Option Addr} {L : List Int} {v : Value} {x : Int}
theorem row_one {vs rest : List Value} {g : Nat} {t : TypeId} (hr : Lrow w g t (vs ++ rest)) (j : Nat) (u : Value) (h : vs[j]? = some u) : w.cell? ⟨g, 0 + j, none⟩ = some u := by
  rw [Nat.zero_add, hr.cell, List.getElem?_append_left (List.getElem?_eq_some_iff.1 h).1]; exact h
theorem row_some {vs : List Value} {g : Nat} {t : TypeId} (hr : Lrow w g t vs) (j : Nat) (h : j < vs.length) : (w.cell? ⟨g, j, none⟩).isSome = true := by
  rw [hr.cell, List.getElem?_eq_getElem h]; rfl
theorem arg_cells (hv : Lrow w vb 3 [.int .i64 x]) (j : Nat) (u : Value) (h : [Value.int .i64 x][j]? = some u) : w.cell? ⟨vb, 0 + j, none⟩ = some u := by
  rw [Nat.zero_add, hv.cell]; exact h
theorem arg_one : ∀ u ∈ [Value.int .i64 x], u.oneCell' = true := by
  intro u hu
  rw [List.mem_singleton.1 hu]; rfl
theorem Lrow_shape {vs : List Value} {g : Nat} {t : TypeId} (hr : Lrow w g t vs) : w.shape? g = some (t, vs.length) := by
  unfold Lrow at hr; simp [World.shape?, hr]
theorem grown_new {W : World} {b : Nat} {r : Option Nat} (h : w.grownBy W (some b)) (hb : w.heap.size ≤ b) : w.grownBy W r :=
  ⟨h.os, h.tape, h.output, h.size, fun k hk _ => h.block k hk (by intro e; injection e with e; omega)⟩
theorem insert_i (h : EI.Own B w v L) (hB : B ≤ w.heap.size) (hv : Lrow w vb 3 [.int .i64 x]) (hne : v.ownBlock ≠ some vb) (hi : i ≤ L.length) (hl : L.length ≤ 4096) :
    Calls Try.prog 50 #[v, .int .i64 i, .slice (some ⟨vb, 0, none⟩) 1 1] w (InsI B v (L.take i ++ x :: L.drop i) w) := by
  obtain ⟨A, c, rfl⟩ := h.form
  obtain ⟨R, hR⟩ : ∃ R, R = L.take i ++ x :: L.drop i := ⟨_, rfl⟩
  have hRl : R.length = L.length + 1 := by rw [hR, List.length_append, List.length_cons, List.length_take, List.length_drop]; omega
  rw [← hR]
  have ec : Try.insI_ren.t 3 = 3 := rfl
  rcases EI_row h with ⟨rfl, rfl, rfl⟩ | ⟨g, rest, rfl, hr, hBg, hn, hm, hs⟩
  · obtain rfl : i = 0 := by simpa using hi
    have h1 := Any2.slices_Insert_int_end_grow Try.insI none 0 0 vb 0 1 1 [] [.int .i64 x] w (by omega) (by omega) (by omega) (by omega) rfl rfl (fun _ => rfl) (fun a h => by cases h) (arg_cells hv) arg_one
    change Calls Try.prog 50 _ _ _ at h1
    refine h1.mono ?_
    rintro e w' ⟨rfl, rfl⟩
    rw [ec]
    have hge := grownCap_ge w (0 + 1) 0 3
    have hle := grownCap_le_maxLen w (0 + 1) 0 3 (by decide)
    obtain ⟨C, hC⟩ : ∃ C, C = grownCap w (0 + 1) 0 3 := ⟨_, rfl⟩
    rw [← hC] at hge hle ⊢
    have hR1 : R = [x] := by rw [hR]; rfl
    have r1 := Lrow.new w.drew 3 (R.map (Value.int .i64) ++ (Builtin.zeroCells (Value.int .i64 0).cells (C - (0 + 1))).toList)
    have e1 : (R.map (Value.int .i64) ++ (Builtin.zeroCells (Value.int .i64 0).cells (C - (0 + 1))).toList).toArray = ([] ++ [Value.int .i64 x]).toArray ++ Builtin.zeroCells (Value.int .i64 0).cells (C - (0 + 1)) := by
      apply Array.toList_inj.1; rw [hR1]; simp
    rw [e1] at r1
    refine ⟨_, rfl, ?_, grown_new (grown_alloc (grown_drewN w 1 _) _) (Nat.le_refl w.heap.size), Or.inr ⟨_, rfl, Nat.le_refl _⟩⟩
    rw [show 0 + 1 = R.length by rw [hRl]; rfl]
    rw [show 0 + 1 = R.length by rw [hRl]; rfl] at r1 hge
    exact EI_of r1 hB hge hle (by rw [zero_len]; omega)
  · by_cases hend : i = L.length
    · subst hend
      have hR1 : R = L ++ [x] := by rw [hR, List.take_length, List.drop_length]
      cases rest with
      | nil =>
        rw [List.append_nil] at hr
        rw [List.length_nil, Nat.add_zero] at hs
        subst hs
        have h1 := Any2.slices_Insert_int_end_grow Try.insI (some ⟨g, 0, none⟩) L.length L.length vb 0 1 1 (L.map (Value.int .i64)) [.int .i64 x] w (by omega) (by omega) (by omega) (by omega) (by rw [List.length_map]) rfl (fun h => by cases h)
          (fun a ha j u hj => by injection ha with ha; subst ha; rw [addr_add, hr.cell]; exact hj) (arg_cells hv) arg_one
        change Calls Try.prog 50 _ _ _ at h1
        refine h1.mono ?_
        rintro e w' ⟨rfl, rfl⟩
        rw [ec]
        have hge := grownCap_ge w (L.length + 1) L.length 3
        have hle := grownCap_le_maxLen w (L.length + 1) L.length 3 (by simp only [maxLen]; omega)
        obtain ⟨C, hC⟩ : ∃ C, C = grownCap w (L.length + 1) L.length 3 := ⟨_, rfl⟩
        rw [← hC] at hge hle ⊢
        have r1 := Lrow.new w.drew 3 (R.map (Value.int .i64) ++ (Builtin.zeroCells (Value.int .i64 0).cells (C - (L.length + 1))).toList)
        have e1 : (R.map (Value.int .i64) ++ (Builtin.zeroCells (Value.int .i64 0).cells (C - (L.length + 1))).toList).toArray = (L.map (Value.int .i64) ++ [Value.int .i64 x]).toArray ++ Builtin.zeroCells (Value.int .i64 0).cells (C - (L.length + 1)) := by
          apply Array.toList_inj.1; rw [hR1]; simp
        rw [e1] at r1
        refine ⟨_, rfl, ?_, grown_new (grown_alloc (grown_drewN w 1 _) _) (Nat.le_refl w.heap.size), Or.inr ⟨_, rfl, Nat.le_refl _⟩⟩
        rw [← hRl]
        rw [← hRl] at r1 hge
        exact EI_of r1 hB hge hle (by rw [zero_len]; omega)
      | cons y r =>
        simp only [List.length_cons] at hs
        have h1 := Any2.slices_Insert_int_end_room Try.insI g 0 L.length c vb 0 1 1 [.int .i64 x] w (by omega) (by omega) (by unfold maxLen at hm; omega) rfl
          (fun j hj => by rw [Nat.zero_add]; exact row_some hr _ (by rw [List.length_append, List.length_map, List.length_cons]; omega)) (fun j _ => hr.frozen _) (arg_cells hv) arg_one
        change Calls Try.prog 50 _ _ _ at h1
        refine h1.mono ?_
        rintro e w' ⟨rfl, rfl⟩
        obtain ⟨r1, g1⟩ := row_setCells g 3 [.int .i64 x] (0 + L.length) w _ hr (by simp only [List.length_append, List.length_map, List.length_cons, List.length_nil]; omega)
        have e1 : splice (L.map (Value.int .i64) ++ y :: r) (0 + L.length) [.int .i64 x] = R.map (Value.int .i64) ++ r := by
          have := room_list (L.map (Value.int .i64)) r (.int .i64 x) y
          rw [List.length_map] at this
          rw [Nat.zero_add, this, hR1]; simp
        rw [e1] at r1
        refine ⟨_, rfl, ?_, g1, Or.inl rfl⟩
        rw [← hRl]
        exact EI_of r1 hBg (by omega) hm (by omega)
    · have hlt : i < L.length := by omega
      obtain ⟨P, z, D, hP, hD, hPl, hzl⟩ : ∃ P z D, P = L.take i ∧ z :: D = L.drop i ∧ P.length = i ∧ L = P ++ z :: D :=
        ⟨L.take i, L[i], L.drop (i + 1), rfl, (List.drop_eq_getElem_cons hlt).symm, by rw [List.length_take]; omega, by rw [← List.drop_eq_getElem_cons hlt, List.take_append_drop]⟩
      have hins : R = P ++ x :: z :: D := by rw [hR, ← hP, ← hD]
      have hln : L.length = P.length + (D.length + 1) := by rw [hzl]; simp
      have etk : (L.map (Value.int .i64)).take i = P.map (Value.int .i64) := by rw [← List.map_take, ← hP]
      have edr : (L.map (Value.int .i64)).drop i = (z :: D).map (Value.int .i64) := by rw [← List.map_drop, ← hD]
      cases rest with
      | nil =>
        rw [List.append_nil] at hr
        rw [List.length_nil, Nat.add_zero] at hs
        subst hs
        have h1 := Any2.slices_Insert_int_grow Try.insI g 0 L.length L.length i vb 0 1 1 (L.map (Value.int .i64)) [.int .i64 x] w hlt (by omega) (by omega) (by omega) (by omega) (by rw [List.length_map]) rfl
          (fun j u hj => by rw [Nat.zero_add, hr.cell]; exact hj) (arg_cells hv) (ints_one _) arg_one
        change Calls Try.prog 50 _ _ _ at h1
        refine h1.mono ?_
        rintro e w' ⟨rfl, rfl⟩
        rw [ec]
        have hge := grownCap_ge w (L.length + 1) L.length 3
        have hle := grownCap_le_maxLen w (L.length + 1) L.length 3 (by simp only [maxLen]; omega)
        obtain ⟨C, hC⟩ : ∃ C, C = grownCap w (L.length + 1) L.length 3 := ⟨_, rfl⟩
        rw [← hC] at hge hle ⊢
        rw [etk, edr]
        obtain ⟨Z, hZ⟩ : ∃ Z, Z = (Builtin.zeroCells (Value.int .i64 0).cells (L.length + 1 - i)).toList := ⟨_, rfl⟩
        obtain ⟨Y, hY⟩ : ∃ Y, Y = (Builtin.zeroCells (Value.int .i64 0).cells (C - (L.length + 1))).toList := ⟨_, rfl⟩
        have hZl : Z.length = L.length + 1 - i := by rw [hZ, zero_len]
        have hYl : Y.length = C - (L.length + 1) := by rw [hY, zero_len]
        have eW : (P.map (Value.int .i64)).toArray ++ Builtin.zeroCells (Value.int .i64 0).cells (L.length + 1 - i) ++ Builtin.zeroCells (Value.int .i64 0).cells (C - (L.length + 1)) = (P.map (Value.int .i64) ++ Z ++ Y).toArray := by
          rw [hZ, hY]; apply Array.toList_inj.1; simp
        rw [eW]
        have r0 := Lrow.new w 3 (P.map (Value.int .i64) ++ Z ++ Y)
        have g0 : w.grownBy (w.alloc (.cells (P.map (Value.int .i64) ++ Z ++ Y).toArray 3)) (some w.heap.size) := grown_alloc (World.grownBy.refl w _) _
        obtain ⟨W1, hW1⟩ : ∃ W1, W1 = w.alloc (.cells (P.map (Value.int .i64) ++ Z ++ Y).toArray 3) := ⟨_, rfl⟩
        rw [← hW1] at r0 g0 ⊢
        obtain ⟨r1, g1⟩ := row_setCells w.heap.size 3 [.int .i64 x] i W1.drew _ (r0.drewN 1) (by simp only [List.length_append, List.length_map, List.length_cons, List.length_nil]; omega)
        obtain ⟨r2, g2⟩ := row_setCells w.heap.size 3 ((z :: D).map (Value.int .i64)) (i + 1) (W1.drew.setCells w.heap.size i [.int .i64 x]).drew _ (r1.drewN 1) (by
          rw [splice_len _ _ _ (by simp only [List.length_append, List.length_map, List.length_cons, List.length_nil]; omega)]
          simp only [List.length_append, List.length_map, List.length_cons]; omega)
        have e2 := grow_list (P.map (Value.int .i64)) Z ((z :: D).map (Value.int .i64)) Y (.int .i64 x) (by simp only [List.length_map, List.length_cons]; omega)
        rw [List.length_map, hPl] at e2
        rw [e2] at r2
        have e3 : P.map (Value.int .i64) ++ Value.int .i64 x :: (z :: D).map (Value.int .i64) ++ Y = R.map (Value.int .i64) ++ Y := by rw [hins]; simp
        rw [e3] at r2
        refine ⟨_, rfl, ?_, grown_new ((g0.trans ((grown_drewN _ 1 _).trans g1)).trans ((grown_drewN _ 1 _).trans g2)) (Nat.le_refl w.heap.size), Or.inr ⟨_, rfl, Nat.le_refl _⟩⟩
        rw [← hRl]
        rw [← hRl] at hge
        exact EI_of r2 hB hge hle (by omega)
      | cons y r =>
        simp only [List.length_cons] at hs
        have h1 := Any2.slices_Insert_int_shift Try.insI g 0 L.length c i vb 0 1 1 (L.map (Value.int .i64)) [.int .i64 x] w hlt (by omega) (by omega) (by unfold maxLen at hm; omega) (fun e => hne (by rw [e]; rfl)) (by rw [List.length_map]) rfl
          (row_one hr) (fun j hj => by rw [Nat.zero_add]; exact row_some hr _ (by rw [List.length_append, List.length_map, List.length_cons]; omega)) (fun j _ => hr.frozen _) (arg_cells hv) (ints_one _) arg_one
          _ _ _ _ (Lrow_shape hv) (Lrow_shape hr) (by rw [List.length_append, List.length_map, List.length_cons]; omega) (hv.frozen _) (hv.frozen _)
        change Calls Try.prog 50 _ _ _ at h1
        refine h1.mono ?_
        rintro e w' ⟨rfl, rfl⟩
        rw [edr]
        obtain ⟨r1, g1⟩ := row_setCells g 3 ((z :: D).map (Value.int .i64)) (0 + (i + 1)) w.drew _ (hr.drewN 1) (by simp only [List.length_append, List.length_map, List.length_cons]; omega)
        obtain ⟨r2, g2⟩ := row_setCells g 3 [.int .i64 x] (0 + i) (w.drew.setCells g (0 + (i + 1)) ((z :: D).map (Value.int .i64))) _ r1 (by
          rw [splice_len _ _ _ (by simp only [List.length_append, List.length_map, List.length_cons]; omega)]
          simp only [List.length_append, List.length_map, List.length_cons, List.length_nil]; omega)
        have e2 := shift_list (P.map (Value.int .i64)) (D.map (Value.int .i64)) r (.int .i64 x) y (.int .i64 z)
        rw [List.length_map, hPl] at e2
        have e3 : L.map (Value.int .i64) ++ y :: r = P.map (Value.int .i64) ++ Value.int .i64 z :: D.map (Value.int .i64) ++ y :: r := by rw [hzl]; simp
        have e4 : P.map (Value.int .i64) ++ Value.int .i64 x :: Value.int .i64 z :: D.map (Value.int .i64) ++ r = R.map (Value.int .i64) ++ r := by rw [hins]; simp
        rw [Nat.zero_add, Nat.zero_add, e3, show (z :: D).map (Value.int .i64) = Value.int .i64 z :: D.map (Value.int .i64) from rfl, e2, e4] at r2
        refine ⟨_, rfl, ?_, (grown_drewN w 1 _).trans (g1.trans g2), Or.inl rfl⟩
        rw [← hRl, Nat.zero_add, Nat.zero_add]
        exact EI_of r2 hBg (by omega) hm (by omega)
end
/-! A copy. -/
theorem own_made {P : Program} {α : Type} (E : Enc P α) (w : World) : E.Own w.heap.size (w.alloc (.cells #[] E.el)) (.slice (some ⟨w.heap.size, 0, none⟩) 0 0) [] :=
  World.ownsRow_made w #[] 0 (Nat.le_refl _) (Nat.zero_le _) (by rw [Nat.zero_mul]; rfl)
theorem own_src {P : Program} {α : Type} {E : Enc P α} {B : Nat} {w : World} {A : Option Addr} {n c : Nat} {L : List α} (h : E.Own B w (.slice A n c) L) {g : Nat} (hA : A = some ⟨g, 0, none⟩) : ∀ j u, (E.cells L)[j]? = some u → w.cell? ((⟨g, 0, none⟩ : Addr).add j) = some u := fun j u hu => by
  subst hA
  have hn : n = L.length := by obtain ⟨_, _, e⟩ := h.form; injection e
  subst hn
  obtain ⟨rest, r1, _⟩ := own_row h rfl
  rw [addr_add, r1.cell, List.getElem?_append_left (List.getElem?_eq_some_iff.1 hu).1]; exact hu
section
variable {w : World} {B c : Nat} {A : Option Addr} {l : List Int}
set_option maxHeartbeats 1000000 in
theorem clone_i (h : EI.Own B w (.slice A l.length c) l) (h4 : l.length ≤ 90000) : Calls Try.prog 37 #[.slice A l.length c] w (ToldI l w) := by
  have q := fun w a n c n' c' => Lib.run_eql_slice_nil (P := Try.prog) w 35 3 a n c n' c' EI.und
  cases A with
  | none =>
    have h0 : l = [] := by
      rcases h.2 with ⟨h1, h2⟩ | ⟨g, cap, cur, h1, _⟩
      · exact List.eq_nil_of_length_eq_zero h2
      · cases h1
    subst h0
    clear h h4
    go_enter Try.func37, Try.ntmps37
    go_wp2
    go_ret
    exact ⟨none, 0, rfl, ⟨rfl, Or.inl ⟨rfl, rfl⟩⟩, Below.refl _ _⟩
  | some a =>
    obtain ⟨W1, hW1⟩ : ∃ W1, W1 = w.alloc (.cells #[] 3) := ⟨_, rfl⟩
    have hb1 : Below w.heap.size w W1 := by rw [hW1]; exact below_new _ _
    have hm : EI.Own w.heap.size W1 (.slice (some ⟨w.heap.size, 0, none⟩) 0 0) [] := by rw [hW1]; exact own_made EI w
    obtain ⟨g, hg⟩ : ∃ g, a = ⟨g, 0, none⟩ := by
      rcases h.2 with ⟨h1, h2⟩ | ⟨g, cap, cur, h1, _⟩
      · cases h1
      · injection h1 with h1; injection h1 with h1; exact ⟨g, h1⟩
    subst hg
    obtain ⟨A2, c2, W2, r2, o2, g2, -⟩ := hm.app hb1.size ⟨g, 0, none⟩ c l (own_src (h.call hb1) rfl) (by rw [List.length_nil]; omega)
    have r2' := r2 _ rfl
    rw [List.nil_append] at o2
    simp only [List.length_nil, Nat.zero_add] at r2' o2
    change (Builtin.append_ #[35, 35] 35 _).run Try.prog W1 = _ at r2'
    have hb2 : Below w.heap.size w W2 := hb1.grown g2 hb1.size (fun k e => by injection e with e; change w.heap.size = k at e; omega)
    have HB := Lib.hid hb2
    have HC := Lib.hid o2
    rw [hW1] at r2'
    clear hm hb1 hb2 o2 g2 r2 h h4 hW1
    go_enter Try.func37, Try.ntmps37
    go_wp2_with (at_builtin; refine wpList_append_run rfl _ _ 35 rfl (.slice (some ⟨w.heap.size, 0, none⟩) 0 0) (.slice (some ⟨g, 0, none⟩) l.length c) rfl rfl r2' ?_)
    go_ret
    exact ⟨A2, c2, rfl, HC.out, HB.out⟩
end
end Go.Proofs.Ytllepijlebbjbaa
