/- The library's search, insertion and deletion over the rows of the free lists. -/
import Derived.Test.YtfjphlickpgbnaaBu
import Derived.Test.YtfjphlickpgbnaaBv
import Derived.Outline
namespace Go.Proofs.Ytfjphlickpgbnaa
open Go.RowKit

def nint (l : List Nat) : List Int := l.map (fun x : Nat => (x : Int))
def cutX (x : Int) (l : List Nat) : Nat := (nint l).countP (· < x)
def memX (x : Int) (l : List Nat) : Bool := (nint l).contains x
theorem cutX_nat (a : Nat) (l : List Nat) : cutX a l = cutI a l := by
  unfold cutX cutI nint
  rw [List.countP_map]
  congr 1
  funext y
  simp
theorem memX_nat (a : Nat) (l : List Nat) : memX a l = decide (a ∈ l) := by
  unfold memX nint
  rw [Bool.eq_iff_iff, List.contains_iff_mem, decide_eq_true_eq, List.mem_map]
  constructor
  · rintro ⟨y, hy, e⟩
    obtain rfl : y = a := by omega
    exact hy
  · intro h; exact ⟨a, h, rfl⟩
theorem memX_neg {x : Int} (l : List Nat) (h : x < 0) : memX x l = false := by
  unfold memX nint
  rw [← Bool.not_eq_true, List.contains_iff_mem, List.mem_map]
  rintro ⟨y, hy, e⟩
  omega
theorem ints_at (l : List Nat) (r : List Int) (j : Nat) (hj : j < (ints l r).length) : (icells (ints l r))[j]? = some (.int .i64 ((ints l r).getD j 0)) := by
  rw [icells_get, List.getD_eq_getElem?_getD, List.getElem?_eq_getElem hj]; rfl
theorem nint_up {l : List Nat} (h : Up l) : (nint l).Pairwise (· ≤ ·) := by
  unfold nint
  rw [List.pairwise_map]
  exact h.imp fun {x y} h => by omega
section
variable {w : World} {b : Nat} {l : List Nat} {r : List Int}
theorem search_row (hr : Lrow w b 3 (icells (ints l r))) (hl : l.length ≤ 4096) (hu : Up l) (x : Int) :
    Calls Try.prog 78 #[.slice (some ⟨b, 0, none⟩) l.length (l.length + r.length), .int .i64 x] w fun e w' => e = .returned (.tuple #[.int .i64 (cutX x l : Nat), .bool (memX x l)]) ∧ ∃ q, w' = w.drewN q := by
  have ht := ints_take l r
  have h := Try.slices_BinarySearch_int b 0 l.length (l.length + r.length) (ints l r) x w (by rw [ints_length]; omega) (by omega)
    (fun j hj => by rw [Nat.zero_add, hr.cell]; exact ints_at l r j hj) (by rw [ht]; exact nint_up hu)
  rw [ht] at h
  exact h
theorem splice_len {α : Type} (L cs : List α) (o : Nat) (h : o + cs.length ≤ L.length) : (splice L o cs).length = L.length := by
  simp only [splice, List.length_append, List.length_take, List.length_drop]; omega
theorem splice_zero {α : Type} (L cs : List α) : splice L 0 cs = cs ++ L.drop cs.length := by simp [splice]
theorem delete_row (hr : Lrow w b 3 (icells (ints l r))) (hm : l.length + r.length ≤ 9223372036854775807) (hu : Up l) {x : Nat} (hx : x ∈ l) :
    Calls Try.prog 79 #[.slice (some ⟨b, 0, none⟩) l.length (l.length + r.length), .int .i64 (cutI x l : Nat), .int .i64 ((cutI x l : Nat) + 1)] w fun e w' =>
      e = .returned (.slice (some ⟨b, 0, none⟩) (remL x l).length (l.length + r.length)) ∧ Lrow w' b 3 (icells (ints (remL x l) (0 :: r))) ∧ w.grownBy w' (some b) := by
  have hc := cut_lt hu hx
  have hrl := remL_len hu hx
  have ht := ints_take l r
  have h := Try.slices_Delete_int_cells b 0 l.length (l.length + r.length) (cutI x l) (cutI x l + 1) (ints l r) w (by rw [ints_length]; omega) (by omega) hm (by omega) (by omega)
    (fun j hj => by rw [Nat.zero_add, hr.cell]; exact ints_at l r j hj) (fun j _ => by rw [Nat.zero_add]; exact hr.frozen j)
  rw [ht, show ((cutI x l + 1 : Nat) : Int) = (cutI x l : Nat) + 1 by omega, show l.length - (cutI x l + 1 - cutI x l) = (remL x l).length by omega, show cutI x l + 1 - cutI x l = 1 by omega] at h
  refine h.mono ?_
  rintro e w' ⟨rfl, q, rfl⟩
  have hcs : ((List.map (fun x : Nat => (x : Int)) l).take (cutI x l) ++ (List.map (fun x : Nat => (x : Int)) l).drop (cutI x l + 1) ++ List.replicate 1 (0 : Int)) = (remL x l).map (fun x : Nat => (x : Int)) ++ [0] := by
    simp [remL, List.map_take, List.map_drop]
  rw [hcs]
  refine ⟨rfl, ?_, (grown_drewN _ _ _).trans (grown_setCells _ _ _ _)⟩
  have h1 := (hr.drewN q).setCells (((remL x l).map (fun x : Nat => (x : Int)) ++ [0]).map (Value.int .i64)) 0 (by simp [icells_length, ints_length]; omega)
  rw [splice_zero] at h1
  have e1 : ((remL x l).map (fun x : Nat => (x : Int)) ++ [0]).map (Value.int .i64) ++ (icells (ints l r)).drop (((remL x l).map (fun x : Nat => (x : Int)) ++ [0]).map (Value.int .i64)).length = icells (ints (remL x l) (0 :: r)) := by
    have e2 : (((remL x l).map (fun x : Nat => (x : Int)) ++ [0]).map (Value.int .i64)).length = l.length := by simp; omega
    rw [e2]
    have e3 : (icells (ints l r)).drop l.length = icells r := by
      unfold icells ints
      rw [← List.map_drop, List.drop_append_of_le_length (by simp), List.drop_of_length_le (by simp)]; rfl
    rw [e3]
    simp [icells, ints]
  rw [e1] at h1
  exact h1
/-- What an insertion comes to: the row lies in its block, or in a new one; no other block has turned. -/
def Inserted (w : World) (p : Option Nat) (x : Nat) (l : List Nat) (e : Ending) (w' : World) : Prop :=
  ∃ b r, e = .returned (.slice (some ⟨b, 0, none⟩) (insL x l).length ((insL x l).length + r.length)) ∧ Lrow w' b 3 (icells (ints (insL x l) r)) ∧ (insL x l).length + r.length ≤ 9223372036854775807 ∧ w.grownBy w' (some b) ∧ (p = some b ∨ w.heap.size ≤ b)
theorem insL_end {x : Nat} {l : List Nat} (h : cutI x l = l.length) : insL x l = l ++ [x] := by simp [insL, h]
theorem zeroCells_int (n : Nat) : Builtin.zeroCells (Value.int .i64 0).cells n = (icells (List.replicate n (0 : Int))).toArray := by
  apply Array.ext
  · rw [size_zeroCells]; simp [icells_length, Value.cells]
  · intro i h1 h2
    simp [Builtin.zeroCells, icells, Value.cells, Nat.mod_one]
end
theorem shift_list {α : Type} (A D R : List α) (x y z : α) : splice (splice (A ++ z :: D ++ y :: R) (A.length + 1) (z :: D)) A.length [x] = A ++ x :: z :: D ++ R := by
  have e1 : splice (A ++ z :: D ++ y :: R) (A.length + 1) (z :: D) = A ++ z :: (z :: D ++ R) := by
    unfold splice
    rw [show A ++ z :: D ++ y :: R = (A ++ [z]) ++ (D ++ y :: R) by simp, List.take_left' (by simp), show A.length + 1 + (z :: D).length = (A ++ [z]).length + (D.length + 1) by simp, ← List.drop_drop, List.drop_left]
    rw [show D ++ y :: R = (D ++ [y]) ++ R by simp, List.drop_left' (by simp)]
    simp
  rw [e1]
  unfold splice
  rw [List.take_left, show A.length + [x].length = A.length + 1 by rfl, ← List.drop_drop, List.drop_left]
  simp
theorem grow_list {α : Type} (A Z D R : List α) (x : α) (h : Z.length = D.length + 1) : splice (splice (A ++ Z ++ R) A.length [x]) (A.length + 1) D = A ++ x :: D ++ R := by
  obtain ⟨z, Z, rfl⟩ : ∃ z Y, Z = z :: Y := List.exists_cons_of_length_eq_add_one h
  simp only [List.length_cons] at h
  have e1 : splice (A ++ z :: Z ++ R) A.length [x] = A ++ [x] ++ (Z ++ R) := by
    unfold splice
    rw [List.append_assoc, List.take_left, show A.length + [x].length = A.length + 1 by rfl, ← List.drop_drop, List.drop_left]
    simp
  rw [e1]
  unfold splice
  rw [List.take_left' (by simp), show A.length + 1 + D.length = (A ++ [x]).length + Z.length by simp; omega, ← List.drop_drop, List.drop_left, List.drop_left]
  simp
theorem room_list {α : Type} (A R : List α) (x y : α) : splice (A ++ y :: R) A.length [x] = A ++ x :: R := by
  unfold splice
  rw [List.take_left, show A.length + [x].length = A.length + 1 by rfl, ← List.drop_drop, List.drop_left]
  simp
theorem icells_append (a b : List Int) : icells (a ++ b) = icells a ++ icells b := by simp [icells]
theorem nint_insL (x : Nat) (l : List Nat) : nint (insL x l) = nint (l.take (cutI x l)) ++ (x : Int) :: nint (l.drop (cutI x l)) := by simp [nint, insL]
theorem nint_take (i : Nat) (l : List Nat) : (icells (nint l)).take i = icells (nint (l.take i)) := by simp [icells, nint, List.map_take]
theorem nint_drop (i : Nat) (l : List Nat) : (icells (nint l)).drop i = icells (nint (l.drop i)) := by simp [icells, nint, List.map_drop]
theorem nint_length (l : List Nat) : (nint l).length = l.length := by simp [nint]
theorem ints_eq (l : List Nat) (r : List Int) : ints l r = nint l ++ r := rfl
section
variable {w : World} {b vb x : Nat} {l : List Nat} {r : List Int}
theorem icells_one (zs : List Int) : ∀ v ∈ icells zs, v.oneCell' = true := by
  intro v hv
  unfold icells at hv
  obtain ⟨z, _, rfl⟩ := List.mem_map.1 hv
  rfl
theorem row_cells {zs ys : List Int} (hr : Lrow w b 3 (icells (zs ++ ys))) (j : Nat) (v : Value) (h : (icells zs)[j]? = some v) : w.cell? ⟨b, 0 + j, none⟩ = some v := by
  rw [Nat.zero_add, hr.cell, icells_append, List.getElem?_append_left]
  · exact h
  · rcases Nat.lt_or_ge j (icells zs).length with g | g
    · exact g
    · rw [List.getElem?_eq_none g] at h; cases h
theorem row_some {vs : List Value} {t : TypeId} (hr : Lrow w b t vs) (j : Nat) (h : j < vs.length) : (w.cell? ⟨b, j, none⟩).isSome = true := by
  rw [hr.cell, List.getElem?_eq_getElem h]; rfl
theorem arg_cells (hv : Lrow w vb 3 [.int .i64 x]) (j : Nat) (v : Value) (h : [Value.int .i64 x][j]? = some v) : w.cell? ⟨vb, 0 + j, none⟩ = some v := by
  rw [Nat.zero_add, hv.cell]; exact h
theorem arg_one : ∀ v ∈ [Value.int .i64 x], v.oneCell' = true := by
  intro v hv
  rw [List.mem_singleton.1 hv]; rfl
/-- A slice that is nil. -/
theorem insert_nil (hv : Lrow w vb 3 [.int .i64 x]) : Calls Try.prog 91 #[.slice none 0 0, .int .i64 0, .slice (some ⟨vb, 0, none⟩) 1 1] w (Inserted w none x []) := by
  have h := Any2.slices_Insert_int_end_grow Try.insI none 0 0 vb 0 1 1 [] [.int .i64 x] w (by omega) (by omega) (by omega) (by omega) rfl rfl (fun _ => rfl) (fun a h => by cases h) (arg_cells hv) arg_one
  change Calls Try.prog 91 _ _ _ at h
  refine h.mono ?_
  rintro e w' ⟨rfl, rfl⟩
  have hge := grownCap_ge w (0 + 1) 0 3
  have hle := grownCap_le_maxLen w (0 + 1) 0 3 (by decide)
  have ec : Try.insI_ren.t 3 = 3 := rfl
  rw [ec]
  obtain ⟨c, hc⟩ : ∃ c, c = grownCap w (0 + 1) 0 3 := ⟨_, rfl⟩
  rw [← hc] at hge hle ⊢
  refine ⟨w.heap.size, List.replicate (c - 1) 0, ?_, ?_, ?_, ?_, Or.inr (Nat.le_refl _)⟩
  · simp only [insL, cutI, List.length_replicate, List.countP_nil, List.take_nil, List.nil_append, List.drop_nil, List.length_cons, List.length_nil]
    rw [show 0 + 1 + (c - 1) = c by omega]
  · have := Lrow.new w.drew 3 (icells (ints (insL x []) (List.replicate (c - 1) 0)))
    rw [zeroCells_int]
    have e : (icells (ints (insL x []) (List.replicate (c - 1) 0))).toArray = ([] ++ [Value.int .i64 x]).toArray ++ (icells (List.replicate (c - (0 + 1)) 0)).toArray := by
      simp [icells, ints, insL, cutI]
    rw [e] at this
    exact this
  · simp only [insL, cutI, List.length_replicate, List.countP_nil, List.take_nil, List.nil_append, List.drop_nil, List.length_cons, List.length_nil]
    simp only [maxLen] at hle; omega
  · exact grown_alloc (grown_drewN w 1 _) _
theorem insert_row (hr : Lrow w b 3 (icells (ints l r))) (hm : l.length + r.length ≤ 9223372036854775807) (h0 : 0 < l.length + r.length) (hl : l.length ≤ 4096) (hv : Lrow w vb 3 [.int .i64 x]) (hvb : vb ≠ b) :
    Calls Try.prog 91 #[.slice (some ⟨b, 0, none⟩) l.length (l.length + r.length), .int .i64 (cutI x l : Nat), .slice (some ⟨vb, 0, none⟩) 1 1] w (Inserted w (some b) x l) := by
  have hil := insL_len x l
  have hci := cutI_le x l
  rw [ints_eq] at hr
  by_cases hend : cutI x l = l.length
  · have hins := insL_end hend
    rw [hend]
    cases r with
    | nil =>
      have h := Any2.slices_Insert_int_end_grow Try.insI (some ⟨b, 0, none⟩) l.length (l.length + 0) vb 0 1 1 (icells (nint l)) [.int .i64 x] w (by omega) (by omega) (by omega) (by omega) (by rw [icells_length, nint_length]) rfl (fun h => by cases h)
        (fun a ha j v hj => by injection ha with ha; subst ha; rw [Addr.add_lit]; exact row_cells hr j v hj) (arg_cells hv) arg_one
      change Calls Try.prog 91 _ _ _ at h
      refine h.mono ?_
      rintro e w' ⟨rfl, rfl⟩
      have hge := grownCap_ge w (l.length + 1) (l.length + 0) 3
      have hle := grownCap_le_maxLen w (l.length + 1) (l.length + 0) 3 (by simp only [maxLen]; omega)
      have ec : Try.insI_ren.t 3 = 3 := rfl
      rw [ec]
      obtain ⟨c, hc⟩ : ∃ c, c = grownCap w (l.length + 1) (l.length + 0) 3 := ⟨_, rfl⟩
      rw [← hc] at hge hle ⊢
      simp only [maxLen] at hle
      refine ⟨w.heap.size, List.replicate (c - (l.length + 1)) 0, ?_, ?_, ?_, ?_, Or.inr (Nat.le_refl _)⟩
      · rw [hil, List.length_replicate, show l.length + 1 + (c - (l.length + 1)) = c by omega]
      · have := Lrow.new w.drew 3 (icells (ints (insL x l) (List.replicate (c - (l.length + 1)) 0)))
        rw [zeroCells_int]
        have e : (icells (ints (insL x l) (List.replicate (c - (l.length + 1)) 0))).toArray = (icells (nint l) ++ [Value.int .i64 x]).toArray ++ (icells (List.replicate (c - (l.length + 1)) 0)).toArray := by
          rw [hins]
          simp [icells, ints, nint]
        rw [e] at this
        exact this
      · rw [hil, List.length_replicate]; omega
      · exact grown_alloc (grown_drewN w 1 _) _
    | cons y r =>
      have h := Any2.slices_Insert_int_end_room Try.insI b 0 l.length (l.length + (y :: r).length) vb 0 1 1 [.int .i64 x] w (by omega) (by simp only [List.length_cons]; omega) hm rfl
        (fun j hj => by rw [Nat.zero_add]; exact row_some hr _ (by simp only [icells_length, List.length_append, nint_length, List.length_cons]; omega)) (fun j _ => hr.frozen _) (arg_cells hv) arg_one
      change Calls Try.prog 91 _ _ _ at h
      refine h.mono ?_
      rintro e w' ⟨rfl, rfl⟩
      refine ⟨b, r, ?_, ?_, ?_, grown_setCells _ _ _ _, Or.inl rfl⟩
      · rw [hil]; simp only [List.length_cons]; rw [show l.length + 1 + r.length = l.length + (r.length + 1) by omega]
      · have := hr.setCells [.int .i64 x] (0 + l.length) (by simp only [icells_length, List.length_append, nint_length, List.length_cons, List.length_nil]; omega)
        have e : splice (icells (nint l ++ y :: r)) (0 + l.length) [.int .i64 x] = icells (ints (insL x l) r) := by
          have := room_list (icells (nint l)) (icells r) (.int .i64 x) (.int .i64 y)
          rw [icells_length, nint_length] at this
          rw [Nat.zero_add, icells_append, show icells (y :: r) = .int .i64 y :: icells r from rfl, this, hins]
          simp [icells, ints, nint]
        rw [e] at this
        exact this
      · rw [hil]; simp only [List.length_cons] at hm; omega
  · have hlt : cutI x l < l.length := by omega
    obtain ⟨A, z, D, hA, hD, hAl, hzl⟩ : ∃ A z D, A = l.take (cutI x l) ∧ z :: D = l.drop (cutI x l) ∧ A.length = cutI x l ∧ l = A ++ z :: D :=
      ⟨l.take (cutI x l), l[cutI x l], l.drop (cutI x l + 1), rfl, (List.drop_eq_getElem_cons hlt).symm, by rw [List.length_take]; omega, by rw [← List.drop_eq_getElem_cons hlt, List.take_append_drop]⟩
    have hins : insL x l = A ++ x :: z :: D := by unfold insL; rw [← hA, ← hD]
    have hln : l.length = A.length + (D.length + 1) := by rw [hzl]; simp
    cases r with
    | nil =>
      have h := Any2.slices_Insert_int_grow Try.insI b 0 l.length (l.length + 0) (cutI x l) vb 0 1 1 (icells (nint l)) [.int .i64 x] w hlt (by omega) (by omega) (by omega) (by omega) (by rw [icells_length, nint_length]) rfl
        (row_cells hr) (arg_cells hv) (icells_one _) arg_one
      change Calls Try.prog 91 _ _ _ at h
      refine h.mono ?_
      rintro e w' ⟨rfl, rfl⟩
      have hge := grownCap_ge w (l.length + 1) (l.length + 0) 3
      have hle := grownCap_le_maxLen w (l.length + 1) (l.length + 0) 3 (by simp only [maxLen]; omega)
      have ec : Try.insI_ren.t 3 = 3 := rfl
      rw [ec]
      obtain ⟨c, hc⟩ : ∃ c, c = grownCap w (l.length + 1) (l.length + 0) 3 := ⟨_, rfl⟩
      rw [← hc] at hge hle ⊢
      simp only [maxLen] at hle
      refine ⟨w.heap.size, List.replicate (c - (l.length + 1)) 0, ?_, ?_, ?_, ?_, Or.inr (Nat.le_refl _)⟩
      · rw [hil, List.length_replicate, show l.length + 1 + (c - (l.length + 1)) = c by omega]
      · rw [zeroCells_int, zeroCells_int, nint_take, nint_drop, ← hA, ← hD]
        have h1 := Lrow.new w 3 (icells (nint A) ++ icells (List.replicate (l.length + 1 - cutI x l) 0) ++ icells (List.replicate (c - (l.length + 1)) 0))
        have e1 : (icells (nint A) ++ icells (List.replicate (l.length + 1 - cutI x l) 0) ++ icells (List.replicate (c - (l.length + 1)) 0)).toArray = (icells (nint A)).toArray ++ (icells (List.replicate (l.length + 1 - cutI x l) 0)).toArray ++ (icells (List.replicate (c - (l.length + 1)) 0)).toArray := by simp
        rw [e1] at h1
        have h2 := ((h1.drewN 1).setCells [.int .i64 x] (cutI x l) (by simp only [List.length_append, icells_length, nint_length, List.length_replicate, List.length_cons, List.length_nil]; omega))
        have h3 := (h2.drewN 1).setCells (icells (nint (z :: D))) (cutI x l + 1) (by
          rw [splice_len _ _ _ (by simp only [List.length_append, icells_length, nint_length, List.length_replicate, List.length_cons, List.length_nil]; omega)]
          simp only [List.length_append, icells_length, nint_length, List.length_replicate, List.length_cons]; omega)
        have e2 := grow_list (icells (nint A)) (icells (List.replicate (l.length + 1 - cutI x l) 0)) (icells (nint (z :: D))) (icells (List.replicate (c - (l.length + 1)) 0)) (.int .i64 x) (by simp only [icells_length, nint_length, List.length_replicate, List.length_cons]; omega)
        rw [icells_length, nint_length, hAl] at e2
        rw [e2] at h3
        have e3 : icells (nint A) ++ Value.int .i64 x :: icells (nint (z :: D)) ++ icells (List.replicate (c - (l.length + 1)) 0) = icells (ints (insL x l) (List.replicate (c - (l.length + 1)) 0)) := by
          rw [hins]; simp [icells, ints, nint]
        rw [e3] at h3
        exact h3
      · rw [hil, List.length_replicate]; omega
      · refine World.grownBy.trans (World.grownBy.trans (grown_alloc (World.grownBy.refl w _) _) ((grown_drewN _ 1 _).trans (grown_setCells _ _ _ _))) ((grown_drewN _ 1 _).trans (grown_setCells _ _ _ _))
    | cons y r =>
      have h := Any2.slices_Insert_int_shift Try.insI b 0 l.length (l.length + (y :: r).length) (cutI x l) vb 0 1 1 (icells (nint l)) [.int .i64 x] w hlt (by omega) (by simp only [List.length_cons]; omega) hm hvb (by rw [icells_length, nint_length]) rfl
        (row_cells hr) (fun j hj => by rw [Nat.zero_add]; exact row_some hr _ (by simp only [icells_length, List.length_append, nint_length, List.length_cons]; omega)) (fun j _ => hr.frozen _) (arg_cells hv) (icells_one _) arg_one
        _ _ _ _ hv.shape hr.shape (by simp only [icells_length, List.length_append, nint_length, List.length_cons]; omega) (hv.frozen _) (hv.frozen _)
      change Calls Try.prog 91 _ _ _ at h
      refine h.mono ?_
      rintro e w' ⟨rfl, rfl⟩
      refine ⟨b, r, ?_, ?_, ?_, (grown_drewN w 1 _).trans ((grown_setCells _ _ _ _).trans (grown_setCells _ _ _ _)), Or.inl rfl⟩
      · rw [hil]; simp only [List.length_cons]; rw [show l.length + 1 + r.length = l.length + (r.length + 1) by omega]
      · rw [nint_drop, ← hD]
        have h2 := (hr.drewN 1).setCells (icells (nint (z :: D))) (0 + (cutI x l + 1)) (by simp only [List.length_append, icells_length, nint_length, List.length_cons]; omega)
        have h3 := h2.setCells [.int .i64 x] (0 + cutI x l) (by
          rw [splice_len _ _ _ (by simp only [List.length_append, icells_length, nint_length, List.length_cons]; omega)]
          simp only [List.length_append, icells_length, nint_length, List.length_cons, List.length_nil]; omega)
        have e2 := shift_list (icells (nint A)) (icells (nint D)) (icells r) (.int .i64 x) (.int .i64 y) (.int .i64 z)
        rw [icells_length, nint_length, hAl] at e2
        have e3 : icells (nint l ++ y :: r) = icells (nint A) ++ Value.int .i64 z :: icells (nint D) ++ Value.int .i64 y :: icells r := by
          rw [hzl]; simp [icells, nint]
        have e4 : icells (nint A) ++ Value.int .i64 x :: Value.int .i64 z :: icells (nint D) ++ icells r = icells (ints (insL x l) r) := by
          rw [hins]; simp [icells, ints, nint]
        rw [Nat.zero_add, Nat.zero_add, e3, show icells (nint (z :: D)) = Value.int .i64 z :: icells (nint D) from rfl, e2, e4] at h3
        rw [Nat.zero_add, Nat.zero_add]
        exact h3
      · rw [hil]; simp only [List.length_cons] at hm; omega
end
end Go.Proofs.Ytfjphlickpgbnaa
