/- slices.Delete and slices.Clone on spots. -/
import Derived.Test.YtgpbbmcadifdhaaR3
import Derived.Shelf.Abstract
import Derived.Shelf.RegionOpen
import Derived.Laws.CopyOwn
namespace Go.Proofs.Ytgpbbmcadifdhaa
open Go.RowKit Go.Shelf

theorem add_offs (g j : Nat) : (⟨g, 0, none⟩ : Addr).add j = ⟨g, j, none⟩ := by unfold Addr.add; split <;> simp_all
theorem add_lit2 (g o j : Nat) : (⟨g, o, none⟩ : Addr).add j = ⟨g, o + j, none⟩ := by unfold Addr.add; split <;> simp_all
theorem below_new (w : World) (o : Obj) : Below w.heap.size w (w.alloc o) := (Below.refl _ _).alloc (Nat.le_refl _) o
theorem info_spot : (Try.prog.info? 27).map (fun i => (i.zero, i.size, i.bytes)) = some (some (.agg #[.int .i64 0, .int .i64 0]), 2, 16) := by kernel_rfl
theorem Sp.row {w : World} {B c : Nat} {A : Option Addr} {L : List It} (h : Sp B w (.slice A L.length c) L) (hn : 0 < L.length) : ∃ g R, A = some ⟨g, 0, none⟩ ∧ B ≤ g ∧ Lrow w g 27 (pcells L ++ R) ∧ L.length ≤ c ∧ c ≤ maxLen ∧ R.length = (c - L.length) * 2 := by
  rcases h.2 with ⟨e, h0⟩ | ⟨g, cap, cur, e, hB, hg, hnc, hc, hs, ht⟩
  · omega
  · obtain ⟨rest, r1, r2, r3, r4, r5⟩ := own_row (g := g) h (by injection e)
    refine ⟨g, rest, by injection e, r2, r1, r3, r4, ?_⟩
    rw [pcells_length] at r5
    omega
theorem Sp.nil (B : Nat) (w : World) : Sp B w (.slice none 0 0) [] := ⟨rfl, Or.inl ⟨rfl, rfl⟩⟩
theorem Sp.made (w : World) : Sp w.heap.size (w.alloc (.cells #[] 27)) (.slice (some ⟨w.heap.size, 0, none⟩) 0 0) [] :=
  World.ownsRow_made w #[] 0 (Nat.le_refl _) (Nat.zero_le _) rfl
/-- Some lines behind a list: the run of append, whatever room there is. -/
theorem app_run {w : World} {B : Nat} {v : Value} {L : List It} (h : Sp B w v L) (hB : B ≤ w.heap.size) (ad : Addr) (cc : Nat) (M : List It) (hM : ∀ j u, (pcells M)[j]? = some u → w.cell? (ad.add j) = some u) (hl : L.length + M.length ≤ 100000) : ∃ A c w3,
    (Builtin.append_ #[36, 36] 36 #[v, .slice (some ad) M.length cc]).run Try.prog w = .ok (.slice A (L.length + M.length) c) w3 ∧
    Sp B w3 (.slice A (L.length + M.length) c) (L ++ M) ∧ w.grownBy w3 v.ownBlock ∧ ((Value.slice A (L.length + M.length) c).ownBlock = v.ownBlock ∨ (Value.slice A (L.length + M.length) c).ownBlock = some w.heap.size) := by
  obtain ⟨i0, hi0, hz0, hz1, hz2⟩ := info_parts info_spot
  obtain ⟨v1, W1, r1, o1, g1, -, t1⟩ := run_append_own_at (P := Try.prog) (w := w) B 36 36 27 i0 _ 2 16 spots_slice hi0 hz0 hz1 hz2 rfl (by decide) v L.length _ h ad M.length cc (pcells M) (pcells_length M) hM (pcells_one M) (by unfold maxLen; omega) (by omega) hB
  obtain ⟨A, c, hv⟩ := own_form o1
  subst hv
  refine ⟨A, c, W1, r1, ?_, g1, t1⟩
  show W1.ownsRow B 27 2 _ (L ++ M).length (pcells (L ++ M))
  rw [List.length_append, pcells_append]
  exact o1
def zcell : List Value := [.int .i64 0, .int .i64 0]
theorem zero_spot (w : World) : (zeroValue 27).run Try.prog w = .ok (.agg #[.int .i64 0, .int .i64 0]) w := by kernel_rfl
theorem zcell_one : ∀ u ∈ zcell, u.oneCell' = true := by
  intro u hu; simp [zcell] at hu; subst hu; rfl
theorem clear2_run {w : World} {g : Nat} {t : TypeId} {L : List Value} (h : Lrow w g t L) (o c : Nat) (hl : o + 2 ≤ L.length) (ty : TypeId) :
    (Builtin.clear_ #[36] ty #[.slice (some ⟨g, o, none⟩) 1 c]).run Try.prog w = .ok (.tuple #[]) (w.setCells g o zcell) := by
  have hst := run_storeCells_cells (P := Try.prog) g o zcell 0 w (by intro j hj; rw [Nat.add_zero, h.cell, List.getElem?_eq_getElem (by simp [zcell] at hj; omega)]; rfl) (by intro j _; exact h.frozen _) zcell_one
  simp only [Nat.add_zero] at hst
  have hz : (Builtin.zeroCells (Value.agg #[.int .i64 0, .int .i64 0]).cells 1).toList = zcell := by kernel_rfl
  simp [Builtin.clear_, run_underlying spots_slice, hz, hst]
/-- An appending whose run is known, as one step of a region that draws. -/
theorem step_append_run {P : Program} {ops : Array Oper} {o : Oper} {a : Act} {w : World} {K : Act → World → Prop} {Q : Exit → Act → World → Prop} {E : Prop}
    (hg : o.guard = none) (d x : Operand) (t : TypeId) (hop : o.op = Op.call { callee := Callee.builtin Builtin.append, args := #[d, x], argTypes := #[t, t] })
    (v u : Value) (hd : a.eval d = v) (hx : a.eval x = u) {v' : Value} {w' : World} (hr : (Builtin.append_ #[t, t] o.type #[v, u]).run P w = .ok v' w') (hK : K (a.put o.dst v') w') :
    if Region.wanted o (yielded ops a.tmps) = true then Oper.wp P o a w K Q else E := by
  have hw : Region.wanted o (yielded ops a.tmps) = true := by simp [Region.wanted, hg]
  rw [if_pos hw]
  unfold Oper.wp
  simp [execOp, hop, resolve, invoke, builtin, hd, hx, hr, Result.andThen]
  exact hK
theorem wpList_append_run {P : Program} {w : World} {ops : Array Oper} {rest : List Oper} {o : Oper} {a : Act} {Q : Exit → Act → World → Prop}
    (hg : o.guard = none) (d x : Operand) (t : TypeId) (hop : o.op = Op.call { callee := Callee.builtin Builtin.append, args := #[d, x], argTypes := #[t, t] })
    (v u : Value) (hd : a.eval d = v) (hx : a.eval x = u) {v' : Value} {w' : World} (hr : (Builtin.append_ #[t, t] o.type #[v, u]).run P w = .ok v' w') (h : wpList P ops Q rest (a.put o.dst v') w') : wpList P ops Q (o :: rest) a w := by
  refine wpList_plain hg fun K' hK' => ?_
  unfold Oper.wp
  simp [execOp, hop, resolve, invoke, builtin, hd, hx, hr, Result.andThen]
  exact hK' _ _ h
/-- The slice of what is moved to the left. -/
def behind (g cap j : Nat) : Addr := if cap = j then ⟨g, 0, none⟩ else ⟨g, j * 2, none⟩
section
variable {w : World} {g cap i n : Nat} {L : List It} {R : List Value}
set_option maxHeartbeats 4000000 in
set_option maxRecDepth 100000 in
theorem delete_any (h : Lrow w g 27 (pcells L ++ R)) (hi : i < L.length) (hlc : L.length ≤ cap) (hcm : cap ≤ maxLen) (hL : L.length ≤ 100000) :
    Calls Try.prog 26 #[.slice (some ⟨g, 0, none⟩) L.length cap, .int .i64 i, .int .i64 (i + 1 : Nat)] w fun e w' => e = .returned (.slice (some ⟨g, 0, none⟩) (L.length - 1) cap) ∧ Lrow w' g 27 (pcells (L.eraseIdx i) ++ (zcell ++ R)) ∧ w.grownBy w' (some g) := by
  obtain ⟨i0, hi0, hz0, hz1, hz2⟩ := info_parts info_spot
  obtain ⟨m, hm⟩ : ∃ m, m = L.length := ⟨_, rfl⟩
  have hdl : (L.drop (i + 1)).length = m - (i + 1) := by rw [List.length_drop, hm]
  have hel : (L.eraseIdx i).length = m - 1 := by rw [List.length_eraseIdx, if_pos hi, hm]
  obtain ⟨news, hnews⟩ : ∃ news, news = pcells (L.drop (i + 1)) := ⟨_, rfl⟩
  have hnl : news.length = (m - (i + 1)) * 2 := by rw [hnews, pcells_length, hdl]
  have hsrc : ∀ t u, news[t]? = some u → w.drew.cell? ((behind g cap (i + 1)).add t) = some u := fun t u hu => by
    have ht := (List.getElem?_eq_some_iff.1 hu).1
    unfold behind
    by_cases hc : cap = i + 1
    · omega
    · rw [if_neg hc, add_lit2]
      have : w.drew.cell? ⟨g, (i + 1) * 2 + t, none⟩ = (pcells L ++ R)[(i + 1) * 2 + t]? := h.cell _
      rw [this, List.getElem?_append_left (by rw [pcells_length]; omega)]
      rw [hnews, pcells_drop, List.getElem?_drop] at hu
      exact hu
  have hone : ∀ u ∈ news, u.oneCell' = true := fun u hu => by rw [hnews] at hu; exact pcells_one _ u hu
  have hrun := fun ty => run_append_room_cells (P := Try.prog) w.drew 36 ty 27 i0 spots_slice hi0 g 0 i cap (behind g cap (i + 1)) (m - (i + 1)) (cap - (i + 1)) news (by rw [hz1]; exact hnl) hsrc hone (by omega)
    (fun j hj => by
      have : w.drew.cell? ⟨g, 0 + i * i0.size + j, none⟩ = (pcells L ++ R)[0 + i * i0.size + j]? := h.cell _
      rw [this, hz1, List.getElem?_eq_getElem (by rw [List.length_append, pcells_length]; omega)]; rfl)
    (fun j _ => h.frozen _)
  rw [hz1, Nat.zero_add, show i + (m - (i + 1)) = m - 1 by omega] at hrun
  obtain ⟨W1, hW1⟩ : ∃ W1, W1 = w.drew.setCells g (i * 2) news := ⟨_, rfl⟩
  rw [← hW1] at hrun
  have e0 : pcells L ++ R = pcells (L.take i) ++ pcells ((L.drop i).take (m - 1 - i)) ++ (pcells (L.drop (m - 1)) ++ R) := by
    rw [← List.append_assoc, ← pcells_append, ← pcells_append]
    congr 2
    have e2 : L.drop (m - 1) = (L.drop i).drop (m - 1 - i) := by rw [List.drop_drop]; congr 1; omega
    rw [e2, List.append_assoc, List.take_append_drop, List.take_append_drop]
  have e1 : splice (pcells L ++ R) (i * 2) news = pcells (L.eraseIdx i) ++ (pcells (L.drop (m - 1)) ++ R) := by
    rw [e0, splice_mid _ _ _ _ ((m - 1 - i) * 2) (by rw [pcells_length, List.length_take]; congr 1; omega) (by rw [pcells_length, List.length_take, List.length_drop]; congr 1; omega) _ (by rw [hnl]; congr 1; omega), hnews, ← pcells_append, List.eraseIdx_eq_take_drop_succ]
  obtain ⟨h1, g1⟩ := row_setCells g _ news (i * 2) w.drew _ h (by rw [List.length_append, pcells_length]; omega)
  rw [← hW1, e1] at h1
  rw [← hW1] at g1
  obtain ⟨W2, hW2⟩ : ∃ W2, W2 = W1.setCells g ((m - 1) * 2) zcell := ⟨_, rfl⟩
  have hcl := fun ty => clear2_run h1 ((m - 1) * 2) (cap - (m - 1)) (by simp only [List.length_append, pcells_length, hel, List.length_drop]; omega) ty
  rw [← hW2] at hcl
  obtain ⟨h2, g2⟩ := row_setCells g _ zcell ((m - 1) * 2) W1 _ h1 (by simp only [List.length_append, pcells_length, hel, List.length_drop, zcell, List.length_cons, List.length_nil]; omega)
  rw [← hW2, ← List.append_assoc, splice_mid _ _ _ _ 2 (by rw [pcells_length, hel]) (by rw [pcells_length, List.length_drop]; omega) _ rfl, List.append_assoc] at h2
  rw [← hW2] at g2
  have GR : Hid (w.grownBy W2 (some g)) := grown_trans1 (grown_trans1 (grown_drewN w 1 (some g)) g1) g2
  have H2 := Lib.hid h2
  have hms : m ≤ 100000 := by omega
  have him : i < m := by omega
  have hmc : m ≤ cap := by omega
  have hne : ¬ cap = m - 1 := by omega
  have hic : i ≤ cap := by omega
  have hjc : i + 1 ≤ cap := by omega
  have hmi : m - (m - 1) = 1 := by omega
  rw [← hm]
  have HM := Lib.hid hm
  have hcap : cap ≤ 9223372036854775807 := by unfold maxLen at hcm; omega
  obtain ⟨m1, hm1⟩ : ∃ m1, m1 = m - 1 := ⟨_, rfl⟩
  rw [← hm1] at hcl hrun hne hmi ⊢
  have him1 : i ≤ m1 := by omega
  have hm1m : m1 + 1 = m := by omega
  subst hm1m
  have e9 : m1 + 1 - m1 = 1 := by omega
  have hi0c : (0 : Int) ≤ (i : Int) + 1 := by omega
  have hbe : (some (behind g cap (i + 1)) : Option Addr) = if cap = i + 1 then some ⟨g, 0, none⟩ else some ⟨g, (i + 1) * 2, none⟩ := by unfold behind; split <;> rfl
  rw [hbe, show m1 + 1 - (i + 1) = m1 - i by omega] at hrun
  clear hbe
  clear hm hdl hel hnews hnl hsrc hone e0 e1 h1 g1 h2 g2 hW1 hW2 h hi hL hlc hcm hm1 hms
  go_enter Try.func26, Try.ntmps26
  go_wp2_with fail
  go_region_law (refine step_append_run rfl (.tmp 22) (.tmp 25) 36 rfl _ _ (by simp [Act.eval, Act.put]) (by simp [Act.eval, Act.put]) (hrun _) ?_)
  go_wp2
  all_goals
    go_ret
    exact ⟨rfl, H2.out, GR.out⟩
end
set_option maxHeartbeats 1000000 in
theorem clone_any {w : World} {B c : Nat} {A : Option Addr} {L : List It} (h : Sp B w (.slice A L.length c) L) (hL : L.length ≤ 100000) :
    Calls Try.prog 29 #[.slice A L.length c] w fun e w' => ∃ A' c', e = .returned (.slice A' L.length c') ∧ Sp w.heap.size w' (.slice A' L.length c') L ∧ Below w.heap.size w w' := by
  have q := fun w a n c n' c' => Lib.run_eql_slice_nil (P := Try.prog) w 36 27 a n c n' c' spots_slice
  cases A with
  | none =>
    have h0 : L.length = 0 := by
      rcases h.2 with ⟨h1, h2⟩ | ⟨g, cap, cur, h1, _⟩
      · exact h2
      · cases h1
    obtain rfl : L = [] := List.eq_nil_of_length_eq_zero h0
    clear h h0 hL
    go_enter Try.func29, Try.ntmps29
    go_wp2
    go_ret
    exact ⟨none, 0, rfl, Sp.nil _ _, Below.refl _ _⟩
  | some a =>
    have hw := below_new w (.cells #[] 27)
    obtain ⟨W1, hW1⟩ : ∃ W1, W1 = w.alloc (.cells #[] 27) := ⟨_, rfl⟩
    obtain ⟨b, hb⟩ : ∃ b, b = w.heap.size := ⟨_, rfl⟩
    have hm := Sp.made w
    rw [← hW1, ← hb] at hm
    rw [← hW1] at hw
    have hs : ∀ j u, (pcells L)[j]? = some u → W1.cell? (a.add j) = some u := fun j u hu => by
      have hn : 0 < L.length := by
        have := (List.getElem?_eq_some_iff.1 hu).1
        rw [pcells_length] at this; omega
      obtain ⟨g, R, e, hB, hr, _⟩ := h.row hn
      injection e with e
      subst e
      rw [add_offs, ← hu]
      have := (hr.call hw).cell j
      rw [this, List.getElem?_append_left (List.getElem?_eq_some_iff.1 hu).1]
    obtain ⟨A', c', W2, hrun, hcs, hg, ho⟩ := app_run hm (by have := hw.size; omega) a c L hs (by simpa using hL)
    rw [List.nil_append] at hcs
    simp only [List.length_nil, Nat.zero_add] at hrun hcs
    have HB : Hid (Below w.heap.size w W2) := hw.grown hg hw.size (fun k e => by injection e with e; change b = k at e; omega)
    have HC := Lib.hid hcs
    have HBB := Lib.hid hb
    rw [hW1, hb] at hrun
    clear hm hw hs hcs hg ho h hL hW1 hb
    go_enter Try.func29, Try.ntmps29
    go_wp2_with (at_builtin; refine wpList_append_run rfl _ _ 36 rfl (.slice (some ⟨w.heap.size, 0, none⟩) 0 0) (.slice (some a) L.length c) rfl rfl hrun ?_)
    go_ret
    exact ⟨A', c', rfl, by rw [← HBB.out]; exact HC.out, HB.out⟩
theorem delete_own {B : Nat} {w : World} {v : Value} {l : List It} {i : Nat} (h : Sp B w v l) (hi : i < l.length) (hl : l.length ≤ 1000) :
    Calls Try.prog 26 #[v, .int .i64 i, .int .i64 (i + 1 : Nat)] w fun e w' => ∃ v', e = .returned v' ∧ Sp B w' v' (l.eraseIdx i) ∧ w.grownBy w' v.ownBlock ∧ v'.ownBlock = v.ownBlock := by
  obtain ⟨A, c, rfl⟩ := own_form h
  obtain ⟨g, R, rfl, hB, hr, h1, h2, h3⟩ := h.row (by omega)
  refine (delete_any hr hi h1 h2 (by omega)).mono ?_
  rintro e w' ⟨rfl, hr', hg⟩
  have hle : (l.eraseIdx i).length = l.length - 1 := by rw [List.length_eraseIdx, if_pos hi]
  refine ⟨_, rfl, ?_, hg, rfl⟩
  show w'.ownsRow B 27 2 _ _ _
  rw [hle]
  exact own_of_row hr' hB (by omega) h2 (by rw [pcells_length, hle]) (by rw [pcells_length, hle, List.length_append, h3]; simp only [zcell, List.length_cons, List.length_nil]; omega)
end Go.Proofs.Ytgpbbmcadifdhaa
