/- The program's spaces: OMap. -/
import Derived.Test.YtnppnoabhpkmkaaGreatMg21
import Derived.Shelf.SlMaps.Clone
import Derived.Ground.SlmcProg
import Derived.Test.YtnppnoabhpkmkaaGreatProg
namespace Go.Proofs.YtnppnoabhpkmkaaGreat
open Go.RowKit
section
variable {w w' wb w1 : World} {B bx : Nat} {T : PfT} {F F' : Fl} {s s' : PsB} {S S' : Sp} {j : Nat} {n a : Int}
/-- A new object's words and number, behind the mapping. -/
theorem lay_obj (h : PfAt B w T F) (hs : T.LS[j]? = some (some s)) (hb : Below w.heap.size w wb) {Q : Int → Pg} (d : DidA B wb s.ab Q w1) (hO : F.O.length ≤ 1000) (hq : ∀ i, shr (Q i).h → (Q i).o = F.O.length ∨ ∃ i', shr ((sp F j).P i').h ∧ ((sp F j).P i').o = (Q i).o) :
    ∃ w3, (Instr.mapUpdate 88 (.map (some s.ob)) (.int .i64 F.O.length) (.map (some w1.heap.size))).run Tryz.prog (w1.alloc (.map #[] 0)) = .ok () w3 ∧ w3.cell? ⟨T.s, 1, none⟩ = some (.int .i64 F.O.length) ∧ w3.frozen? ⟨T.s, 1, none⟩ = false ∧ (∀ g t vs, Lrow w1 g t vs → Lrow w3 g t vs) ∧ T.s < w1.heap.size ∧
      DidV B w T ⟨F.L.set j { sp F j with P := Q }, F.O ++ [fun _ => 0]⟩ (w3.setCell ⟨T.s, 1, none⟩ (.int .i64 ((F.O.length : Int) + 1))) := by
  obtain ⟨gS, hp⟩ := h.at_ hs
  have d2 := d.pre hb
  obtain ⟨A1, c1, l1, h1, h2, h3, h4, M, h5, h6, h7⟩ := hp.areas d2
  have hmo := (h.dM j s hs).1
  have hf1 := d2.2
  have ht1 : Lrow w1 T.s 72 [T.vl, .int .i64 F.O.length] := hf1.row h.top (h.top.apart hp.ars.top (by decide))
  obtain ⟨W2, hW2⟩ : ∃ W2, W2 = w1.alloc (.map #[] 0) := ⟨_, rfl⟩
  have b2 : Below w1.heap.size w1 W2 := by rw [hW2]; exact below_new _ _
  have hn2 : MemAt W2 w1.heap.size (fun _ => 0) := by rw [hW2]; exact MemAt.new w1
  obtain ⟨w3, r3, g3, s3, m3⟩ := (h5.call b2).put (by rw [h.no]; omega) (f := (F.O.length : Int)) (.map (some w1.heap.size)) (by unfold FitM; omega)
  rw [← hW2]
  have k3 : ∀ k, k < W2.heap.size → k ≠ s.ob → w3.heap[k]? = W2.heap[k]? := fun k hk hne => g3.block k hk (by intro e; injection e with e; exact hne e)
  have kr : ∀ g t vs, Lrow w1 g t vs → Lrow w3 g t vs := fun g t vs r => (k3 g (Nat.lt_of_lt_of_le r.lt b2.size) (h5.apart r)).trans (r.call b2)
  have ht3 := kr _ _ _ ht1
  have hsz := hf1.size
  refine ⟨w3, r3, ht3.cell 1, ht3.frozen 1, kr, ht1.lt, ?_⟩
  obtain ⟨W4, hW4⟩ : ∃ W4, W4 = w3.setCell ⟨T.s, 1, none⟩ (.int .i64 ((F.O.length : Int) + 1)) := ⟨_, rfl⟩
  rw [← hW4]
  have k4 : ∀ k, k ≠ T.s → W4.heap[k]? = w3.heap[k]? := fun k hk => by rw [hW4]; exact Below.heap_setCell w3 _ _ k hk
  have s4 : W4.heap.size = w3.heap.size := by rw [hW4]; simp [World.setCell]
  have k14 : ∀ k, k < w1.heap.size → k ≠ s.ob → k ≠ T.s → W4.heap[k]? = w1.heap[k]? := fun k hk n1 n2 => (k4 k n2).trans ((k3 k (Nat.lt_of_lt_of_le hk b2.size) n1).trans (b2.block k hk))
  have f24 : Foot (fun k => k = T.s ∨ k = s.ab ∨ k = s.mb ∨ k = s.ob) w1 W4 := by
    have f2 : Foot (fun k => k = T.s ∨ k = s.ab ∨ k = s.mb ∨ k = s.ob) w1 W2 := Foot.of_below b2
    have f3 : Foot (fun k => k = T.s ∨ k = s.ab ∨ k = s.mb ∨ k = s.ob) W2 w3 := Foot.grown g3 (Or.inr (Or.inr (Or.inr rfl)))
    have f4 : Foot (fun k => k = T.s ∨ k = s.ab ∨ k = s.mb ∨ k = s.ob) w3 W4 := by rw [hW4]; exact Foot.grown (grown_set w3 T.s 1 _) (Or.inl rfl)
    exact (f2.trans f3 fun _ e _ => e).trans f4 fun _ e _ => e
  have hno : T.LO.length = F.O.length := h.no
  have nb : w1.heap.size ≠ s.ob := by have := h5.lt; omega
  have nts : w1.heap.size ≠ T.s := by have := ht1.lt; omega
  have nsb : s.sb ≠ T.s := hp.top.apart h.top (by decide)
  have nab : s.ab ≠ T.s := hp.ars.top.apart h.top (by decide)
  have nmb : s.mb ≠ T.s := fun e => hp.own.apart h.top e.symm
  have nob : s.ob ≠ T.s := fun e => hp.obj.apart h.top e.symm
  refine h.turn (s' := { s with A := A1, c := c1, l := l1 }) (S' := { sp F j with P := Q }) hs rfl rfl rfl rfl [w1.heap.size] (fun b hb => ?_) (by simp) ?_ ((hf1.mono fun k e => Or.inr (Or.inl e)).trans f24 fun _ e _ => e) ⟨(k14 _ h3.lt (h5.apart h3) nsb).trans h3, h1.keep (by rw [s4, s3]; exact b2.size) (k14 _ h1.top.lt (h5.apart h1.top) nab) (fun k vs r => k14 k r.lt (h5.apart r) (r.apart ht1 (by decide))), h4.heap (k14 _ h4.lt hmo nmb), ?_, hp.lo⟩ gS
  · rw [List.mem_singleton] at hb
    subst hb
    exact ⟨hsz, (hn2.heap (k3 _ (by rw [hW2, World.size_alloc]; omega) nb)).heap (k4 _ nts)⟩
  · have e : (.int .i64 (F.O.length + [w1.heap.size].length : Nat) : Value) = .int .i64 ((F.O.length : Int) + 1) := by simp
    rw [e, hW4]
    exact ht3.set_ 1 _
  · refine ⟨updM M F.O.length (some (.map (some w1.heap.size))), (by show TN.At W4 s.ob (T.LO ++ [w1.heap.size]).length _; rw [List.length_append]; exact m3.heap (k4 _ nob)), fun i hi hm => ?_, fun i hi => ?_⟩
    · by_cases e : i = (F.O.length : Int)
      · refine ⟨F.O.length, e, by rw [List.length_append, hno]; simp, ?_⟩
        subst e
        rw [updM_same, List.getElem_append_right (by omega)]
        simp [hno]
      · rw [updM_other _ _ e] at hm ⊢
        obtain ⟨k, e1, hk, e2⟩ := h6 i hi hm
        exact ⟨k, e1, by rw [List.length_append]; omega, by rw [e2, List.getElem_append_left hk]⟩
    · by_cases e : (Q i).o = (F.O.length : Int)
      · show updM M _ _ (Q i).o ≠ none
        rw [e, updM_same]; exact Option.some_ne_none _
      · show updM M _ _ (Q i).o ≠ none
        rw [updM_other _ _ e]
        rcases hq i hi with e2 | ⟨i', h8, h9⟩
        · exact absurd e2 e
        · rw [← h9]; exact h7 i' h8
set_option maxRecDepth 100000 in
set_option maxHeartbeats 2000000 in
theorem layA_no (h : PfAt B w T F) (hs : T.LS[j]? = some (some s)) (ha : Fits a) (hn : Fits n) (k hw p t c v : Int) (ha0 : a ≠ 0) (hE : mapE (sp F j).P a n hw p (objI F hw) ≠ 0) :
    Calls Tryz.prog 40 #[.pointer (some ⟨T.s, 0, none⟩), .agg #[.int .i64 k, .int .i64 j, .int .i64 a, .int .i64 n, .int .i64 hw, .int .i64 p, .int .i64 t, .int .i64 c, .int .u64 v]] w (AnsV B w T (noF F (mapE (sp F j).P a n hw p (objI F hw)))) := by
  obtain ⟨gS, hp⟩ := h.at_ hs
  have hjF : j < F.L.length := by rw [← h.nl]; exact (List.getElem?_eq_some_iff.1 hs).1
  obtain ⟨W0, hW0⟩ : ∃ W0, W0 = w.alloc (.cells #[.int .i64 k, .int .i64 j, .int .i64 a, .int .i64 n, .int .i64 hw, .int .i64 p, .int .i64 t, .int .i64 c, .int .u64 v] 25) := ⟨_, rfl⟩
  obtain ⟨bo, hbo⟩ : ∃ bo, bo = w.heap.size := ⟨_, rfl⟩
  have hb0 : Below w.heap.size w W0 := by rw [hW0]; exact below_new _ _
  have hr0 : Lrow W0 bo 25 [.int .i64 k, .int .i64 j, .int .i64 a, .int .i64 n, .int .i64 hw, .int .i64 p, .int .i64 t, .int .i64 c, .int .u64 v] := by rw [hW0, hbo]; exact Lrow.new w _ [.int .i64 k, .int .i64 j, .int .i64 a, .int .i64 n, .int .i64 hw, .int .i64 p, .int .i64 t, .int .i64 c, .int .u64 v]
  have h0 := h.call hb0
  obtain ⟨W1, hW1⟩ : ∃ W1, W1 = W0.drew := ⟨_, rfl⟩
  have hb1 : Below w.heap.size w W1 := by rw [hW1]; exact below_dN hb0 1
  have hr1 : Lrow W1 bo 25 [.int .i64 k, .int .i64 j, .int .i64 a, .int .i64 n, .int .i64 hw, .int .i64 p, .int .i64 t, .int .i64 c, .int .u64 v] := by rw [hW1]; exact hr0.drewN 1
  have hp1 := hp.call hb1
  have hsp : Calls Tryz.prog 24 #[.pointer (some ⟨T.s, 0, none⟩), .int .i64 j] W0.drew fun e w' => e = .returned (.pointer (some ⟨s.sb, 0, none⟩)) ∧ W0.drew = w' := space_yes (h0.call (below_dN (Below.refl _ _) 1)) hs
  have hs0 : (fun U : World => U.cell? ⟨bo, 1, none⟩ = some (.int .i64 j) ∧ U.cell? ⟨bo, 2, none⟩ = some (.int .i64 a)) W0.drew := ⟨hr0.cell 1, hr0.cell 2⟩
  have HW := Lib.hid (And.intro hW0 hbo)
  have HW1 := Lib.hid hW1
  have HB := Lib.hid hb1
  have HR := Lib.hid hr1
  have HP := Lib.hid hp1
  have HT : Hid (Lrow W1 T.s 72 [T.vl, .int .i64 F.O.length]) := h.top.call hb1
  have HFO := fun w => fobj_is hw w
  have hmp := fun {w2 : World} (d : Below w.heap.size w w2) => map_pr ((hp.call d).ars.drewN 1) ha hn (how := hw) (p := p) (o := objI F hw)
  unfold DidM at hmp
  obtain ⟨E, hEE⟩ : ∃ E, E = mapE (sp F j).P a n hw p (objI F hw) := ⟨_, rfl⟩
  rw [← hEE] at hmp hE ⊢
  rw [if_neg hE] at hmp
  have e0 : (E == 0) = false := by simpa using hE
  have HD : Hid (∀ w2 w3, Below w.heap.size w w2 → DidA B w2.drew s.ab (sp F j).P w3 → DidV B w T F w3) := fun w2 w3 b d => by
    have := h.ars hs (d.pre (b.trans ((below_dN (Below.refl _ _) 1).mono b.size))) fun i hi => ⟨i, hi, rfl⟩
    rw [put_same hjF] at this
    exact this
  have HSO : Hid (decide (shr hw) = true → objI F hw = (F.O.length : Int)) := fun e => if_pos (of_decide_eq_true e)
  have HSN : Hid (decide (shr hw) = false → objI F hw = 0) := fun e => if_neg (of_decide_eq_false e)
  obtain ⟨sh, hsh⟩ : ∃ sh, sh = decide (shr hw) := ⟨_, rfl⟩
  rw [← hsh] at HFO HSO HSN
  obtain ⟨no, hno⟩ : ∃ no, no = F.O.length := ⟨_, rfl⟩
  rw [← hno] at HT HSO
  have HMP := Lib.hid (fun w2 d => @hmp w2 d)
  have a0 : (a == 0) = false := by simpa using ha0
  have HA0 := Lib.hid ha0
  unfold AnsV noF
  clear h0 hW0 hbo hb0 hr0 hW1 hb1 hr1 hp1 hp h hs hn hjF gS hmp ha hno ha0 hE hEE hsh
  go_enter Tryz.func40, Tryz.ntmps40
  go_upto_region 1 with (fail)
  rw [← HW.out.1, ← HW.out.2]
  go_region_held3 (fun U => U.cell? ⟨bo, 1, none⟩ = some (.int .i64 j) ∧ U.cell? ⟨bo, 2, none⟩ = some (.int .i64 a))
    (first | exact hs0)
    (first | (go_at_call 24; (with_reducible refine hsp.mono ?_); rintro e w5 ⟨rfl, rfl⟩) | fail)
  rw [← HW1.out]
  clear hs0 hsp
  obtain ⟨w2, hw2⟩ : ∃ w2, w2 = W1 := ⟨_, rfl⟩
  rw [← hw2]
  have HB2 : Hid (Below w.heap.size w w2) := by rw [hw2]; exact HB
  have HR2 : Hid (Lrow w2 bo 25 [.int .i64 k, .int .i64 j, .int .i64 a, .int .i64 n, .int .i64 hw, .int .i64 p, .int .i64 t, .int .i64 c, .int .u64 v]) := by rw [hw2]; exact HR
  have HP2 : Hid (PsAt B w2 s (sp F j) T.LO) := by rw [hw2]; exact HP
  have HT2 : Hid (Lrow w2 T.s 72 [T.vl, .int .i64 no]) := by rw [hw2]; exact HT
  clear hw2 HB HR HP HT HW1
  cases sh
  · skip
    have eo := HSN.out (by trivial)
    rw [eo] at HMP
    clear eo
    have hmp : Calls Tryz.prog _ _ w2.drew _ := HMP.out w2 HB2.out
    have o4 : w2.cell? ⟨bo, 4, none⟩ = some (.int .i64 hw) := HR2.out.cell 4
    have hs0 : (fun U : World => U.cell? ⟨s.sb, 0, none⟩ = some (.pointer (some ⟨s.ab, 0, none⟩)) ∧ U.cell? ⟨bo, 3, none⟩ = some (.int .i64 n) ∧ U.cell? ⟨bo, 4, none⟩ = some (.int .i64 hw) ∧ U.cell? ⟨bo, 5, none⟩ = some (.int .i64 p)) w2.drew := ⟨HP2.out.top.cell 0, HR2.out.cell 3, HR2.out.cell 4, HR2.out.cell 5⟩
    go_wp2_with (go_at_call 52; (with_reducible refine (HFO _).mono ?_); rintro e w5 ⟨rfl, rfl⟩)
    go_region_held3 (fun U => U.cell? ⟨s.sb, 0, none⟩ = some (.pointer (some ⟨s.ab, 0, none⟩)) ∧ U.cell? ⟨bo, 3, none⟩ = some (.int .i64 n) ∧ U.cell? ⟨bo, 4, none⟩ = some (.int .i64 hw) ∧ U.cell? ⟨bo, 5, none⟩ = some (.int .i64 p))
      (first | exact hs0 | exact hs9)
      (first | (go_at_call 66; (with_reducible refine hmp.mono ?_); rintro e w3 ⟨rfl, hd3⟩; have r3 := hd3.2.row (HR2.out.drewN 1) (HR2.out.apart HP2.out.ars.top (by decide)); have t3 := hd3.2.row (HP2.out.top.drewN 1) (HP2.out.top.apart HP2.out.ars.top (by decide)); have hs9 : (fun U : World => U.cell? ⟨s.sb, 0, none⟩ = some (.pointer (some ⟨s.ab, 0, none⟩)) ∧ U.cell? ⟨bo, 3, none⟩ = some (.int .i64 n) ∧ U.cell? ⟨bo, 4, none⟩ = some (.int .i64 hw) ∧ U.cell? ⟨bo, 5, none⟩ = some (.int .i64 p)) w3 := ⟨t3.cell 0, r3.cell 3, r3.cell 4, r3.cell 5⟩) | fail)
    clear hs0 hs9 r3 t3 o4
    go_wp2_with fail
    go_ret2
    exact ⟨rfl, HD.out w2 w3 HB2.out hd3⟩
  · skip
    have eo := HSO.out (by trivial)
    rw [eo] at HMP
    clear eo
    have hmp : Calls Tryz.prog _ _ w2.drew _ := HMP.out w2 HB2.out
    have o4 : w2.cell? ⟨bo, 4, none⟩ = some (.int .i64 hw) := HR2.out.cell 4
    have t1 : w2.cell? ⟨T.s, 1, none⟩ = some (.int .i64 no) := HT2.out.cell 1
    have hs0 : (fun U : World => U.cell? ⟨s.sb, 0, none⟩ = some (.pointer (some ⟨s.ab, 0, none⟩)) ∧ U.cell? ⟨bo, 3, none⟩ = some (.int .i64 n) ∧ U.cell? ⟨bo, 4, none⟩ = some (.int .i64 hw) ∧ U.cell? ⟨bo, 5, none⟩ = some (.int .i64 p)) w2.drew := ⟨HP2.out.top.cell 0, HR2.out.cell 3, HR2.out.cell 4, HR2.out.cell 5⟩
    go_wp2_with (go_at_call 52; (with_reducible refine (HFO _).mono ?_); rintro e w5 ⟨rfl, rfl⟩)
    go_region_held3 (fun U => U.cell? ⟨s.sb, 0, none⟩ = some (.pointer (some ⟨s.ab, 0, none⟩)) ∧ U.cell? ⟨bo, 3, none⟩ = some (.int .i64 n) ∧ U.cell? ⟨bo, 4, none⟩ = some (.int .i64 hw) ∧ U.cell? ⟨bo, 5, none⟩ = some (.int .i64 p))
      (first | exact hs0 | exact hs9)
      (first | (go_at_call 66; (with_reducible refine hmp.mono ?_); rintro e w3 ⟨rfl, hd3⟩; have r3 := hd3.2.row (HR2.out.drewN 1) (HR2.out.apart HP2.out.ars.top (by decide)); have t3 := hd3.2.row (HP2.out.top.drewN 1) (HP2.out.top.apart HP2.out.ars.top (by decide)); have hs9 : (fun U : World => U.cell? ⟨s.sb, 0, none⟩ = some (.pointer (some ⟨s.ab, 0, none⟩)) ∧ U.cell? ⟨bo, 3, none⟩ = some (.int .i64 n) ∧ U.cell? ⟨bo, 4, none⟩ = some (.int .i64 hw) ∧ U.cell? ⟨bo, 5, none⟩ = some (.int .i64 p)) w3 := ⟨t3.cell 0, r3.cell 3, r3.cell 4, r3.cell 5⟩) | fail)
    clear hs0 hs9 r3 t3 o4
    go_wp2_with fail
    go_ret2
    exact ⟨rfl, HD.out w2 w3 HB2.out hd3⟩
set_option maxRecDepth 100000 in
set_option maxHeartbeats 2000000 in
theorem layA_ok (h : PfAt B w T F) (hs : T.LS[j]? = some (some s)) (ha : Fits a) (hn : Fits n) (k hw p t c v : Int) (ha0 : a ≠ 0) (hE : mapE (sp F j).P a n hw p (objI F hw) = 0) (hS : ¬ shr hw) :
    Calls Tryz.prog 40 #[.pointer (some ⟨T.s, 0, none⟩), .agg #[.int .i64 k, .int .i64 j, .int .i64 a, .int .i64 n, .int .i64 hw, .int .i64 p, .int .i64 t, .int .i64 c, .int .u64 v]] w (AnsV B w T (0, 0, put F j { sp F j with P := mapP (sp F j).P a n hw p (objI F hw) })) := by
  obtain ⟨gS, hp⟩ := h.at_ hs
  have hjF : j < F.L.length := by rw [← h.nl]; exact (List.getElem?_eq_some_iff.1 hs).1
  obtain ⟨W0, hW0⟩ : ∃ W0, W0 = w.alloc (.cells #[.int .i64 k, .int .i64 j, .int .i64 a, .int .i64 n, .int .i64 hw, .int .i64 p, .int .i64 t, .int .i64 c, .int .u64 v] 25) := ⟨_, rfl⟩
  obtain ⟨bo, hbo⟩ : ∃ bo, bo = w.heap.size := ⟨_, rfl⟩
  have hb0 : Below w.heap.size w W0 := by rw [hW0]; exact below_new _ _
  have hr0 : Lrow W0 bo 25 [.int .i64 k, .int .i64 j, .int .i64 a, .int .i64 n, .int .i64 hw, .int .i64 p, .int .i64 t, .int .i64 c, .int .u64 v] := by rw [hW0, hbo]; exact Lrow.new w _ [.int .i64 k, .int .i64 j, .int .i64 a, .int .i64 n, .int .i64 hw, .int .i64 p, .int .i64 t, .int .i64 c, .int .u64 v]
  have h0 := h.call hb0
  obtain ⟨W1, hW1⟩ : ∃ W1, W1 = W0.drew := ⟨_, rfl⟩
  have hb1 : Below w.heap.size w W1 := by rw [hW1]; exact below_dN hb0 1
  have hr1 : Lrow W1 bo 25 [.int .i64 k, .int .i64 j, .int .i64 a, .int .i64 n, .int .i64 hw, .int .i64 p, .int .i64 t, .int .i64 c, .int .u64 v] := by rw [hW1]; exact hr0.drewN 1
  have hp1 := hp.call hb1
  have hsp : Calls Tryz.prog 24 #[.pointer (some ⟨T.s, 0, none⟩), .int .i64 j] W0.drew fun e w' => e = .returned (.pointer (some ⟨s.sb, 0, none⟩)) ∧ W0.drew = w' := space_yes (h0.call (below_dN (Below.refl _ _) 1)) hs
  have hs0 : (fun U : World => U.cell? ⟨bo, 1, none⟩ = some (.int .i64 j) ∧ U.cell? ⟨bo, 2, none⟩ = some (.int .i64 a)) W0.drew := ⟨hr0.cell 1, hr0.cell 2⟩
  have HW := Lib.hid (And.intro hW0 hbo)
  have HW1 := Lib.hid hW1
  have HB := Lib.hid hb1
  have HR := Lib.hid hr1
  have HP := Lib.hid hp1
  have HT : Hid (Lrow W1 T.s 72 [T.vl, .int .i64 F.O.length]) := h.top.call hb1
  have HFO := fun w => fobj_is hw w
  have hmp := fun {w2 : World} (d : Below w.heap.size w w2) => map_pr ((hp.call d).ars.drewN 1) ha hn (how := hw) (p := p) (o := objI F hw)
  unfold DidM at hmp
  have hoI : objI F hw = 0 := if_neg hS
  rw [hoI] at hmp hE ⊢
  rw [hE] at hmp
  rw [if_pos rfl] at hmp
  have HD : Hid (∀ w2 w3, Below w.heap.size w w2 → DidA B w2.drew s.ab (mapP (sp F j).P a n hw p 0) w3 → DidV B w T (put F j { sp F j with P := mapP (sp F j).P a n hw p 0 }) w3) := fun w2 w3 b d => by
    refine h.ars hs (d.pre (b.trans ((below_dN (Below.refl _ _) 1).mono b.size))) fun i hi => ?_
    unfold mapP at hi ⊢
    by_cases c1 : inS a n i
    · rw [if_pos c1] at hi; exact absurd hi hS
    · rw [if_neg c1] at hi ⊢; exact ⟨i, hi, rfl⟩
  rw [decide_eq_false hS] at HFO
  obtain ⟨no, hno⟩ : ∃ no, no = F.O.length := ⟨_, rfl⟩
  rw [← hno] at HT
  have HMP := Lib.hid (fun w2 d => @hmp w2 d)
  have a0 : (a == 0) = false := by simpa using ha0
  have HA0 := Lib.hid ha0
  unfold AnsV
  clear h0 hW0 hbo hb0 hr0 hW1 hb1 hr1 hp1 hp h hs hn hjF gS hmp ha hno ha0 hE hS hoI
  go_enter Tryz.func40, Tryz.ntmps40
  go_upto_region 1 with (fail)
  rw [← HW.out.1, ← HW.out.2]
  go_region_held3 (fun U => U.cell? ⟨bo, 1, none⟩ = some (.int .i64 j) ∧ U.cell? ⟨bo, 2, none⟩ = some (.int .i64 a))
    (first | exact hs0)
    (first | (go_at_call 24; (with_reducible refine hsp.mono ?_); rintro e w5 ⟨rfl, rfl⟩) | fail)
  rw [← HW1.out]
  clear hs0 hsp
  obtain ⟨w2, hw2⟩ : ∃ w2, w2 = W1 := ⟨_, rfl⟩
  rw [← hw2]
  have HB2 : Hid (Below w.heap.size w w2) := by rw [hw2]; exact HB
  have HR2 : Hid (Lrow w2 bo 25 [.int .i64 k, .int .i64 j, .int .i64 a, .int .i64 n, .int .i64 hw, .int .i64 p, .int .i64 t, .int .i64 c, .int .u64 v]) := by rw [hw2]; exact HR
  have HP2 : Hid (PsAt B w2 s (sp F j) T.LO) := by rw [hw2]; exact HP
  have HT2 : Hid (Lrow w2 T.s 72 [T.vl, .int .i64 no]) := by rw [hw2]; exact HT
  clear hw2 HB HR HP HT HW1
  have hmp : Calls Tryz.prog _ _ w2.drew _ := HMP.out w2 HB2.out
  have o4 : w2.cell? ⟨bo, 4, none⟩ = some (.int .i64 hw) := HR2.out.cell 4
  have hs0 : (fun U : World => U.cell? ⟨s.sb, 0, none⟩ = some (.pointer (some ⟨s.ab, 0, none⟩)) ∧ U.cell? ⟨bo, 3, none⟩ = some (.int .i64 n) ∧ U.cell? ⟨bo, 4, none⟩ = some (.int .i64 hw) ∧ U.cell? ⟨bo, 5, none⟩ = some (.int .i64 p)) w2.drew := ⟨HP2.out.top.cell 0, HR2.out.cell 3, HR2.out.cell 4, HR2.out.cell 5⟩
  go_wp2_with (go_at_call 52; (with_reducible refine (HFO _).mono ?_); rintro e w5 ⟨rfl, rfl⟩)
  go_region_held3 (fun U => U.cell? ⟨s.sb, 0, none⟩ = some (.pointer (some ⟨s.ab, 0, none⟩)) ∧ U.cell? ⟨bo, 3, none⟩ = some (.int .i64 n) ∧ U.cell? ⟨bo, 4, none⟩ = some (.int .i64 hw) ∧ U.cell? ⟨bo, 5, none⟩ = some (.int .i64 p))
    (first | exact hs0 | exact hs9)
    (first | (go_at_call 66; (with_reducible refine hmp.mono ?_); rintro e w3 ⟨rfl, hd3⟩; have r3 := hd3.2.row (HR2.out.drewN 1) (HR2.out.apart HP2.out.ars.top (by decide)); have t3 := hd3.2.row (HP2.out.top.drewN 1) (HP2.out.top.apart HP2.out.ars.top (by decide)); have hs9 : (fun U : World => U.cell? ⟨s.sb, 0, none⟩ = some (.pointer (some ⟨s.ab, 0, none⟩)) ∧ U.cell? ⟨bo, 3, none⟩ = some (.int .i64 n) ∧ U.cell? ⟨bo, 4, none⟩ = some (.int .i64 hw) ∧ U.cell? ⟨bo, 5, none⟩ = some (.int .i64 p)) w3 := ⟨t3.cell 0, r3.cell 3, r3.cell 4, r3.cell 5⟩) | fail)
  have o4 : w3.cell? ⟨bo, 4, none⟩ = some (.int .i64 hw) := r3.cell 4
  have o2 : w3.cell? ⟨bo, 2, none⟩ = some (.int .i64 a) := r3.cell 2
  clear hs0 hs9 r3 t3 hmp
  go_wp2_with (go_at_call 52; (with_reducible refine (HFO _).mono ?_); rintro e w5 ⟨rfl, rfl⟩)
  go_ret2
  exact ⟨rfl, HD.out w2 w3 HB2.out hd3⟩
set_option maxRecDepth 100000 in
set_option maxHeartbeats 2000000 in
theorem layA_sh (h : PfAt B w T F) (hs : T.LS[j]? = some (some s)) (ha : Fits a) (hn : Fits n) (hO : F.O.length ≤ 1000) (k hw p t c v : Int) (ha0 : a ≠ 0) (hE : mapE (sp F j).P a n hw p (objI F hw) = 0) (hS : shr hw) :
    Calls Tryz.prog 40 #[.pointer (some ⟨T.s, 0, none⟩), .agg #[.int .i64 k, .int .i64 j, .int .i64 a, .int .i64 n, .int .i64 hw, .int .i64 p, .int .i64 t, .int .i64 c, .int .u64 v]] w (AnsV B w T (0, 0, ⟨F.L.set j { sp F j with P := mapP (sp F j).P a n hw p (objI F hw) }, F.O ++ [fun _ => 0]⟩)) := by
  obtain ⟨gS, hp⟩ := h.at_ hs
  have hjF : j < F.L.length := by rw [← h.nl]; exact (List.getElem?_eq_some_iff.1 hs).1
  obtain ⟨W0, hW0⟩ : ∃ W0, W0 = w.alloc (.cells #[.int .i64 k, .int .i64 j, .int .i64 a, .int .i64 n, .int .i64 hw, .int .i64 p, .int .i64 t, .int .i64 c, .int .u64 v] 25) := ⟨_, rfl⟩
  obtain ⟨bo, hbo⟩ : ∃ bo, bo = w.heap.size := ⟨_, rfl⟩
  have hb0 : Below w.heap.size w W0 := by rw [hW0]; exact below_new _ _
  have hr0 : Lrow W0 bo 25 [.int .i64 k, .int .i64 j, .int .i64 a, .int .i64 n, .int .i64 hw, .int .i64 p, .int .i64 t, .int .i64 c, .int .u64 v] := by rw [hW0, hbo]; exact Lrow.new w _ [.int .i64 k, .int .i64 j, .int .i64 a, .int .i64 n, .int .i64 hw, .int .i64 p, .int .i64 t, .int .i64 c, .int .u64 v]
  have h0 := h.call hb0
  obtain ⟨W1, hW1⟩ : ∃ W1, W1 = W0.drew := ⟨_, rfl⟩
  have hb1 : Below w.heap.size w W1 := by rw [hW1]; exact below_dN hb0 1
  have hr1 : Lrow W1 bo 25 [.int .i64 k, .int .i64 j, .int .i64 a, .int .i64 n, .int .i64 hw, .int .i64 p, .int .i64 t, .int .i64 c, .int .u64 v] := by rw [hW1]; exact hr0.drewN 1
  have hp1 := hp.call hb1
  have hsp : Calls Tryz.prog 24 #[.pointer (some ⟨T.s, 0, none⟩), .int .i64 j] W0.drew fun e w' => e = .returned (.pointer (some ⟨s.sb, 0, none⟩)) ∧ W0.drew = w' := space_yes (h0.call (below_dN (Below.refl _ _) 1)) hs
  have hs0 : (fun U : World => U.cell? ⟨bo, 1, none⟩ = some (.int .i64 j) ∧ U.cell? ⟨bo, 2, none⟩ = some (.int .i64 a)) W0.drew := ⟨hr0.cell 1, hr0.cell 2⟩
  have HW := Lib.hid (And.intro hW0 hbo)
  have HW1 := Lib.hid hW1
  have HB := Lib.hid hb1
  have HR := Lib.hid hr1
  have HP := Lib.hid hp1
  have HT : Hid (Lrow W1 T.s 72 [T.vl, .int .i64 F.O.length]) := h.top.call hb1
  have HFO := fun w => fobj_is hw w
  have hmp := fun {w2 : World} (d : Below w.heap.size w w2) => map_pr ((hp.call d).ars.drewN 1) ha hn (how := hw) (p := p) (o := objI F hw)
  unfold DidM at hmp
  have hoI : objI F hw = (F.O.length : Int) := if_pos hS
  rw [hoI] at hmp hE ⊢
  rw [hE] at hmp
  rw [if_pos rfl] at hmp
  have HD : Hid (∀ w2 w3, Below w.heap.size w w2 → DidA B w2.drew s.ab (mapP (sp F j).P a n hw p F.O.length) w3 → _) := fun w2 w3 b d => lay_obj h hs (b.trans ((below_dN (Below.refl _ _) 1).mono b.size)) d hO fun i hi => by
    unfold mapP at hi ⊢
    by_cases c1 : inS a n i
    · rw [if_pos c1]; exact Or.inl rfl
    · rw [if_neg c1] at hi ⊢; exact Or.inr ⟨i, hi, rfl⟩
  rw [decide_eq_true hS] at HFO
  obtain ⟨no, hno⟩ : ∃ no, no = F.O.length := ⟨_, rfl⟩
  have HNO : Hid (no ≤ 1000) := by show no ≤ 1000; rw [hno]; exact hO
  rw [← hno] at HT hmp HD ⊢
  have HMP := Lib.hid (fun w2 d => @hmp w2 d)
  have a0 : (a == 0) = false := by simpa using ha0
  have HA0 := Lib.hid ha0
  unfold AnsV
  clear h0 hW0 hbo hb0 hr0 hW1 hb1 hr1 hp1 hp h hs hn hjF gS hmp ha hno hO ha0 hE hS
  go_enter Tryz.func40, Tryz.ntmps40
  go_upto_region 1 with (fail)
  rw [← HW.out.1, ← HW.out.2]
  go_region_held3 (fun U => U.cell? ⟨bo, 1, none⟩ = some (.int .i64 j) ∧ U.cell? ⟨bo, 2, none⟩ = some (.int .i64 a))
    (first | exact hs0)
    (first | (go_at_call 24; (with_reducible refine hsp.mono ?_); rintro e w5 ⟨rfl, rfl⟩) | fail)
  rw [← HW1.out]
  clear hs0 hsp
  obtain ⟨w2, hw2⟩ : ∃ w2, w2 = W1 := ⟨_, rfl⟩
  rw [← hw2]
  have HB2 : Hid (Below w.heap.size w w2) := by rw [hw2]; exact HB
  have HR2 : Hid (Lrow w2 bo 25 [.int .i64 k, .int .i64 j, .int .i64 a, .int .i64 n, .int .i64 hw, .int .i64 p, .int .i64 t, .int .i64 c, .int .u64 v]) := by rw [hw2]; exact HR
  have HP2 : Hid (PsAt B w2 s (sp F j) T.LO) := by rw [hw2]; exact HP
  have HT2 : Hid (Lrow w2 T.s 72 [T.vl, .int .i64 no]) := by rw [hw2]; exact HT
  clear hw2 HB HR HP HT HW1
  have hmp : Calls Tryz.prog _ _ w2.drew _ := HMP.out w2 HB2.out
  have o4 : w2.cell? ⟨bo, 4, none⟩ = some (.int .i64 hw) := HR2.out.cell 4
  have t1 : w2.cell? ⟨T.s, 1, none⟩ = some (.int .i64 no) := HT2.out.cell 1
  have hs0 : (fun U : World => U.cell? ⟨s.sb, 0, none⟩ = some (.pointer (some ⟨s.ab, 0, none⟩)) ∧ U.cell? ⟨bo, 3, none⟩ = some (.int .i64 n) ∧ U.cell? ⟨bo, 4, none⟩ = some (.int .i64 hw) ∧ U.cell? ⟨bo, 5, none⟩ = some (.int .i64 p)) w2.drew := ⟨HP2.out.top.cell 0, HR2.out.cell 3, HR2.out.cell 4, HR2.out.cell 5⟩
  go_wp2_with (go_at_call 52; (with_reducible refine (HFO _).mono ?_); rintro e w5 ⟨rfl, rfl⟩)
  go_region_held3 (fun U => U.cell? ⟨s.sb, 0, none⟩ = some (.pointer (some ⟨s.ab, 0, none⟩)) ∧ U.cell? ⟨bo, 3, none⟩ = some (.int .i64 n) ∧ U.cell? ⟨bo, 4, none⟩ = some (.int .i64 hw) ∧ U.cell? ⟨bo, 5, none⟩ = some (.int .i64 p))
    (first | exact hs0 | exact hs9)
    (first | (go_at_call 66; (with_reducible refine hmp.mono ?_); rintro e w3 ⟨rfl, hd3⟩; have r3 := hd3.2.row (HR2.out.drewN 1) (HR2.out.apart HP2.out.ars.top (by decide)); have t3 := hd3.2.row (HP2.out.top.drewN 1) (HP2.out.top.apart HP2.out.ars.top (by decide)); have hs9 : (fun U : World => U.cell? ⟨s.sb, 0, none⟩ = some (.pointer (some ⟨s.ab, 0, none⟩)) ∧ U.cell? ⟨bo, 3, none⟩ = some (.int .i64 n) ∧ U.cell? ⟨bo, 4, none⟩ = some (.int .i64 hw) ∧ U.cell? ⟨bo, 5, none⟩ = some (.int .i64 p)) w3 := ⟨t3.cell 0, r3.cell 3, r3.cell 4, r3.cell 5⟩) | fail)
  obtain ⟨w4, q1, q2, q3, q4, q5, q6⟩ := HD.out w2 w3 HB2.out hd3
  have o4 : w3.cell? ⟨bo, 4, none⟩ = some (.int .i64 hw) := r3.cell 4
  have y2 : w3.cell? ⟨s.sb, 2, none⟩ = some (.map (some s.ob)) := t3.cell 2
  obtain ⟨W5, hW5⟩ : ∃ W5, W5 = w4.setCell ⟨T.s, 1, none⟩ (.int .i64 ((no : Int) + 1)) := ⟨_, rfl⟩
  have r5 : Lrow W5 bo 25 [.int .i64 k, .int .i64 j, .int .i64 a, .int .i64 n, .int .i64 hw, .int .i64 p, .int .i64 t, .int .i64 c, .int .u64 v] := by rw [hW5]; exact (q4 _ _ _ r3).far (by exact (HR2.out.apart HT2.out (by decide))) _
  have o2 : W5.cell? ⟨bo, 2, none⟩ = some (.int .i64 a) := r5.cell 2
  rw [← hW5] at q6
  have HQ := Lib.hid q6
  have HW5 := Lib.hid hW5
  have hmm := @run_makeMap Tryz.prog
  have sw : IntKind.i64.wrap ((no : Int) + 1) = (no : Int) + 1 := IntWalk.i64_in _ (by have := HNO.out; omega)
  clear hs0 hs9 r3 t3 hmp q4 q5 q6 hW5 r5
  go_upto_region 15 with (go_at_call 52; (with_reducible refine (HFO _).mono ?_); rintro e w5 ⟨rfl, rfl⟩)
  rw [← HW5.out]
  go_wp2_with fail
  go_ret2
  exact ⟨rfl, HQ.out⟩
set_option maxRecDepth 100000 in
set_option maxHeartbeats 2000000 in
theorem layB_ro (h : PfAt B w T F) (hs : T.LS[j]? = some (some s)) (hn : Fits n) (k hw p t c v : Int) (hE0 : mapE (fun _ => zP) (szO hw) n hw p 0 ≠ 0) :
    Calls Tryz.prog 40 #[.pointer (some ⟨T.s, 0, none⟩), .agg #[.int .i64 k, .int .i64 j, .int .i64 0, .int .i64 n, .int .i64 hw, .int .i64 p, .int .i64 t, .int .i64 c, .int .u64 v]] w (AnsV B w T (noF F (mapE (fun _ => zP) (szO hw) n hw p 0))) := by
  obtain ⟨gS, hp⟩ := h.at_ hs
  have hjF : j < F.L.length := by rw [← h.nl]; exact (List.getElem?_eq_some_iff.1 hs).1
  obtain ⟨W0, hW0⟩ : ∃ W0, W0 = w.alloc (.cells #[.int .i64 k, .int .i64 j, .int .i64 0, .int .i64 n, .int .i64 hw, .int .i64 p, .int .i64 t, .int .i64 c, .int .u64 v] 25) := ⟨_, rfl⟩
  obtain ⟨bo, hbo⟩ : ∃ bo, bo = w.heap.size := ⟨_, rfl⟩
  have hb0 : Below w.heap.size w W0 := by rw [hW0]; exact below_new _ _
  have hr0 : Lrow W0 bo 25 [.int .i64 k, .int .i64 j, .int .i64 0, .int .i64 n, .int .i64 hw, .int .i64 p, .int .i64 t, .int .i64 c, .int .u64 v] := by rw [hW0, hbo]; exact Lrow.new w _ [.int .i64 k, .int .i64 j, .int .i64 0, .int .i64 n, .int .i64 hw, .int .i64 p, .int .i64 t, .int .i64 c, .int .u64 v]
  have h0 := h.call hb0
  obtain ⟨W1, hW1⟩ : ∃ W1, W1 = W0.drew := ⟨_, rfl⟩
  have hb1 : Below w.heap.size w W1 := by rw [hW1]; exact below_dN hb0 1
  have hr1 : Lrow W1 bo 25 [.int .i64 k, .int .i64 j, .int .i64 0, .int .i64 n, .int .i64 hw, .int .i64 p, .int .i64 t, .int .i64 c, .int .u64 v] := by rw [hW1]; exact hr0.drewN 1
  have hp1 := hp.call hb1
  have hsp : Calls Tryz.prog 24 #[.pointer (some ⟨T.s, 0, none⟩), .int .i64 j] W0.drew fun e w' => e = .returned (.pointer (some ⟨s.sb, 0, none⟩)) ∧ W0.drew = w' := space_yes (h0.call (below_dN (Below.refl _ _) 1)) hs
  have hs0 : (fun U : World => U.cell? ⟨bo, 1, none⟩ = some (.int .i64 j) ∧ U.cell? ⟨bo, 2, none⟩ = some (.int .i64 0)) W0.drew := ⟨hr0.cell 1, hr0.cell 2⟩
  have HW := Lib.hid (And.intro hW0 hbo)
  have HW1 := Lib.hid hW1
  have HB := Lib.hid hb1
  have HR := Lib.hid hr1
  have HP := Lib.hid hp1
  have HT : Hid (Lrow W1 T.s 72 [T.vl, .int .i64 F.O.length]) := h.top.call hb1
  have HFO := fun w => fobj_is hw w
  have hro := room_no (h.call HB.out) hs hn (k := k) (i := j) (a := 0) (hw := hw) (p := p) (t := t) (c := c) (v := v) hE0
  obtain ⟨E, hEE⟩ : ∃ E, E = mapE (fun _ => zP) (szO hw) n hw p 0 := ⟨_, rfl⟩
  rw [← hEE] at hro hE0 ⊢
  have e0 : (E == 0) = false := by simpa using hE0
  have HD := Lib.hid (fun w2 (d : Below w.heap.size w w2) => h.did d)
  have o0 : W1.cell? ⟨bo, 0, none⟩ = some (.int .i64 k) := HR.out.cell 0
  have o1 : W1.cell? ⟨bo, 1, none⟩ = some (.int .i64 j) := HR.out.cell 1
  have o2 : W1.cell? ⟨bo, 2, none⟩ = some (.int .i64 0) := HR.out.cell 2
  have o3 : W1.cell? ⟨bo, 3, none⟩ = some (.int .i64 n) := HR.out.cell 3
  have o4 : W1.cell? ⟨bo, 4, none⟩ = some (.int .i64 hw) := HR.out.cell 4
  have o5 : W1.cell? ⟨bo, 5, none⟩ = some (.int .i64 p) := HR.out.cell 5
  have o6 : W1.cell? ⟨bo, 6, none⟩ = some (.int .i64 t) := HR.out.cell 6
  have o7 : W1.cell? ⟨bo, 7, none⟩ = some (.int .i64 c) := HR.out.cell 7
  have o8 : W1.cell? ⟨bo, 8, none⟩ = some (.int .u64 v) := HR.out.cell 8
  unfold AnsV noF
  clear h0 hW0 hbo hb0 hr0 hW1 hb1 hr1 hp1 hp h hs hn hjF gS hE0 hEE
  go_enter Tryz.func40, Tryz.ntmps40
  go_upto_region 1 with (fail)
  rw [← HW.out.1, ← HW.out.2]
  go_region_held3 (fun U => U.cell? ⟨bo, 1, none⟩ = some (.int .i64 j) ∧ U.cell? ⟨bo, 2, none⟩ = some (.int .i64 0))
    (first | exact hs0)
    (first | (go_at_call 24; (with_reducible refine hsp.mono ?_); rintro e w5 ⟨rfl, rfl⟩) | fail)
  rw [← HW1.out]
  clear hs0 hsp
  go_wp2_with fail
  refine hro.mono ?_
  rintro e w2 ⟨rfl, hb2⟩
  have HB2 := Lib.hid (HB.out.trans (hb2.mono HB.out.size))
  clear hro hb2 o0 o1 o2 o3 o4 o5 o6 o7 o8
  go_wp2_with fail
  go_ret2
  exact ⟨rfl, HD.out w2 HB2.out⟩
set_option maxRecDepth 100000 in
set_option maxHeartbeats 2000000 in
theorem layB_fu (h : PfAt B w T F) (hs : T.LS[j]? = some (some s)) (hn : Fits n) (k hw p t c v : Int) (hE0 : mapE (fun _ => zP) (szO hw) n hw p 0 = 0) (hr : 4096 < rmG n (szO hw) s.l (szO hw) + n) :
    Calls Tryz.prog 40 #[.pointer (some ⟨T.s, 0, none⟩), .agg #[.int .i64 k, .int .i64 j, .int .i64 0, .int .i64 n, .int .i64 hw, .int .i64 p, .int .i64 t, .int .i64 c, .int .u64 v]] w (AnsV B w T (noF F 13)) := by
  obtain ⟨gS, hp⟩ := h.at_ hs
  have hjF : j < F.L.length := by rw [← h.nl]; exact (List.getElem?_eq_some_iff.1 hs).1
  obtain ⟨W0, hW0⟩ : ∃ W0, W0 = w.alloc (.cells #[.int .i64 k, .int .i64 j, .int .i64 0, .int .i64 n, .int .i64 hw, .int .i64 p, .int .i64 t, .int .i64 c, .int .u64 v] 25) := ⟨_, rfl⟩
  obtain ⟨bo, hbo⟩ : ∃ bo, bo = w.heap.size := ⟨_, rfl⟩
  have hb0 : Below w.heap.size w W0 := by rw [hW0]; exact below_new _ _
  have hr0 : Lrow W0 bo 25 [.int .i64 k, .int .i64 j, .int .i64 0, .int .i64 n, .int .i64 hw, .int .i64 p, .int .i64 t, .int .i64 c, .int .u64 v] := by rw [hW0, hbo]; exact Lrow.new w _ [.int .i64 k, .int .i64 j, .int .i64 0, .int .i64 n, .int .i64 hw, .int .i64 p, .int .i64 t, .int .i64 c, .int .u64 v]
  have h0 := h.call hb0
  obtain ⟨W1, hW1⟩ : ∃ W1, W1 = W0.drew := ⟨_, rfl⟩
  have hb1 : Below w.heap.size w W1 := by rw [hW1]; exact below_dN hb0 1
  have hr1 : Lrow W1 bo 25 [.int .i64 k, .int .i64 j, .int .i64 0, .int .i64 n, .int .i64 hw, .int .i64 p, .int .i64 t, .int .i64 c, .int .u64 v] := by rw [hW1]; exact hr0.drewN 1
  have hp1 := hp.call hb1
  have hsp : Calls Tryz.prog 24 #[.pointer (some ⟨T.s, 0, none⟩), .int .i64 j] W0.drew fun e w' => e = .returned (.pointer (some ⟨s.sb, 0, none⟩)) ∧ W0.drew = w' := space_yes (h0.call (below_dN (Below.refl _ _) 1)) hs
  have hs0 : (fun U : World => U.cell? ⟨bo, 1, none⟩ = some (.int .i64 j) ∧ U.cell? ⟨bo, 2, none⟩ = some (.int .i64 0)) W0.drew := ⟨hr0.cell 1, hr0.cell 2⟩
  have HW := Lib.hid (And.intro hW0 hbo)
  have HW1 := Lib.hid hW1
  have HB := Lib.hid hb1
  have HR := Lib.hid hr1
  have HP := Lib.hid hp1
  have HT : Hid (Lrow W1 T.s 72 [T.vl, .int .i64 F.O.length]) := h.top.call hb1
  have HFO := fun w => fobj_is hw w
  have hro := room_ok (h.call HB.out) hs hn (k := k) (i := j) (a := 0) (hw := hw) (p := p) (t := t) (c := c) (v := v) hE0
  rw [if_pos hr, if_pos hr] at hro
  have o0 : W1.cell? ⟨bo, 0, none⟩ = some (.int .i64 k) := HR.out.cell 0
  have o1 : W1.cell? ⟨bo, 1, none⟩ = some (.int .i64 j) := HR.out.cell 1
  have o2 : W1.cell? ⟨bo, 2, none⟩ = some (.int .i64 0) := HR.out.cell 2
  have o3 : W1.cell? ⟨bo, 3, none⟩ = some (.int .i64 n) := HR.out.cell 3
  have o4 : W1.cell? ⟨bo, 4, none⟩ = some (.int .i64 hw) := HR.out.cell 4
  have o5 : W1.cell? ⟨bo, 5, none⟩ = some (.int .i64 p) := HR.out.cell 5
  have o6 : W1.cell? ⟨bo, 6, none⟩ = some (.int .i64 t) := HR.out.cell 6
  have o7 : W1.cell? ⟨bo, 7, none⟩ = some (.int .i64 c) := HR.out.cell 7
  have o8 : W1.cell? ⟨bo, 8, none⟩ = some (.int .u64 v) := HR.out.cell 8
  have HD := Lib.hid (fun w2 (d : Below w.heap.size w w2) => h.did d)
  unfold AnsV noF
  clear h0 hW0 hbo hb0 hr0 hW1 hb1 hr1 hp1 hp h hs hn hjF gS hE0 hr
  go_enter Tryz.func40, Tryz.ntmps40
  go_upto_region 1 with (fail)
  rw [← HW.out.1, ← HW.out.2]
  go_region_held3 (fun U => U.cell? ⟨bo, 1, none⟩ = some (.int .i64 j) ∧ U.cell? ⟨bo, 2, none⟩ = some (.int .i64 0))
    (first | exact hs0)
    (first | (go_at_call 24; (with_reducible refine hsp.mono ?_); rintro e w5 ⟨rfl, rfl⟩) | fail)
  rw [← HW1.out]
  clear hs0 hsp
  go_wp2_with fail
  refine hro.mono ?_
  rintro e w2 ⟨rfl, hb2⟩
  have HB2 := Lib.hid (HB.out.trans (hb2.mono HB.out.size))
  clear hro hb2 o0 o1 o2 o3 o4 o5 o6 o7 o8
  go_wp2_with fail
  go_ret2
  exact ⟨rfl, HD.out w2 HB2.out⟩
set_option maxRecDepth 100000 in
set_option maxHeartbeats 2000000 in
theorem layB_no (h : PfAt B w T F) (hs : T.LS[j]? = some (some s)) (hn : Fits n) (k hw p t c v : Int) (hE0 : mapE (fun _ => zP) (szO hw) n hw p 0 = 0) (hr : ¬ 4096 < rmG n (szO hw) s.l (szO hw) + n) (hr9 : 1 ≤ rmG n (szO hw) s.l (szO hw)) (hE : mapE (sp F j).P (rmG n (szO hw) s.l (szO hw)) n hw p (objI F hw) ≠ 0) :
    Calls Tryz.prog 40 #[.pointer (some ⟨T.s, 0, none⟩), .agg #[.int .i64 k, .int .i64 j, .int .i64 0, .int .i64 n, .int .i64 hw, .int .i64 p, .int .i64 t, .int .i64 c, .int .u64 v]] w (AnsV B w T (noF F (mapE (sp F j).P (rmG n (szO hw) s.l (szO hw)) n hw p (objI F hw)))) := by
  obtain ⟨gS, hp⟩ := h.at_ hs
  have hjF : j < F.L.length := by rw [← h.nl]; exact (List.getElem?_eq_some_iff.1 hs).1
  obtain ⟨W0, hW0⟩ : ∃ W0, W0 = w.alloc (.cells #[.int .i64 k, .int .i64 j, .int .i64 0, .int .i64 n, .int .i64 hw, .int .i64 p, .int .i64 t, .int .i64 c, .int .u64 v] 25) := ⟨_, rfl⟩
  obtain ⟨bo, hbo⟩ : ∃ bo, bo = w.heap.size := ⟨_, rfl⟩
  have hb0 : Below w.heap.size w W0 := by rw [hW0]; exact below_new _ _
  have hr0 : Lrow W0 bo 25 [.int .i64 k, .int .i64 j, .int .i64 0, .int .i64 n, .int .i64 hw, .int .i64 p, .int .i64 t, .int .i64 c, .int .u64 v] := by rw [hW0, hbo]; exact Lrow.new w _ [.int .i64 k, .int .i64 j, .int .i64 0, .int .i64 n, .int .i64 hw, .int .i64 p, .int .i64 t, .int .i64 c, .int .u64 v]
  have h0 := h.call hb0
  obtain ⟨W1, hW1⟩ : ∃ W1, W1 = W0.drew := ⟨_, rfl⟩
  have hb1 : Below w.heap.size w W1 := by rw [hW1]; exact below_dN hb0 1
  have hr1 : Lrow W1 bo 25 [.int .i64 k, .int .i64 j, .int .i64 0, .int .i64 n, .int .i64 hw, .int .i64 p, .int .i64 t, .int .i64 c, .int .u64 v] := by rw [hW1]; exact hr0.drewN 1
  have hp1 := hp.call hb1
  have hsp : Calls Tryz.prog 24 #[.pointer (some ⟨T.s, 0, none⟩), .int .i64 j] W0.drew fun e w' => e = .returned (.pointer (some ⟨s.sb, 0, none⟩)) ∧ W0.drew = w' := space_yes (h0.call (below_dN (Below.refl _ _) 1)) hs
  have hs0 : (fun U : World => U.cell? ⟨bo, 1, none⟩ = some (.int .i64 j) ∧ U.cell? ⟨bo, 2, none⟩ = some (.int .i64 0)) W0.drew := ⟨hr0.cell 1, hr0.cell 2⟩
  have HW := Lib.hid (And.intro hW0 hbo)
  have HW1 := Lib.hid hW1
  have HB := Lib.hid hb1
  have HR := Lib.hid hr1
  have HP := Lib.hid hp1
  have HT : Hid (Lrow W1 T.s 72 [T.vl, .int .i64 F.O.length]) := h.top.call hb1
  have HFO := fun w => fobj_is hw w
  have hro := room_ok (h.call HB.out) hs hn (k := k) (i := j) (a := 0) (hw := hw) (p := p) (t := t) (c := c) (v := v) hE0
  rw [if_neg hr, if_neg hr] at hro
  have o0 : W1.cell? ⟨bo, 0, none⟩ = some (.int .i64 k) := HR.out.cell 0
  have o1 : W1.cell? ⟨bo, 1, none⟩ = some (.int .i64 j) := HR.out.cell 1
  have o2 : W1.cell? ⟨bo, 2, none⟩ = some (.int .i64 0) := HR.out.cell 2
  have o3 : W1.cell? ⟨bo, 3, none⟩ = some (.int .i64 n) := HR.out.cell 3
  have o4 : W1.cell? ⟨bo, 4, none⟩ = some (.int .i64 hw) := HR.out.cell 4
  have o5 : W1.cell? ⟨bo, 5, none⟩ = some (.int .i64 p) := HR.out.cell 5
  have o6 : W1.cell? ⟨bo, 6, none⟩ = some (.int .i64 t) := HR.out.cell 6
  have o7 : W1.cell? ⟨bo, 7, none⟩ = some (.int .i64 c) := HR.out.cell 7
  have o8 : W1.cell? ⟨bo, 8, none⟩ = some (.int .u64 v) := HR.out.cell 8
  obtain ⟨a, hA⟩ : ∃ a, a = rmG n (szO hw) s.l (szO hw) := ⟨_, rfl⟩
  rw [← hA] at hro hE hr hr9 ⊢
  have hz0 : 1 ≤ n := by
    obtain ⟨m1, m2, -, -⟩ := mapE_ok hE0
    exact (rt_in m2).2.1
  have ha : Fits a := by unfold Fits; omega
  have hu : IntKind.u64.wrap a = a := by rw [IntKind.wrap_u64]; omega
  have hmp := fun {w2 : World} (d : Below w.heap.size w w2) => map_pr ((hp.call d).ars.drewN 1) ha hn (how := hw) (p := p) (o := objI F hw)
  unfold DidM at hmp
  obtain ⟨E, hEE⟩ : ∃ E, E = mapE (sp F j).P a n hw p (objI F hw) := ⟨_, rfl⟩
  rw [← hEE] at hmp hE ⊢
  rw [if_neg hE] at hmp
  have e0 : (E == 0) = false := by simpa using hE
  have HD : Hid (∀ w2 w3, Below w.heap.size w w2 → DidA B w2.drew s.ab (sp F j).P w3 → DidV B w T F w3) := fun w2 w3 b d => by
    have := h.ars hs (d.pre (b.trans ((below_dN (Below.refl _ _) 1).mono b.size))) fun i hi => ⟨i, hi, rfl⟩
    rw [put_same hjF] at this
    exact this
  have HSO : Hid (decide (shr hw) = true → objI F hw = (F.O.length : Int)) := fun e => if_pos (of_decide_eq_true e)
  have HSN : Hid (decide (shr hw) = false → objI F hw = 0) := fun e => if_neg (of_decide_eq_false e)
  obtain ⟨sh, hsh⟩ : ∃ sh, sh = decide (shr hw) := ⟨_, rfl⟩
  rw [← hsh] at HFO HSO HSN
  obtain ⟨no, hno⟩ : ∃ no, no = F.O.length := ⟨_, rfl⟩
  rw [← hno] at HT HSO
  have HMP := Lib.hid (fun w2 d => @hmp w2 d)
  unfold AnsV noF
  clear h0 hW0 hbo hb0 hr0 hW1 hb1 hr1 hp1 hp h hs hn hjF gS hmp ha hno hE0 hr hA hz0 hE hEE hsh
  go_enter Tryz.func40, Tryz.ntmps40
  go_upto_region 1 with (fail)
  rw [← HW.out.1, ← HW.out.2]
  go_region_held3 (fun U => U.cell? ⟨bo, 1, none⟩ = some (.int .i64 j) ∧ U.cell? ⟨bo, 2, none⟩ = some (.int .i64 0))
    (first | exact hs0)
    (first | (go_at_call 24; (with_reducible refine hsp.mono ?_); rintro e w5 ⟨rfl, rfl⟩) | fail)
  rw [← HW1.out]
  clear hs0 hsp
  go_wp2_with fail
  refine hro.mono ?_
  rintro e w2 ⟨rfl, hb2⟩
  have HB2 := Lib.hid (HB.out.trans (hb2.mono HB.out.size))
  have HR2 := Lib.hid (HR.out.call hb2)
  have HP2 := Lib.hid (HP.out.call hb2)
  have HT2 := Lib.hid (HT.out.call hb2)
  clear hro hb2 o0 o1 o2 o3 o4 o5 o6 o7 o8 HB HR HP HT HW1
  cases sh
  · skip
    have eo := HSN.out (by trivial)
    rw [eo] at HMP
    clear eo
    have hmp : Calls Tryz.prog _ _ w2.drew _ := HMP.out w2 HB2.out
    have o4 : w2.cell? ⟨bo, 4, none⟩ = some (.int .i64 hw) := HR2.out.cell 4
    have hs0 : (fun U : World => U.cell? ⟨s.sb, 0, none⟩ = some (.pointer (some ⟨s.ab, 0, none⟩)) ∧ U.cell? ⟨bo, 3, none⟩ = some (.int .i64 n) ∧ U.cell? ⟨bo, 4, none⟩ = some (.int .i64 hw) ∧ U.cell? ⟨bo, 5, none⟩ = some (.int .i64 p)) w2.drew := ⟨HP2.out.top.cell 0, HR2.out.cell 3, HR2.out.cell 4, HR2.out.cell 5⟩
    go_wp2_with (go_at_call 52; (with_reducible refine (HFO _).mono ?_); rintro e w5 ⟨rfl, rfl⟩)
    go_region_held3 (fun U => U.cell? ⟨s.sb, 0, none⟩ = some (.pointer (some ⟨s.ab, 0, none⟩)) ∧ U.cell? ⟨bo, 3, none⟩ = some (.int .i64 n) ∧ U.cell? ⟨bo, 4, none⟩ = some (.int .i64 hw) ∧ U.cell? ⟨bo, 5, none⟩ = some (.int .i64 p))
      (first | exact hs0 | exact hs9)
      (first | (go_at_call 66; (with_reducible refine hmp.mono ?_); rintro e w3 ⟨rfl, hd3⟩; have r3 := hd3.2.row (HR2.out.drewN 1) (HR2.out.apart HP2.out.ars.top (by decide)); have t3 := hd3.2.row (HP2.out.top.drewN 1) (HP2.out.top.apart HP2.out.ars.top (by decide)); have hs9 : (fun U : World => U.cell? ⟨s.sb, 0, none⟩ = some (.pointer (some ⟨s.ab, 0, none⟩)) ∧ U.cell? ⟨bo, 3, none⟩ = some (.int .i64 n) ∧ U.cell? ⟨bo, 4, none⟩ = some (.int .i64 hw) ∧ U.cell? ⟨bo, 5, none⟩ = some (.int .i64 p)) w3 := ⟨t3.cell 0, r3.cell 3, r3.cell 4, r3.cell 5⟩) | fail)
    clear hs0 hs9 r3 t3 o4
    go_wp2_with fail
    go_ret2
    exact ⟨rfl, HD.out w2 w3 HB2.out hd3⟩
  · skip
    have eo := HSO.out (by trivial)
    rw [eo] at HMP
    clear eo
    have hmp : Calls Tryz.prog _ _ w2.drew _ := HMP.out w2 HB2.out
    have o4 : w2.cell? ⟨bo, 4, none⟩ = some (.int .i64 hw) := HR2.out.cell 4
    have t1 : w2.cell? ⟨T.s, 1, none⟩ = some (.int .i64 no) := HT2.out.cell 1
    have hs0 : (fun U : World => U.cell? ⟨s.sb, 0, none⟩ = some (.pointer (some ⟨s.ab, 0, none⟩)) ∧ U.cell? ⟨bo, 3, none⟩ = some (.int .i64 n) ∧ U.cell? ⟨bo, 4, none⟩ = some (.int .i64 hw) ∧ U.cell? ⟨bo, 5, none⟩ = some (.int .i64 p)) w2.drew := ⟨HP2.out.top.cell 0, HR2.out.cell 3, HR2.out.cell 4, HR2.out.cell 5⟩
    go_wp2_with (go_at_call 52; (with_reducible refine (HFO _).mono ?_); rintro e w5 ⟨rfl, rfl⟩)
    go_region_held3 (fun U => U.cell? ⟨s.sb, 0, none⟩ = some (.pointer (some ⟨s.ab, 0, none⟩)) ∧ U.cell? ⟨bo, 3, none⟩ = some (.int .i64 n) ∧ U.cell? ⟨bo, 4, none⟩ = some (.int .i64 hw) ∧ U.cell? ⟨bo, 5, none⟩ = some (.int .i64 p))
      (first | exact hs0 | exact hs9)
      (first | (go_at_call 66; (with_reducible refine hmp.mono ?_); rintro e w3 ⟨rfl, hd3⟩; have r3 := hd3.2.row (HR2.out.drewN 1) (HR2.out.apart HP2.out.ars.top (by decide)); have t3 := hd3.2.row (HP2.out.top.drewN 1) (HP2.out.top.apart HP2.out.ars.top (by decide)); have hs9 : (fun U : World => U.cell? ⟨s.sb, 0, none⟩ = some (.pointer (some ⟨s.ab, 0, none⟩)) ∧ U.cell? ⟨bo, 3, none⟩ = some (.int .i64 n) ∧ U.cell? ⟨bo, 4, none⟩ = some (.int .i64 hw) ∧ U.cell? ⟨bo, 5, none⟩ = some (.int .i64 p)) w3 := ⟨t3.cell 0, r3.cell 3, r3.cell 4, r3.cell 5⟩) | fail)
    clear hs0 hs9 r3 t3 o4
    go_wp2_with fail
    go_ret2
    exact ⟨rfl, HD.out w2 w3 HB2.out hd3⟩
set_option maxRecDepth 100000 in
set_option maxHeartbeats 2000000 in
theorem layB_ok (h : PfAt B w T F) (hs : T.LS[j]? = some (some s)) (hn : Fits n) (k hw p t c v : Int) (hE0 : mapE (fun _ => zP) (szO hw) n hw p 0 = 0) (hr : ¬ 4096 < rmG n (szO hw) s.l (szO hw) + n) (hr9 : 1 ≤ rmG n (szO hw) s.l (szO hw)) (hE : mapE (sp F j).P (rmG n (szO hw) s.l (szO hw)) n hw p (objI F hw) = 0) (hS : ¬ shr hw) :
    Calls Tryz.prog 40 #[.pointer (some ⟨T.s, 0, none⟩), .agg #[.int .i64 k, .int .i64 j, .int .i64 0, .int .i64 n, .int .i64 hw, .int .i64 p, .int .i64 t, .int .i64 c, .int .u64 v]] w (AnsV B w T (0, (rmG n (szO hw) s.l (szO hw)), put F j { sp F j with P := mapP (sp F j).P (rmG n (szO hw) s.l (szO hw)) n hw p (objI F hw) })) := by
  obtain ⟨gS, hp⟩ := h.at_ hs
  have hjF : j < F.L.length := by rw [← h.nl]; exact (List.getElem?_eq_some_iff.1 hs).1
  obtain ⟨W0, hW0⟩ : ∃ W0, W0 = w.alloc (.cells #[.int .i64 k, .int .i64 j, .int .i64 0, .int .i64 n, .int .i64 hw, .int .i64 p, .int .i64 t, .int .i64 c, .int .u64 v] 25) := ⟨_, rfl⟩
  obtain ⟨bo, hbo⟩ : ∃ bo, bo = w.heap.size := ⟨_, rfl⟩
  have hb0 : Below w.heap.size w W0 := by rw [hW0]; exact below_new _ _
  have hr0 : Lrow W0 bo 25 [.int .i64 k, .int .i64 j, .int .i64 0, .int .i64 n, .int .i64 hw, .int .i64 p, .int .i64 t, .int .i64 c, .int .u64 v] := by rw [hW0, hbo]; exact Lrow.new w _ [.int .i64 k, .int .i64 j, .int .i64 0, .int .i64 n, .int .i64 hw, .int .i64 p, .int .i64 t, .int .i64 c, .int .u64 v]
  have h0 := h.call hb0
  obtain ⟨W1, hW1⟩ : ∃ W1, W1 = W0.drew := ⟨_, rfl⟩
  have hb1 : Below w.heap.size w W1 := by rw [hW1]; exact below_dN hb0 1
  have hr1 : Lrow W1 bo 25 [.int .i64 k, .int .i64 j, .int .i64 0, .int .i64 n, .int .i64 hw, .int .i64 p, .int .i64 t, .int .i64 c, .int .u64 v] := by rw [hW1]; exact hr0.drewN 1
  have hp1 := hp.call hb1
  have hsp : Calls Tryz.prog 24 #[.pointer (some ⟨T.s, 0, none⟩), .int .i64 j] W0.drew fun e w' => e = .returned (.pointer (some ⟨s.sb, 0, none⟩)) ∧ W0.drew = w' := space_yes (h0.call (below_dN (Below.refl _ _) 1)) hs
  have hs0 : (fun U : World => U.cell? ⟨bo, 1, none⟩ = some (.int .i64 j) ∧ U.cell? ⟨bo, 2, none⟩ = some (.int .i64 0)) W0.drew := ⟨hr0.cell 1, hr0.cell 2⟩
  have HW := Lib.hid (And.intro hW0 hbo)
  have HW1 := Lib.hid hW1
  have HB := Lib.hid hb1
  have HR := Lib.hid hr1
  have HP := Lib.hid hp1
  have HT : Hid (Lrow W1 T.s 72 [T.vl, .int .i64 F.O.length]) := h.top.call hb1
  have HFO := fun w => fobj_is hw w
  have hro := room_ok (h.call HB.out) hs hn (k := k) (i := j) (a := 0) (hw := hw) (p := p) (t := t) (c := c) (v := v) hE0
  rw [if_neg hr, if_neg hr] at hro
  have o0 : W1.cell? ⟨bo, 0, none⟩ = some (.int .i64 k) := HR.out.cell 0
  have o1 : W1.cell? ⟨bo, 1, none⟩ = some (.int .i64 j) := HR.out.cell 1
  have o2 : W1.cell? ⟨bo, 2, none⟩ = some (.int .i64 0) := HR.out.cell 2
  have o3 : W1.cell? ⟨bo, 3, none⟩ = some (.int .i64 n) := HR.out.cell 3
  have o4 : W1.cell? ⟨bo, 4, none⟩ = some (.int .i64 hw) := HR.out.cell 4
  have o5 : W1.cell? ⟨bo, 5, none⟩ = some (.int .i64 p) := HR.out.cell 5
  have o6 : W1.cell? ⟨bo, 6, none⟩ = some (.int .i64 t) := HR.out.cell 6
  have o7 : W1.cell? ⟨bo, 7, none⟩ = some (.int .i64 c) := HR.out.cell 7
  have o8 : W1.cell? ⟨bo, 8, none⟩ = some (.int .u64 v) := HR.out.cell 8
  obtain ⟨a, hA⟩ : ∃ a, a = rmG n (szO hw) s.l (szO hw) := ⟨_, rfl⟩
  rw [← hA] at hro hE hr hr9 ⊢
  have hz0 : 1 ≤ n := by
    obtain ⟨m1, m2, -, -⟩ := mapE_ok hE0
    exact (rt_in m2).2.1
  have ha : Fits a := by unfold Fits; omega
  have hu : IntKind.u64.wrap a = a := by rw [IntKind.wrap_u64]; omega
  have hmp := fun {w2 : World} (d : Below w.heap.size w w2) => map_pr ((hp.call d).ars.drewN 1) ha hn (how := hw) (p := p) (o := objI F hw)
  unfold DidM at hmp
  have hoI : objI F hw = 0 := if_neg hS
  rw [hoI] at hmp hE ⊢
  rw [hE] at hmp
  rw [if_pos rfl] at hmp
  have HD : Hid (∀ w2 w3, Below w.heap.size w w2 → DidA B w2.drew s.ab (mapP (sp F j).P a n hw p 0) w3 → DidV B w T (put F j { sp F j with P := mapP (sp F j).P a n hw p 0 }) w3) := fun w2 w3 b d => by
    refine h.ars hs (d.pre (b.trans ((below_dN (Below.refl _ _) 1).mono b.size))) fun i hi => ?_
    unfold mapP at hi ⊢
    by_cases c1 : inS a n i
    · rw [if_pos c1] at hi; exact absurd hi hS
    · rw [if_neg c1] at hi ⊢; exact ⟨i, hi, rfl⟩
  rw [decide_eq_false hS] at HFO
  obtain ⟨no, hno⟩ : ∃ no, no = F.O.length := ⟨_, rfl⟩
  rw [← hno] at HT
  have HMP := Lib.hid (fun w2 d => @hmp w2 d)
  unfold AnsV
  clear h0 hW0 hbo hb0 hr0 hW1 hb1 hr1 hp1 hp h hs hn hjF gS hmp ha hno hE0 hr hA hz0 hE hS hoI
  go_enter Tryz.func40, Tryz.ntmps40
  go_upto_region 1 with (fail)
  rw [← HW.out.1, ← HW.out.2]
  go_region_held3 (fun U => U.cell? ⟨bo, 1, none⟩ = some (.int .i64 j) ∧ U.cell? ⟨bo, 2, none⟩ = some (.int .i64 0))
    (first | exact hs0)
    (first | (go_at_call 24; (with_reducible refine hsp.mono ?_); rintro e w5 ⟨rfl, rfl⟩) | fail)
  rw [← HW1.out]
  clear hs0 hsp
  go_wp2_with fail
  refine hro.mono ?_
  rintro e w2 ⟨rfl, hb2⟩
  have HB2 := Lib.hid (HB.out.trans (hb2.mono HB.out.size))
  have HR2 := Lib.hid (HR.out.call hb2)
  have HP2 := Lib.hid (HP.out.call hb2)
  have HT2 := Lib.hid (HT.out.call hb2)
  clear hro hb2 o0 o1 o2 o3 o4 o5 o6 o7 o8 HB HR HP HT HW1
  have hmp : Calls Tryz.prog _ _ w2.drew _ := HMP.out w2 HB2.out
  have o4 : w2.cell? ⟨bo, 4, none⟩ = some (.int .i64 hw) := HR2.out.cell 4
  have hs0 : (fun U : World => U.cell? ⟨s.sb, 0, none⟩ = some (.pointer (some ⟨s.ab, 0, none⟩)) ∧ U.cell? ⟨bo, 3, none⟩ = some (.int .i64 n) ∧ U.cell? ⟨bo, 4, none⟩ = some (.int .i64 hw) ∧ U.cell? ⟨bo, 5, none⟩ = some (.int .i64 p)) w2.drew := ⟨HP2.out.top.cell 0, HR2.out.cell 3, HR2.out.cell 4, HR2.out.cell 5⟩
  go_wp2_with (go_at_call 52; (with_reducible refine (HFO _).mono ?_); rintro e w5 ⟨rfl, rfl⟩)
  go_region_held3 (fun U => U.cell? ⟨s.sb, 0, none⟩ = some (.pointer (some ⟨s.ab, 0, none⟩)) ∧ U.cell? ⟨bo, 3, none⟩ = some (.int .i64 n) ∧ U.cell? ⟨bo, 4, none⟩ = some (.int .i64 hw) ∧ U.cell? ⟨bo, 5, none⟩ = some (.int .i64 p))
    (first | exact hs0 | exact hs9)
    (first | (go_at_call 66; (with_reducible refine hmp.mono ?_); rintro e w3 ⟨rfl, hd3⟩; have r3 := hd3.2.row (HR2.out.drewN 1) (HR2.out.apart HP2.out.ars.top (by decide)); have t3 := hd3.2.row (HP2.out.top.drewN 1) (HP2.out.top.apart HP2.out.ars.top (by decide)); have hs9 : (fun U : World => U.cell? ⟨s.sb, 0, none⟩ = some (.pointer (some ⟨s.ab, 0, none⟩)) ∧ U.cell? ⟨bo, 3, none⟩ = some (.int .i64 n) ∧ U.cell? ⟨bo, 4, none⟩ = some (.int .i64 hw) ∧ U.cell? ⟨bo, 5, none⟩ = some (.int .i64 p)) w3 := ⟨t3.cell 0, r3.cell 3, r3.cell 4, r3.cell 5⟩) | fail)
  have o4 : w3.cell? ⟨bo, 4, none⟩ = some (.int .i64 hw) := r3.cell 4
  have o2 : w3.cell? ⟨bo, 2, none⟩ = some (.int .i64 0) := r3.cell 2
  clear hs0 hs9 r3 t3 hmp
  go_wp2_with (go_at_call 52; (with_reducible refine (HFO _).mono ?_); rintro e w5 ⟨rfl, rfl⟩)
  go_ret2
  exact ⟨rfl, HD.out w2 w3 HB2.out hd3⟩
set_option maxRecDepth 100000 in
set_option maxHeartbeats 2000000 in
theorem layB_sh (h : PfAt B w T F) (hs : T.LS[j]? = some (some s)) (hn : Fits n) (hO : F.O.length ≤ 1000) (k hw p t c v : Int) (hE0 : mapE (fun _ => zP) (szO hw) n hw p 0 = 0) (hr : ¬ 4096 < rmG n (szO hw) s.l (szO hw) + n) (hr9 : 1 ≤ rmG n (szO hw) s.l (szO hw)) (hE : mapE (sp F j).P (rmG n (szO hw) s.l (szO hw)) n hw p (objI F hw) = 0) (hS : shr hw) :
    Calls Tryz.prog 40 #[.pointer (some ⟨T.s, 0, none⟩), .agg #[.int .i64 k, .int .i64 j, .int .i64 0, .int .i64 n, .int .i64 hw, .int .i64 p, .int .i64 t, .int .i64 c, .int .u64 v]] w (AnsV B w T (0, (rmG n (szO hw) s.l (szO hw)), ⟨F.L.set j { sp F j with P := mapP (sp F j).P (rmG n (szO hw) s.l (szO hw)) n hw p (objI F hw) }, F.O ++ [fun _ => 0]⟩)) := by
  obtain ⟨gS, hp⟩ := h.at_ hs
  have hjF : j < F.L.length := by rw [← h.nl]; exact (List.getElem?_eq_some_iff.1 hs).1
  obtain ⟨W0, hW0⟩ : ∃ W0, W0 = w.alloc (.cells #[.int .i64 k, .int .i64 j, .int .i64 0, .int .i64 n, .int .i64 hw, .int .i64 p, .int .i64 t, .int .i64 c, .int .u64 v] 25) := ⟨_, rfl⟩
  obtain ⟨bo, hbo⟩ : ∃ bo, bo = w.heap.size := ⟨_, rfl⟩
  have hb0 : Below w.heap.size w W0 := by rw [hW0]; exact below_new _ _
  have hr0 : Lrow W0 bo 25 [.int .i64 k, .int .i64 j, .int .i64 0, .int .i64 n, .int .i64 hw, .int .i64 p, .int .i64 t, .int .i64 c, .int .u64 v] := by rw [hW0, hbo]; exact Lrow.new w _ [.int .i64 k, .int .i64 j, .int .i64 0, .int .i64 n, .int .i64 hw, .int .i64 p, .int .i64 t, .int .i64 c, .int .u64 v]
  have h0 := h.call hb0
  obtain ⟨W1, hW1⟩ : ∃ W1, W1 = W0.drew := ⟨_, rfl⟩
  have hb1 : Below w.heap.size w W1 := by rw [hW1]; exact below_dN hb0 1
  have hr1 : Lrow W1 bo 25 [.int .i64 k, .int .i64 j, .int .i64 0, .int .i64 n, .int .i64 hw, .int .i64 p, .int .i64 t, .int .i64 c, .int .u64 v] := by rw [hW1]; exact hr0.drewN 1
  have hp1 := hp.call hb1
  have hsp : Calls Tryz.prog 24 #[.pointer (some ⟨T.s, 0, none⟩), .int .i64 j] W0.drew fun e w' => e = .returned (.pointer (some ⟨s.sb, 0, none⟩)) ∧ W0.drew = w' := space_yes (h0.call (below_dN (Below.refl _ _) 1)) hs
  have hs0 : (fun U : World => U.cell? ⟨bo, 1, none⟩ = some (.int .i64 j) ∧ U.cell? ⟨bo, 2, none⟩ = some (.int .i64 0)) W0.drew := ⟨hr0.cell 1, hr0.cell 2⟩
  have HW := Lib.hid (And.intro hW0 hbo)
  have HW1 := Lib.hid hW1
  have HB := Lib.hid hb1
  have HR := Lib.hid hr1
  have HP := Lib.hid hp1
  have HT : Hid (Lrow W1 T.s 72 [T.vl, .int .i64 F.O.length]) := h.top.call hb1
  have HFO := fun w => fobj_is hw w
  have hro := room_ok (h.call HB.out) hs hn (k := k) (i := j) (a := 0) (hw := hw) (p := p) (t := t) (c := c) (v := v) hE0
  rw [if_neg hr, if_neg hr] at hro
  have o0 : W1.cell? ⟨bo, 0, none⟩ = some (.int .i64 k) := HR.out.cell 0
  have o1 : W1.cell? ⟨bo, 1, none⟩ = some (.int .i64 j) := HR.out.cell 1
  have o2 : W1.cell? ⟨bo, 2, none⟩ = some (.int .i64 0) := HR.out.cell 2
  have o3 : W1.cell? ⟨bo, 3, none⟩ = some (.int .i64 n) := HR.out.cell 3
  have o4 : W1.cell? ⟨bo, 4, none⟩ = some (.int .i64 hw) := HR.out.cell 4
  have o5 : W1.cell? ⟨bo, 5, none⟩ = some (.int .i64 p) := HR.out.cell 5
  have o6 : W1.cell? ⟨bo, 6, none⟩ = some (.int .i64 t) := HR.out.cell 6
  have o7 : W1.cell? ⟨bo, 7, none⟩ = some (.int .i64 c) := HR.out.cell 7
  have o8 : W1.cell? ⟨bo, 8, none⟩ = some (.int .u64 v) := HR.out.cell 8
  obtain ⟨a, hA⟩ : ∃ a, a = rmG n (szO hw) s.l (szO hw) := ⟨_, rfl⟩
  rw [← hA] at hro hE hr hr9 ⊢
  have hz0 : 1 ≤ n := by
    obtain ⟨m1, m2, -, -⟩ := mapE_ok hE0
    exact (rt_in m2).2.1
  have ha : Fits a := by unfold Fits; omega
  have hu : IntKind.u64.wrap a = a := by rw [IntKind.wrap_u64]; omega
  have hmp := fun {w2 : World} (d : Below w.heap.size w w2) => map_pr ((hp.call d).ars.drewN 1) ha hn (how := hw) (p := p) (o := objI F hw)
  unfold DidM at hmp
  have hoI : objI F hw = (F.O.length : Int) := if_pos hS
  rw [hoI] at hmp hE ⊢
  rw [hE] at hmp
  rw [if_pos rfl] at hmp
  have HD : Hid (∀ w2 w3, Below w.heap.size w w2 → DidA B w2.drew s.ab (mapP (sp F j).P a n hw p F.O.length) w3 → _) := fun w2 w3 b d => lay_obj h hs (b.trans ((below_dN (Below.refl _ _) 1).mono b.size)) d hO fun i hi => by
    unfold mapP at hi ⊢
    by_cases c1 : inS a n i
    · rw [if_pos c1]; exact Or.inl rfl
    · rw [if_neg c1] at hi ⊢; exact Or.inr ⟨i, hi, rfl⟩
  rw [decide_eq_true hS] at HFO
  obtain ⟨no, hno⟩ : ∃ no, no = F.O.length := ⟨_, rfl⟩
  have HNO : Hid (no ≤ 1000) := by show no ≤ 1000; rw [hno]; exact hO
  rw [← hno] at HT hmp HD ⊢
  have HMP := Lib.hid (fun w2 d => @hmp w2 d)
  unfold AnsV
  clear h0 hW0 hbo hb0 hr0 hW1 hb1 hr1 hp1 hp h hs hn hjF gS hmp ha hno hO hE0 hr hA hz0 hE hS
  go_enter Tryz.func40, Tryz.ntmps40
  go_upto_region 1 with (fail)
  rw [← HW.out.1, ← HW.out.2]
  go_region_held3 (fun U => U.cell? ⟨bo, 1, none⟩ = some (.int .i64 j) ∧ U.cell? ⟨bo, 2, none⟩ = some (.int .i64 0))
    (first | exact hs0)
    (first | (go_at_call 24; (with_reducible refine hsp.mono ?_); rintro e w5 ⟨rfl, rfl⟩) | fail)
  rw [← HW1.out]
  clear hs0 hsp
  go_wp2_with fail
  refine hro.mono ?_
  rintro e w2 ⟨rfl, hb2⟩
  have HB2 := Lib.hid (HB.out.trans (hb2.mono HB.out.size))
  have HR2 := Lib.hid (HR.out.call hb2)
  have HP2 := Lib.hid (HP.out.call hb2)
  have HT2 := Lib.hid (HT.out.call hb2)
  clear hro hb2 o0 o1 o2 o3 o4 o5 o6 o7 o8 HB HR HP HT HW1
  have hmp : Calls Tryz.prog _ _ w2.drew _ := HMP.out w2 HB2.out
  have o4 : w2.cell? ⟨bo, 4, none⟩ = some (.int .i64 hw) := HR2.out.cell 4
  have t1 : w2.cell? ⟨T.s, 1, none⟩ = some (.int .i64 no) := HT2.out.cell 1
  have hs0 : (fun U : World => U.cell? ⟨s.sb, 0, none⟩ = some (.pointer (some ⟨s.ab, 0, none⟩)) ∧ U.cell? ⟨bo, 3, none⟩ = some (.int .i64 n) ∧ U.cell? ⟨bo, 4, none⟩ = some (.int .i64 hw) ∧ U.cell? ⟨bo, 5, none⟩ = some (.int .i64 p)) w2.drew := ⟨HP2.out.top.cell 0, HR2.out.cell 3, HR2.out.cell 4, HR2.out.cell 5⟩
  go_wp2_with (go_at_call 52; (with_reducible refine (HFO _).mono ?_); rintro e w5 ⟨rfl, rfl⟩)
  go_region_held3 (fun U => U.cell? ⟨s.sb, 0, none⟩ = some (.pointer (some ⟨s.ab, 0, none⟩)) ∧ U.cell? ⟨bo, 3, none⟩ = some (.int .i64 n) ∧ U.cell? ⟨bo, 4, none⟩ = some (.int .i64 hw) ∧ U.cell? ⟨bo, 5, none⟩ = some (.int .i64 p))
    (first | exact hs0 | exact hs9)
    (first | (go_at_call 66; (with_reducible refine hmp.mono ?_); rintro e w3 ⟨rfl, hd3⟩; have r3 := hd3.2.row (HR2.out.drewN 1) (HR2.out.apart HP2.out.ars.top (by decide)); have t3 := hd3.2.row (HP2.out.top.drewN 1) (HP2.out.top.apart HP2.out.ars.top (by decide)); have hs9 : (fun U : World => U.cell? ⟨s.sb, 0, none⟩ = some (.pointer (some ⟨s.ab, 0, none⟩)) ∧ U.cell? ⟨bo, 3, none⟩ = some (.int .i64 n) ∧ U.cell? ⟨bo, 4, none⟩ = some (.int .i64 hw) ∧ U.cell? ⟨bo, 5, none⟩ = some (.int .i64 p)) w3 := ⟨t3.cell 0, r3.cell 3, r3.cell 4, r3.cell 5⟩) | fail)
  obtain ⟨w4, q1, q2, q3, q4, q5, q6⟩ := HD.out w2 w3 HB2.out hd3
  have o4 : w3.cell? ⟨bo, 4, none⟩ = some (.int .i64 hw) := r3.cell 4
  have y2 : w3.cell? ⟨s.sb, 2, none⟩ = some (.map (some s.ob)) := t3.cell 2
  obtain ⟨W5, hW5⟩ : ∃ W5, W5 = w4.setCell ⟨T.s, 1, none⟩ (.int .i64 ((no : Int) + 1)) := ⟨_, rfl⟩
  have r5 : Lrow W5 bo 25 [.int .i64 k, .int .i64 j, .int .i64 0, .int .i64 n, .int .i64 hw, .int .i64 p, .int .i64 t, .int .i64 c, .int .u64 v] := by rw [hW5]; exact (q4 _ _ _ r3).far (by exact (HR2.out.apart HT2.out (by decide))) _
  have o2 : W5.cell? ⟨bo, 2, none⟩ = some (.int .i64 0) := r5.cell 2
  rw [← hW5] at q6
  have HQ := Lib.hid q6
  have HW5 := Lib.hid hW5
  have hmm := @run_makeMap Tryz.prog
  have sw : IntKind.i64.wrap ((no : Int) + 1) = (no : Int) + 1 := IntWalk.i64_in _ (by have := HNO.out; omega)
  clear hs0 hs9 r3 t3 hmp q4 q5 q6 hW5 r5
  go_upto_region 15 with (go_at_call 52; (with_reducible refine (HFO _).mono ?_); rintro e w5 ⟨rfl, rfl⟩)
  rw [← HW5.out]
  go_wp2_with fail
  go_ret2
  exact ⟨rfl, HQ.out⟩
end
end Go.Proofs.YtnppnoabhpkmkaaGreat
/- Contracts of the library's calls, at this program: laid by the kit's command, in plain words. -/
namespace Go.Proofs
open Go.Shelf
def Tryz.cloneM_ren : Go.Shelf.Ren := ⟨fun | 5 => 104 | 7 => 118 | n => n, fun | 23 => 76 | 25 => 3 | 3 => 96 | 4 => 4 | 20 => 20 | n => n, fun | n => n⟩
theorem Tryz.cloneM : Go.Proofs.SlLaysW.n5 Tryz.prog Tryz.cloneM_ren := {
  mixed := by kernel_rfl
  f5 := ⟨Tryz.f104.name, by decide, Tryz.func104.trans (congrArg some (by kernel_rfl))⟩
  f7 := Tryz.func118.trans (congrArg some (by kernel_rfl))
  t4 := Tryz.underlying4
  a4 := Tryz.isAgg4
  z4 := Tryz.sizeOf4
  v4 := Tryz.zeroValue4
  t20 := Tryz.underlying20
  a20 := Tryz.isAgg20
  z20 := Tryz.sizeOf20
  v20 := Tryz.zeroValue20
  t23 := Tryz.underlying76
  a23 := Tryz.isAgg76
  z23 := Tryz.sizeOf76
  v23 := Tryz.zeroValue76 }
def Tryz.cloneN_ren : Go.Shelf.Ren := ⟨fun | 5 => 105 | 7 => 118 | n => n, fun | 23 => 88 | 25 => 3 | 3 => 76 | 4 => 4 | 20 => 20 | n => n, fun | n => n⟩
theorem Tryz.cloneN : Go.Proofs.SlLaysW.n5 Tryz.prog Tryz.cloneN_ren := {
  mixed := by kernel_rfl
  f5 := ⟨Tryz.f105.name, by decide, Tryz.func105.trans (congrArg some (by kernel_rfl))⟩
  f7 := Tryz.func118.trans (congrArg some (by kernel_rfl))
  t4 := Tryz.underlying4
  a4 := Tryz.isAgg4
  z4 := Tryz.sizeOf4
  v4 := Tryz.zeroValue4
  t20 := Tryz.underlying20
  a20 := Tryz.isAgg20
  z20 := Tryz.sizeOf20
  v20 := Tryz.zeroValue20
  t23 := Tryz.underlying88
  a23 := Tryz.isAgg88
  z23 := Tryz.sizeOf88
  v23 := Tryz.zeroValue88 }
end Go.Proofs
