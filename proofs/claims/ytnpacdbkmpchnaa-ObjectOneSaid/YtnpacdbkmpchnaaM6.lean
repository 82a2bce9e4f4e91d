/- The program's objects: Change. -/
import Derived.Test.YtnpacdbkmpchnaaM5
namespace Go.Proofs.Ytnpacdbkmpchnaa
open Go.RowKit
section
variable {w w' : World} {B : Nat} {T : ObT} {H H' : List Int} {L L' : List Og}
theorem chL_no {a t : Int} (c : chE L a t ≠ 0) : chL L a t = L := if_neg c
theorem ObAt.chP (h : ObAt B w T H L) (hG : Good H L) {a t : Int} (ha : Fits a) (c : chE L a t = 0) (hl : L.length ≤ 1000) (hh : H.length ≤ 1000) :
    ∃ q w4 w5 w6, T.A (owI L a) = some q ∧ (∀ ty, (Builtin.delete_ #[62, 3] ty #[.map (some T.bw), .int .i64 a]).run Try.prog w = .ok (.tuple #[]) w4) ∧
      (Instr.mapUpdate 62 (.map (some T.bw)) (.int .i64 t) (.agg #[.int .i64 (owI L a), .int .i64 (owP L a)])).run Try.prog w4.drew = .ok () w5 ∧
      (Instr.lookup 61 (.map (some T.bo)) (.int .i64 (owI L a)) false).run Try.prog w5.drew = .ok (.pointer (some ⟨q.1, 0, none⟩)) w5.drew ∧
      (Instr.mapUpdate 65 (.map (some q.2)) (.int .i64 (owP L a)) (.int .i64 t)).run Try.prog w5.drew = .ok () w6 ∧
      (∀ k, k < w.heap.size → k ≠ T.bw → w4.heap[k]? = w.heap[k]? ∧ w5.heap[k]? = w.heap[k]?) ∧ DidM B w T H (chL L a t) w6 := by
  obtain ⟨y, hy, e1, e2, e3, e4, hm⟩ := chL_mem hG c
  obtain ⟨-, t0, t1, -⟩ := chE_ok c
  have hr := hG.rg y hy
  obtain ⟨q, e⟩ := h.here (hG.al y hy)
  obtain ⟨m, em, m1, -⟩ := isB_get (hG.al y hy)
  obtain ⟨w4, r4, g4, s4, m4⟩ := h.own.drop ha
  have k4 := keep_of g4
  have m4d : TW.At w4.drew T.bw L.length (updM (sayW L) a none) := m4.heap rfl
  obtain ⟨w5, r5, g5, s5, m5⟩ := m4d.put (by omega) (f := t) (.agg #[.int .i64 (owI L a), .int .i64 (owP L a)]) (by unfold FitM; omega)
  have k5 := keep_of g5
  have k45 : ∀ k, k < w.heap.size → k ≠ T.bw → w4.heap[k]? = w.heap[k]? ∧ w5.heap[k]? = w.heap[k]? := fun k hk hne => ⟨k4 k hk hne, (k5 k (by show k < w4.heap.size; omega) hne).trans (k4 k hk hne)⟩
  have hF := h.fra _ q e
  have hq := h.apo _ q e
  have hF5 : TF.At w5.drew q.2 L.length (sayF L y.i) := hF.heap ((k45 _ hF.lt hq.2).2)
  obtain ⟨w6, r6, g6, s6, m6⟩ := hF5.put (by omega) (f := owP L a) (.int .i64 t) (by rw [e3]; unfold FitM; omega)
  have k6 := keep_of g6
  have s5' : w5.heap.size = w.heap.size := s5.trans s4
  have k6' : ∀ k, k < w.heap.size → k ≠ T.bw → k ≠ q.2 → w6.heap[k]? = w.heap[k]? := fun k hk h1 h2 => (k6 k (by show k < w5.heap.size; omega) h2).trans (k45 k hk h1).2
  have nr : ∀ {g ty vs}, Lrow w g ty vs → Lrow w6 g ty vs := fun {g ty vs} r => (k6' _ r.lt (h.own.apart r) (hF.apart r)).trans r
  have hlook : (Instr.lookup 61 (.map (some T.bo)) (.int .i64 (owI L a)) false).run Try.prog w5.drew = .ok (.pointer (some ⟨q.1, 0, none⟩)) w5.drew := by
    have ho : TO.At w5.drew T.bo H.length (sayO T.A) := h.obj.heap (k45 _ h.obj.lt h.apb).2
    have := ho.look (f := owI L a) (by rw [e2]; unfold FitM; have := h.obj.lt; omega) false
    rw [e2, show sayO T.A y.i = some (.pointer (some ⟨q.1, 0, none⟩)) by unfold sayO; rw [e]; rfl] at this
    rw [e2]
    exact this
  refine ⟨q, w4, w5, w6, by rw [e2]; exact e, r4, r5, hlook, r6, k45, T, rfl, ObAt.of (n := H.length) (nr h.top) (h.obj.heap (k6' _ h.obj.lt h.apb hq.1.symm)) ((m5.heap (k6 _ (by show T.bw < w5.heap.size; have := h.own.lt; omega) hq.2.symm)).eq fun g _ => ?_) h.isA (fun j r ej => nr (h.row j r ej)) (fun j r ej => ?_) h.ap1 h.ap2 h.apo h.apb h.lo h.loq, ?_, fun _ e => Or.inl e⟩
  · rw [sayW_change hG c]
    by_cases d : g = t
    · subst d; rw [if_pos rfl, updM_same]
    · rw [if_neg d, updM_other _ _ d]
      by_cases d2 : g = a
      · subst d2; rw [if_pos rfl, updM_same]
      · rw [if_neg d2, updM_other _ _ d2]
  · by_cases d : j = y.i
    · subst d
      rw [e] at ej
      injection ej with ej
      subst ej
      refine ⟨_, m6.eq fun g _ => ?_⟩
      rw [sayF_change hG c, e2]
      by_cases d : g = owP L a
      · subst d; rw [if_pos ⟨rfl, rfl⟩, updM_same]
      · rw [if_neg (fun k => d k.2), updM_other _ _ d]
    · have r' := h.fra j r ej
      refine ⟨_, (r'.heap (k6' _ r'.lt (h.apo j r ej).2 (fun k => d (h.ap2 j _ r q ej e k)))).eq fun g _ => ?_⟩
      rw [sayF_change hG c, e2, if_neg (fun k => d k.1)]
  · have f4 : Foot (MineO T) w w4 := Foot.grown g4 (Or.inr (Or.inr (Or.inl rfl)))
    have f5 : Foot (MineO T) w w5 := (f4.drewN 1).trans (Foot.grown (X := MineO T) g5 (Or.inr (Or.inr (Or.inl rfl)))) fun _ e _ => e
    exact (f5.drewN 1).trans (Foot.grown (X := MineO T) g6 (Or.inr (Or.inr (Or.inr ⟨_, q, e, Or.inr rfl⟩)))) fun _ e _ => e
set_option maxHeartbeats 4000000 in
set_option maxRecDepth 100000 in
theorem change_o (h : ObAt B w T H L) (hb : Bnd 200 H L) {a t : Int} (ha : Fits a) (ht : Fits t) : Calls Try.prog 20 #[.pointer (some ⟨T.s, 0, none⟩), .int .i64 a, .int .i64 t] w fun e w' => e = .returned (.int .i64 (chE L a t)) ∧ DidM B w T H (chL L a t) w' := by
  have HD0 : Hid (∀ w', Below w.heap.size w w' → DidM B w T H L w') := fun w' hb => h.did hb
  have cO := fun w1 (hb1 : Below w.heap.size w w1) => owned_o (h.call hb1) ha
  have cG := isFrame_o t
  by_cases c1 : owE L a = 0
  · have c1' : ¬ ofI L a < 0 := by have := owE_of.1 c1; omega
    rw [decide_eq_true c1] at cO
    by_cases c2 : 0 ≤ t ∧ t ≤ 1023
    · rw [decide_eq_true c2] at cG
      have cO2 := fun w1 (hb1 : Below w.heap.size w w1) => owned_o (h.call hb1) ht
      have hat : owE L t = 0 ∨ owE L t ≠ 0 := Decidable.em _
      by_cases c3 : owE L t = 0
      · have e7 : chE L a t = 7 := by unfold chE; rw [if_neg c1', if_neg (by omega), if_pos (owE_of.1 c3)]
        rw [chL_no (by rw [e7]; decide), e7]
        rw [decide_eq_true c3] at cO2
        clear h hb c1 c1' c2 c3 e7 ha ht hat
        go_enter Try.func20, Try.ntmps20
        go_upto_region 4 with (first | (go_at_call 27; (with_reducible refine (cO _ (Below.refl _ _)).mono ?_); rintro e w1 ⟨rfl, hb1⟩))
        go_wp2_with (first | (go_at_call 30; (with_reducible refine (cG _).mono ?_); rintro e w2 ⟨rfl, rfl⟩) | (go_at_call 27; (with_reducible refine (cO2 _ hb1).mono ?_); rintro e w3 ⟨rfl, hb3⟩))
        go_ret
        exact ⟨rfl, HD0.out _ (hb1.trans (hb3.mono hb1.size))⟩
      · have e0 : chE L a t = 0 := by unfold chE; rw [if_neg c1', if_neg (by omega), if_neg (fun k => c3 (owE_of.2 k))]
        rw [decide_eq_false c3] at cO2
        have hk : Hid (∀ w1 (m : Nat), Below w.heap.size w w1 → w1.heap.size = m → w1.cell? ⟨T.s, 2, none⟩ = some (.map (some T.bw)) ∧ (Instr.lookup 62 (.map (some T.bw)) (.int .i64 a) false).run Try.prog w1 = .ok (.agg #[.int .i64 (owI L a), .int .i64 (owP L a)]) w1 ∧
            ∃ (w3 : World) (q : Nat × Nat) (w4 w5 w6 : World), w3 = w1.alloc (.cells #[.int .i64 (owI L a), .int .i64 (owP L a)] 60) ∧ w3.cell? ⟨T.s, 2, none⟩ = some (.map (some T.bw)) ∧
            (∀ ty, (Builtin.delete_ #[62, 3] ty #[.map (some T.bw), .int .i64 a]).run Try.prog w3 = .ok (.tuple #[]) w4) ∧
            (Instr.mapUpdate 62 (.map (some T.bw)) (.int .i64 t) (.agg #[.int .i64 (owI L a), .int .i64 (owP L a)])).run Try.prog w4.drew = .ok () w5 ∧
            (Instr.lookup 61 (.map (some T.bo)) (.int .i64 (owI L a)) false).run Try.prog w5.drew = .ok (.pointer (some ⟨q.1, 0, none⟩)) w5.drew ∧
            (Instr.mapUpdate 65 (.map (some q.2)) (.int .i64 (owP L a)) (.int .i64 t)).run Try.prog w5.drew = .ok () w6 ∧
            (w4.cell? ⟨T.s, 2, none⟩ = some (.map (some T.bw)) ∧ w4.cell? ⟨m, 0, none⟩ = some (.int .i64 (owI L a)) ∧ w4.cell? ⟨m, 1, none⟩ = some (.int .i64 (owP L a))) ∧
            (w5.cell? ⟨T.s, 1, none⟩ = some (.map (some T.bo)) ∧ w5.cell? ⟨m, 0, none⟩ = some (.int .i64 (owI L a)) ∧ w5.cell? ⟨m, 1, none⟩ = some (.int .i64 (owP L a)) ∧ w5.cell? ⟨q.1, 1, none⟩ = some (.map (some q.2))) ∧
            DidM B w T H (chL L a t) w6) := fun w1 m hb1 hsz => by
          have h1 := h.call hb1
          refine ⟨h1.c2, h1.seeW1 ha, ?_⟩
          obtain ⟨w3, hw3⟩ : ∃ w3, w3 = w1.alloc (.cells #[.int .i64 (owI L a), .int .i64 (owP L a)] 60) := ⟨_, rfl⟩
          have b3 : Below w1.heap.size w1 w3 := by rw [hw3]; exact below_new _ _
          have r3 : Lrow w3 m 60 [.int .i64 (owI L a), .int .i64 (owP L a)] := by rw [hw3, ← hsz]; exact Lrow.new w1 _ [.int .i64 (owI L a), .int .i64 (owP L a)]
          have h3 := h1.call b3
          obtain ⟨q, w4, w5, w6, e, d4, d5, d6, d7, k45, hd⟩ := h3.chP hb.good ha e0 (by have := hb.ll; omega) (by have := hb.hl; omega)
          have hc : ∀ {g ty vs} (j : Nat), Lrow w3 g ty vs → w4.cell? ⟨g, j, none⟩ = vs[j]? ∧ w5.cell? ⟨g, j, none⟩ = vs[j]? := fun {g ty vs} j r => by
            have := k45 g r.lt (h3.own.apart r)
            exact ⟨(World.cell?_of_block (a := ⟨g, j, none⟩) this.1).trans (r.cell j), (World.cell?_of_block (a := ⟨g, j, none⟩) this.2).trans (r.cell j)⟩
          exact ⟨w3, q, w4, w5, w6, hw3, h3.c2, d4, d5, d6, d7, ⟨(hc 2 h3.top).1, (hc 0 r3).1, (hc 1 r3).1⟩, ⟨(hc 1 h3.top).2, (hc 0 r3).2, (hc 1 r3).2, (hc 1 (h3.row _ q e)).2⟩, hd.pre (hb1.trans (b3.mono hb1.size))⟩
        rw [e0]
        generalize owI L a = x at *
        generalize owP L a = y at *
        clear h hb c1 c1' c2 c3 e0 ha ht hat HD0
        go_enter Try.func20, Try.ntmps20
        go_upto_region 4 with (first | (go_at_call 27; (with_reducible refine (cO _ (Below.refl _ _)).mono ?_); rintro e w1 ⟨rfl, hb1⟩))
        go_upto_region 9 with (first | (go_at_call 30; (with_reducible refine (cG _).mono ?_); rintro e w2 ⟨rfl, rfl⟩) | (go_at_call 27; (with_reducible refine (cO2 _ hb1).mono ?_); rintro e w3 ⟨rfl, hb3⟩))
        obtain ⟨m, hm⟩ : ∃ m, w3.heap.size = m := ⟨_, rfl⟩
        obtain ⟨a1, a2, V, q, w4, w5, w6, hV, a3, a4, a5, a6, a7, ⟨x0, x1, x2⟩, ⟨y0, y1, y2, y3⟩, hD⟩ := hk.out w3 m (hb1.trans (hb3.mono hb1.size)) hm
        have HD := Lib.hid hD
        have HV := Lib.hid hV
        have HM := Lib.hid hm
        clear hD hV hm
        go_upto_region 10 with (fail)
        rw [HM.out, ← HV.out]
        clear a1 a2
        go_wp2_with fail
        go_region
        all_goals go_wp2_with fail
        go_region
        all_goals go_wp2_with fail
        go_ret
        exact ⟨rfl, HD.out⟩
    · have e3 : chE L a t = 3 := by unfold chE; rw [if_neg c1', if_pos (by omega)]
      rw [chL_no (by rw [e3]; decide), e3]
      rw [decide_eq_false c2] at cG
      clear h hb c1 c1' c2 e3 ha ht
      go_enter Try.func20, Try.ntmps20
      go_wp2_with (first | (go_at_call 27; (with_reducible refine (cO _ (Below.refl _ _)).mono ?_); rintro e w1 ⟨rfl, hb1⟩) | (go_at_call 30; (with_reducible refine (cG _).mono ?_); rintro e w2 ⟨rfl, rfl⟩))
      go_ret
      exact ⟨rfl, HD0.out _ hb1⟩
  · have c1' : ofI L a < 0 := by
      have : ¬ 0 ≤ ofI L a := fun k => c1 (owE_of.2 k)
      omega
    have e6 : chE L a t = 6 := by unfold chE; rw [if_pos c1']
    rw [chL_no (by rw [e6]; decide), e6]
    rw [decide_eq_false c1] at cO
    clear h hb c1 c1' e6 ha ht cG
    go_enter Try.func20, Try.ntmps20
    go_wp2_with (go_at_call 27; (with_reducible refine (cO _ (Below.refl _ _)).mono ?_); rintro e w1 ⟨rfl, hb1⟩)
    go_ret
    exact ⟨rfl, HD0.out _ hb1⟩
end
end Go.Proofs.Ytnpacdbkmpchnaa
