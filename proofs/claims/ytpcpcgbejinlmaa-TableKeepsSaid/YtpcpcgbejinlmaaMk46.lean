/- The law's World.one, whatever the kind: THE STATE STAYS. -/
import Derived.Test.YtpcpcgbejinlmaaMk45
namespace Go.Proofs.Ytpcpcgbejinlmaa
open Go.RowKit
structure Nice (k : Lk) : Prop where
  n : k.n ≤ 100
  r0 : Fits k.r0
  r1 : Fits k.r1
section
variable {w W : World} {k : Lk} {K : Nat}
theorem one_run (h : Run w W k K) (hK : K + 8 ≤ 5000) (hk : Nice k) (l : Ac) (hl : IsAc l) : Calls Try.prog 43 #[.pointer (some ⟨k.g, 0, none⟩), .agg (acCells l).toArray] W fun e W' => (∃ b, e = .returned (.bool b)) ∧ Run w W' k (K + 8) := by
  obtain ⟨v, ws, L, v0, L0, v1, L1, lf, h⟩ := h
  have e : ∀ n : Int, (l.kd == n) = decide (l.kd = n) := fun n => by
    by_cases c : l.kd = n
    · rw [decide_eq_true c]; simpa using c
    · rw [decide_eq_false c]; simpa using c
  rcases and_one l.r with hb | hb
  · by_cases c3 : l.kd = 3
    · exact one_unmap0 h hK hk.n hk.r0 l hl hb c3
    · by_cases c4 : l.kd = 4
      · exact one_set0 h hK hk.r0 l hl hb c4
      · by_cases c5 : l.kd = 5
        · exact one_split0 h hK hk.n hk.r0 l hl hb c5
        · by_cases c6 : l.kd = 6
          · exact one_merge0 h hK hk.n hk.r0 l hl hb c6
          · exact one_map0 h hK hk.n hk.r0 l hl hb (by rw [e, decide_eq_false c3]) (by rw [e, decide_eq_false c4]) (by rw [e, decide_eq_false c5]) (by rw [e, decide_eq_false c6])
  · by_cases c3 : l.kd = 3
    · exact one_unmap1 h hK hk.n hk.r1 l hl hb c3
    · by_cases c4 : l.kd = 4
      · exact one_set1 h hK hk.r1 l hl hb c4
      · by_cases c5 : l.kd = 5
        · exact one_split1 h hK hk.n hk.r1 l hl hb c5
        · by_cases c6 : l.kd = 6
          · exact one_merge1 h hK hk.n hk.r1 l hl hb c6
          · exact one_map1 h hK hk.n hk.r1 l hl hb (by rw [e, decide_eq_false c3]) (by rw [e, decide_eq_false c4]) (by rw [e, decide_eq_false c5]) (by rw [e, decide_eq_false c6])
end
end Go.Proofs.Ytpcpcgbejinlmaa
/- The law's World.Do over the state. -/
namespace Go.Proofs.Ytpcpcgbejinlmaa
open Go.RowKit
def Lk.act (k : Lk) (q : Nat) (l : Ac) : Lk := ⟨k.s, k.g, k.x0, k.x1, k.r0, k.r1, k.n, (q, acCells l) :: k.acts⟩
section
variable {w W W' : World} {k : Lk} {v : Value} {ws L : List Int} {v0 : Value} {L0 : List Mp} {v1 : Value} {L1 : List Mp} {lf : Int} {K K' : Nat} {q : Nat} {l : Ac}
theorem isAc3 {r g o : Int} (hr : In64 r) (g0 : 0 ≤ g) (g1 : g ≤ 4095) (ho : o = 0 ∨ o = 3 ∨ o = 6) : IsAc ⟨3, r, g, o, 0, 0, false, false, false, false, false, false⟩ := by
  have e3 : In64 3 := ⟨by decide, by decide⟩
  have e0 : In64 0 := ⟨by decide, by decide⟩
  have eg : In64 g := ⟨by omega, by omega⟩
  have eo : In64 o := ⟨by omega, by omega⟩
  exact ⟨e3, hr, eg, eo, e0, e0⟩
theorem isAc0 {r g n f : Int} {p w h e u d : Bool} (hr : In64 r) (hg : In64 g) (hn : In64 n) (hf : In64 f) : IsAc ⟨0, r, g, 0, n, f, p, w, h, e, u, d⟩ := by
  have e0 : In64 0 := ⟨by decide, by decide⟩
  exact ⟨e0, hr, hg, e0, hn, hf⟩
theorem Nice.act (h : Nice k) (q : Nat) (l : Ac) : Nice (k.act q l) := ⟨h.n, h.r0, h.r1⟩
theorem Lw.addAct (h : Lw w W k v ws L v0 L0 v1 L1 lf K) (r : Row W q 52 (acCells l)) : Lw w W (k.act q l) v ws L v0 L0 v1 L1 lf K :=
  ⟨h.tab, h.inv, h.all, h.row, h.ref0, h.ref1, h.len0, h.len1, h.below, h.lo, fun c hc => by
    rcases List.mem_cons.1 hc with e | e
    · subst e; exact r
    · exact h.acts c e⟩
theorem Lw.dropAct (h : Lw w W (k.act q l) v ws L v0 L0 v1 L1 lf K) : Lw w W k v ws L v0 L0 v1 L1 lf K :=
  ⟨h.tab, h.inv, h.all, h.row, h.ref0, h.ref1, h.len0, h.len1, h.below, h.lo, fun c hc => h.acts c (List.mem_cons_of_mem _ hc)⟩
theorem Lw.theAct (h : Lw w W (k.act q l) v ws L v0 L0 v1 L1 lf K) : Row W q 52 (acCells l) := h.acts _ List.mem_cons_self
theorem Lw.more (h : Lw w W k v ws L v0 L0 v1 L1 lf K) (hk : K ≤ K') : Lw w W k v ws L v0 L0 v1 L1 lf K' :=
  ⟨h.tab, h.inv, h.all, h.row, h.ref0, h.ref1, Nat.le_trans h.len0 hk, Nat.le_trans h.len1 hk, h.below, h.lo, h.acts⟩
theorem Run.more (h : Run w W k K) (hk : K ≤ K') : Run w W k K' := by
  obtain ⟨v, ws, L, v0, L0, v1, L1, lf, h⟩ := h
  exact ⟨v, ws, L, v0, L0, v1, L1, lf, h.more hk⟩
theorem Run.dropAct (h : Run w W (k.act q l) K) : Run w W k K := by
  obtain ⟨v, ws, L, v0, L0, v1, L1, lf, h⟩ := h
  exact ⟨v, ws, L, v0, L0, v1, L1, lf, h.dropAct⟩
theorem Run.theAct (h : Run w W (k.act q l) K) : Row W q 52 (acCells l) := by
  obtain ⟨v, ws, L, v0, L0, v1, L1, lf, h⟩ := h
  exact h.theAct
end
section
variable {w W : World} {k : Lk} {v : Value} {ws L : List Int} {v0 : Value} {L0 : List Mp} {v1 : Value} {L1 : List Mp} {lf : Int} {K : Nat}
set_option maxRecDepth 100000 in
set_option maxHeartbeats 8000000 in
theorem do_any0 (h : Lw w W k v ws L v0 L0 v1 L1 lf K) (hK : K + 64 ≤ 5000) (hk : Nice k) (l : Ac) (hl : IsAc l) (hb : bits .and .i64 l.r 1 = 0) (h7 : (l.kd == 7) = false) (h8 : (l.kd == 8) = false) (h9 : (l.kd == 9) = false) : Calls Try.prog 22 #[.pointer (some ⟨k.g, 0, none⟩), .agg (acCells l).toArray] W fun e W' => (∃ b, e = .returned (.bool b)) ∧ Run w W' k (K + 64) := by
  obtain ⟨q, hq⟩ : ∃ q, q = W.heap.size := ⟨_, rfl⟩
  have HQ := Lib.hid hq
  obtain ⟨w1, hw1⟩ : ∃ w1, w1 = W.alloc (.cells #[.int .i64 l.kd, .int .i64 l.r, .int .i64 l.pg, .int .i64 l.o, .int .i64 l.n, .int .i64 l.f, .bool l.p, .bool l.w, .bool l.h, .bool l.k, .bool l.u, .bool l.d] 52) := ⟨_, rfl⟩
  have HW1 := Lib.hid hw1
  have r1 : Row w1 q 52 (acCells l) := by rw [hw1, hq]; exact Row.new W _ (acCells l)
  have h1 := (h.call (hw1 ▸ below_new W _ _)).addAct r1
  have c1 : w1.cell? ⟨q, 1, none⟩ = some (.int .i64 l.r) := r1.cell 1
  have g5 : w1.cell? ⟨k.g, 5, none⟩ = some (.pointer (some ⟨k.x0, 0, none⟩)) := h1.row.cell 5
  have H1 := Lib.hid h1
  have HL := Lib.hid hl
  have HK := Lib.hid (And.intro hK hk)
  unfold acCells
  clear hq hw1 r1 h h1 hl hK hk
  go_enter Try.func22, Try.ntmps22
  go_upto_region 1 with (fail)
  rw [← HW1.out, ← HQ.out]
  go_quiet (fail)
  have H2 := Lib.hid (H1.out.call (drewN_b (Below.refl _ _) nq))
  generalize w1.drewN nq = w2 at H2 ⊢
  have c0 : w2.cell? ⟨q, 0, none⟩ = some (.int .i64 l.kd) := H2.out.theAct.cell 0
  have c4 : w2.cell? ⟨q, 4, none⟩ = some (.int .i64 l.n) := H2.out.theAct.cell 4
  clear c1 g5 H1 HW1 hb
  go_upto_region 2 with (fail)
  go_quiet (fail)
  have H3 := Lib.hid (H2.out.call (drewN_b (Below.refl _ _) nq))
  generalize w2.drewN nq = w3 at H3 ⊢
  clear c0 c4 H2
  have a0 : w3.cell? ⟨q, 0, none⟩ = some (.int .i64 l.kd) := H3.out.theAct.cell 0
  have a1 : w3.cell? ⟨q, 1, none⟩ = some (.int .i64 l.r) := H3.out.theAct.cell 1
  have a2 : w3.cell? ⟨q, 2, none⟩ = some (.int .i64 l.pg) := H3.out.theAct.cell 2
  have a3 : w3.cell? ⟨q, 3, none⟩ = some (.int .i64 l.o) := H3.out.theAct.cell 3
  have a4 : w3.cell? ⟨q, 4, none⟩ = some (.int .i64 l.n) := H3.out.theAct.cell 4
  have a5 : w3.cell? ⟨q, 5, none⟩ = some (.int .i64 l.f) := H3.out.theAct.cell 5
  have a6 : w3.cell? ⟨q, 6, none⟩ = some (.bool l.p) := H3.out.theAct.cell 6
  have a7 : w3.cell? ⟨q, 7, none⟩ = some (.bool l.w) := H3.out.theAct.cell 7
  have a8 : w3.cell? ⟨q, 8, none⟩ = some (.bool l.h) := H3.out.theAct.cell 8
  have a9 : w3.cell? ⟨q, 9, none⟩ = some (.bool l.k) := H3.out.theAct.cell 9
  have a10 : w3.cell? ⟨q, 10, none⟩ = some (.bool l.u) := H3.out.theAct.cell 10
  have a11 : w3.cell? ⟨q, 11, none⟩ = some (.bool l.d) := H3.out.theAct.cell 11
  have hone := one_run (k := k.act q l) ⟨v, ws, L, v0, L0, v1, L1, lf, H3.out⟩ (by have := HK.out.1; omega) (HK.out.2.act q l) l HL.out
  unfold acCells at hone
  go_wp2_with fail
  refine hone.mono ?_
  rintro e W' ⟨⟨b, rfl⟩, hr⟩
  have HR := Lib.hid hr
  clear hone hr a0 a1 a2 a3 a4 a5 a6 a7 a8 a9 a10 a11
  go_wp2_with fail
  go_ret
  exact ⟨⟨b, rfl⟩, HR.out.dropAct.more (by omega)⟩
set_option maxRecDepth 100000 in
set_option maxHeartbeats 8000000 in
theorem do_none0 (h : Lw w W k v ws L v0 L0 v1 L1 lf K) (hK : K + 64 ≤ 5000) (hk : Nice k) (l : Ac) (hl : IsAc l) (hb : bits .and .i64 l.r 1 = 0) (h7 : l.kd = 7) (hn : ¬ (0 ≤ l.n ∧ l.n < (L0.length : Int))) : Calls Try.prog 22 #[.pointer (some ⟨k.g, 0, none⟩), .agg (acCells l).toArray] W fun e W' => (∃ b, e = .returned (.bool b)) ∧ Run w W' k (K + 64) := by
  obtain ⟨q, hq⟩ : ∃ q, q = W.heap.size := ⟨_, rfl⟩
  have HQ := Lib.hid hq
  obtain ⟨w1, hw1⟩ : ∃ w1, w1 = W.alloc (.cells #[.int .i64 l.kd, .int .i64 l.r, .int .i64 l.pg, .int .i64 l.o, .int .i64 l.n, .int .i64 l.f, .bool l.p, .bool l.w, .bool l.h, .bool l.k, .bool l.u, .bool l.d] 52) := ⟨_, rfl⟩
  have HW1 := Lib.hid hw1
  have r1 : Row w1 q 52 (acCells l) := by rw [hw1, hq]; exact Row.new W _ (acCells l)
  have h1 := (h.call (hw1 ▸ below_new W _ _)).addAct r1
  have c1 : w1.cell? ⟨q, 1, none⟩ = some (.int .i64 l.r) := r1.cell 1
  have g5 : w1.cell? ⟨k.g, 5, none⟩ = some (.pointer (some ⟨k.x0, 0, none⟩)) := h1.row.cell 5
  have H1 := Lib.hid h1
  have HL := Lib.hid hl
  have HK := Lib.hid (And.intro hK hk)
  have HKD := Lib.hid h7
  have HNN := Lib.hid hn
  clear h7 hn
  unfold acCells
  clear hq hw1 r1 h h1 hl hK hk
  go_enter Try.func22, Try.ntmps22
  go_upto_region 1 with (fail)
  rw [← HW1.out, ← HQ.out]
  go_quiet (fail)
  have H2 := Lib.hid (H1.out.call (drewN_b (Below.refl _ _) nq))
  generalize w1.drewN nq = w2 at H2 ⊢
  have c0 : w2.cell? ⟨q, 0, none⟩ = some (.int .i64 7) := HKD.out ▸ H2.out.theAct.cell 0
  have c4 : w2.cell? ⟨q, 4, none⟩ = some (.int .i64 l.n) := H2.out.theAct.cell 4
  clear c1 g5 H1 HW1 hb
  obtain ⟨A0, cc, hv⟩ := H2.out.ref0.ms.form
  subst hv
  obtain ⟨N, hN⟩ : ∃ N, N = L0.length := ⟨_, rfl⟩
  have x0 : w2.cell? ⟨k.x0, 0, none⟩ = some (.slice A0 N cc) := by rw [hN]; exact H2.out.ref0.top.cell 0
  have hn : ¬ (0 ≤ l.n ∧ l.n < (N : Int)) := by rw [hN]; exact HNN.out
  clear hN
  by_cases n0 : 0 ≤ l.n
  · have n1 : ¬ l.n < (N : Int) := fun e => hn ⟨n0, e⟩
    clear hn
    go_upto_region 2 with (fail)
    go_quiet (fail)
    have H3 := Lib.hid (H2.out.call (drewN_b (Below.refl _ _) nq))
    generalize w2.drewN nq = w3 at H3 ⊢
    have a0 : w3.cell? ⟨q, 0, none⟩ = some (.int .i64 7) := HKD.out ▸ H3.out.theAct.cell 0
    clear c0 c4 x0 H2
    go_wp2_with fail
    go_ret
    refine ⟨?_, v, ws, L, _, L0, _, L1, lf, H3.out.dropAct.more (by omega)⟩
    first
    | exact ⟨_, rfl⟩
    | exact Or.inr rfl
    | exact Or.inl rfl
    | trace_state
  · clear hn
    go_upto_region 2 with (fail)
    go_quiet (fail)
    have H3 := Lib.hid (H2.out.call (drewN_b (Below.refl _ _) nq))
    generalize w2.drewN nq = w3 at H3 ⊢
    have a0 : w3.cell? ⟨q, 0, none⟩ = some (.int .i64 7) := HKD.out ▸ H3.out.theAct.cell 0
    clear c0 c4 x0 H2
    go_wp2_with fail
    go_ret
    refine ⟨?_, v, ws, L, _, L0, _, L1, lf, H3.out.dropAct.more (by omega)⟩
    first
    | exact ⟨_, rfl⟩
    | exact Or.inr rfl
    | exact Or.inl rfl
    | trace_state
set_option maxRecDepth 100000 in
set_option maxHeartbeats 8000000 in
theorem do_leaf0 (h : Lw w W k v ws L v0 L0 v1 L1 lf K) (hK : K + 64 ≤ 5000) (hk : Nice k) (l : Ac) (hl : IsAc l) (hb : bits .and .i64 l.r 1 = 0) (h7 : l.kd = 7) (j : Nat) (hj : l.n = j) (hjl : j < L0.length) : Calls Try.prog 22 #[.pointer (some ⟨k.g, 0, none⟩), .agg (acCells l).toArray] W fun e W' => (∃ b, e = .returned (.bool b)) ∧ Run w W' k (K + 64) := by
  obtain ⟨q, hq⟩ : ∃ q, q = W.heap.size := ⟨_, rfl⟩
  have HQ := Lib.hid hq
  obtain ⟨w1, hw1⟩ : ∃ w1, w1 = W.alloc (.cells #[.int .i64 l.kd, .int .i64 l.r, .int .i64 l.pg, .int .i64 l.o, .int .i64 l.n, .int .i64 l.f, .bool l.p, .bool l.w, .bool l.h, .bool l.k, .bool l.u, .bool l.d] 52) := ⟨_, rfl⟩
  have HW1 := Lib.hid hw1
  have r1 : Row w1 q 52 (acCells l) := by rw [hw1, hq]; exact Row.new W _ (acCells l)
  have h1 := (h.call (hw1 ▸ below_new W _ _)).addAct r1
  have c1 : w1.cell? ⟨q, 1, none⟩ = some (.int .i64 l.r) := r1.cell 1
  have g5 : w1.cell? ⟨k.g, 5, none⟩ = some (.pointer (some ⟨k.x0, 0, none⟩)) := h1.row.cell 5
  have H1 := Lib.hid h1
  have HL := Lib.hid hl
  have HK := Lib.hid (And.intro hK hk)
  have HKD := Lib.hid h7
  have HJ := Lib.hid hj
  clear h7 hj
  unfold acCells
  clear hq hw1 r1 h h1 hl hK hk
  go_enter Try.func22, Try.ntmps22
  go_upto_region 1 with (fail)
  rw [← HW1.out, ← HQ.out]
  go_quiet (fail)
  have H2 := Lib.hid (H1.out.call (drewN_b (Below.refl _ _) nq))
  generalize w1.drewN nq = w2 at H2 ⊢
  have c0 : w2.cell? ⟨q, 0, none⟩ = some (.int .i64 7) := HKD.out ▸ H2.out.theAct.cell 0
  have c4 : w2.cell? ⟨q, 4, none⟩ = some (.int .i64 j) := HJ.out ▸ H2.out.theAct.cell 4
  clear c1 g5 H1 HW1 hb
  obtain ⟨A0, cc, hv⟩ := H2.out.ref0.ms.form
  subst hv
  obtain ⟨-, ga, rfl, -, -⟩ := H2.out.ref0.ms.blk (by omega)
  obtain ⟨N, hN⟩ : ∃ N, N = L0.length := ⟨_, rfl⟩
  have x0 : w2.cell? ⟨k.x0, 0, none⟩ = some (.slice (some ⟨ga, 0, none⟩) N cc) := by rw [hN]; exact H2.out.ref0.top.cell 0
  have j1 : (j : Int) < N := by omega
  have j0 : (0 : Int) ≤ j := by omega
  have HJL := Lib.hid (And.intro hjl hN)
  clear hN
  go_upto_region 2 with (fail)
  go_quiet (fail)
  have H3 := Lib.hid (H2.out.call (drewN_b (Below.refl _ _) nq))
  generalize w2.drewN nq = w3 at H3 ⊢
  clear c0 c4 x0 H2
  have x0 : w3.cell? ⟨k.x0, 0, none⟩ = some (.slice (some ⟨ga, 0, none⟩) N cc) := by rw [HJL.out.2]; exact H3.out.ref0.top.cell 0
  have a1 : w3.cell? ⟨q, 1, none⟩ = some (.int .i64 l.r) := H3.out.theAct.cell 1
  have a4 : w3.cell? ⟨q, 4, none⟩ = some (.int .i64 j) := HJ.out ▸ H3.out.theAct.cell 4
  have d0 : w3.cell? ⟨ga, j * 9, none⟩ = some (.int .i64 L0[j].g) := H3.out.ref0.ms.get8 HJL.out.1 (i := 0) (by omega)
  have d1 : w3.cell? ⟨ga, j * 9 + 1, none⟩ = some (.int .i64 L0[j].o) := H3.out.ref0.ms.get8 HJL.out.1 (i := 1) (by omega)
  have hmk := H3.out.ref0.ok _ (List.getElem_mem HJL.out.1)
  have hl3 : IsAc ⟨3, l.r, L0[j].g, L0[j].o, 0, 0, false, false, false, false, false, false⟩ := by
    have g0 := hmk.g0
    have g1 := hmk.g1
    have ho := hmk.o
    exact isAc3 HL.out.2.1 (by omega) (by omega) ho
  have H4 : Hid (Lw w w3.drew (k.act q l) v ws L _ L0 _ L1 lf K) := Lib.hid (H3.out.call (drewN_b (Below.refl _ _) 1))
  have hone := one_run (k := k.act q l) ⟨v, ws, L, _, L0, _, L1, lf, H4.out⟩ (by have := HK.out.1; omega) (HK.out.2.act q l) _ hl3
  unfold acCells at hone
  generalize L0[j].g = m0 at d0 hone
  generalize L0[j].o = m1 at d1 hone
  clear hmk hl3 hjl
  go_upto_region 3 with (fail)
  go_still_tail 22, (by kernel_rfl)
  change wpList _ _ _ _ _ w3.drew
  clear d0 d1 x0 a1 a4
  go_wp2_with fail
  refine hone.mono ?_
  rintro e W' ⟨⟨b, rfl⟩, hr⟩
  have HR := Lib.hid hr
  clear hone hr
  go_wp2_with fail
  go_ret
  exact ⟨⟨b, rfl⟩, HR.out.dropAct.more (by omega)⟩
set_option maxRecDepth 100000 in
set_option maxHeartbeats 8000000 in
theorem do_any1 (h : Lw w W k v ws L v0 L0 v1 L1 lf K) (hK : K + 64 ≤ 5000) (hk : Nice k) (l : Ac) (hl : IsAc l) (hb : bits .and .i64 l.r 1 = 1) (h7 : (l.kd == 7) = false) (h8 : (l.kd == 8) = false) (h9 : (l.kd == 9) = false) : Calls Try.prog 22 #[.pointer (some ⟨k.g, 0, none⟩), .agg (acCells l).toArray] W fun e W' => (∃ b, e = .returned (.bool b)) ∧ Run w W' k (K + 64) := by
  obtain ⟨q, hq⟩ : ∃ q, q = W.heap.size := ⟨_, rfl⟩
  have HQ := Lib.hid hq
  obtain ⟨w1, hw1⟩ : ∃ w1, w1 = W.alloc (.cells #[.int .i64 l.kd, .int .i64 l.r, .int .i64 l.pg, .int .i64 l.o, .int .i64 l.n, .int .i64 l.f, .bool l.p, .bool l.w, .bool l.h, .bool l.k, .bool l.u, .bool l.d] 52) := ⟨_, rfl⟩
  have HW1 := Lib.hid hw1
  have r1 : Row w1 q 52 (acCells l) := by rw [hw1, hq]; exact Row.new W _ (acCells l)
  have h1 := (h.call (hw1 ▸ below_new W _ _)).addAct r1
  have c1 : w1.cell? ⟨q, 1, none⟩ = some (.int .i64 l.r) := r1.cell 1
  have g5 : w1.cell? ⟨k.g, 6, none⟩ = some (.pointer (some ⟨k.x1, 0, none⟩)) := h1.row.cell 6
  have H1 := Lib.hid h1
  have HL := Lib.hid hl
  have HK := Lib.hid (And.intro hK hk)
  unfold acCells
  clear hq hw1 r1 h h1 hl hK hk
  go_enter Try.func22, Try.ntmps22
  go_upto_region 1 with (fail)
  rw [← HW1.out, ← HQ.out]
  go_quiet (fail)
  have H2 := Lib.hid (H1.out.call (drewN_b (Below.refl _ _) nq))
  generalize w1.drewN nq = w2 at H2 ⊢
  have c0 : w2.cell? ⟨q, 0, none⟩ = some (.int .i64 l.kd) := H2.out.theAct.cell 0
  have c4 : w2.cell? ⟨q, 4, none⟩ = some (.int .i64 l.n) := H2.out.theAct.cell 4
  clear c1 g5 H1 HW1 hb
  go_upto_region 2 with (fail)
  go_quiet (fail)
  have H3 := Lib.hid (H2.out.call (drewN_b (Below.refl _ _) nq))
  generalize w2.drewN nq = w3 at H3 ⊢
  clear c0 c4 H2
  have a0 : w3.cell? ⟨q, 0, none⟩ = some (.int .i64 l.kd) := H3.out.theAct.cell 0
  have a1 : w3.cell? ⟨q, 1, none⟩ = some (.int .i64 l.r) := H3.out.theAct.cell 1
  have a2 : w3.cell? ⟨q, 2, none⟩ = some (.int .i64 l.pg) := H3.out.theAct.cell 2
  have a3 : w3.cell? ⟨q, 3, none⟩ = some (.int .i64 l.o) := H3.out.theAct.cell 3
  have a4 : w3.cell? ⟨q, 4, none⟩ = some (.int .i64 l.n) := H3.out.theAct.cell 4
  have a5 : w3.cell? ⟨q, 5, none⟩ = some (.int .i64 l.f) := H3.out.theAct.cell 5
  have a6 : w3.cell? ⟨q, 6, none⟩ = some (.bool l.p) := H3.out.theAct.cell 6
  have a7 : w3.cell? ⟨q, 7, none⟩ = some (.bool l.w) := H3.out.theAct.cell 7
  have a8 : w3.cell? ⟨q, 8, none⟩ = some (.bool l.h) := H3.out.theAct.cell 8
  have a9 : w3.cell? ⟨q, 9, none⟩ = some (.bool l.k) := H3.out.theAct.cell 9
  have a10 : w3.cell? ⟨q, 10, none⟩ = some (.bool l.u) := H3.out.theAct.cell 10
  have a11 : w3.cell? ⟨q, 11, none⟩ = some (.bool l.d) := H3.out.theAct.cell 11
  have hone := one_run (k := k.act q l) ⟨v, ws, L, v0, L0, v1, L1, lf, H3.out⟩ (by have := HK.out.1; omega) (HK.out.2.act q l) l HL.out
  unfold acCells at hone
  go_wp2_with fail
  refine hone.mono ?_
  rintro e W' ⟨⟨b, rfl⟩, hr⟩
  have HR := Lib.hid hr
  clear hone hr a0 a1 a2 a3 a4 a5 a6 a7 a8 a9 a10 a11
  go_wp2_with fail
  go_ret
  exact ⟨⟨b, rfl⟩, HR.out.dropAct.more (by omega)⟩
set_option maxRecDepth 100000 in
set_option maxHeartbeats 8000000 in
theorem do_none1 (h : Lw w W k v ws L v0 L0 v1 L1 lf K) (hK : K + 64 ≤ 5000) (hk : Nice k) (l : Ac) (hl : IsAc l) (hb : bits .and .i64 l.r 1 = 1) (h7 : l.kd = 7) (hn : ¬ (0 ≤ l.n ∧ l.n < (L1.length : Int))) : Calls Try.prog 22 #[.pointer (some ⟨k.g, 0, none⟩), .agg (acCells l).toArray] W fun e W' => (∃ b, e = .returned (.bool b)) ∧ Run w W' k (K + 64) := by
  obtain ⟨q, hq⟩ : ∃ q, q = W.heap.size := ⟨_, rfl⟩
  have HQ := Lib.hid hq
  obtain ⟨w1, hw1⟩ : ∃ w1, w1 = W.alloc (.cells #[.int .i64 l.kd, .int .i64 l.r, .int .i64 l.pg, .int .i64 l.o, .int .i64 l.n, .int .i64 l.f, .bool l.p, .bool l.w, .bool l.h, .bool l.k, .bool l.u, .bool l.d] 52) := ⟨_, rfl⟩
  have HW1 := Lib.hid hw1
  have r1 : Row w1 q 52 (acCells l) := by rw [hw1, hq]; exact Row.new W _ (acCells l)
  have h1 := (h.call (hw1 ▸ below_new W _ _)).addAct r1
  have c1 : w1.cell? ⟨q, 1, none⟩ = some (.int .i64 l.r) := r1.cell 1
  have g5 : w1.cell? ⟨k.g, 6, none⟩ = some (.pointer (some ⟨k.x1, 0, none⟩)) := h1.row.cell 6
  have H1 := Lib.hid h1
  have HL := Lib.hid hl
  have HK := Lib.hid (And.intro hK hk)
  have HKD := Lib.hid h7
  have HNN := Lib.hid hn
  clear h7 hn
  unfold acCells
  clear hq hw1 r1 h h1 hl hK hk
  go_enter Try.func22, Try.ntmps22
  go_upto_region 1 with (fail)
  rw [← HW1.out, ← HQ.out]
  go_quiet (fail)
  have H2 := Lib.hid (H1.out.call (drewN_b (Below.refl _ _) nq))
  generalize w1.drewN nq = w2 at H2 ⊢
  have c0 : w2.cell? ⟨q, 0, none⟩ = some (.int .i64 7) := HKD.out ▸ H2.out.theAct.cell 0
  have c4 : w2.cell? ⟨q, 4, none⟩ = some (.int .i64 l.n) := H2.out.theAct.cell 4
  clear c1 g5 H1 HW1 hb
  obtain ⟨A0, cc, hv⟩ := H2.out.ref1.ms.form
  subst hv
  obtain ⟨N, hN⟩ : ∃ N, N = L1.length := ⟨_, rfl⟩
  have x0 : w2.cell? ⟨k.x1, 0, none⟩ = some (.slice A0 N cc) := by rw [hN]; exact H2.out.ref1.top.cell 0
  have hn : ¬ (0 ≤ l.n ∧ l.n < (N : Int)) := by rw [hN]; exact HNN.out
  clear hN
  by_cases n0 : 0 ≤ l.n
  · have n1 : ¬ l.n < (N : Int) := fun e => hn ⟨n0, e⟩
    clear hn
    go_upto_region 2 with (fail)
    go_quiet (fail)
    have H3 := Lib.hid (H2.out.call (drewN_b (Below.refl _ _) nq))
    generalize w2.drewN nq = w3 at H3 ⊢
    have a0 : w3.cell? ⟨q, 0, none⟩ = some (.int .i64 7) := HKD.out ▸ H3.out.theAct.cell 0
    clear c0 c4 x0 H2
    go_wp2_with fail
    go_ret
    refine ⟨?_, v, ws, L, _, L0, _, L1, lf, H3.out.dropAct.more (by omega)⟩
    first
    | exact ⟨_, rfl⟩
    | exact Or.inr rfl
    | exact Or.inl rfl
    | trace_state
  · clear hn
    go_upto_region 2 with (fail)
    go_quiet (fail)
    have H3 := Lib.hid (H2.out.call (drewN_b (Below.refl _ _) nq))
    generalize w2.drewN nq = w3 at H3 ⊢
    have a0 : w3.cell? ⟨q, 0, none⟩ = some (.int .i64 7) := HKD.out ▸ H3.out.theAct.cell 0
    clear c0 c4 x0 H2
    go_wp2_with fail
    go_ret
    refine ⟨?_, v, ws, L, _, L0, _, L1, lf, H3.out.dropAct.more (by omega)⟩
    first
    | exact ⟨_, rfl⟩
    | exact Or.inr rfl
    | exact Or.inl rfl
    | trace_state
set_option maxRecDepth 100000 in
set_option maxHeartbeats 8000000 in
theorem do_leaf1 (h : Lw w W k v ws L v0 L0 v1 L1 lf K) (hK : K + 64 ≤ 5000) (hk : Nice k) (l : Ac) (hl : IsAc l) (hb : bits .and .i64 l.r 1 = 1) (h7 : l.kd = 7) (j : Nat) (hj : l.n = j) (hjl : j < L1.length) : Calls Try.prog 22 #[.pointer (some ⟨k.g, 0, none⟩), .agg (acCells l).toArray] W fun e W' => (∃ b, e = .returned (.bool b)) ∧ Run w W' k (K + 64) := by
  obtain ⟨q, hq⟩ : ∃ q, q = W.heap.size := ⟨_, rfl⟩
  have HQ := Lib.hid hq
  obtain ⟨w1, hw1⟩ : ∃ w1, w1 = W.alloc (.cells #[.int .i64 l.kd, .int .i64 l.r, .int .i64 l.pg, .int .i64 l.o, .int .i64 l.n, .int .i64 l.f, .bool l.p, .bool l.w, .bool l.h, .bool l.k, .bool l.u, .bool l.d] 52) := ⟨_, rfl⟩
  have HW1 := Lib.hid hw1
  have r1 : Row w1 q 52 (acCells l) := by rw [hw1, hq]; exact Row.new W _ (acCells l)
  have h1 := (h.call (hw1 ▸ below_new W _ _)).addAct r1
  have c1 : w1.cell? ⟨q, 1, none⟩ = some (.int .i64 l.r) := r1.cell 1
  have g5 : w1.cell? ⟨k.g, 6, none⟩ = some (.pointer (some ⟨k.x1, 0, none⟩)) := h1.row.cell 6
  have H1 := Lib.hid h1
  have HL := Lib.hid hl
  have HK := Lib.hid (And.intro hK hk)
  have HKD := Lib.hid h7
  have HJ := Lib.hid hj
  clear h7 hj
  unfold acCells
  clear hq hw1 r1 h h1 hl hK hk
  go_enter Try.func22, Try.ntmps22
  go_upto_region 1 with (fail)
  rw [← HW1.out, ← HQ.out]
  go_quiet (fail)
  have H2 := Lib.hid (H1.out.call (drewN_b (Below.refl _ _) nq))
  generalize w1.drewN nq = w2 at H2 ⊢
  have c0 : w2.cell? ⟨q, 0, none⟩ = some (.int .i64 7) := HKD.out ▸ H2.out.theAct.cell 0
  have c4 : w2.cell? ⟨q, 4, none⟩ = some (.int .i64 j) := HJ.out ▸ H2.out.theAct.cell 4
  clear c1 g5 H1 HW1 hb
  obtain ⟨A0, cc, hv⟩ := H2.out.ref1.ms.form
  subst hv
  obtain ⟨-, ga, rfl, -, -⟩ := H2.out.ref1.ms.blk (by omega)
  obtain ⟨N, hN⟩ : ∃ N, N = L1.length := ⟨_, rfl⟩
  have x0 : w2.cell? ⟨k.x1, 0, none⟩ = some (.slice (some ⟨ga, 0, none⟩) N cc) := by rw [hN]; exact H2.out.ref1.top.cell 0
  have j1 : (j : Int) < N := by omega
  have j0 : (0 : Int) ≤ j := by omega
  have HJL := Lib.hid (And.intro hjl hN)
  clear hN
  go_upto_region 2 with (fail)
  go_quiet (fail)
  have H3 := Lib.hid (H2.out.call (drewN_b (Below.refl _ _) nq))
  generalize w2.drewN nq = w3 at H3 ⊢
  clear c0 c4 x0 H2
  have x0 : w3.cell? ⟨k.x1, 0, none⟩ = some (.slice (some ⟨ga, 0, none⟩) N cc) := by rw [HJL.out.2]; exact H3.out.ref1.top.cell 0
  have a1 : w3.cell? ⟨q, 1, none⟩ = some (.int .i64 l.r) := H3.out.theAct.cell 1
  have a4 : w3.cell? ⟨q, 4, none⟩ = some (.int .i64 j) := HJ.out ▸ H3.out.theAct.cell 4
  have d0 : w3.cell? ⟨ga, j * 9, none⟩ = some (.int .i64 L1[j].g) := H3.out.ref1.ms.get8 HJL.out.1 (i := 0) (by omega)
  have d1 : w3.cell? ⟨ga, j * 9 + 1, none⟩ = some (.int .i64 L1[j].o) := H3.out.ref1.ms.get8 HJL.out.1 (i := 1) (by omega)
  have hmk := H3.out.ref1.ok _ (List.getElem_mem HJL.out.1)
  have hl3 : IsAc ⟨3, l.r, L1[j].g, L1[j].o, 0, 0, false, false, false, false, false, false⟩ := by
    have g0 := hmk.g0
    have g1 := hmk.g1
    have ho := hmk.o
    exact isAc3 HL.out.2.1 (by omega) (by omega) ho
  have H4 : Hid (Lw w w3.drew (k.act q l) v ws L _ L0 _ L1 lf K) := Lib.hid (H3.out.call (drewN_b (Below.refl _ _) 1))
  have hone := one_run (k := k.act q l) ⟨v, ws, L, _, L0, _, L1, lf, H4.out⟩ (by have := HK.out.1; omega) (HK.out.2.act q l) _ hl3
  unfold acCells at hone
  generalize L1[j].g = m0 at d0 hone
  generalize L1[j].o = m1 at d1 hone
  clear hmk hl3 hjl
  go_upto_region 3 with (fail)
  go_still_tail 22, (by kernel_rfl)
  change wpList _ _ _ _ _ w3.drew
  clear d0 d1 x0 a1 a4
  go_wp2_with fail
  refine hone.mono ?_
  rintro e W' ⟨⟨b, rfl⟩, hr⟩
  have HR := Lib.hid hr
  clear hone hr
  go_wp2_with fail
  go_ret
  exact ⟨⟨b, rfl⟩, HR.out.dropAct.more (by omega)⟩
end
end Go.Proofs.Ytpcpcgbejinlmaa
