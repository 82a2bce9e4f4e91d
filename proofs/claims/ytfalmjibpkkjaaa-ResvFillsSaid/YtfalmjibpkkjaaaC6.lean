/- The program's reservations: Oldest. -/
import Derived.Test.YtfalmjibpkkjaaaC5
namespace Go.Proofs.Ytfalmjibpkkjaaa
open Go.RowKit
def oldR (L : List Rv) : Option Rv := L[oldK L (L.length - 1)]?
theorem oldR_some {L : List Rv} (h : 0 < L.length) : ∃ y, oldR L = some y ∧ y ∈ L := by
  have h1 : oldK L (L.length - 1) < L.length := by have := oldK_le L (L.length - 1); omega
  exact ⟨L[oldK L (L.length - 1)], List.getElem?_eq_getElem h1, List.getElem_mem h1⟩
section
variable {w w' : World} {B : Nat} {T : ObT} {S S' : Rs} {n : Nat} {s p f : Int}
theorem soonmk_r (ts : Nat) (w : World) : Calls Try.prog 38 #[.pointer (some ⟨ts, 0, none⟩)] w fun e w' => ∃ cb, e = .returned (.func (.func 48) #[] #[.pointer (some ⟨cb, 0, none⟩)]) ∧ Lrow w' cb 23 [.pointer (some ⟨ts, 0, none⟩)] ∧ Below w.heap.size w w' := by
  go_enter Try.func38, Try.ntmps38
  go_wp2
  go_ret
  exact ⟨w.heap.size, rfl, Lrow.new w _ _, below_new _ _⟩
set_option maxRecDepth 100000 in
set_option maxHeartbeats 4000000 in
theorem oldest_r (h : ObAt B w T S) (hb : Bnd n S) (hn : n ≤ 900) : Calls Try.prog 17 #[.pointer (some ⟨T.s, 0, none⟩)] w fun e w' => e = .returned (.tuple #[tldV (oldR S.L), .bool (oldR S.L).isSome]) ∧ Below w.heap.size w w' := by
  obtain ⟨W0, hW0⟩ : ∃ W0, W0 = w.alloc (.cells #[.int .i64 0, .int .i64 0, .int .i64 0, .int .u8 0] 31) := ⟨_, rfl⟩
  obtain ⟨z, hz⟩ : ∃ z, z = w.heap.size := ⟨_, rfl⟩
  have g0 : Below w.heap.size w W0 := by rw [hW0]; exact below_new _ _
  have rz : Lrow W0 z 31 [.int .i64 0, .int .i64 0, .int .i64 0, .int .u8 0] := by rw [hW0, hz]; exact Lrow.new w _ _
  have hzl : z < W0.heap.size := rz.lt
  have h0 := h.call g0
  have hk := keys_r h0 hb hn
  have HW := Lib.hid (And.intro hW0 hz)
  have HZ := Lib.hid (And.intro g0 rz)
  have HB : Hid (∀ V (v0 v1 v2 v3 : Value), Below w.heap.size w V → Below w.heap.size w ((((V.setCell ⟨z, 0, none⟩ v0).setCell ⟨z, 1, none⟩ v1).setCell ⟨z, 2, none⟩ v2).setCell ⟨z, 3, none⟩ v3)) := fun V v0 v1 v2 v3 hV =>
    ((((hV.setCell (by show w.heap.size ≤ z; omega) v0).setCell (by show w.heap.size ≤ z; omega) v1).setCell (by show w.heap.size ≤ z; omega) v2).setCell (by show w.heap.size ≤ z; omega) v3)
  obtain ⟨m, hm⟩ : ∃ m, m = S.L.length := ⟨_, rfl⟩
  rw [← hm] at hk
  by_cases hl : 0 < S.L.length
  · obtain ⟨y, hy, hyL⟩ := oldR_some hl
    rw [hy]
    have HV : Hid (tldV (some y) = .agg #[.int .i64 y.s, .int .i64 y.p, .int .i64 y.f, .int .u8 (y.n : Nat)]) := rfl
    have m0 : ¬ (m : Int) = 0 := by omega
    have m0' : ((m : Int) == 0) = false := by simpa using m0
    have HT : Hid (∀ w1 A c, Below W0.heap.size W0 w1 → EK.Own W0.heap.size w1 (.slice A m c) (keysR S.L) → (w1.cell? ⟨T.s, 0, none⟩ = some (.map (some T.bk)) ∧ w1.cell? ⟨T.a y.s y.p, 0, none⟩ = some (.int .i64 y.s) ∧ w1.cell? ⟨T.a y.s y.p, 1, none⟩ = some (.int .i64 y.p) ∧ w1.cell? ⟨T.a y.s y.p, 2, none⟩ = some (.int .i64 y.f) ∧ w1.cell? ⟨T.a y.s y.p, 3, none⟩ = some (.int .u8 (y.n : Nat))) ∧
        ∀ w2 cb, Below w1.heap.size w1 w2 → Lrow w2 cb 23 [.pointer (some ⟨T.s, 0, none⟩)] → (w2.cell? ⟨T.s, 0, none⟩ = some (.map (some T.bk)) ∧ w2.cell? ⟨T.a y.s y.p, 0, none⟩ = some (.int .i64 y.s) ∧ w2.cell? ⟨T.a y.s y.p, 1, none⟩ = some (.int .i64 y.p) ∧ w2.cell? ⟨T.a y.s y.p, 2, none⟩ = some (.int .i64 y.f) ∧ w2.cell? ⟨T.a y.s y.p, 3, none⟩ = some (.int .u8 (y.n : Nat))) ∧
          Calls Try.prog 37 #[.slice A m c, .func (.func 48) #[] #[.pointer (some ⟨cb, 0, none⟩)]] w2 (fun e w3 => e = .returned (.agg #[.int .i64 y.s, .int .i64 y.p]) ∧ Below w.heap.size w w3 ∧ ((w3.cell? ⟨T.s, 0, none⟩ = some (.map (some T.bk)) ∧ w3.cell? ⟨T.a y.s y.p, 0, none⟩ = some (.int .i64 y.s) ∧ w3.cell? ⟨T.a y.s y.p, 1, none⟩ = some (.int .i64 y.p) ∧ w3.cell? ⟨T.a y.s y.p, 2, none⟩ = some (.int .i64 y.f) ∧ w3.cell? ⟨T.a y.s y.p, 3, none⟩ = some (.int .u8 (y.n : Nat))) ∧ ∀ v0 v1 v2 v3, (((((w3.setCell ⟨z, 0, none⟩ v0).setCell ⟨z, 1, none⟩ v1).setCell ⟨z, 2, none⟩ v2).setCell ⟨z, 3, none⟩ v3).cell? ⟨T.s, 0, none⟩ = some (.map (some T.bk)) ∧ ((((w3.setCell ⟨z, 0, none⟩ v0).setCell ⟨z, 1, none⟩ v1).setCell ⟨z, 2, none⟩ v2).setCell ⟨z, 3, none⟩ v3).cell? ⟨T.a y.s y.p, 0, none⟩ = some (.int .i64 y.s) ∧ ((((w3.setCell ⟨z, 0, none⟩ v0).setCell ⟨z, 1, none⟩ v1).setCell ⟨z, 2, none⟩ v2).setCell ⟨z, 3, none⟩ v3).cell? ⟨T.a y.s y.p, 1, none⟩ = some (.int .i64 y.p) ∧ ((((w3.setCell ⟨z, 0, none⟩ v0).setCell ⟨z, 1, none⟩ v1).setCell ⟨z, 2, none⟩ v2).setCell ⟨z, 3, none⟩ v3).cell? ⟨T.a y.s y.p, 2, none⟩ = some (.int .i64 y.f) ∧ ((((w3.setCell ⟨z, 0, none⟩ v0).setCell ⟨z, 1, none⟩ v1).setCell ⟨z, 2, none⟩ v2).setCell ⟨z, 3, none⟩ v3).cell? ⟨T.a y.s y.p, 3, none⟩ = some (.int .u8 (y.n : Nat)))) ∧
            (Instr.lookup 71 (.map (some T.bk)) (.agg #[.int .i64 y.s, .int .i64 y.p]) false).run Try.prog w3 = .ok (.pointer (some ⟨T.a y.s y.p, 0, none⟩)) w3 ∧ Lrow w3 (T.a y.s y.p) 69 [.int .i64 y.s, .int .i64 y.p, .int .i64 y.f, .int .u8 (y.n : Nat), .int .u64 y.t] ∧ Lrow w3 z 31 [.int .i64 0, .int .i64 0, .int .i64 0, .int .u8 0])) := fun w1 A c hb1 ho => by
      have h1 := h0.call hb1
      have cells : ∀ V, ObAt B V T S → (V.cell? ⟨T.s, 0, none⟩ = some (.map (some T.bk)) ∧ V.cell? ⟨T.a y.s y.p, 0, none⟩ = some (.int .i64 y.s) ∧ V.cell? ⟨T.a y.s y.p, 1, none⟩ = some (.int .i64 y.p) ∧ V.cell? ⟨T.a y.s y.p, 2, none⟩ = some (.int .i64 y.f) ∧ V.cell? ⟨T.a y.s y.p, 3, none⟩ = some (.int .u8 (y.n : Nat))) := fun V hV => ⟨hV.c0, (hV.row y hyL).cell 0, (hV.row y hyL).cell 1, (hV.row y hyL).cell 2, (hV.row y hyL).cell 3⟩
      refine ⟨cells _ h1, fun w2 cb hb2 hcb => ?_⟩
      have h2 := h1.call hb2
      have ho2 := ho.call hb2
      rw [hm] at ho2 ⊢
      refine ⟨cells _ h2, (min_r h2 hb hn hcb ho2 hl hy).mono fun e w3 q => ?_⟩
      have h3 := h2.call q.2
      have b3 : Below w.heap.size w w3 := g0.trans ((hb1.trans ((hb2.mono hb1.size).trans (q.2.mono (Nat.le_trans hb1.size hb2.size)))).mono g0.size)
      have rz3 := ((rz.call hb1).call hb2).call q.2
      have hne : T.s ≠ z := h3.top.apart rz3 (by decide)
      have hnq : T.a y.s y.p ≠ z := (h3.row y hyL).apart rz3 (by decide)
      refine ⟨q.1, b3, ⟨cells _ h3, fun v0 v1 v2 v3 => ?_⟩, h3.lookup_y hb hyL, h3.row y hyL, rz3⟩
      have ht := (((h3.top.far (p := ⟨z, 0, none⟩) hne v0).far (p := ⟨z, 1, none⟩) hne v1).far (p := ⟨z, 2, none⟩) hne v2).far (p := ⟨z, 3, none⟩) hne v3
      have hq := ((((h3.row y hyL).far (p := ⟨z, 0, none⟩) hnq v0).far (p := ⟨z, 1, none⟩) hnq v1).far (p := ⟨z, 2, none⟩) hnq v2).far (p := ⟨z, 3, none⟩) hnq v3
      exact ⟨ht.cell 0, hq.cell 0, hq.cell 1, hq.cell 2, hq.cell 3⟩
    have hso := fun w => soonmk_r T.s w
    generalize T.a y.s y.p = q at *
    generalize T.s = ts at *
    generalize T.bk = bk at *
    generalize y.s = ys at *
    generalize y.p = yp at *
    generalize y.f = yf at *
    generalize (y.n : Int) = yn at *
    clear h h0 hb hn hW0 hz g0 rz hzl hm hl hy hyL
    go_enter Try.func17, Try.ntmps17
    go_upto_region 1 with (fail)
    rw [← HW.out.1, ← HW.out.2]
    go_upto_region 4 with (go_at_call 26; (with_reducible refine hk.mono ?_); rintro e w1 ⟨A, c, rfl, ho, hb1⟩)
    obtain ⟨s1, hT⟩ := HT.out w1 A c hb1 ho
    have HTT := Lib.hid hT
    have s1' : w1.drew.cell? ⟨ts, 0, none⟩ = some (.map (some bk)) ∧ w1.drew.cell? ⟨q, 0, none⟩ = some (.int .i64 ys) ∧ w1.drew.cell? ⟨q, 1, none⟩ = some (.int .i64 yp) ∧ w1.drew.cell? ⟨q, 2, none⟩ = some (.int .i64 yf) ∧ w1.drew.cell? ⟨q, 3, none⟩ = some (.int .u8 yn) := s1
    clear hk HT hb1 ho hT
    go_region_held3 (fun V => V.cell? ⟨ts, 0, none⟩ = some (.map (some bk)) ∧ V.cell? ⟨q, 0, none⟩ = some (.int .i64 ys) ∧ V.cell? ⟨q, 1, none⟩ = some (.int .i64 yp) ∧ V.cell? ⟨q, 2, none⟩ = some (.int .i64 yf) ∧ V.cell? ⟨q, 3, none⟩ = some (.int .u8 yn))
      (first | exact s1' | exact s2 | exact s3 | exact s4 _ _ _ _)
      (first | (go_at_call 38; refine (hso _).mono ?_; rintro e w2 ⟨cb, rfl, hcb, hb2⟩; obtain ⟨s2, hmn⟩ := HTT.out w2 cb ((below_dN (Below.refl _ w1) 1).trans hb2) hcb) | (go_at_call 37; refine hmn.mono ?_; rintro e w3 ⟨rfl, hb3, ⟨s3, s4⟩, hlk, hr3, hz3⟩; have r1 := hz3.set_ 0 (.int .i64 ys); have r2 := r1.set_ 1 (.int .i64 yp); have r3 := r2.set_ 2 (.int .i64 yf); have r4 := r3.set_ 3 (.int .u8 yn); have x0 := hz3.cell 0; have x1 := r1.cell 1; have x2 := r2.cell 2; have x3 := r3.cell 3; have y0 := hz3.frozen 0; have y1 := r1.frozen 1; have y2 := r2.frozen 2; have y3 := r3.frozen 3) | fail)
    all_goals
      have o0 := r4.cell 0
      have o1 := r4.cell 1
      have o2 := r4.cell 2
      have o3 := r4.cell 3
      have HE := Lib.hid (HB.out w3 (.int .i64 ys) (.int .i64 yp) (.int .i64 yf) (.int .u8 yn) hb3)
      clear r1 r2 r3 r4 hz3 hr3 hlk s2 s3 s4 x0 x1 x2 x3 y0 y1 y2 y3 hb3 hmn hb2 hcb
      go_wp2_with fail
      exact bodyPost_ret (v := .tuple #[.agg #[.int .i64 ys, .int .i64 yp, .int .i64 yf, .int .u8 yn], .bool true]) (by simp [results, Try.results17, go_sem, *]) rfl ⟨by rw [HV.out]; rfl, HE.out⟩
  · have hl0 : S.L.length = 0 := by omega
    have hnil : oldR S.L = none := by unfold oldR; rw [List.getElem?_eq_none (by omega)]
    rw [hnil]
    have hm0 : m = 0 := by omega
    have HM := Lib.hid hm0
    subst hm0
    clear h h0 hb hn hW0 hz g0 rz hzl hm hl hl0 hnil
    go_enter Try.func17, Try.ntmps17
    go_upto_region 1 with (fail)
    rw [← HW.out.1, ← HW.out.2]
    go_upto_region 3 with (go_at_call 26; (with_reducible refine hk.mono ?_); rintro e w1 ⟨A, c, rfl, ho, hb1⟩)
    have hz3 := HZ.out.2.call hb1
    have r1 := hz3.set_ 0 (.int .i64 0)
    have r2 := r1.set_ 1 (.int .i64 0)
    have r3 := r2.set_ 2 (.int .i64 0)
    have r4 := r3.set_ 3 (.int .u8 0)
    have x0 := hz3.cell 0
    have x1 := r1.cell 1
    have x2 := r2.cell 2
    have x3 := r3.cell 3
    have y0 := hz3.frozen 0
    have y1 := r1.frozen 1
    have y2 := r2.frozen 2
    have y3 := r3.frozen 3
    have o0 := r4.cell 0
    have o1 := r4.cell 1
    have o2 := r4.cell 2
    have o3 := r4.cell 3
    have HE := Lib.hid (HB.out w1 (.int .i64 0) (.int .i64 0) (.int .i64 0) (.int .u8 0) (HZ.out.1.trans (hb1.mono HZ.out.1.size)))
    clear hz3 r1 r2 r3 r4 hb1 ho hk
    go_wp2_with fail
    exact bodyPost_ret (v := .tuple #[.agg #[.int .i64 0, .int .i64 0, .int .i64 0, .int .u8 0], .bool false]) (by simp [results, Try.results17, go_sem, *]) rfl ⟨rfl, HE.out⟩
end
end Go.Proofs.Ytfalmjibpkkjaaa
