/- A call of both: a stretch by its number; where there is room. -/
import Derived.Test.YtekfkglielmfaaaTgS
namespace Go.Proofs.Ytekfkglielmfaaa
open Go.RowKit
theorem room_ok {L : List (Nat × Nat)} (ok : OkS L) {low n o p : Int} (h : RoomIs L low n o p 0) : ∃ q N : Nat, p = q ∧ n = N ∧ 1 ≤ N ∧ 1 ≤ q ∧ q + N ≤ 4096 ∧ low ≤ q ∧ (q : Int) % ((2 ^ o.toNat : Nat) : Int) = 0 ∧ RmS L q N ∧ ptE L q (q + N) = 0 := by
  rcases h with ⟨-, -, h⟩ | ⟨c, ⟨q, rfl, -, h1, h2, h3, h4, -⟩ | ⟨-, h, -⟩⟩
  · cases h
  · obtain ⟨N, rfl⟩ : ∃ N : Nat, n = N := ⟨n.toNat, by omega⟩
    rw [Int.toNat_natCast] at h4
    have hN : 1 ≤ N := by omega
    obtain ⟨f1, f2, f3⟩ := (free_iff ok hN).1 h4
    refine ⟨q, N, rfl, rfl, hN, h1, f2, h2, by rw [← Int.natCast_emod, h3]; rfl, h4, ?_⟩
    have hw : wrS q (q + N) = 0 := by unfold wrS; rw [if_neg (by omega)]
    have hv : ovS L q (q + N) = false := by
      unfold ovS
      rw [List.any_eq_false]
      intro y hy c
      have := f3 y hy
      have := of_decide_eq_true c
      omega
    unfold ptE
    rw [if_neg (by rw [hw]; simp), if_neg (by rw [hv]; simp)]
  · cases h
section
variable {w w' w1 w2 W W' : World} {B t x : Nat} {v : Value} {L L' : List (Nat × Nat)}
theorem keep_x4 {g x q j : Nat} {a b c d : Value} (hb : Below W.heap.size W W') (h : W.cell? ⟨x, 0, none⟩ = some a ∧ W.cell? ⟨q, 3, none⟩ = some b ∧ W.cell? ⟨g, j * 2, none⟩ = some c ∧ W.cell? ⟨g, j * 2 + 1, none⟩ = some d) : W'.cell? ⟨x, 0, none⟩ = some a ∧ W'.cell? ⟨q, 3, none⟩ = some b ∧ W'.cell? ⟨g, j * 2, none⟩ = some c ∧ W'.cell? ⟨g, j * 2 + 1, none⟩ = some d :=
  ⟨keep_cell hb h.1, keep_cell hb h.2.1, keep_cell hb h.2.2.1, keep_cell hb h.2.2.2⟩
theorem keep_01 (hf : Foot (fun k => k = t) w w') {q : Nat} {a b : Value} (h : w.cell? ⟨q, 0, none⟩ = some a ∧ w.cell? ⟨q, 1, none⟩ = some b) (hq : ¬ q = t) : w'.cell? ⟨q, 0, none⟩ = some a ∧ w'.cell? ⟨q, 1, none⟩ = some b :=
  ⟨foot_cell hf h.1 hq, foot_cell hf h.2 hq⟩
set_option maxHeartbeats 4000000 in
set_option maxRecDepth 100000 in
theorem do_out (h : StT B w t x L) (a : Ac) (hn : a.n < 0 ∨ (L.length : Int) ≤ a.n) : Calls Try.prog 28 #[.pointer (some ⟨t, 0, none⟩), .pointer (some ⟨x, 0, none⟩), .agg #[.int .i64 5, .int .i64 a.f, .int .i64 a.t, .int .i64 a.n]] w fun e w' => e = .returned (.bool true) ∧ DnT B t x L w w' := by
  obtain ⟨W0, hW0⟩ : ∃ W0, W0 = w.alloc (.cells #[.int .i64 5, .int .i64 a.f, .int .i64 a.t, .int .i64 a.n] 54) := ⟨_, rfl⟩
  obtain ⟨q, hq⟩ : ∃ q, q = w.heap.size := ⟨_, rfl⟩
  have b0 : Below w.heap.size w W0 := by rw [hW0]; exact below_new _ _
  have rs : Lrow W0 q 54 [.int .i64 5, .int .i64 a.f, .int .i64 a.t, .int .i64 a.n] := by rw [hW0, hq]; exact Lrow.new w _ _
  have h0 := h.call b0
  have htq : t < w.heap.size := h.1.lt
  obtain ⟨v, hv⟩ := h.2.1
  have hxq : x < w.heap.size := hv.1.lt
  have hqt : ¬ q = t := by omega
  have hqx : ¬ q = x := by omega
  clear hv
  obtain ⟨v, hv⟩ := h0.2.1
  have HW := Lib.hid (And.intro hW0 hq)
  have HB := Lib.hid b0
  have HS := Lib.hid h0
  have HL := Lib.hid (And.intro htq hxq)
  obtain ⟨ak, af, at_, an⟩ := a
  dsimp only at *
  obtain ⟨A, c, hv1⟩ := hv.2.1.form
  subst hv1
  obtain ⟨n, hnl⟩ : ∃ n, n = L.length := ⟨_, rfl⟩
  rw [← hnl] at hv hn
  have y0 := rs.cell 0
  have y3 := rs.cell 3
  have x0 : W0.cell? ⟨x, 0, none⟩ = some (.slice A n c) := hv.1.cell 0
  clear hW0 hq b0 rs h0 htq hxq h hv hqt hqx hnl
  by_cases g1 : an < 0
  · have g1' : decide (an < 0) = true := decide_eq_true g1
    clear hn
    go_enter Try.func28, Try.ntmps28
    go_upto_region 1 with (fail)
    rw [← HW.out.1, ← HW.out.2]
    go_upto_region 11 with (fail)
    go_quiet (fail)
    go_wp2_with fail
    go_ret
    exact ⟨rfl, DnT.first HB.out (DnT.same HS.out (below_dN (Below.refl _ _) _))⟩
  · have g1' : decide (an < 0) = false := decide_eq_false g1
    have g2 : (n : Int) ≤ an := hn.elim (fun c => absurd c g1) id
    have g2' : an ≥ (n : Int) := g2
    clear hn
    go_enter Try.func28, Try.ntmps28
    go_upto_region 1 with (fail)
    rw [← HW.out.1, ← HW.out.2]
    go_upto_region 11 with (fail)
    go_quiet (fail)
    go_wp2_with fail
    go_ret
    exact ⟨rfl, DnT.first HB.out (DnT.same HS.out (below_dN (Below.refl _ _) _))⟩
set_option maxHeartbeats 4000000 in
set_option maxRecDepth 100000 in
theorem do_in (h : StT B w t x L) (hl : L.length ≤ 999) (a : Ac) {j : Nat} (hj : j < L.length) (hn : a.n = j) : Calls Try.prog 28 #[.pointer (some ⟨t, 0, none⟩), .pointer (some ⟨x, 0, none⟩), .agg #[.int .i64 5, .int .i64 a.f, .int .i64 a.t, .int .i64 a.n]] w fun e w' => e = .returned (.bool true) ∧ DnT B t x L w w' := by
  obtain ⟨W0, hW0⟩ : ∃ W0, W0 = w.alloc (.cells #[.int .i64 5, .int .i64 a.f, .int .i64 a.t, .int .i64 a.n] 54) := ⟨_, rfl⟩
  obtain ⟨q, hq⟩ : ∃ q, q = w.heap.size := ⟨_, rfl⟩
  have b0 : Below w.heap.size w W0 := by rw [hW0]; exact below_new _ _
  have rs : Lrow W0 q 54 [.int .i64 5, .int .i64 a.f, .int .i64 a.t, .int .i64 a.n] := by rw [hW0, hq]; exact Lrow.new w _ _
  have h0 := h.call b0
  have htq : t < w.heap.size := h.1.lt
  obtain ⟨v, hv⟩ := h.2.1
  have hxq : x < w.heap.size := hv.1.lt
  have hqt : ¬ q = t := by omega
  have hqx : ¬ q = x := by omega
  clear hv
  obtain ⟨v, hv⟩ := h0.2.1
  have HW := Lib.hid (And.intro hW0 hq)
  have HB := Lib.hid b0
  have HS := Lib.hid h0
  have HL := Lib.hid (And.intro htq hxq)
  obtain ⟨ak, af, at_, an⟩ := a
  dsimp only at *
  subst hn
  have hok := h0.ok
  obtain ⟨A, c, hv1⟩ := hv.2.1.form
  subst hv1
  obtain ⟨g, rfl, -, hgl, d0, d1⟩ := hv.at_ hj
  obtain ⟨n, hnl⟩ : ∃ n, n = L.length := ⟨_, rfl⟩
  obtain ⟨y, hy⟩ : ∃ y, y = L[j] := ⟨_, rfl⟩
  rw [← hnl] at hv
  rw [← hy] at d0 d1
  obtain ⟨s0, s1⟩ := y
  dsimp only at d0 d1
  have HLEN : Hid ((dlS L s0 s1).length ≤ L.length + 1) := Nat.le_succ_of_le (hok.del s0 s1).2
  have j1 : (j : Int) < n := by omega
  have j0 : (0 : Int) ≤ j := by omega
  have g1' : decide ((j : Int) < 0) = false := decide_eq_false (by omega)
  have g1 : ¬ (j : Int) < 0 := by omega
  have g2 : ¬ (j : Int) ≥ n := by omega
  have g3 : ¬ n ≤ j := by omega
  have g3' : decide (n ≤ j) = false := decide_eq_false g3
  obtain ⟨E, hE⟩ : ∃ E, E = dlE L s0 s1 := ⟨_, rfl⟩
  have c_1 : ∀ W, PrT B W t L → Calls Try.prog 26 #[.pointer (some ⟨t, 0, none⟩), .int .i64 s0, .int .i64 s1] W fun e w' => e = .returned (.int .i64 E) ∧ PrT B w' t (dlS L s0 s1) ∧ Foot (fun k => k = t) W w' := fun W hp => by rw [hE]; exact del_p hp s0 s1
  have c_2 : ∀ W v, RtT B W x v L → Calls Try.prog 43 #[.pointer (some ⟨x, 0, none⟩), .int .i64 s0, .int .i64 s1] W fun e w' => e = .returned (.int .i64 E) ∧ DidT B x v (dlS L s0 s1) W w' := fun W v hr => by rw [hE]; exact rdel hr (by omega) s0 s1
  have y0 := rs.cell 0
  have y3 := rs.cell 3
  have hs : W0.cell? ⟨x, 0, none⟩ = some (.slice (some ⟨g, 0, none⟩) n c) ∧ W0.cell? ⟨q, 3, none⟩ = some (.int .i64 (j : Nat)) ∧ W0.cell? ⟨g, j * 2, none⟩ = some (.int .i64 s0) ∧ W0.cell? ⟨g, j * 2 + 1, none⟩ = some (.int .i64 s1) := ⟨hv.1.cell 0, y3, d0, d1⟩
  have x0 := hs.1
  have HV : Hid (RtT B W0 x (.slice (some ⟨g, 0, none⟩) n c) L) := hv
  clear hW0 hq b0 rs h0 htq hxq h hl hv hqt hqx hnl hy hok hE d0 d1 hgl
  go_enter Try.func28, Try.ntmps28
  go_upto_region 1 with (fail)
  rw [← HW.out.1, ← HW.out.2]
  go_upto_region 11 with (fail)
  go_quiet (fail)
  clear x0 y0 y3
  obtain ⟨W1, hW1⟩ : ∃ W1, W1 = W0.drewN nq := ⟨_, rfl⟩
  rw [← hW1]
  have hs1 : W1.cell? ⟨x, 0, none⟩ = some (.slice (some ⟨g, 0, none⟩) n c) ∧ W1.cell? ⟨q, 3, none⟩ = some (.int .i64 (j : Nat)) ∧ W1.cell? ⟨g, j * 2, none⟩ = some (.int .i64 s0) ∧ W1.cell? ⟨g, j * 2 + 1, none⟩ = some (.int .i64 s1) := by rw [hW1]; exact hs
  have HB1 : Hid (Below W0.heap.size W0 W1) := by rw [hW1]; exact below_dN (Below.refl _ _) _
  clear hs hW1
  go_upto_region 13 with (fail)
  go_cut [7] from 76 to 84 (fun s7 wx => ∃ q2, s7 = .pointer (some ⟨q2, 0, none⟩) ∧ W1.heap.size ≤ q2 ∧ Lrow wx q2 31 [.int .i64 s0, .int .i64 s1] ∧ Below W1.heap.size W1 wx)
  case first =>
    go_region_held3 (fun v => v.cell? ⟨x, 0, none⟩ = some (.slice (some ⟨g, 0, none⟩) n c) ∧ v.cell? ⟨q, 3, none⟩ = some (.int .i64 (j : Nat)) ∧ v.cell? ⟨g, j * 2, none⟩ = some (.int .i64 s0) ∧ v.cell? ⟨g, j * 2 + 1, none⟩ = some (.int .i64 s1))
      (first | exact hs1 | exact keep_x4 (below_new W1.drew _) hs1)
      (fail)
    all_goals
      go_wp2_with fail
      go_meet
      exact ⟨_, rfl, Nat.le_refl _, Lrow.new W1 _ _, (below_new W1 _).trans (below_dN (Below.refl _ _) 1)⟩
  case rest =>
    obtain ⟨q2, rfl, hq2, r2, b2⟩ := hcut
    have HB2 := Lib.hid (HB1.out.trans (b2.mono HB1.out.size))
    have hS2 := HS.out.call (HB2.out.trans (below_dN (Below.refl _ _) 1))
    have hv2 := HV.out.call (HB2.out.trans (below_dN (Below.refl _ _) 1))
    have hqt : ¬ q2 = t := fun e => by have := HB1.out.size; have := HB.out.size; have := HL.out; omega
    have hqx : ¬ q2 = x := fun e => by have := HB1.out.size; have := HB.out.size; have := HL.out; omega
    have hs2 : wc.cell? ⟨q2, 0, none⟩ = some (.int .i64 s0) ∧ wc.cell? ⟨q2, 1, none⟩ = some (.int .i64 s1) := ⟨r2.cell 0, r2.cell 1⟩
    have hp2 := hS2.1
    have HS2 := Lib.hid hS2
    clear r2 b2 hq2 hs1 hS2
    go_upto_region 14 with (fail)
    go_region_held3 (fun v => v.cell? ⟨q2, 0, none⟩ = some (.int .i64 s0) ∧ v.cell? ⟨q2, 1, none⟩ = some (.int .i64 s1))
      (first | exact hs2 | exact hs3 | exact hs4)
      (first | (go_at_call 26; (with_reducible refine (c_1 _ ?_).mono ?_); (focus exact hp2); rintro e w1 ⟨rfl, hp1, hf1⟩; have hs3 := keep_01 hf1 hs2 hqt; have hv1 := hv2.prog hp2 hf1) | (go_at_call 43; (with_reducible refine (c_2 _ _ hv1).mono ?_); rintro e w2 ⟨rfl, v2, hr2, hf2, -⟩; have hs4 := keep_01 hf2 hs3 hqx) | fail)
    all_goals
      go_wp2_with fail
      go_ret
      exact ⟨rfl, DnT.first HB.out (DnT.first (HB2.out.trans (below_dN (Below.refl _ _) 1)) (StT.two HS2.out hp1 hf1 hr2 hv1 hf2 HLEN.out))⟩
set_option maxHeartbeats 4000000 in
set_option maxRecDepth 100000 in
theorem do_room (h : StT B w t x L) (hl : L.length ≤ 999) (a : Ac) (hk : a.k ≠ 0 ∧ a.k ≠ 1 ∧ a.k ≠ 2 ∧ a.k ≠ 3 ∧ a.k ≠ 4 ∧ a.k ≠ 5) : Calls Try.prog 28 #[.pointer (some ⟨t, 0, none⟩), .pointer (some ⟨x, 0, none⟩), .agg #[.int .i64 a.k, .int .i64 a.f, .int .i64 a.t, .int .i64 a.n]] w fun e w' => e = .returned (.bool true) ∧ DnT B t x L w w' := by
  obtain ⟨W0, hW0⟩ : ∃ W0, W0 = w.alloc (.cells #[.int .i64 a.k, .int .i64 a.f, .int .i64 a.t, .int .i64 a.n] 54) := ⟨_, rfl⟩
  obtain ⟨q, hq⟩ : ∃ q, q = w.heap.size := ⟨_, rfl⟩
  have b0 : Below w.heap.size w W0 := by rw [hW0]; exact below_new _ _
  have rs : Lrow W0 q 54 [.int .i64 a.k, .int .i64 a.f, .int .i64 a.t, .int .i64 a.n] := by rw [hW0, hq]; exact Lrow.new w _ _
  have h0 := h.call b0
  have htq : t < w.heap.size := h.1.lt
  obtain ⟨v, hv⟩ := h.2.1
  have hxq : x < w.heap.size := hv.1.lt
  have hqt : ¬ q = t := by omega
  have hqx : ¬ q = x := by omega
  clear hv
  obtain ⟨v, hv⟩ := h0.2.1
  have HW := Lib.hid (And.intro hW0 hq)
  have HB := Lib.hid b0
  have HS := Lib.hid h0
  have HL := Lib.hid (And.intro htq hxq)
  obtain ⟨ak, af, at_, an⟩ := a
  dsimp only at *
  have hok := h0.ok
  obtain ⟨k0, k1, k2, k3, k4, k5⟩ := hk
  have K0 : (ak == 0) = false := by simpa using k0
  have K1 : (ak == 1) = false := by simpa using k1
  have K2 : (ak == 2) = false := by simpa using k2
  have K3 : (ak == 3) = false := by simpa using k3
  have K4 : (ak == 4) = false := by simpa using k4
  have K5 : (ak == 5) = false := by simpa using k5
  have y0 := rs.cell 0
  have y1 := rs.cell 1
  have y3 := rs.cell 3
  have HR := Lib.hid rs
  have hR1 := room_t h0.1 af an 0
  have HLN := Lib.hid (And.intro hl (And.intro hok (And.intro hqt hqx)))
  clear hW0 hq b0 rs h0 htq hxq h hl hv hqt hqx hok
  go_enter Try.func28, Try.ntmps28
  go_upto_region 1 with (fail)
  rw [← HW.out.1, ← HW.out.2]
  go_upto_region 16 with (first | (go_at_call 19; (with_reducible refine hR1.mono ?_); rintro e w1 ⟨p, er, rfl, hr1, b1⟩; clear hR1 y0 y1 y3) | fail)
  have hS1 := HS.out.call b1
  obtain ⟨v1, hv1⟩ := hS1.2.1
  have rs1 := HR.out.call b1
  have y1 := rs1.cell 1
  have y3 := rs1.cell 3
  have hR2 := rroom hv1 (by have := HLN.out.1; omega) HLN.out.2.1 af an 0
  have HB1 := Lib.hid b1
  have HR1 := Lib.hid hr1
  clear hS1 hv1 rs1 b1 hr1
  go_upto_region 17 with (first | (go_at_call 20; (with_reducible refine hR2.mono ?_); rintro e w2 ⟨p', er', rfl, hr2, b2⟩; clear hR2 y1 y3) | fail)
  obtain ⟨ep, ee⟩ := HR1.out.one hr2
  subst ep
  subst ee
  have HB2 := Lib.hid (HB1.out.trans (b2.mono HB1.out.size))
  have rs2 := HR.out.call HB2.out
  have y3 := rs2.cell 3
  clear b2 hr2
  by_cases he : er = 0
  · subst he
    obtain ⟨z, N, rfl, rfl, hN, hz, hzN, -, -, -, hpt⟩ := room_ok HLN.out.2.1 HR1.out
    have e1 : IntKind.i64.wrap ((z : Int) + N) = (z : Int) + N := IntWalk.i64_in _ (by omega)
    have HLEN : Hid ((ptS L z (z + N)).length ≤ L.length + 1) := (HLN.out.2.1.put z (z + N)).2
    have hS2 := HS.out.call HB2.out
    have hP := put_p hS2.1 z (z + N)
    rw [hpt] at hP
    have HS2 := Lib.hid hS2
    have HPT := Lib.hid hpt
    have HY := Lib.hid y3
    obtain ⟨v2, hv2⟩ := hS2.2.1
    have HV2 := Lib.hid hv2
    have hp0 := hS2.1
    clear hS2 hpt hN hz hzN rs2 hv2
    go_wp2_with (first | (go_at_call 23; (with_reducible refine hP.mono ?_); rintro e w3 ⟨rfl, hp3, hf3⟩; clear hP y3; have y3 := foot_cell hf3 HY.out HLN.out.2.2.1; have hv3 := HV2.out.prog hp0 hf3; have hP2 := rput hv3 (by have := HLN.out.1; omega) z (z + N); rw [HPT.out] at hP2) | (go_at_call 42; (with_reducible refine hP2.mono ?_); rintro e w4 ⟨rfl, v4, hr4, hf4, -⟩) | fail)
    go_ret
    exact ⟨rfl, DnT.first HB.out (DnT.first HB2.out (StT.two HS2.out hp3 hf3 hr4 hv3 hf4 HLEN.out))⟩
  · have he' : (er == 0) = false := by simpa using he
    clear rs2
    go_wp2_with fail
    go_ret
    exact ⟨rfl, DnT.first HB.out (DnT.same HS.out HB2.out)⟩
theorem do_any (h : StT B w t x L) (hl : L.length ≤ 999) (a : Ac) : Calls Try.prog 28 #[.pointer (some ⟨t, 0, none⟩), .pointer (some ⟨x, 0, none⟩), .agg #[.int .i64 a.k, .int .i64 a.f, .int .i64 a.t, .int .i64 a.n]] w fun e w' => e = .returned (.bool true) ∧ DnT B t x L w w' := by
  by_cases k0 : a.k = 0
  · rw [k0]; exact do_put0 h hl a
  by_cases k1 : a.k = 1
  · rw [k1]; exact do_put1 h hl a
  by_cases k2 : a.k = 2
  · rw [k2]; exact do_put2 h hl a
  by_cases k3 : a.k = 3
  · rw [k3]; exact do_del h hl a
  by_cases k4 : a.k = 4
  · rw [k4]; exact do_cut h hl a
  by_cases k5 : a.k = 5
  · rw [k5]
    by_cases hn : a.n < 0 ∨ (L.length : Int) ≤ a.n
    · exact do_out h a hn
    · exact do_in h hl a (j := a.n.toNat) (by omega) (by omega)
  exact do_room h hl a ⟨k0, k1, k2, k3, k4, k5⟩
end
end Go.Proofs.Ytekfkglielmfaaa
