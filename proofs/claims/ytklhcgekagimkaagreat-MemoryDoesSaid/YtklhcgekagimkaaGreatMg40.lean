/- Package memory: New; Drop of nil. -/
import Derived.Test.YtklhcgekagimkaaGreatMg39
import Derived.Test.YtklhcgekagimkaaGreatMg34
namespace Go.Proofs.YtklhcgekagimkaaGreat
open Go.RowKit
set_option maxHeartbeats 2000000 in
set_option maxRecDepth 100000 in
theorem drop_mn (f o : Int) (w : World) : Calls Tryz.prog 30 #[.pointer none, .int .i64 f, .int .i64 o] w fun e w' => e = .returned (.int .i64 1) ∧ Below w.heap.size w w' := by
  have hL := lowr_nil w
  go_enter Tryz.func30, Tryz.ntmps30
  go_wp2_with fail
  refine hL.mono ?_
  rintro e w1 ⟨rfl, hb⟩
  obtain ⟨W2, hW⟩ : ∃ W2, W2 = w1.alloc (.cells #[.pointer none, .pointer none, .pointer none] 76) := ⟨_, rfl⟩
  obtain ⟨q, hq⟩ : ∃ q, q = w1.heap.size := ⟨_, rfl⟩
  have hr : Lrow W2 q 76 [.pointer none, .pointer none, .pointer none] := by rw [hW, hq]; exact Lrow.new w1 _ _
  have hb2 : Below w1.heap.size w1 W2 := by rw [hW]; exact below_new _ _
  have HB2 : Hid (Below w.heap.size w W2) := hb.trans (hb2.mono hb.size)
  have hT := kGive_nil f o W2
  have e1 := hr.cell 1
  have HW := Lib.hid (And.intro hW hq)
  clear hb hL hW hq hr hb2
  go_upto_region 2 with (fail)
  rw [← HW.out.1, ← HW.out.2]
  go_wp2_with fail
  refine hT.mono ?_
  rintro e w3 ⟨rfl, j, rfl⟩
  clear hT e1
  go_wp2_with fail
  go_ret
  exact ⟨rfl, below_dN HB2.out j⟩
/-- Whether there may be a memory of so many frames, with such a mark. -/
def mwB (n mk : Int) : Bool := decide (8 ≤ n ∧ n ≤ 1024 ∧ 0 ≤ mk ∧ mk ≤ n)
set_option maxHeartbeats 2000000 in
set_option maxRecDepth 100000 in
theorem mnew_no {f mk : Int} (h : mwB f mk = false) (w : World) : Calls Tryz.prog 25 #[.int .i64 f, .int .i64 mk] w fun e w' => e = .returned (.tuple #[.pointer none, .int .i64 2]) ∧ Below w.heap.size w w' := by
  have h' := of_decide_eq_false h
  clear h
  by_cases c : f < 8 ∨ 1024 < f
  · have hK := kNew_bad c w
    clear c h'
    go_enter Tryz.func25, Tryz.ntmps25
    go_wp2_with fail
    refine hK.mono ?_
    rintro e w1 ⟨rfl, rfl⟩
    clear hK
    go_wp2_with fail
    go_ret2
    exact ⟨rfl, Below.refl _ _⟩
  · obtain ⟨n, rfl⟩ : ∃ n : Nat, f = n := ⟨f.toNat, by omega⟩
    have hK := nNew n (by omega) (by omega) w
    rcases (show mk < 0 ∨ (¬ mk < 0 ∧ (n : Int) < mk) by omega) with c1 | ⟨c1, c2⟩
    all_goals
      clear c h'
      go_enter Tryz.func25, Tryz.ntmps25
      go_wp2_with fail
      refine hK.mono ?_
      rintro e w1 ⟨k, X, rfl, hb, hX⟩
      have HB := Lib.hid hb
      clear hK hb hX
      go_wp2_with fail
      go_ret2
      exact ⟨rfl, HB.out⟩
set_option maxHeartbeats 2000000 in
set_option maxRecDepth 100000 in
theorem mnew_ok {n mk : Nat} (h1 : 8 ≤ n) (h2 : n ≤ 1024) (hm : mk ≤ n) (w : World) : Calls Tryz.prog 25 #[.int .i64 n, .int .i64 mk] w fun e w' =>
    ∃ p X, e = .returned (.tuple #[.pointer (some ⟨p.m, 0, none⟩), .int .i64 0]) ∧ PmX w.heap.size w' p X n mk (nwM n) ∧ Below w.heap.size w w' := by
  have hK := nNew n h1 h2 w
  have t1 : ¬ (mk : Int) < 0 := by omega
  have t2 : ¬ (n : Int) < mk := by omega
  have HN := Lib.hid (And.intro h1 h2)
  clear h1 h2 hm
  go_enter Tryz.func25, Tryz.ntmps25
  go_wp2_with fail
  refine hK.mono ?_
  rintro e w1 ⟨k, X, rfl, hb1, hX1⟩
  have HB1 := Lib.hid (And.intro hb1 hX1)
  have hR := new_ok n w1 HN.out.1 HN.out.2
  obtain ⟨a, ha⟩ : ∃ a, a = w1.heap.size + 1 := ⟨_, rfl⟩
  obtain ⟨b, hb⟩ : ∃ b, b = w1.heap.size := ⟨_, rfl⟩
  rw [← ha, ← hb] at hR
  have HA : Hid (a = w1.heap.size + 1 ∧ b = w1.heap.size) := ⟨ha, hb⟩
  clear hK hb1 hX1 ha hb
  go_wp2_with fail
  refine hR.mono ?_
  rintro e w2 ⟨rfl, hr2, hb2, hs2⟩
  have HB2 : Hid (RamAt w2 a b 80 (n * 8) (List.replicate (n * 8) 0) ∧ Below w1.heap.size w1 w2) := ⟨hr2, by rw [← HA.out.2]; exact hb2⟩
  have hF := new_f (n := (n : Int)) (decide_eq_true ⟨by have := HN.out; omega, by have := HN.out; omega⟩) w2
  clear hR hr2 hb2 hs2
  go_wp2_with fail
  refine hF.mono ?_
  rintro e w3 ⟨s, g, rfl, hf3, hb3⟩
  obtain ⟨W4, hW4⟩ : ∃ W4, W4 = w3.alloc (.cells #[.pointer (some ⟨a, 0, none⟩), .pointer (some ⟨k, 0, none⟩), .pointer (some ⟨s, 0, none⟩), .int .i64 mk] 86) := ⟨_, rfl⟩
  obtain ⟨q, hq⟩ : ∃ q, q = w3.heap.size := ⟨_, rfl⟩
  have hb4 : Below w3.heap.size w3 W4 := by rw [hW4]; exact below_new _ _
  have hr4 : Lrow W4 q 86 [.pointer (some ⟨a, 0, none⟩), .pointer (some ⟨k, 0, none⟩), .pointer (some ⟨s, 0, none⟩), .int .i64 mk] := by rw [hW4, hq]; exact Lrow.new w3 _ _
  have HD : Hid (∃ X, PmX w.heap.size W4 ⟨q, a, b, k, s, g⟩ X n mk (nwM n) ∧ Below w.heap.size w W4) := by
    obtain ⟨hb1, hX1⟩ := HB1.out
    obtain ⟨hr2, hb2⟩ := HB2.out
    obtain ⟨ha, hbb⟩ := HA.out
    have z1 := hb1.size
    have z2 := hb2.size
    have z3 := hb3.size
    have hb24 : Below w2.heap.size w2 W4 := hb3.trans (hb4.mono z3)
    have hb14 : Below w1.heap.size w1 W4 := hb2.trans (hb24.mono z2)
    have hF0 : Fx w.heap.size w3 s g (List.replicate n 0) := by
      have h := hf3
      unfold newF at h
      rw [Int.toNat_natCast] at h
      exact ⟨h.top, h.row, h.ap, ⟨by have := h.lo.1; omega, by have := h.lo.2; omega⟩⟩
    have nX : ∀ q, w1.heap.size ≤ q → ¬ X q := fun q h e => by have := (hX1.lo q e).2; omega
    refine ⟨X, ⟨hr4, hr2.below hb24 ?_ ?_, hX1.call hb14, hF0.call hb4, nX q (by omega), nX a (by omega), nX b (by omega), nX s ?_, nX g ?_, show w.heap.size ≤ q by omega, show w.heap.size ≤ a by omega, show w.heap.size ≤ b by omega⟩, hb1.trans (hb14.mono z1)⟩
    · exact hr2.top.lt
    · exact hr2.row.lt
    · have := hf3.lo.1; omega
    · have := hf3.lo.2; omega
  have HW := Lib.hid (And.intro hW4 hq)
  clear hb3 hf3 hF hb4 hr4 hW4 hq
  go_wp2_with fail
  go_ret2
  rw [← HW.out.1, ← HW.out.2]
  obtain ⟨Y, hY⟩ := HD.out
  exact ⟨⟨q, a, b, k, s, g⟩, Y, rfl, hY.1, hY.2⟩
end Go.Proofs.YtklhcgekagimkaaGreat
/- The reference of memory: Turn, New: THE REFERENCE WHOLE. -/
namespace Go.Proofs.YtklhcgekagimkaaGreat
open Go.RowKit
section
variable {w w' : World} {B n mk : Nat} {r : Rn} {v v' : Value} {M : Me}
/-- The list of states has been laid anew, and the struct tells so. -/
theorem RmX.isV {I' : List Int} (h : RmX B w r v n mk M) (hb : Below w.heap.size w w') (ho : EI.Own B w' v' I') (hv : v' = v ∨ ∃ q, v'.ownBlock = some q ∧ w.heap.size ≤ q) : RDid B r v n mk ⟨M.F, M.S, I', M.W⟩ w (w'.setCell ⟨r.x, 2, none⟩ v') := by
  have h1 := h.call hb
  have kp : ∀ q, q ≠ r.x → (w'.setCell ⟨r.x, 2, none⟩ v').heap[q]? = w'.heap[q]? := fun q hq => Below.heap_setCell w' _ _ q hq
  have nx : ∀ {q : Nat} {t : TypeId} {vs : List Value}, Lrow w' q t vs → t ≠ 32 → q ≠ r.x := fun hr ht => row_ne hr h1.top ht
  obtain ⟨c, _, h2⟩ := h1.kin.top
  obtain ⟨t, h3⟩ := h1.kin.row
  have ho2 : EI.Own B (w'.setCell ⟨r.x, 2, none⟩ v') v' I' := ho.heap fun q e => by
    obtain ⟨vs, k1, _⟩ := ho.block e
    exact kp q (nx k1 (by decide))
  have nh : v'.ownBlock ≠ some r.h := by
    rcases hv with rfl | ⟨q, e, hq⟩
    · exact h.nh
    · rw [e]; intro e'; injection e' with e'; have := h.kin.lt.2; omega
  refine ⟨v', ⟨?_, h1.kin.keepAll (kp _ (nx h2 (by decide))) (kp _ (nx h1.kin.ref.top (by decide))) (kp _ (nx h1.kin.ref.row (by decide))) (kp _ (nx h3 (by decide))), ⟨h.ram.len, h.ram.m8, h.ram.lo, h.ram.hi, h.ram.words, (kp _ (nx (show Lrow w' r.c _ _ from h1.ram.top) (by decide))).trans h1.ram.top, (kp _ (nx (show Lrow w' r.d _ _ from h1.ram.row) (by decide))).trans h1.ram.row, h.ram.ne⟩, ho2, nh, h.lx, h.lz, h.lp, h.ly, h.lh, h.lc, h.ld⟩, ?_, hv⟩
  · have := h1.top.set_ 2 v'
    exact this
  · exact (Foot.of_below hb).trans (Foot.grown (X := MineR r v) (grown_set w' r.x 2 v') (Or.inl rfl)) fun _ e _ => e
set_option maxHeartbeats 2000000 in
set_option maxRecDepth 100000 in
theorem rturn_any (h : RmX B w r v n mk M) (ok : MeOk n M) (f m a b : Int) : Calls Tryz.prog 57 #[.pointer (some ⟨r.x, 0, none⟩), .int .i64 f, .int .i64 m, .int .i64 a, .int .i64 b] w fun e w' => e = .returned (.int .i64 (tnE M f m a b)) ∧ RDid B r v n mk (tnM M f m a b) w w' := by
  by_cases hab : a = 0 ∨ b = 0
  · have he : tnE M f m a b = 2 ∧ tnM M f m a b = M := by unfold tnE tnM; rw [if_pos hab, if_pos hab]; exact ⟨rfl, rfl⟩
    rw [he.1, he.2]
    have HD : Hid (RDid B r v n mk M w w) := RDid.same h (Below.refl _ _)
    clear he h ok
    by_cases ca : a = 0
    case' pos => subst ca; clear hab
    case' neg =>
      obtain rfl : b = 0 := by rcases hab with e | e; exact absurd e ca; exact e
      have ca' : (a == 0) = false := by simpa using ca
      clear ca hab
    all_goals
      go_enter Tryz.func57, Tryz.ntmps57
      go_wp2_with fail
      go_ret
      exact ⟨rfl, HD.out⟩
  · have he : tnE M f m a b = tuE M.I f m a b ∧ tnM M f m a b = ⟨M.F, M.S, tuL M.I f m a b, M.W⟩ := by unfold tnE tnM; rw [if_neg hab, if_neg hab]; exact ⟨rfl, rfl⟩
    have ca' : (a == 0) = false := by simpa using fun e => hab (Or.inl e)
    have cb' : (b == 0) = false := by simpa using fun e => hab (Or.inr e)
    rw [he.1, he.2]
    obtain ⟨A, cc, hv⟩ := h.own.form
    have c2 := h.c2
    rw [hv] at c2
    obtain ⟨l, hl⟩ : ∃ l, l = M.I.length := ⟨_, rfl⟩
    rw [← hl] at hv c2
    obtain ⟨W1, hW1⟩ : ∃ W1, W1 = w.alloc (.cells #[.slice A l cc] 44) := ⟨_, rfl⟩
    obtain ⟨q, hq⟩ : ∃ q, q = w.heap.size := ⟨_, rfl⟩
    have hr1 : Lrow W1 q 44 [.slice A l cc] := by rw [hW1, hq]; exact Lrow.new w _ _
    have hb1 : Below w.heap.size w W1 := by rw [hW1]; exact below_new _ _
    have hR : Rx B W1 q v M.I := ⟨by rw [hv]; exact hr1, (h.call hb1).own, by rw [hq]; exact h.size⟩
    have hT := rturn hR ok.ok f m a b
    have H := Lib.hid h
    generalize tuE M.I f m a b = E at *
    generalize tuL M.I f m a b = L at *
    have HW := Lib.hid (And.intro hW1 hq)
    have HB1 := Lib.hid hb1
    clear he h ok hab hW1 hq hr1 hb1 hR hv hl
    go_enter Tryz.func57, Tryz.ntmps57
    go_upto_region 4 with (fail)
    rw [← HW.out.1, ← HW.out.2]
    clear c2
    go_wp2_with fail
    refine hT.mono ?_
    rintro e w2 ⟨rfl, v2, hR2, hf2, hv2⟩
    have hb2 : Below w.heap.size w w2 := HB1.out.trans (hf2.below HB1.out.size fun q e => by subst e; rw [HW.out.2]; exact Nat.le_refl _)
    obtain ⟨A2, c2, rfl⟩ := hR2.2.1.form
    have hD := H.out.isV hb2 hR2.2.1 (by
      rcases hv2 with e | ⟨k, e, hk⟩
      · exact Or.inl e
      · exact Or.inr ⟨k, e, Nat.le_trans HB1.out.size hk⟩)
    have e0 := hR2.1.cell 0
    have x0 : w2.cell? ⟨r.x, 2, none⟩ = some v := (H.out.call hb2).c2
    have y0 := (H.out.call hb2).top.frozen 2
    generalize L.length = l2 at *
    have HD := Lib.hid hD
    clear hT hR2 hf2 hv2 hb2 hD
    go_wp2_with fail
    go_ret
    exact ⟨rfl, HD.out⟩
set_option maxHeartbeats 2000000 in
set_option maxRecDepth 100000 in
theorem rnew_no17 {f mk : Int} (h : mwB f mk = false) (w : World) : Calls Tryz.prog 26 #[.int .i64 f, .int .i64 mk] w fun e w' => e = .returned (.tuple #[.pointer none, .int .i64 2]) ∧ Below w.heap.size w w' := by
  have h' := of_decide_eq_false h
  clear h
  by_cases c : f < 8 ∨ 1024 < f
  · have hK := refKNew_bad c w
    clear c h'
    go_enter Tryz.func26, Tryz.ntmps26
    go_wp2_with fail
    refine hK.mono ?_
    rintro e w1 ⟨rfl, rfl⟩
    clear hK
    go_wp2_with fail
    go_ret2
    exact ⟨rfl, Below.refl _ _⟩
  · obtain ⟨n, rfl⟩ : ∃ n : Nat, f = n := ⟨f.toNat, by omega⟩
    have hK := refKNew_any n (by omega) (by omega) w
    rcases (show mk < 0 ∨ (¬ mk < 0 ∧ (n : Int) < mk) by omega) with c1 | ⟨c1, c2⟩
    all_goals
      clear c h'
      go_enter Tryz.func26, Tryz.ntmps26
      go_wp2_with fail
      refine hK.mono ?_
      rintro e w1 ⟨z, x, y, h, rfl, hb, hX⟩
      have HB := Lib.hid hb
      clear hK hb hX
      go_wp2_with fail
      go_ret2
      exact ⟨rfl, HB.out⟩
set_option maxHeartbeats 2000000 in
set_option maxRecDepth 100000 in
theorem rnew_ok17 {n mk : Nat} (h1 : 8 ≤ n) (h2 : n ≤ 1024) (hm : mk ≤ n) (w : World) : Calls Tryz.prog 26 #[.int .i64 n, .int .i64 mk] w fun e w' =>
    ∃ r v, e = .returned (.tuple #[.pointer (some ⟨r.x, 0, none⟩), .int .i64 0]) ∧ RmX w.heap.size w' r v n mk (nwM n) ∧ (∃ q, v.ownBlock = some q ∧ w.heap.size ≤ q) ∧ Below w.heap.size w w' := by
  have hK := refKNew_any n h1 h2 w
  have t1 : ¬ (mk : Int) < 0 := by omega
  have t2 : ¬ (n : Int) < mk := by omega
  have HN := Lib.hid (And.intro h1 h2)
  clear h1 h2 hm
  go_enter Tryz.func26, Tryz.ntmps26
  go_wp2_with fail
  refine hK.mono ?_
  rintro e w1 ⟨z, x, y, h, rfl, hb1, hX1, lz, lx, ly, lh⟩
  have HB1 := Lib.hid (And.intro hb1 (And.intro hX1 (And.intro lz (And.intro lx (And.intro ly lh)))))
  have hR := refNew_ok n w1 HN.out.1 HN.out.2
  obtain ⟨a, ha⟩ : ∃ a, a = w1.heap.size + 1 := ⟨_, rfl⟩
  obtain ⟨b, hb⟩ : ∃ b, b = w1.heap.size := ⟨_, rfl⟩
  rw [← ha, ← hb] at hR
  have HA : Hid (a = w1.heap.size + 1 ∧ b = w1.heap.size) := ⟨ha, hb⟩
  clear hK hb1 hX1 ha hb lz lx ly lh
  go_wp2_with fail
  refine hR.mono ?_
  rintro e w2 ⟨rfl, hr2, hb2, hs2⟩
  have HB2 : Hid (RamAt w2 a b 42 (n * 8) (List.replicate (n * 8) 0) ∧ Below w1.heap.size w1 w2 ∧ w2.heap.size = w1.heap.size + 2) := ⟨hr2, by rw [← HA.out.2]; exact hb2, by rw [← HA.out.2]; exact hs2⟩
  have hmk : (Instr.makeSlice 30 (.int .i64 n) (.int .i64 n)).run Tryz.prog w2 = .ok (.slice (some ⟨w2.heap.size, 0, none⟩) n n) (w2.alloc (.cells (madeCells #[.int .i64 0] n) 3)) :=
    run_make_row' (P := Tryz.prog) 30 3 (.int .i64 0) 8 Tryz.underlying30 info_int rfl .i64 .i64 n (by have := HN.out.2; omega) (by have := HN.out.2; omega) w2
  obtain ⟨g, hg⟩ : ∃ g, g = w2.heap.size := ⟨_, rfl⟩
  obtain ⟨W3, hW3⟩ : ∃ W3, W3 = w2.alloc (.cells (madeCells #[.int .i64 0] n) 3) := ⟨_, rfl⟩
  have hr3 : Lrow W3 g 3 ((List.replicate n (0 : Int)).map (Value.int .i64)) := by
    rw [hW3, hg, List.map_replicate, ← made_ints]
    simpa using Lrow.new w2 3 (madeCells #[Value.int .i64 0] n).toList
  have hb3 : Below w2.heap.size w2 W3 := by rw [hW3]; exact below_new _ _
  rw [← hW3, ← hg] at hmk
  obtain ⟨q, hq⟩ : ∃ q, q = W3.heap.size := ⟨_, rfl⟩
  obtain ⟨W4, hW4⟩ : ∃ W4, W4 = W3.alloc (.cells #[.pointer (some ⟨z, 0, none⟩), .pointer (some ⟨a, 0, none⟩), .slice (some ⟨g, 0, none⟩) n n, .int .i64 mk] 32) := ⟨_, rfl⟩
  have hb4 : Below W3.heap.size W3 W4 := by rw [hW4]; exact below_new _ _
  have hr4 : Lrow W4 q 32 [.pointer (some ⟨z, 0, none⟩), .pointer (some ⟨a, 0, none⟩), .slice (some ⟨g, 0, none⟩) n n, .int .i64 mk] := by rw [hW4, hq]; exact Lrow.new W3 _ _
  have HD : Hid (RmX w.heap.size W4 ⟨q, z, x, y, h, a, b⟩ (.slice (some ⟨g, 0, none⟩) n n) n mk (nwM n) ∧ (∃ k, (Value.slice (some ⟨g, 0, none⟩) n n).ownBlock = some k ∧ w.heap.size ≤ k) ∧ Below w.heap.size w W4) := by
    obtain ⟨hb1, hX1, lz, lx, ly, lh⟩ := HB1.out
    obtain ⟨hr2, hb2, hs2⟩ := HB2.out
    obtain ⟨ha, hbb⟩ := HA.out
    have z1 := hb1.size
    have z2 := hb2.size
    have z3 := hb3.size
    have hb24 : Below w2.heap.size w2 W4 := hb3.trans (hb4.mono z3)
    have hb14 : Below w1.heap.size w1 W4 := hb2.trans (hb24.mono z2)
    have hown : EI.Own w.heap.size W4 (.slice (some ⟨g, 0, none⟩) n n) (List.replicate n 0) := by
      have hh := (hr3.call hb4)
      rw [← List.append_nil ((List.replicate n (0 : Int)).map (Value.int .i64))] at hh
      have := EI_of (B := w.heap.size) (c := n) hh (by omega) (by rw [List.length_replicate]; exact Nat.le_refl _) (by have := HN.out.2; unfold maxLen; omega) (by simp)
      rw [List.length_replicate] at this
      exact this
    have hlh := hX1.lt.2
    refine ⟨⟨hr4, hX1.call hb14, hr2.below hb24 ?_ ?_, hown, ?_, show w.heap.size ≤ q by omega, lz, lx, ly, lh, show w.heap.size ≤ a by omega, show w.heap.size ≤ b by omega⟩, ⟨g, by simp [Value.ownBlock], by omega⟩, hb1.trans (hb14.mono z1)⟩
    · exact hr2.top.lt
    · exact hr2.row.lt
    · simp [Value.ownBlock]; omega
  have HW := Lib.hid (And.intro hW4 hq)
  clear hR hr2 hb2 hs2 hr3 hb3 hb4 hr4 hW4 hq hg hW3
  go_wp2_with fail
  go_ret2
  rw [← HW.out.1, ← HW.out.2]
  exact ⟨⟨q, z, x, y, h, a, b⟩, _, rfl, HD.out.1, HD.out.2.1, HD.out.2.2⟩
end
end Go.Proofs.YtklhcgekagimkaaGreat
