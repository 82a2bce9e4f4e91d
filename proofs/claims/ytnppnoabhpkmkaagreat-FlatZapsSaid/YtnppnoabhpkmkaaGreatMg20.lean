/- The program's spaces: objects that no area is of any more; OUnmap. -/
import Derived.Test.YtnppnoabhpkmkaaGreatMg19
namespace Go.Proofs.YtnppnoabhpkmkaaGreat
open Go.RowKit
def ofO (p : Int) (x : Ar) : Bool := decide (shr x.h) && decide (x.o = p)
section
variable {w w' : World} {B bx : Nat} {T : PfT} {F F' : Fl} {s s' : PsB} {S S' : Sp} {j : Nat} {a n : Int}
theorem d11_is {bk : Nat} {q : Int} (W : World) (hk : Lrow W bk 3 [.int .i64 q]) : Asks 97 #[.pointer (some ⟨bk, 0, none⟩)] (ofO q) W := by
  intro f t k p o z
  have ho := fun w => fobj_is k w
  show Calls Tryz.prog 97 #[.agg #[.int .i64 f, .int .i64 t, .int .i64 k, .int .i64 p, .int .i64 o, .int .i64 z], .pointer (some ⟨bk, 0, none⟩)] W fun e w' => e = .returned (.bool (decide (shr k) && decide (o = q))) ∧ Below W.heap.size W w'
  obtain ⟨W1, hW1⟩ : ∃ W1, W1 = W.alloc (.cells #[.int .i64 f, .int .i64 t, .int .i64 k, .int .i64 p, .int .i64 o, .int .i64 z] 93) := ⟨_, rfl⟩
  obtain ⟨b, hb⟩ : ∃ b, b = W.heap.size := ⟨_, rfl⟩
  have hb1 : Below W.heap.size W W1 := by rw [hW1]; exact below_new _ _
  have hr1 : Lrow W1 b 93 [.int .i64 f, .int .i64 t, .int .i64 k, .int .i64 p, .int .i64 o, .int .i64 z] := by rw [hW1, hb]; exact Lrow.new W _ [.int .i64 f, .int .i64 t, .int .i64 k, .int .i64 p, .int .i64 o, .int .i64 z]
  have c2 := hr1.cell 2
  have c4 := hr1.cell 4
  have k0 := (hk.call hb1).cell 0
  have HW := Lib.hid (And.intro hW1 hb)
  have HB := Lib.hid hb1
  obtain ⟨d, hd⟩ : ∃ d, d = decide (shr k) := ⟨_, rfl⟩
  rw [← hd] at ho ⊢
  clear hW1 hb hb1 hr1 hd hk
  go_enter Tryz.func97, Tryz.ntmps97
  go_upto_region 1 with (fail)
  rw [← HW.out.1, ← HW.out.2]
  cases d
  · go_wp2_with (go_at_call 52; refine (ho _).mono ?_; rintro e w1 ⟨rfl, rfl⟩)
    go_ret
    exact ⟨rfl, HB.out⟩
  · by_cases e0 : o = q
    · subst e0
      go_wp2_with (go_at_call 52; refine (ho _).mono ?_; rintro e w1 ⟨rfl, rfl⟩)
      go_ret
      exact ⟨ret_bool (by simp), HB.out⟩
    · have e1 : (o == q) = false := by simpa using e0
      go_wp2_with (go_at_call 52; refine (ho _).mono ?_; rintro e w1 ⟨rfl, rfl⟩)
      go_ret
      exact ⟨ret_bool (by simp [e0]), HB.out⟩
theorem d1_is {bl m c : Nat} {A : Option Addr} {l : List Ar} (hm : m = l.length) (hl : m ≤ 4096) (hb : Lrow w bl 60 [.slice A m c]) (hls : LsD w.heap.size w A l) (q : Int) (v : Value) :
    Calls Tryz.prog 95 #[.int .i64 q, v, .pointer (some ⟨bl, 0, none⟩)] w fun e w' => e = .returned (.bool (!l.any (ofO q))) ∧ w.grownBy w' none := by
  obtain ⟨W1, hW1⟩ : ∃ W1, W1 = w.alloc (.cells #[.int .i64 q] 3) := ⟨_, rfl⟩
  obtain ⟨b, hbb⟩ : ∃ b, b = w.heap.size := ⟨_, rfl⟩
  have hb1 : Below w.heap.size w W1 := by rw [hW1]; exact below_new _ _
  have hr1 : Lrow W1 b 3 [.int .i64 q] := by rw [hW1, hbb]; exact Lrow.new w _ [.int .i64 q]
  have hcn := contains_any (c := c) (pr := ofO q) (cb := #[.pointer (some ⟨b, 0, none⟩)]) (hls.below hb1) hb1.size (by omega) (g := 97) (fun args w => by kernel_rfl) (fun W h => d11_is W (hr1.call h))
  rw [← hm] at hcn
  have c0 : W1.cell? ⟨bl, 0, none⟩ = some (.slice A m c) := (hb.call hb1).cell 0
  have HW := Lib.hid (And.intro hW1 hbb)
  have HB := Lib.hid hb1
  have hmf : ∀ (fn : Fn) (first cap : Array Value) (w : World), (Instr.makeFunc fn first cap).run Tryz.prog w = .ok (.func fn first cap) w := fun _ _ _ _ => rfl
  generalize l.any (ofO q) = r at *
  clear hm hl hb hls hW1 hbb hb1 hr1
  go_enter Tryz.func95, Tryz.ntmps95
  go_upto_region 1 with (fail)
  rw [← HW.out.1, ← HW.out.2]
  go_wp2_with fail
  refine hcn.mono ?_
  rintro e w2 ⟨rfl, hb2⟩
  go_wp2_with fail
  go_ret
  exact ⟨rfl, grown_none (HB.out.trans (hb2.mono HB.out.size))⟩
theorem drop_f {sb ab ob mb n c : Nat} {A : Option Addr} {l : List Ar} {P : Int → Pg} {M : Int → Option Value} (hr : Lrow w sb 90 [.pointer (some ⟨ab, 0, none⟩), .map (some mb), .map (some ob)]) (hx : AtX B w ab A c l P) (ho : TN.At w ob n M) :
    Calls Tryz.prog 69 #[.pointer (some ⟨sb, 0, none⟩)] w fun e w' => e = .returned (.tuple #[]) ∧ w.grownBy w' (some ob) ∧ TN.At w' ob n (fun p => if (!l.any (ofO p)) = true then none else M p) := by
  have ha := all_pr hx
  have hl4 := hx.len
  have t0 := hr.cell 0
  have HR := Lib.hid hr
  have HO := Lib.hid ho
  obtain ⟨m, hm⟩ : ∃ m, m = l.length := ⟨_, rfl⟩
  unfold ToldL at ha
  rw [← hm] at ha hl4
  have HM := Lib.hid hm
  have hmf : ∀ (fn : Fn) (first cap : Array Value) (w : World), (Instr.makeFunc fn first cap).run Tryz.prog w = .ok (.func fn first cap) w := fun _ _ _ _ => rfl
  clear hr hx ho hm
  go_enter Tryz.func69, Tryz.ntmps69
  go_wp2_with fail
  refine ha.mono ?_
  rintro e w1 ⟨A1, c1, rfl, ho1, hb1⟩
  obtain ⟨W2, hW2⟩ : ∃ W2, W2 = w1.alloc (.cells #[.slice A1 m c1] 60) := ⟨_, rfl⟩
  obtain ⟨b, hbb⟩ : ∃ b, b = w1.heap.size := ⟨_, rfl⟩
  have hb2 : Below w1.heap.size w1 W2 := by rw [hW2]; exact below_new _ _
  have hr2 : Lrow W2 b 60 [.slice A1 m c1] := by rw [hW2, hbb]; exact Lrow.new w1 _ [.slice A1 m c1]
  have ho2 := (HO.out.call hb1).call hb2
  have hs2 := ho1.call hb2
  have t2 : W2.cell? ⟨sb, 2, none⟩ = some (.map (some ob)) := ((HR.out.call hb1).call hb2).cell 2
  have hdl := deleteN (g := 95) (cb := #[.pointer (some ⟨b, 0, none⟩)]) ho2 (fun p => !l.any (ofO p)) (fun args w => by kernel_rfl) (fun W x v hg _ _ => by
    have e1 := hr2.grown hg (by intro e; injection e with e; exact ho2.apart hr2 e)
    have e2 := hs2.heap (w' := W) (fun g e => by
      obtain ⟨vs, r, _⟩ := hs2.block e
      exact hg.block g r.lt (by intro e; injection e with e; exact ho2.apart r e))
    rw [HM.out] at e2
    exact d1_is HM.out hl4 e1 (LsD.of e2 (Nat.le_refl _)) x v)
  have HB := Lib.hid (hb1.trans (hb2.mono hb1.size))
  have HW := Lib.hid (And.intro hW2 hbb)
  clear ha hW2 hbb hb2 hr2 ho2 hs2 ho1 hb1 t0 hl4
  go_upto_region 1 with (fail)
  rw [← HW.out.1, ← HW.out.2]
  go_wp2_with fail
  refine hdl.mono ?_
  rintro e w3 ⟨rfl, hm3, hg3⟩
  clear hdl
  go_wp2
  go_end0
  exact ⟨rfl, grown_trans1 (bel_grown HB.out _) hg3, hm3⟩
set_option maxRecDepth 100000 in
set_option maxHeartbeats 1000000 in
theorem unmap_no (h : PfAt B w T F) (hs : T.LS[j]? = some (some s)) (ha : Fits a) (hn : Fits n) (k i hw p t c v : Int) (hE0 : unE (sp F j).P a n ≠ 0) :
    Calls Tryz.prog 41 #[.pointer (some ⟨s.sb, 0, none⟩), .agg #[.int .i64 k, .int .i64 i, .int .i64 a, .int .i64 n, .int .i64 hw, .int .i64 p, .int .i64 t, .int .i64 c, .int .u64 v]] w (AnsV B w T (noF F (unE (sp F j).P a n))) := by
  obtain ⟨gS, hp⟩ := h.at_ hs
  have hjF : j < F.L.length := by rw [← h.nl]; exact (List.getElem?_eq_some_iff.1 hs).1
  obtain ⟨W0, hW0⟩ : ∃ W0, W0 = w.alloc (.cells #[.int .i64 k, .int .i64 i, .int .i64 a, .int .i64 n, .int .i64 hw, .int .i64 p, .int .i64 t, .int .i64 c, .int .u64 v] 25) := ⟨_, rfl⟩
  obtain ⟨bo, hbo⟩ : ∃ bo, bo = w.heap.size := ⟨_, rfl⟩
  have hb0 : Below w.heap.size w W0 := by rw [hW0]; exact below_new _ _
  have hr0 : Lrow W0 bo 25 [.int .i64 k, .int .i64 i, .int .i64 a, .int .i64 n, .int .i64 hw, .int .i64 p, .int .i64 t, .int .i64 c, .int .u64 v] := by rw [hW0, hbo]; exact Lrow.new w _ [.int .i64 k, .int .i64 i, .int .i64 a, .int .i64 n, .int .i64 hw, .int .i64 p, .int .i64 t, .int .i64 c, .int .u64 v]
  have hp0 := hp.call hb0
  have HW := Lib.hid (And.intro hW0 hbo)
  have HB := Lib.hid hb0
  have HR := Lib.hid hr0
  have HP := Lib.hid hp0
  have HH := Lib.hid (And.intro h hs)
  have hpr := unmap_pr (hp0.ars.drewN 1) ha hn
  change Calls Tryz.prog _ _ W0.drew _ at hpr
  obtain ⟨E, hE⟩ : ∃ E, E = unE (sp F j).P a n := ⟨_, rfl⟩
  rw [← hE] at hpr hE0 ⊢
  unfold ToldQ at hpr
  rw [if_neg hE0, if_neg hE0, List.length_nil] at hpr
  have HD : Hid (∀ w1, DidA B W0.drew s.ab (sp F j).P w1 → DidV B w T F w1) := fun w1 d => by
    have := h.ars hs (d.pre (hb0.trans ((below_dN (Below.refl _ _) 1).mono hb0.size))) fun i hi => ⟨i, hi, rfl⟩
    rw [put_same hjF] at this
    exact this
  have e0 : (E == 0) = false := by simpa using hE0
  unfold AnsV noF
  clear h hs ha hn hp hjF hW0 hbo hb0 hr0 hp0 hE gS hE0
  go_enter Tryz.func41, Tryz.ntmps41
  go_upto_region 1 with (fail)
  rw [← HW.out.1, ← HW.out.2]
  have hs0 : (fun U : World => U.cell? ⟨s.sb, 0, none⟩ = some (.pointer (some ⟨s.ab, 0, none⟩)) ∧ U.cell? ⟨bo, 2, none⟩ = some (.int .i64 a) ∧ U.cell? ⟨bo, 3, none⟩ = some (.int .i64 n)) W0.drew := ⟨HP.out.top.cell 0, HR.out.cell 2, HR.out.cell 3⟩
  go_wp2_with fail
  go_region_held3 (fun U => U.cell? ⟨s.sb, 0, none⟩ = some (.pointer (some ⟨s.ab, 0, none⟩)) ∧ U.cell? ⟨bo, 2, none⟩ = some (.int .i64 a) ∧ U.cell? ⟨bo, 3, none⟩ = some (.int .i64 n))
    (first | exact hs0 | exact hs9)
    (first | (go_at_call 67; (with_reducible refine hpr.mono ?_); rintro e w1 ⟨A1, c1, rfl, ho1, hd1⟩; have f1 := hd1.2; have r1 := f1.row (HR.out.drewN 1) (HR.out.apart HP.out.ars.top (by decide)); have t1 := f1.row (HP.out.top.drewN 1) (HP.out.top.apart HP.out.ars.top (by decide)); have hs9 : (fun U : World => U.cell? ⟨s.sb, 0, none⟩ = some (.pointer (some ⟨s.ab, 0, none⟩)) ∧ U.cell? ⟨bo, 2, none⟩ = some (.int .i64 a) ∧ U.cell? ⟨bo, 3, none⟩ = some (.int .i64 n)) w1 := ⟨t1.cell 0, r1.cell 2, r1.cell 3⟩) | fail)
  clear hs0 hs9 r1 t1 f1 ho1
  go_wp2_with fail
  go_ret2
  exact ⟨rfl, HD.out w1 hd1⟩
set_option maxRecDepth 100000 in
set_option maxHeartbeats 1000000 in
theorem unmap_ok (h : PfAt B w T F) (hs : T.LS[j]? = some (some s)) (ha : Fits a) (hn : Fits n) (k i hw p t c v : Int) (hE0 : unE (sp F j).P a n = 0) :
    Calls Tryz.prog 41 #[.pointer (some ⟨s.sb, 0, none⟩), .agg #[.int .i64 k, .int .i64 i, .int .i64 a, .int .i64 n, .int .i64 hw, .int .i64 p, .int .i64 t, .int .i64 c, .int .u64 v]] w (AnsV B w T (0, 0, put F j { sp F j with P := unP (sp F j).P a n, W := clr (sp F j).W a n })) := by
  obtain ⟨gS, hp⟩ := h.at_ hs
  have hjF : j < F.L.length := by rw [← h.nl]; exact (List.getElem?_eq_some_iff.1 hs).1
  obtain ⟨W0, hW0⟩ : ∃ W0, W0 = w.alloc (.cells #[.int .i64 k, .int .i64 i, .int .i64 a, .int .i64 n, .int .i64 hw, .int .i64 p, .int .i64 t, .int .i64 c, .int .u64 v] 25) := ⟨_, rfl⟩
  obtain ⟨bo, hbo⟩ : ∃ bo, bo = w.heap.size := ⟨_, rfl⟩
  have hb0 : Below w.heap.size w W0 := by rw [hW0]; exact below_new _ _
  have hr0 : Lrow W0 bo 25 [.int .i64 k, .int .i64 i, .int .i64 a, .int .i64 n, .int .i64 hw, .int .i64 p, .int .i64 t, .int .i64 c, .int .u64 v] := by rw [hW0, hbo]; exact Lrow.new w _ [.int .i64 k, .int .i64 i, .int .i64 a, .int .i64 n, .int .i64 hw, .int .i64 p, .int .i64 t, .int .i64 c, .int .u64 v]
  have hp0 := hp.call hb0
  have HW := Lib.hid (And.intro hW0 hbo)
  have HB := Lib.hid hb0
  have HR := Lib.hid hr0
  have HP := Lib.hid hp0
  have HH := Lib.hid (And.intro h hs)
  have hpr := unmap_pr (hp0.ars.drewN 1) ha hn
  change Calls Tryz.prog _ _ W0.drew _ at hpr
  rw [hE0] at hpr
  unfold ToldQ at hpr
  rw [if_pos rfl, if_pos rfl] at hpr
  generalize pcs (sp F j).P a n.toNat = ll at hpr
  generalize ll.length = ln at hpr
  have HZ : Hid ((0 : Int) ≤ a ∧ (0 : Int) ≤ n ∧ a + n ≤ 4096) := by
    have hR : rtI a n 0 = 0 := by
      unfold unE at hE0
      by_cases c0 : rtI a n 0 ≠ 0
      · rw [if_pos c0] at hE0; exact hE0
      · exact Classical.byContradiction c0
    obtain ⟨z1, z2, z3⟩ := rt_in hR
    exact ⟨by omega, by omega, z3⟩
  have hmo := (h.dM j s hs).1
  have HD : Hid (∀ w1, DidA B W0.drew s.ab (unP (sp F j).P a n) w1 → ∃ A1 c1 l1 M, AtX B w1 s.ab A1 c1 l1 (unP (sp F j).P a n) ∧ Lrow w1 s.sb 90 [.pointer (some ⟨s.ab, 0, none⟩), .map (some s.mb), .map (some s.ob)] ∧ MemAt w1 s.mb (sp F j).W ∧ TN.At w1 s.ob T.LO.length M ∧ s.mb ≠ s.ob ∧
      ∀ w2 w3, w1.grownBy w2 (some s.mb) → MemAt w2 s.mb (clr (sp F j).W a n) → w2.grownBy w3 (some s.ob) → TN.At w3 s.ob T.LO.length (fun p => if (!l1.any (ofO p)) = true then none else M p) → DidV B w T (put F j { sp F j with P := unP (sp F j).P a n, W := clr (sp F j).W a n }) w3) := fun w1 d => by
    have d2 := d.pre (hb0.trans ((below_dN (Below.refl _ _) 1).mono hb0.size))
    obtain ⟨A1, c1, l1, h1, h2, h3, h4, M, h5, h6, h7⟩ := hp.areas d2
    refine ⟨A1, c1, l1, M, h1, h3, h4, h5, hmo, fun w2 w3 g2 m2 g3 m3 => ?_⟩
    have k2 : ∀ k, k < w1.heap.size → k ≠ s.mb → w2.heap[k]? = w1.heap[k]? := fun k hk hne => g2.block k hk (by intro e; injection e with e; exact hne e)
    have k3 : ∀ k, k < w2.heap.size → k ≠ s.ob → w3.heap[k]? = w2.heap[k]? := fun k hk hne => g3.block k hk (by intro e; injection e with e; exact hne e)
    have k13 : ∀ k, k < w1.heap.size → k ≠ s.mb → k ≠ s.ob → w3.heap[k]? = w1.heap[k]? := fun k hk n1 n2 => (k3 k (Nat.lt_of_lt_of_le hk g2.size) n2).trans (k2 k hk n1)
    have hsz : w1.heap.size ≤ w3.heap.size := Nat.le_trans g2.size g3.size
    refine h.turn0 (s' := { s with A := A1, c := c1, l := l1 }) hs rfl rfl rfl rfl ?_ ⟨(k13 _ h3.lt (h4.apart h3) (h5.apart h3)).trans h3, h1.keep hsz (k13 _ h1.top.lt (h4.apart h1.top) (h5.apart h1.top)) (fun k vs r => k13 k r.lt (h4.apart r) (h5.apart r)), m2.heap (k3 _ m2.lt hmo), ?_, hp.lo⟩ gS
    · exact (h2.trans (Foot.grown (X := fun k => k = s.ab ∨ k = s.mb ∨ k = s.ob) g2 (Or.inr (Or.inl rfl))) fun _ e _ => e).trans (Foot.grown (X := fun k => k = s.ab ∨ k = s.mb ∨ k = s.ob) g3 (Or.inr (Or.inr rfl))) fun _ e _ => e
    · refine ⟨_, m3, fun i hi hm => ?_, fun i hi => ?_⟩
      · by_cases c0 : (!l1.any (ofO i)) = true
        · rw [if_pos c0] at hm; exact absurd rfl hm
        · rw [if_neg c0] at hm ⊢
          exact h6 i hi hm
      · have hi : shr (unP (sp F j).P a n i).h := hi
        show (if _ then _ else _) ≠ none
        have hnz : pgs l1 i ≠ zP := fun e => by
          rw [h1.wh.pg] at e
          rw [e] at hi
          exact not_shr0 hi
        obtain ⟨x, hx, x1, x2, x3⟩ := pg_mem hnz
        rw [h1.wh.pg] at x3
        have hpi : unP (sp F j).P a n i = (sp F j).P i := by
          unfold unP at hi ⊢
          by_cases c0 : inS a n i
          · rw [if_pos c0] at hi; exact absurd hi not_shr0
          · rw [if_neg c0]
        rw [if_neg]
        · show M (unP (sp F j).P a n i).o ≠ none
          rw [hpi] at hi ⊢
          exact h7 i hi
        · simp only [Bool.not_eq_true', Bool.not_eq_false]
          show l1.any (ofO (unP (sp F j).P a n i).o) = true
          rw [List.any_eq_true]
          refine ⟨x, hx, ?_⟩
          unfold ofO
          rw [x3] at hi ⊢
          simp only [Bool.and_eq_true, decide_eq_true_eq]
          exact ⟨hi, rfl⟩
  unfold AnsV
  clear h hs ha hn hp hjF hW0 hbo hb0 hr0 hp0 gS hE0 hmo
  go_enter Tryz.func41, Tryz.ntmps41
  go_upto_region 1 with (fail)
  rw [← HW.out.1, ← HW.out.2]
  have hs0 : (fun U : World => U.cell? ⟨s.sb, 0, none⟩ = some (.pointer (some ⟨s.ab, 0, none⟩)) ∧ U.cell? ⟨bo, 2, none⟩ = some (.int .i64 a) ∧ U.cell? ⟨bo, 3, none⟩ = some (.int .i64 n)) W0.drew := ⟨HP.out.top.cell 0, HR.out.cell 2, HR.out.cell 3⟩
  go_wp2_with fail
  go_region_held3 (fun U => U.cell? ⟨s.sb, 0, none⟩ = some (.pointer (some ⟨s.ab, 0, none⟩)) ∧ U.cell? ⟨bo, 2, none⟩ = some (.int .i64 a) ∧ U.cell? ⟨bo, 3, none⟩ = some (.int .i64 n))
    (first | exact hs0 | exact hs9)
    (first | (go_at_call 67; (with_reducible refine hpr.mono ?_); rintro e w1 ⟨A1, c1, rfl, ho1, hd1⟩; have f1 := hd1.2; have r1 := f1.row (HR.out.drewN 1) (HR.out.apart HP.out.ars.top (by decide)); have t1 := f1.row (HP.out.top.drewN 1) (HP.out.top.apart HP.out.ars.top (by decide)); have hs9 : (fun U : World => U.cell? ⟨s.sb, 0, none⟩ = some (.pointer (some ⟨s.ab, 0, none⟩)) ∧ U.cell? ⟨bo, 2, none⟩ = some (.int .i64 a) ∧ U.cell? ⟨bo, 3, none⟩ = some (.int .i64 n)) w1 := ⟨t1.cell 0, r1.cell 2, r1.cell 3⟩) | fail)
  obtain ⟨A2, c2, l2, M, h1, h3, h4, h5, h6, h7⟩ := HD.out w1 hd1
  have hfo := forget_f h3 h4 HZ.out.1 HZ.out.2.1 HZ.out.2.2
  have o2 : w1.cell? ⟨bo, 2, none⟩ = some (.int .i64 a) := r1.cell 2
  have o3 : w1.cell? ⟨bo, 3, none⟩ = some (.int .i64 n) := r1.cell 3
  have H1 := Lib.hid h1
  have H3 := Lib.hid h3
  have H4 := Lib.hid h4
  have H5 := Lib.hid h5
  have H6 := Lib.hid h6
  have H7 := Lib.hid h7
  clear hs0 hs9 r1 t1 f1 ho1 hd1 h1 h3 h4 h5 h6 h7 hpr
  go_wp2_with fail
  refine hfo.mono ?_
  rintro e w2 ⟨rfl, g2, m2⟩
  have k2 : ∀ k, k < w1.heap.size → k ≠ s.mb → w2.heap[k]? = w1.heap[k]? := fun k hk hne => g2.block k hk (by intro e; injection e with e; exact hne e)
  have r2 : Lrow w2 s.sb 90 [.pointer (some ⟨s.ab, 0, none⟩), .map (some s.mb), .map (some s.ob)] := (k2 _ H3.out.lt (H4.out.apart H3.out)).trans H3.out
  have x2 := H1.out.keep g2.size (k2 _ H1.out.top.lt (H4.out.apart H1.out.top)) (fun k vs r => k2 k r.lt (H4.out.apart r))
  have n2 := H5.out.heap (k2 _ H5.out.lt fun e => H6.out e.symm)
  have hdr := drop_f r2 x2 n2
  have HG := Lib.hid (And.intro g2 m2)
  clear hfo g2 m2 k2 r2 x2 n2 o2 o3
  go_wp2_with fail
  refine hdr.mono ?_
  rintro e w3 ⟨rfl, g3, m3⟩
  clear hdr
  go_wp2_with fail
  go_ret2
  exact ⟨rfl, H7.out w2 w3 HG.out.1 HG.out.2 g3 m3⟩
end
end Go.Proofs.YtnppnoabhpkmkaaGreat
/- The program's spaces: OMove. -/
namespace Go.Proofs.YtnppnoabhpkmkaaGreat
open Go.RowKit
/-- The words behind the first i pages' move, the old ones still there. -/
def mvK (W : Int → Int) (a t : Int) (i : Nat) : Int → Int := fun x => if t * 8 ≤ x ∧ x < (t + i) * 8 then W (x - t * 8 + a * 8) else W x
theorem g8_zero_of {W : Int → Int} {p : Int} (h : g8 W p = z8) {i : Int} (h1 : p * 8 ≤ i) (h2 : i < p * 8 + 8) : W i = 0 := by
  unfold g8 z8 at h
  injection h with h
  simp only [Array.mk.injEq, List.cons.injEq, Value.int.injEq, true_and, and_true] at h
  obtain ⟨e0, e1, e2, e3, e4, e5, e6, e7⟩ := h
  rcases (show i = p * 8 ∨ i = p * 8 + 1 ∨ i = p * 8 + 2 ∨ i = p * 8 + 3 ∨ i = p * 8 + 4 ∨ i = p * 8 + 5 ∨ i = p * 8 + 6 ∨ i = p * 8 + 7 by omega) with rfl | rfl | rfl | rfl | rfl | rfl | rfl | rfl <;> assumption
theorem MemAt.look2 {w : World} {b : Nat} {W : Int → Int} (h : MemAt w b W) {p : Int} (h0 : 0 ≤ p) (h1 : p < 4096) : ∃ r, (∀ w' : World, w'.heap[b]? = w.heap[b]? → (Instr.lookup 76 (.map (some b)) (.int .i64 p) true).run Tryz.prog w' = .ok (.tuple #[g8 W p, .bool r]) w') ∧ (r = false → ∀ i, p * 8 ≤ i → i < p * 8 + 8 → W i = 0) := by
  obtain ⟨M, k1, k2⟩ := h
  have h3 := (k2 p (fitM_page h0 h1)).2 h0 h1
  refine ⟨(M p).isSome, fun w' hk => ?_, fun hr i hi1 hi2 => ?_⟩
  · have h2 := (k1.heap hk).look (fitM_page h0 h1) true
    rw [if_pos rfl] at h2
    exact h2.trans (by rw [show (M p).getD TM.z = (M p).getD z8 from rfl, h3])
  cases e : M p with
  | none => rw [e] at h3; exact g8_zero_of h3.symm hi1 hi2
  | some v => rw [e] at hr; cases hr
theorem mvE_far {P : Int → Pg} {a n t : Int} (e : mvE P a n t = 0) : ¬ (t < a + n ∧ a < t + n) ∧ usedB P t n.toNat = false := by
  obtain ⟨e1, e2⟩ := mvE_ok e
  unfold mvE at e
  rw [if_neg (by simpa using e1), if_neg (by simpa using e2)] at e
  by_cases c1 : t < a + n ∧ a < t + n
  · rw [if_pos c1] at e; cases e
  · rw [if_neg c1] at e
    refine ⟨c1, ?_⟩
    by_cases c2 : covB P a n.toNat = false
    · rw [if_pos c2] at e; cases e
    · rw [if_neg c2] at e
      by_cases c3 : hugeB P a n.toNat = true
      · rw [if_pos c3] at e; cases e
      · rw [if_neg c3] at e
        cases c4 : usedB P t n.toNat with
        | false => rfl
        | true => rw [if_pos c4] at e; cases e
section
variable {w w' : World} {B bx : Nat} {T : PfT} {F F' : Fl} {s s' : PsB} {S S' : Sp} {j : Nat} {a n t : Int}
set_option maxRecDepth 100000 in
set_option maxHeartbeats 1000000 in
theorem move_no (h : PfAt B w T F) (hs : T.LS[j]? = some (some s)) (ha : Fits a) (hn : Fits n) (htt : Fits t) (k i hw p c v : Int) (hE0 : mvE (sp F j).P a n t ≠ 0) :
    Calls Tryz.prog 44 #[.pointer (some ⟨s.sb, 0, none⟩), .agg #[.int .i64 k, .int .i64 i, .int .i64 a, .int .i64 n, .int .i64 hw, .int .i64 p, .int .i64 t, .int .i64 c, .int .u64 v]] w (AnsV B w T (noF F (mvE (sp F j).P a n t))) := by
  obtain ⟨gS, hp⟩ := h.at_ hs
  have hjF : j < F.L.length := by rw [← h.nl]; exact (List.getElem?_eq_some_iff.1 hs).1
  obtain ⟨W0, hW0⟩ : ∃ W0, W0 = w.alloc (.cells #[.int .i64 k, .int .i64 i, .int .i64 a, .int .i64 n, .int .i64 hw, .int .i64 p, .int .i64 t, .int .i64 c, .int .u64 v] 25) := ⟨_, rfl⟩
  obtain ⟨bo, hbo⟩ : ∃ bo, bo = w.heap.size := ⟨_, rfl⟩
  have hb0 : Below w.heap.size w W0 := by rw [hW0]; exact below_new _ _
  have hr0 : Lrow W0 bo 25 [.int .i64 k, .int .i64 i, .int .i64 a, .int .i64 n, .int .i64 hw, .int .i64 p, .int .i64 t, .int .i64 c, .int .u64 v] := by rw [hW0, hbo]; exact Lrow.new w _ [.int .i64 k, .int .i64 i, .int .i64 a, .int .i64 n, .int .i64 hw, .int .i64 p, .int .i64 t, .int .i64 c, .int .u64 v]
  have hp0 := hp.call hb0
  have HW := Lib.hid (And.intro hW0 hbo)
  have HB := Lib.hid hb0
  have HR := Lib.hid hr0
  have HP := Lib.hid hp0
  have HH := Lib.hid (And.intro h hs)
  have hpr := move_pr (hp0.ars.drewN 1) ha hn htt
  change Calls Tryz.prog _ _ W0.drew _ at hpr
  obtain ⟨E, hE⟩ : ∃ E, E = mvE (sp F j).P a n t := ⟨_, rfl⟩
  rw [← hE] at hpr hE0 ⊢
  unfold ToldQ at hpr
  rw [if_neg hE0, if_neg hE0, List.length_nil] at hpr
  have HD : Hid (∀ w1, DidA B W0.drew s.ab (sp F j).P w1 → DidV B w T F w1) := fun w1 d => by
    have := h.ars hs (d.pre (hb0.trans ((below_dN (Below.refl _ _) 1).mono hb0.size))) fun i hi => ⟨i, hi, rfl⟩
    rw [put_same hjF] at this
    exact this
  have e0 : (E == 0) = false := by simpa using hE0
  unfold AnsV noF
  clear h hs ha hn htt hp hjF hW0 hbo hb0 hr0 hp0 hE gS hE0
  go_enter Tryz.func44, Tryz.ntmps44
  go_upto_region 1 with (fail)
  rw [← HW.out.1, ← HW.out.2]
  have hs0 : (fun U : World => U.cell? ⟨s.sb, 0, none⟩ = some (.pointer (some ⟨s.ab, 0, none⟩)) ∧ U.cell? ⟨bo, 2, none⟩ = some (.int .i64 a) ∧ U.cell? ⟨bo, 3, none⟩ = some (.int .i64 n) ∧ U.cell? ⟨bo, 6, none⟩ = some (.int .i64 t)) W0.drew := ⟨HP.out.top.cell 0, HR.out.cell 2, HR.out.cell 3, HR.out.cell 6⟩
  go_wp2_with fail
  go_region_held3 (fun U => U.cell? ⟨s.sb, 0, none⟩ = some (.pointer (some ⟨s.ab, 0, none⟩)) ∧ U.cell? ⟨bo, 2, none⟩ = some (.int .i64 a) ∧ U.cell? ⟨bo, 3, none⟩ = some (.int .i64 n) ∧ U.cell? ⟨bo, 6, none⟩ = some (.int .i64 t))
    (first | exact hs0 | exact hs9)
    (first | (go_at_call 74; (with_reducible refine hpr.mono ?_); rintro e w1 ⟨A1, c1, rfl, ho1, hd1⟩; have f1 := hd1.2; have r1 := f1.row (HR.out.drewN 1) (HR.out.apart HP.out.ars.top (by decide)); have t1 := f1.row (HP.out.top.drewN 1) (HP.out.top.apart HP.out.ars.top (by decide)); have hs9 : (fun U : World => U.cell? ⟨s.sb, 0, none⟩ = some (.pointer (some ⟨s.ab, 0, none⟩)) ∧ U.cell? ⟨bo, 2, none⟩ = some (.int .i64 a) ∧ U.cell? ⟨bo, 3, none⟩ = some (.int .i64 n) ∧ U.cell? ⟨bo, 6, none⟩ = some (.int .i64 t)) w1 := ⟨t1.cell 0, r1.cell 2, r1.cell 3, r1.cell 6⟩) | fail)
  clear hs0 hs9 r1 t1 f1 ho1
  go_wp2_with fail
  go_ret2
  exact ⟨rfl, HD.out w1 hd1⟩
set_option maxRecDepth 100000 in
set_option maxHeartbeats 1000000 in
theorem move_ok (h : PfAt B w T F) (hs : T.LS[j]? = some (some s)) (ha : Fits a) (hn : Fits n) (htt : Fits t) (k i hw p c v : Int) (ok : FlOk F) (hE0 : mvE (sp F j).P a n t = 0) :
    Calls Tryz.prog 44 #[.pointer (some ⟨s.sb, 0, none⟩), .agg #[.int .i64 k, .int .i64 i, .int .i64 a, .int .i64 n, .int .i64 hw, .int .i64 p, .int .i64 t, .int .i64 c, .int .u64 v]] w (AnsV B w T (0, 0, put F j { sp F j with P := mvP (sp F j).P a n t, W := mvW (sp F j).W a n t })) := by
  obtain ⟨gS, hp⟩ := h.at_ hs
  have hjF : j < F.L.length := by rw [← h.nl]; exact (List.getElem?_eq_some_iff.1 hs).1
  obtain ⟨W0, hW0⟩ : ∃ W0, W0 = w.alloc (.cells #[.int .i64 k, .int .i64 i, .int .i64 a, .int .i64 n, .int .i64 hw, .int .i64 p, .int .i64 t, .int .i64 c, .int .u64 v] 25) := ⟨_, rfl⟩
  obtain ⟨bo, hbo⟩ : ∃ bo, bo = w.heap.size := ⟨_, rfl⟩
  have hb0 : Below w.heap.size w W0 := by rw [hW0]; exact below_new _ _
  have hr0 : Lrow W0 bo 25 [.int .i64 k, .int .i64 i, .int .i64 a, .int .i64 n, .int .i64 hw, .int .i64 p, .int .i64 t, .int .i64 c, .int .u64 v] := by rw [hW0, hbo]; exact Lrow.new w _ [.int .i64 k, .int .i64 i, .int .i64 a, .int .i64 n, .int .i64 hw, .int .i64 p, .int .i64 t, .int .i64 c, .int .u64 v]
  have hp0 := hp.call hb0
  have HW := Lib.hid (And.intro hW0 hbo)
  have HB := Lib.hid hb0
  have HR := Lib.hid hr0
  have HP := Lib.hid hp0
  have HH := Lib.hid (And.intro h hs)
  obtain ⟨y1, y2⟩ := mvE_ok hE0
  obtain ⟨y3, y4⟩ := mvE_far hE0
  obtain ⟨z1, z2, z3⟩ := rt_in y1
  obtain ⟨z4, z5, z6⟩ := rt_in y2
  have hpr := move_pr (hp0.ars.drewN 1) ha hn htt
  change Calls Tryz.prog _ _ W0.drew _ at hpr
  rw [hE0] at hpr
  unfold ToldQ at hpr
  rw [if_pos rfl, if_pos rfl] at hpr
  generalize pcs (sp F j).P a n.toNat = ll at hpr
  generalize ll.length = ln at hpr
  have hmo := (h.dM j s hs).1
  have HU : Hid (∀ x, t * 8 ≤ x → x < (t + n) * 8 → (sp F j).W x = 0) := fun x x1 x2 => by
    by_cases c0 : (sp F j).W x = 0
    · exact c0
    · have := ((ok.sp j).own x c0).2.2.1
      exact absurd (used_no y4 (i := x / 8) ⟨by omega, by omega⟩) this
  have HD : Hid (∀ w1, DidA B W0.drew s.ab (mvP (sp F j).P a n t) w1 → Lrow w1 s.sb 90 [.pointer (some ⟨s.ab, 0, none⟩), .map (some s.mb), .map (some s.ob)] ∧ MemAt w1 s.mb (sp F j).W ∧
      ∀ w3, w1.grownBy w3 (some s.mb) → MemAt w3 s.mb (mvW (sp F j).W a n t) → DidV B w T (put F j { sp F j with P := mvP (sp F j).P a n t, W := mvW (sp F j).W a n t }) w3) := fun w1 d => by
    have d2 := d.pre (hb0.trans ((below_dN (Below.refl _ _) 1).mono hb0.size))
    obtain ⟨A1, c1, l1, h1, h2, h3, h4, h5⟩ := hp.areas d2
    refine ⟨h3, h4, fun w3 g3 m3 => ?_⟩
    have k3 : ∀ k, k < w1.heap.size → k ≠ s.mb → w3.heap[k]? = w1.heap[k]? := fun k hk hne => g3.block k hk (by intro e; injection e with e; exact hne e)
    refine h.turn0 (s' := { s with A := A1, c := c1, l := l1 }) (S' := { sp F j with P := mvP (sp F j).P a n t, W := mvW (sp F j).W a n t }) hs rfl rfl rfl rfl ((h2.trans (Foot.grown (X := fun k => k = s.ab ∨ k = s.mb ∨ k = s.ob) g3 (Or.inr (Or.inl rfl))) fun _ e _ => e)) ⟨(k3 _ h3.lt (h4.apart h3)).trans h3, h1.keep g3.size (k3 _ h1.top.lt (h4.apart h1.top)) (fun k vs r => k3 k r.lt (h4.apart r)), m3, (h5.heap (k3 _ h5.lt fun e => hmo e.symm)).pages fun i hi => ?_, hp.lo⟩ gS
    change shr (mvP (sp F j).P a n t i).h at hi
    show ∃ i', shr ((sp F j).P i').h ∧ ((sp F j).P i').o = (mvP (sp F j).P a n t i).o
    unfold mvP at hi ⊢
    by_cases c1 : inS t n i
    · rw [if_pos c1] at hi ⊢; exact ⟨_, hi, rfl⟩
    · rw [if_neg c1] at hi ⊢
      by_cases c2 : inS a n i
      · rw [if_pos c2] at hi; exact absurd hi not_shr0
      · rw [if_neg c2] at hi ⊢; exact ⟨_, hi, rfl⟩
  have HE : Hid (∀ w3, MemAt w3 s.mb (clr (mvK (sp F j).W a t n.toNat) a n) → MemAt w3 s.mb (mvW (sp F j).W a n t)) := fun w3 m => m.eq fun x _ _ => by
    unfold clr mvK mvW
    by_cases c1 : t * 8 ≤ x ∧ x < (t + n) * 8
    · rw [if_pos c1, if_neg (by omega), if_pos (by omega)]
    · rw [if_neg c1]
      by_cases c2 : a * 8 ≤ x ∧ x < (a + n) * 8
      · rw [if_pos c2, if_pos c2]
      · rw [if_neg c2, if_neg c2, if_neg (by omega)]
  obtain ⟨W, hWW⟩ : ∃ W, W = (sp F j).W := ⟨_, rfl⟩
  rw [← hWW] at HU HE
  have HWW := Lib.hid hWW
  have HZ : Hid ((0 : Int) ≤ a ∧ (0 : Int) ≤ n ∧ a + n ≤ 4096) := ⟨by omega, by omega, z3⟩
  unfold AnsV
  clear h hs ha hn htt hp hjF hW0 hbo hb0 hr0 hp0 gS hE0 hmo ok y1 y2 y4 hWW
  go_enter Tryz.func44, Tryz.ntmps44
  go_upto_region 1 with (fail)
  rw [← HW.out.1, ← HW.out.2]
  have hs0 : (fun U : World => U.cell? ⟨s.sb, 0, none⟩ = some (.pointer (some ⟨s.ab, 0, none⟩)) ∧ U.cell? ⟨bo, 2, none⟩ = some (.int .i64 a) ∧ U.cell? ⟨bo, 3, none⟩ = some (.int .i64 n) ∧ U.cell? ⟨bo, 6, none⟩ = some (.int .i64 t)) W0.drew := ⟨HP.out.top.cell 0, HR.out.cell 2, HR.out.cell 3, HR.out.cell 6⟩
  go_wp2_with fail
  go_region_held3 (fun U => U.cell? ⟨s.sb, 0, none⟩ = some (.pointer (some ⟨s.ab, 0, none⟩)) ∧ U.cell? ⟨bo, 2, none⟩ = some (.int .i64 a) ∧ U.cell? ⟨bo, 3, none⟩ = some (.int .i64 n) ∧ U.cell? ⟨bo, 6, none⟩ = some (.int .i64 t))
    (first | exact hs0 | exact hs9)
    (first | (go_at_call 74; (with_reducible refine hpr.mono ?_); rintro e w1 ⟨A1, c1, rfl, ho1, hd1⟩; have f1 := hd1.2; have r1 := f1.row (HR.out.drewN 1) (HR.out.apart HP.out.ars.top (by decide)); have t1 := f1.row (HP.out.top.drewN 1) (HP.out.top.apart HP.out.ars.top (by decide)); have hs9 : (fun U : World => U.cell? ⟨s.sb, 0, none⟩ = some (.pointer (some ⟨s.ab, 0, none⟩)) ∧ U.cell? ⟨bo, 2, none⟩ = some (.int .i64 a) ∧ U.cell? ⟨bo, 3, none⟩ = some (.int .i64 n) ∧ U.cell? ⟨bo, 6, none⟩ = some (.int .i64 t)) w1 := ⟨t1.cell 0, r1.cell 2, r1.cell 3, r1.cell 6⟩) | fail)
  obtain ⟨h3, h4, h5⟩ := HD.out w1 hd1
  rw [← HWW.out] at h4
  have H3 := Lib.hid h3
  have H4 := Lib.hid h4
  have H5 := Lib.hid h5
  have R1 := Lib.hid r1
  have o3 : w1.cell? ⟨bo, 3, none⟩ = some (.int .i64 n) := r1.cell 3
  clear hs0 hs9 r1 t1 f1 ho1 hd1 h3 h4 h5 hpr
  obtain ⟨a, rfl⟩ : ∃ k : Nat, a = k := ⟨a.toNat, by omega⟩
  obtain ⟨n, rfl⟩ : ∃ k : Nat, n = k := ⟨n.toNat, by omega⟩
  obtain ⟨t, rfl⟩ : ∃ k : Nat, t = k := ⟨t.toNat, by omega⟩
  go_wp2_with fail
  go_loopw [30] (fun v wr => ∃ i : Nat, i ≤ n ∧ v = .int .i64 i ∧ w1.grownBy wr (some s.mb) ∧ MemAt wr s.mb (mvK W a t i)) (fun v _ => n - (RowKit.intOf v).toNat)
  case atStart =>
    exact ⟨0, Nat.zero_le _, rfl, bel_grown (Below.refl _ _) _, H4.out.eq fun x _ _ => if_neg (by omega)⟩
  case round =>
    obtain ⟨i, hin, rfl, hg, hm⟩ := hrel
    by_cases hlt : i < n
    · have r3 := H3.out.grown hg (by intro e; injection e with e; exact H4.out.apart H3.out e)
      have ro := R1.out.grown hg (by intro e; injection e with e; exact H4.out.apart R1.out e)
      have hin' : (i : Int) < n := by omega
      obtain ⟨r, hlk, hz⟩ := hm.look2 (p := (a : Int) + i) (by omega) (by omega)
      have s1 : IntKind.i64.wrap ((a : Int) + i) = (a : Int) + i := IntWalk.i64_in _ (by omega)
      have s2 : IntKind.i64.wrap ((t : Int) + i) = (t : Int) + i := IntWalk.i64_in _ (by omega)
      have x1 : wr.cell? ⟨s.sb, 1, none⟩ = some (.map (some s.mb)) := r3.cell 1
      have x2 : wr.cell? ⟨bo, 2, none⟩ = some (.int .i64 a) := ro.cell 2
      have hbo' : bo < wr.heap.size := ro.lt
      have hsb' : s.sb < wr.heap.size := r3.lt
      have n1 : ¬ bo = wr.heap.size := by omega
      have n2 : ¬ s.sb = wr.heap.size := by omega
      obtain ⟨u0, e0⟩ : ∃ z, z = mvK W a t i (((a : Int) + i) * 8) := ⟨_, rfl⟩
      obtain ⟨u1, e1⟩ : ∃ z, z = mvK W a t i (((a : Int) + i) * 8 + 1) := ⟨_, rfl⟩
      obtain ⟨u2, e2⟩ : ∃ z, z = mvK W a t i (((a : Int) + i) * 8 + 2) := ⟨_, rfl⟩
      obtain ⟨u3, e3⟩ : ∃ z, z = mvK W a t i (((a : Int) + i) * 8 + 3) := ⟨_, rfl⟩
      obtain ⟨u4, e4⟩ : ∃ z, z = mvK W a t i (((a : Int) + i) * 8 + 4) := ⟨_, rfl⟩
      obtain ⟨u5, e5⟩ : ∃ z, z = mvK W a t i (((a : Int) + i) * 8 + 5) := ⟨_, rfl⟩
      obtain ⟨u6, e6⟩ : ∃ z, z = mvK W a t i (((a : Int) + i) * 8 + 6) := ⟨_, rfl⟩
      obtain ⟨u7, e7⟩ : ∃ z, z = mvK W a t i (((a : Int) + i) * 8 + 7) := ⟨_, rfl⟩
      have HGE : Hid (g8 (mvK W a t i) ((a : Int) + i) = .agg #[.int .u64 u0, .int .u64 u1, .int .u64 u2, .int .u64 u3, .int .u64 u4, .int .u64 u5, .int .u64 u6, .int .u64 u7]) := by
        show g8 _ _ = _
        unfold g8
        rw [← e0, ← e1, ← e2, ← e3, ← e4, ← e5, ← e6, ← e7]
      rw [HGE.out] at hlk
      have hl1 := hlk wr.drew rfl
      have hl2 := fun o => hlk (wr.alloc o).drew (Below.heap_alloc wr o s.mb hm.lt)
      obtain ⟨W3, hW3⟩ : ∃ W3, W3 = (wr.alloc (.cells #[.int .u64 u0, .int .u64 u1, .int .u64 u2, .int .u64 u3, .int .u64 u4, .int .u64 u5, .int .u64 u6, .int .u64 u7] 96)).drew := ⟨_, rfl⟩
      obtain ⟨g, hgg⟩ : ∃ g, g = wr.heap.size := ⟨_, rfl⟩
      have hb3 : Below wr.heap.size wr W3 := by rw [hW3]; exact below_dN (below_new _ _) 1
      have rg : Lrow W3 g 96 [.int .u64 u0, .int .u64 u1, .int .u64 u2, .int .u64 u3, .int .u64 u4, .int .u64 u5, .int .u64 u6, .int .u64 u7] := by rw [hW3, hgg]; exact (Lrow.new wr _ [.int .u64 u0, .int .u64 u1, .int .u64 u2, .int .u64 u3, .int .u64 u4, .int .u64 u5, .int .u64 u6, .int .u64 u7]).drewN 1
      have y6 : W3.cell? ⟨bo, 6, none⟩ = some (.int .i64 t) := (ro.call hb3).cell 6
      have y1 : W3.cell? ⟨s.sb, 1, none⟩ = some (.map (some s.mb)) := (r3.call hb3).cell 1
      have hm3 := hm.call hb3
      have HW3 := Lib.hid (And.intro hW3 hgg)
      have HG3 := Lib.hid (grown_trans1 hg (bel_grown hb3 _))
      have HM3 := Lib.hid hm3
      have hput : ∃ w4, (Instr.mapUpdate 76 (.map (some s.mb)) (.int .i64 ((t : Int) + i)) (.agg #[.int .u64 u0, .int .u64 u1, .int .u64 u2, .int .u64 u3, .int .u64 u4, .int .u64 u5, .int .u64 u6, .int .u64 u7])).run Tryz.prog W3.drew = .ok () w4 ∧ W3.grownBy w4 (some s.mb) ∧ MemAt w4 s.mb (mvK W a t (i + 1)) := by
        obtain ⟨w4, q1, q2, q3, q4⟩ := (hm3.heap (w' := W3.drew) rfl).put (p := (t : Int) + i) (W' := mvK W a t (i + 1)) (by omega) (by omega) fun x hx => by
          unfold mvK
          by_cases c1 : (t : Int) * 8 ≤ x ∧ x < ((t : Int) + i) * 8
          · rw [if_pos c1, if_pos (by omega)]
          · rw [if_neg c1, if_neg (by omega)]
        have eg : g8 (mvK W a t (i + 1)) ((t : Int) + i) = .agg #[.int .u64 u0, .int .u64 u1, .int .u64 u2, .int .u64 u3, .int .u64 u4, .int .u64 u5, .int .u64 u6, .int .u64 u7] := by
          rw [← HGE.out]
          refine g8_shift fun q q0 q7 => ?_
          unfold mvK
          rw [if_pos (by omega), if_neg (by omega)]
          congr 1; omega
        rw [eg] at q1
        exact ⟨w4, q1, grown_more (bel_grown (below_dN (Below.refl _ _) 1) _) q2 fun r e => Or.inl (by injection e with e; exact e.symm), q4⟩
      have HEQ : Hid (r = false → MemAt W3 s.mb (mvK W a t (i + 1))) := fun hr => hm3.eq fun x _ _ => by
        unfold mvK
        by_cases c1 : (t : Int) * 8 ≤ x ∧ x < ((t : Int) + i) * 8
        · rw [if_pos c1, if_pos (by omega)]
        · rw [if_neg c1]
          by_cases c2 : (t : Int) * 8 ≤ x ∧ x < ((t : Int) + (i + 1 : Nat)) * 8
          · rw [if_pos c2, HU.out x (by omega) (by omega)]
            have := hz hr (x - t * 8 + a * 8) (by omega) (by omega)
            unfold mvK at this
            rw [if_neg (by omega)] at this
            exact this
          · rw [if_neg c2]
      have c0 := rg.cell 0
      have c1 := rg.cell 1
      have c2 := rg.cell 2
      have c3 := rg.cell 3
      have c4 := rg.cell 4
      have c5 := rg.cell 5
      have c6 := rg.cell 6
      have c7 := rg.cell 7
      have HIN := Lib.hid hin
      clear hg hm r3 ro e0 e1 e2 e3 e4 e5 e6 e7 hW3 hgg hb3 rg hm3 hz hin hlk
      cases r
      · clear hput y6 y1
        go_wp2_with fail
        go_region
        rw [← HW3.out.1, ← HW3.out.2]
        go_wp2_with fail
        go_roundw
        case rel => exact ⟨i + 1, by omega, by go_num, HG3.out, HEQ.out (by trivial)⟩
        case measure => simp [RowKit.intOf]; omega
      · obtain ⟨w4, q1, q2, q3⟩ := hput
        have HQ := Lib.hid (And.intro (grown_trans1 HG3.out q2) q3)
        clear q2 q3
        go_wp2_with fail
        go_region
        rw [← HW3.out.1, ← HW3.out.2]
        clear x1 x2 n1 n2 hbo' hsb' hl1 hl2
        go_wp2_with fail
        go_region
        go_wp2_with fail
        go_roundw
        case rel => exact ⟨i + 1, by omega, by go_num, HQ.out.1, HQ.out.2⟩
        case measure => simp [RowKit.intOf]; omega
    · obtain rfl : i = n := by omega
      have r3 := H3.out.grown hg (by intro e; injection e with e; exact H4.out.apart H3.out e)
      have ro := R1.out.grown hg (by intro e; injection e with e; exact H4.out.apart R1.out e)
      have hfo := forget_f r3 hm HZ.out.1 HZ.out.2.1 HZ.out.2.2
      have o2 : wr.cell? ⟨bo, 2, none⟩ = some (.int .i64 a) := ro.cell 2
      have o3' : wr.cell? ⟨bo, 3, none⟩ = some (.int .i64 i) := ro.cell 3
      have HG := Lib.hid hg
      clear r3 ro hm hg hlt
      go_wp2_with fail
      refine hfo.mono ?_
      rintro e w3 ⟨rfl, g3, m3⟩
      have HF := Lib.hid (And.intro (grown_trans1 HG.out g3) m3)
      clear hfo o2 o3' g3 m3
      go_wp2_with fail
      go_ret2
      refine ⟨rfl, H5.out w3 HF.out.1 ?_⟩
      rw [← HWW.out]
      exact HE.out w3 (by rw [Int.toNat_natCast]; exact HF.out.2)
end
end Go.Proofs.YtnppnoabhpkmkaaGreat
