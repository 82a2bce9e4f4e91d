/- The program's object: wrong, top, New, Put, Cut. -/
import Derived.Test.YtekfkglielmfaaaTgK
namespace Go.Proofs.Ytekfkglielmfaaa
open Go.RowKit
/-- The object: its struct in block x, what stands in its tree. -/
def PrT (B : Nat) (w : World) (x : Nat) (L : List (Nat × Nat)) : Prop := ∃ (o : Option Addr) (T : Nd), Lrow w x 66 [.pointer o] ∧ NdAt w T (.pointer o) ∧ T.bal ∧ OkS T.L ∧ T.L = L ∧ B ≤ x
section
variable {w w' W W' : World} {B x : Nat} {T : Nd} {L : List (Nat × Nat)} {o : Option Addr} {f t : Int}
theorem PrT.ok (h : PrT B w x L) : OkS L := by obtain ⟨o, T, _, _, _, h, rfl, _⟩ := h; exact h
theorem PrT.lt (h : PrT B w x L) : x < w.heap.size := by obtain ⟨o, T, h, -⟩ := h; exact h.lt
theorem PrT.foot {X : Nat → Prop} (h : PrT B w x L) (hf : Foot X w w') (hx : ¬ X x) (hn : ∀ k, X k → ∀ vs, ¬ Lrow w k 63 vs) : PrT B w' x L := by
  obtain ⟨o, T, h1, h2, h3⟩ := h
  exact ⟨o, T, hf.row h1 hx, h2.foot hf hn, h3⟩
theorem PrT.call (h : PrT B w x L) (hb : Below w.heap.size w w') : PrT B w' x L := by
  obtain ⟨o, T, h1, h2, h3⟩ := h
  exact ⟨o, T, h1.call hb, h2.call hb, h3⟩
theorem PrT.base {B' : Nat} (h : PrT B w x L) (hb : B' ≤ B) : PrT B' w x L := by
  obtain ⟨o, T, h1, h2, h3, h4, h5, h6⟩ := h
  exact ⟨o, T, h1, h2, h3, h4, h5, Nat.le_trans hb h6⟩
theorem not_node {vs : List Value} {ty : TypeId} {k : Nat} (h : Lrow w k ty vs) (ht : ty ≠ 63) : ∀ vs, ¬ Lrow w k 63 vs := fun _ r => h.apart r ht rfl
/-- Its root has been laid anew. -/
theorem PrT.laid (h : PrT B w x L) (hb : Below w.heap.size w w') (hn : NdAt w' T (.pointer o)) (hbal : T.bal) (ok : OkS T.L) : PrT B (w'.setCell ⟨x, 0, none⟩ (.pointer o)) x T.L ∧ Foot (fun k => k = x) w (w'.setCell ⟨x, 0, none⟩ (.pointer o)) := by
  obtain ⟨o', T', h1, -, -, -, -, h6⟩ := h
  have hr := h1.call hb
  have hf : Foot (fun k => k = x) w' (w'.setCell ⟨x, 0, none⟩ (.pointer o)) := Foot.grown (X := fun k => k = x) (grown_set w' x 0 _) rfl
  refine ⟨⟨o, T, hr.set_ 0 _, hn.foot hf (fun k e => by subst e; exact not_node hr (by decide)), hbal, ok, rfl, h6⟩, (Foot.of_below hb).trans hf fun _ e _ => e⟩
theorem wrong_p (f t : Int) (w : World) : Calls Try.prog 37 #[.pointer (some ⟨x, 0, none⟩), .int .i64 f, .int .i64 t] w fun e w' => e = .returned (.int .i64 (wrS f t)) ∧ w' = w := by
  by_cases c1 : f < 1
  · have d1 : wrS f t = 3 := by unfold wrS; rw [if_pos (Or.inl c1)]
    rw [d1]; clear d1
    go_enter Try.func37, Try.ntmps37
    go_wp2_with fail
    go_ret
    exact ⟨rfl, rfl⟩
  · by_cases c2 : 4096 < t
    · have d1 : wrS f t = 3 := by unfold wrS; rw [if_pos (Or.inr (Or.inl c2))]
      rw [d1]; clear d1
      go_enter Try.func37, Try.ntmps37
      go_wp2_with fail
      go_ret
      exact ⟨rfl, rfl⟩
    · by_cases c3 : t ≤ f
      · have d1 : wrS f t = 3 := by unfold wrS; rw [if_pos (Or.inr (Or.inr c3))]
        rw [d1]; clear d1
        go_enter Try.func37, Try.ntmps37
        go_wp2_with fail
        go_ret
        exact ⟨rfl, rfl⟩
      · have d1 : wrS f t = 0 := by unfold wrS; rw [if_neg (by omega)]
        rw [d1]; clear d1
        go_enter Try.func37, Try.ntmps37
        go_wp2_with fail
        go_ret
        exact ⟨rfl, rfl⟩
theorem wrong_n (f t : Int) (w : World) : Calls Try.prog 37 #[.pointer none, .int .i64 f, .int .i64 t] w fun e w' => e = .returned (.int .i64 1) ∧ w' = w := by
  go_enter Try.func37, Try.ntmps37
  go_wp2_with fail
  go_ret
  exact ⟨rfl, rfl⟩
theorem top_p (h : Lrow w x 66 [.pointer o]) : Calls Try.prog 29 #[.pointer (some ⟨x, 0, none⟩)] w fun e w' => e = .returned (.pointer o) ∧ w' = w := by
  have c0 := h.cell 0
  clear h
  go_enter Try.func29, Try.ntmps29
  go_wp2_with fail
  go_ret
  exact ⟨rfl, rfl⟩
theorem top_n (w : World) : Calls Try.prog 29 #[.pointer none] w fun e w' => e = .returned (.pointer none) ∧ w' = w := by
  go_enter Try.func29, Try.ntmps29
  go_wp2_with fail
  go_ret
  exact ⟨rfl, rfl⟩
theorem new_p (w : World) : Calls Try.prog 25 #[] w fun e w' => ∃ x, e = .returned (.pointer (some ⟨x, 0, none⟩)) ∧ PrT w.heap.size w' x [] ∧ Below w.heap.size w w' := by
  go_enter Try.func25, Try.ntmps25
  go_wp2_with fail
  go_ret
  exact ⟨_, rfl, ⟨none, .nil, Lrow.new w _ _, NdAt.nil _, trivial, OkS.nil, rfl, Nat.le_refl _⟩, below_new w _⟩
theorem put_no (h : PrT B w x L) (hw : wrS f t ≠ 0) : Calls Try.prog 23 #[.pointer (some ⟨x, 0, none⟩), .int .i64 f, .int .i64 t] w fun e w' => e = .returned (.int .i64 3) ∧ PrT B w' x L ∧ Foot (fun k => k = x) w w' := by
  have hW := wrong_p (x := x) f t w
  rw [wrS_no hw] at hW
  have HD := Lib.hid h
  clear h hw
  go_enter Try.func23, Try.ntmps23
  go_wp2_with (first | (go_at_call 37; (with_reducible refine hW.mono ?_); rintro e w1 ⟨rfl, rfl⟩) | fail)
  go_ret
  exact ⟨rfl, HD.out, Foot.refl _ _⟩
set_option maxHeartbeats 4000000 in
set_option maxRecDepth 100000 in
theorem put_yes (h : PrT B w x L) {a b : Nat} (hw : wrS a b = 0) : Calls Try.prog 23 #[.pointer (some ⟨x, 0, none⟩), .int .i64 a, .int .i64 b] w fun e w' => e = .returned (.int .i64 (ptE L a b)) ∧ PrT B w' x (ptS L a b) ∧ Foot (fun k => k = x) w w' := by
  have hW := wrong_p (x := x) a b w
  rw [hw] at hW
  obtain ⟨a', b', ea, eb, h1, h2, h3⟩ := wrS_ok hw
  obtain rfl : a = a' := by omega
  obtain rfl : b = b' := by omega
  have hh := h
  obtain ⟨o, T, r0, nT, bT, okT, rfl, hB⟩ := h
  obtain ⟨om, nm, hm⟩ := meets_w nT (a : Int) ((b : Int) - 1)
  have hm := hm w (Below.refl _ _)
  have e1 : IntKind.i64.wrap ((b : Int) - 1) = (b : Int) - 1 := IntWalk.i64_in _ (by omega)
  have c0 := r0.cell 0
  rcases mt_spec (a := a) (b := (b : Int) - 1) (by omega) okT with ⟨em, hno⟩ | ⟨l, s, r, em, hs, hs1, hs2⟩
  · have hov : ovS T.L a b = false := by
      unfold ovS
      rw [List.any_eq_false]
      intro y hy c
      have := hno y hy
      have := of_decide_eq_true c
      omega
    have hE : ptE T.L a b = 0 := by unfold ptE; rw [if_neg (by rw [hw]; simp), if_neg (by rw [hov]; simp)]
    have hno' : ∀ y ∈ T.L, ¬ (y.1 < b ∧ a < y.2) := fun y hy c => by have := hno y hy; omega
    have hS : ptS T.L a b = ahS a T.L ++ (a, b) :: bhS a T.L := by unfold ptS; rw [if_pos hE, Int.toNat_natCast, Int.toNat_natCast]; exact ins_parts h2 okT hno'
    have okI : OkS (ahS a T.L ++ (a, b) :: bhS a T.L) := by rw [← hS]; exact (okT.put a b).1
    rw [em] at nm
    obtain rfl : om = none := by
      have : Value.pointer om = .pointer none := nm
      simpa using this
    have hP := parted_to a T w _ nT bT okT
    rw [hE, hS]
    have HX := Lib.hid hh
    have HR := Lib.hid r0
    have okJ : ∀ A C : Nd, A.L = ahS a T.L → C.L = bhS a T.L → OkS (A.L ++ (a, b) :: C.L) := fun A C e1 e2 => by rw [e1, e2]; exact okI
    have FIN : Hid (∀ A C D : Nd, A.L = ahS a T.L → C.L = bhS a T.L → LvOk A (a, b) C D → D.L = ahS a T.L ++ (a, b) :: bhS a T.L ∧ OkS D.L) := fun A C D e1 e2 h => by
      have : D.L = ahS a T.L ++ (a, b) :: bhS a T.L := by rw [h.L, e1, e2]
      exact ⟨this, by rw [this]; exact okI⟩
    clear hw ea eb h1 h2 h3 hh r0 nT bT okT nm em hno hov hE hno' hS okI hB
    go_enter Try.func23, Try.ntmps23
    go_upto_region 7 with (first | (go_at_call 37; (with_reducible refine hW.mono ?_); rintro e w1 ⟨rfl, rfl⟩) | (go_at_call 30; (with_reducible refine hm.mono ?_); rintro e w1 ⟨rfl, rfl⟩) | (go_at_call 38; (with_reducible refine hP.mono ?_); rintro e w3 ⟨oa, ob, A, C, rfl, nA, nC, ⟨eA, eC, bA, bC⟩, b3⟩; clear c0 hP hm hW) | fail)
    have hJ := joined_p (s := (a, b)) nA nC bA bC (okJ _ _ eA eC)
    dsimp only at hJ
    have HE := Lib.hid (And.intro eA eC)
    have HB := Lib.hid b3
    clear okJ eA eC nA nC b3
    go_wp2_with (first | (go_at_call 39; (with_reducible refine hJ.mono ?_); rintro e w4 ⟨g4, D, rfl, nD, hD, b4⟩; have hr4 := HR.out.call (HB.out.trans (b4.mono HB.out.size)); have c4 := hr4.cell 0; have f4 := hr4.frozen 0) | fail)
    go_ret
    have hf := FIN.out _ _ _ HE.out.1 HE.out.2 hD
    have hl := HX.out.laid (HB.out.trans (b4.mono HB.out.size)) nD hD.bal hf.2
    rw [hf.1] at hl
    exact ⟨rfl, hl.1, hl.2⟩
  · have hov : ovS T.L a b = true := List.any_eq_true.2 ⟨s, hs, decide_eq_true ⟨by omega, by omega⟩⟩
    have hE : ptE T.L a b = 7 := by unfold ptE; rw [if_neg (by rw [hw]; simp), if_pos hov]
    have hS : ptS T.L a b = T.L := by unfold ptS; rw [if_neg (by rw [hE]; decide)]
    rw [em] at nm
    obtain ⟨mb, hmb⟩ := nm.open_
    obtain rfl : om = some ⟨mb, 0, none⟩ := by simpa using hmb
    rw [hE, hS]
    have HX := Lib.hid hh
    clear hw ea eb h1 h2 h3 hh r0 nT bT okT nm em hov hE hS hmb hs hs1 hs2 hB
    go_enter Try.func23, Try.ntmps23
    go_wp2_with (first | (go_at_call 37; (with_reducible refine hW.mono ?_); rintro e w1 ⟨rfl, rfl⟩) | (go_at_call 30; (with_reducible refine hm.mono ?_); rintro e w1 ⟨rfl, rfl⟩) | fail)
    go_ret
    exact ⟨rfl, HX.out, Foot.refl _ _⟩
theorem put_p (h : PrT B w x L) (f t : Int) : Calls Try.prog 23 #[.pointer (some ⟨x, 0, none⟩), .int .i64 f, .int .i64 t] w fun e w' => e = .returned (.int .i64 (ptE L f t)) ∧ PrT B w' x (ptS L f t) ∧ Foot (fun k => k = x) w w' := by
  by_cases hw : wrS f t = 0
  · obtain ⟨a, b, rfl, rfl, -, -, -⟩ := wrS_ok hw
    exact put_yes h hw
  · have he : ptE L f t = 3 := by unfold ptE; rw [if_pos hw]
    have hs : ptS L f t = L := by unfold ptS; rw [if_neg (by rw [he]; decide)]
    rw [he, hs]
    exact put_no h hw
theorem cut_no (h : PrT B w x L) (hw : wrS f t ≠ 0) : Calls Try.prog 27 #[.pointer (some ⟨x, 0, none⟩), .int .i64 f, .int .i64 t] w fun e w' => e = .returned (.int .i64 3) ∧ PrT B w' x L ∧ Foot (fun k => k = x) w w' := by
  have hW := wrong_p (x := x) f t w
  rw [wrS_no hw] at hW
  have HD := Lib.hid h
  clear h hw
  go_enter Try.func27, Try.ntmps27
  go_wp2_with (first | (go_at_call 37; (with_reducible refine hW.mono ?_); rintro e w1 ⟨rfl, rfl⟩) | fail)
  go_ret
  exact ⟨rfl, HD.out, Foot.refl _ _⟩
set_option maxHeartbeats 4000000 in
set_option maxRecDepth 100000 in
theorem cut_yes (h : PrT B w x L) {a b : Nat} (hw : wrS a b = 0) : Calls Try.prog 27 #[.pointer (some ⟨x, 0, none⟩), .int .i64 a, .int .i64 b] w fun e w' => e = .returned (.int .i64 0) ∧ PrT B w' x (ctS L a b) ∧ Foot (fun k => k = x) w w' := by
  have hW := wrong_p (x := x) a b w
  rw [hw] at hW
  obtain ⟨a', b', ea, eb, h1, h2, h3⟩ := wrS_ok hw
  obtain rfl : a = a' := by omega
  obtain rfl : b = b' := by omega
  have hh := h
  obtain ⟨o, T, r0, nT, bT, okT, rfl, hB⟩ := h
  have c0 := r0.cell 0
  have hS : ctS T.L a b = ahS a T.L ++ bhS b (bhS a T.L) := by unfold ctS; rw [if_neg (by rw [hw]; simp), Int.toNat_natCast, Int.toNat_natCast]; exact (cut_parts h2 okT).symm
  have okI : OkS (ahS a T.L ++ bhS b (bhS a T.L)) := by rw [← hS]; exact (okT.cut a b).1
  have hP := parted_to a T w _ nT bT okT
  have okM : ∀ C : Nd, C.L = bhS a T.L → OkS C.L := fun C e => by rw [e]; exact okT.behind a
  have okJ : ∀ A D : Nd, A.L = ahS a T.L → D.L = bhS b (bhS a T.L) → OkS (A.L ++ D.L) := fun A D e1 e2 => by rw [e1, e2]; exact okI
  rw [hS]
  have HX := Lib.hid hh
  have HR := Lib.hid r0
  have HO := Lib.hid okI
  clear hw ea eb h1 h2 h3 hh r0 nT bT okT hS okI hB
  go_enter Try.func27, Try.ntmps27
  go_upto_region 5 with (first | (go_at_call 37; (with_reducible refine hW.mono ?_); rintro e w1 ⟨rfl, rfl⟩) | (go_at_call 38; (with_reducible refine hP.mono ?_); rintro e w3 ⟨oa, ob, A, C, rfl, nA, nC, ⟨eA, eC, bA, bC⟩, b3⟩; clear c0 hP hW) | fail)
  have hP2 := parted_to b C w3 _ nC bC (okM _ eC)
  have HA := Lib.hid (And.intro eA (And.intro eC nA))
  have HB := Lib.hid b3
  clear nC bC eA eC nA okM b3
  go_upto_region 6 with (first | (go_at_call 38; (with_reducible refine hP2.mono ?_); rintro e w4 ⟨oc, od, C0, D, rfl, -, nD, ⟨-, eD, -, bD⟩, b4⟩; clear hP2) | fail)
  have HB4 := Lib.hid (HB.out.trans (b4.mono HB.out.size))
  have eD' : D.L = bhS b (bhS a T.L) := by rw [eD, HA.out.2.1]
  have hT := together_p (HA.out.2.2.call b4) nD bA bD (okJ _ _ HA.out.1 eD')
  have HE := Lib.hid (And.intro HA.out.1 eD')
  clear nD okJ eD eD' b4
  go_wp2_with (first | (go_at_call 41; (with_reducible refine hT.mono ?_); rintro e w5 ⟨o5, E, rfl, nE, eE, bE, b5⟩; have hr5 := HR.out.call (HB4.out.trans (b5.mono HB4.out.size)); have c5 := hr5.cell 0; have f5 := hr5.frozen 0) | fail)
  go_ret
  have e6 : E.L = ahS a T.L ++ bhS b (bhS a T.L) := by rw [eE, HE.out.1, HE.out.2]
  have hl := HX.out.laid (HB4.out.trans (b5.mono HB4.out.size)) nE bE (by rw [e6]; exact HO.out)
  rw [e6] at hl
  exact ⟨rfl, hl.1, hl.2⟩
theorem cut_p (h : PrT B w x L) (f t : Int) : Calls Try.prog 27 #[.pointer (some ⟨x, 0, none⟩), .int .i64 f, .int .i64 t] w fun e w' => e = .returned (.int .i64 (wrS f t)) ∧ PrT B w' x (ctS L f t) ∧ Foot (fun k => k = x) w w' := by
  by_cases hw : wrS f t = 0
  · have hw' := hw
    obtain ⟨a, b, rfl, rfl, -, -, -⟩ := wrS_ok hw
    rw [hw']
    exact cut_yes h hw
  · have hs : ctS L f t = L := by unfold ctS; rw [if_pos hw]
    rw [wrS_no hw, hs]
    exact cut_no h hw
end
end Go.Proofs.Ytekfkglielmfaaa
