/- The program's object: Del, Find, Greatest, Height, and of nil. -/
import Derived.Test.YtekfkglielmfaaaTgL
namespace Go.Proofs.Ytekfkglielmfaaa
open Go.RowKit
section
variable {w w' W W' : World} {B x : Nat} {T : Nd} {L : List (Nat × Nat)} {o : Option Addr} {f t : Int}
theorem del_no (h : PrT B w x L) (hw : wrS f t ≠ 0) : Calls Try.prog 26 #[.pointer (some ⟨x, 0, none⟩), .int .i64 f, .int .i64 t] w fun e w' => e = .returned (.int .i64 3) ∧ PrT B w' x L ∧ Foot (fun k => k = x) w w' := by
  have hW := wrong_p (x := x) f t w
  rw [wrS_no hw] at hW
  have HD := Lib.hid h
  clear h hw
  go_enter Try.func26, Try.ntmps26
  go_wp2_with (first | (go_at_call 37; (with_reducible refine hW.mono ?_); rintro e w1 ⟨rfl, rfl⟩) | fail)
  go_ret
  exact ⟨rfl, HD.out, Foot.refl _ _⟩
theorem not_has {L : List (Nat × Nat)} {a b : Nat} (hw : wrS a b = 0) (h : (a, b) ∉ L) : dlE L a b = 6 ∧ dlS L a b = L := by
  have hh : hsS L a b = false := by
    unfold hsS
    rw [List.any_eq_false]
    intro y hy c
    have c := of_decide_eq_true c
    exact h (by
      have e : y = (a, b) := Prod.ext (by show y.1 = a; omega) (by show y.2 = b; omega)
      exact e ▸ hy)
  refine ⟨by unfold dlE; rw [if_neg (by rw [hw]; simp), if_neg (by rw [hh]; simp)], ?_⟩
  have : dlS L a b = L.filter (kpS a b) := by unfold dlS; rw [if_neg (by rw [hw]; simp)]; rfl
  rw [this]
  exact kpS_same (kpS_all.2 hh)
theorem has_it {L : List (Nat × Nat)} (ok : OkS L) {a b : Nat} (hw : wrS a b = 0) (h : (a, b) ∈ L) : dlE L a b = 0 ∧ dlS L a b = ctS L a b := by
  have hh : hsS L a b = true := List.any_eq_true.2 ⟨(a, b), h, decide_eq_true ⟨rfl, rfl⟩⟩
  refine ⟨by unfold dlE; rw [if_neg (by rw [hw]; simp), if_pos hh], ?_⟩
  have h1 : dlS L a b = L.filter (kpS a b) := by unfold dlS; rw [if_neg (by rw [hw]; simp)]; rfl
  have h2 : ctS L a b = L.flatMap (ct1 a b) := by unfold ctS; rw [if_neg (by rw [hw]; simp), Int.toNat_natCast, Int.toNat_natCast]
  rw [h1, h2]
  exact (cut_one ok h).symm
set_option maxHeartbeats 4000000 in
set_option maxRecDepth 100000 in
theorem del_yes (h : PrT B w x L) {a b : Nat} (hw : wrS a b = 0) : Calls Try.prog 26 #[.pointer (some ⟨x, 0, none⟩), .int .i64 a, .int .i64 b] w fun e w' => e = .returned (.int .i64 (dlE L a b)) ∧ PrT B w' x (dlS L a b) ∧ Foot (fun k => k = x) w w' := by
  have hW := wrong_p (x := x) a b w
  rw [hw] at hW
  obtain ⟨a', b', ea, eb, h1, h2, h3⟩ := wrS_ok hw
  obtain rfl : a = a' := by omega
  obtain rfl : b = b' := by omega
  have hC := cut_p h a b
  rw [hw] at hC
  have hh := h
  obtain ⟨o, T, r0, nT, bT, okT, rfl, hB⟩ := h
  obtain ⟨om, nm, hm⟩ := meets_w nT (a : Int) (a : Int)
  have hm := hm w (Below.refl _ _)
  have c0 := r0.cell 0
  rcases mt_page (p := a) okT with ⟨em, hno⟩ | ⟨l, s, r, em, hs, hs1, hs2⟩
  · obtain ⟨e6, eL⟩ := not_has hw (L := T.L) fun hm => by have := hno _ hm; simp at this; omega
    rw [em] at nm
    obtain rfl : om = none := by
      have : Value.pointer om = .pointer none := nm
      simpa using this
    rw [e6, eL]
    have HX := Lib.hid hh
    clear hw ea eb h1 h2 h3 hh r0 nT bT okT nm em hno e6 eL hB hC
    go_enter Try.func26, Try.ntmps26
    go_wp2_with (first | (go_at_call 37; (with_reducible refine hW.mono ?_); rintro e w1 ⟨rfl, rfl⟩) | (go_at_call 30; (with_reducible refine hm.mono ?_); rintro e w1 ⟨rfl, rfl⟩) | fail)
    go_ret
    exact ⟨rfl, HX.out, Foot.refl _ _⟩
  · rw [em] at nm
    obtain ⟨mb, hmb⟩ := nm.open_
    obtain rfl : om = some ⟨mb, 0, none⟩ := by simpa using hmb
    obtain ⟨-, -, -, -, d0, d1, -⟩ := nm.cells
    by_cases hsm : s = (a, b)
    · subst hsm
      obtain ⟨e0, eL⟩ := has_it okT hw hs
      rw [e0, eL]
      clear hw ea eb h1 h2 h3 hh r0 nT bT okT nm em e0 eL hmb hs hs1 hs2 hB
      dsimp only at *
      go_enter Try.func26, Try.ntmps26
      go_wp2_with (first | (go_at_call 37; (with_reducible refine hW.mono ?_); rintro e w1 ⟨rfl, rfl⟩) | (go_at_call 30; (with_reducible refine hm.mono ?_); rintro e w1 ⟨rfl, rfl⟩) | (go_at_call 27; (with_reducible refine hC.mono ?_); rintro e w1 ⟨rfl, hp, hf⟩) | fail)
      go_ret
      exact ⟨rfl, hp, hf⟩
    · obtain ⟨e6, eL⟩ := not_has hw (L := T.L) fun hm => by
        rcases okT.apart hs hm with c | c | c
        · exact hsm c
        · simp at c; omega
        · simp at c; omega
      rw [e6, eL]
      have HX := Lib.hid hh
      have hd : (s.1 : Int) = a → ¬ (s.2 : Int) = b := fun c1 c2 => hsm (Prod.ext (by show s.1 = a; omega) (by show s.2 = b; omega))
      obtain ⟨s1, s2⟩ := s
      dsimp only at d0 d1 hd
      clear hw ea eb h1 h2 h3 hh r0 nT bT okT nm em e6 eL hmb hs hs1 hs2 hB hC hsm
      by_cases g1 : (s1 : Int) = a
      · have g2 := hd g1
        obtain rfl : s1 = a := by omega
        clear hd g1
        go_enter Try.func26, Try.ntmps26
        go_wp2_with (first | (go_at_call 37; (with_reducible refine hW.mono ?_); rintro e w1 ⟨rfl, rfl⟩) | (go_at_call 30; (with_reducible refine hm.mono ?_); rintro e w1 ⟨rfl, rfl⟩) | fail)
        go_ret
        exact ⟨rfl, HX.out, Foot.refl _ _⟩
      · clear hd
        go_enter Try.func26, Try.ntmps26
        go_wp2_with (first | (go_at_call 37; (with_reducible refine hW.mono ?_); rintro e w1 ⟨rfl, rfl⟩) | (go_at_call 30; (with_reducible refine hm.mono ?_); rintro e w1 ⟨rfl, rfl⟩) | fail)
        go_ret
        exact ⟨rfl, HX.out, Foot.refl _ _⟩
theorem del_p (h : PrT B w x L) (f t : Int) : Calls Try.prog 26 #[.pointer (some ⟨x, 0, none⟩), .int .i64 f, .int .i64 t] w fun e w' => e = .returned (.int .i64 (dlE L f t)) ∧ PrT B w' x (dlS L f t) ∧ Foot (fun k => k = x) w w' := by
  by_cases hw : wrS f t = 0
  · obtain ⟨a, b, rfl, rfl, -, -, -⟩ := wrS_ok hw
    exact del_yes h hw
  · have he : dlE L f t = 3 := by unfold dlE; rw [if_pos hw]
    have hs : dlS L f t = L := by unfold dlS; rw [if_pos hw]
    rw [he, hs]
    exact del_no h hw
set_option maxHeartbeats 4000000 in
set_option maxRecDepth 100000 in
theorem find_p (h : PrT B w x L) (p : Int) : Calls Try.prog 12 #[.pointer (some ⟨x, 0, none⟩), .int .i64 p] w fun e w' => ∃ a b v, e = .returned (.tuple #[.int .i64 a, .int .i64 b, .bool v]) ∧ FdIs L p a b v ∧ ∃ n, w' = w.drewN n := by
  obtain ⟨o, T, r0, nT, bT, okT, rfl, hB⟩ := h
  obtain ⟨om, nm, hm⟩ := meets_w nT p p
  have hm := hm w (Below.refl _ _)
  have ht := top_p r0
  rcases mt_page (p := p) okT with ⟨em, hno⟩ | ⟨l, s, r, em, hs, hs1, hs2⟩
  · rw [em] at nm
    obtain rfl : om = none := by
      have : Value.pointer om = .pointer none := nm
      simpa using this
    have HF : Hid (FdIs T.L p 0 0 false) := Or.inl ⟨rfl, rfl, rfl, hno⟩
    clear r0 nT bT okT nm em hno hB
    go_enter Try.func12, Try.ntmps12
    go_wp2_with (first | (go_at_call 29; (with_reducible refine ht.mono ?_); rintro e w1 ⟨rfl, rfl⟩) | (go_at_call 30; (with_reducible refine hm.mono ?_); rintro e w1 ⟨rfl, rfl⟩) | fail)
    go_ret3
    exact ⟨0, 0, false, rfl, HF.out, 0, rfl⟩
  · rw [em] at nm
    obtain ⟨mb, hmb⟩ := nm.open_
    obtain rfl : om = some ⟨mb, 0, none⟩ := by simpa using hmb
    obtain ⟨-, -, -, -, d0, d1, -⟩ := nm.cells
    have HF : Hid (FdIs T.L p s.1 s.2 true) := Or.inr ⟨rfl, s, hs, rfl, rfl, hs1, hs2⟩
    clear r0 nT bT okT nm em hB hs hs1 hs2 hmb
    go_enter Try.func12, Try.ntmps12
    go_wp2_with (first | (go_at_call 29; (with_reducible refine ht.mono ?_); rintro e w1 ⟨rfl, rfl⟩) | (go_at_call 30; (with_reducible refine hm.mono ?_); rintro e w1 ⟨rfl, rfl⟩) | fail)
    go_quiet (fail)
    go_wp2_with fail
    go_ret3
    exact ⟨_, _, true, rfl, HF.out, _, rfl⟩
theorem greatest_p (h : PrT B w x L) : Calls Try.prog 17 #[.pointer (some ⟨x, 0, none⟩)] w fun e w' => ∃ g : Nat, e = .returned (.int .i64 (g : Nat)) ∧ GrIs L g ∧ ∃ n, w' = w.drewN n := by
  obtain ⟨o, T, r0, nT, bT, okT, rfl, hB⟩ := h
  obtain ⟨g, hg, hG⟩ := gr_tree okT
  have hR := room_p nT okT (a := 1) (b := 4096) (by omega) (by omega) (by omega) (by omega)
  rw [hg] at hR
  have c0 := r0.cell 0
  have HG := Lib.hid hG
  clear r0 nT bT okT hB hg hG
  go_enter Try.func17, Try.ntmps17
  go_wp2_with (first | (go_at_call 32; (with_reducible refine hR.mono ?_); rintro e w1 ⟨rfl, n1, rfl⟩) | fail)
  go_ret
  exact ⟨g, rfl, HG.out, n1, rfl⟩
/-- How high a tree of so many stretches is. -/
def HtIs (n h : Nat) : Prop := fbS h ≤ n ∧ n + 1 ≤ 2 ^ h
theorem height_p (h : PrT B w x L) : Calls Try.prog 24 #[.pointer (some ⟨x, 0, none⟩)] w fun e w' => ∃ k : Nat, e = .returned (.int .i64 (k : Nat)) ∧ HtIs L.length k ∧ w' = w := by
  obtain ⟨o, T, r0, nT, bT, okT, rfl, hB⟩ := h
  have ht := top_p r0
  have hl := tall_p nT
  have HH : Hid (HtIs T.L.length T.ht) := ⟨T.fb_le bT, T.len_le⟩
  clear r0 nT bT okT hB
  go_enter Try.func24, Try.ntmps24
  go_wp2_with (first | (go_at_call 29; (with_reducible refine ht.mono ?_); rintro e w1 ⟨rfl, rfl⟩) | (go_at_call 40; (with_reducible refine hl.mono ?_); rintro e w1 ⟨rfl, rfl⟩) | fail)
  go_ret
  exact ⟨_, rfl, HH.out, rfl⟩
theorem put_n (f t : Int) (w : World) : Calls Try.prog 23 #[.pointer none, .int .i64 f, .int .i64 t] w fun e w' => e = .returned (.int .i64 1) ∧ w' = w := by
  have hW := wrong_n f t w
  go_enter Try.func23, Try.ntmps23
  go_wp2_with (first | (go_at_call 37; (with_reducible refine hW.mono ?_); rintro e w1 ⟨rfl, rfl⟩) | fail)
  go_ret
  exact ⟨rfl, rfl⟩
theorem del_n (f t : Int) (w : World) : Calls Try.prog 26 #[.pointer none, .int .i64 f, .int .i64 t] w fun e w' => e = .returned (.int .i64 1) ∧ w' = w := by
  have hW := wrong_n f t w
  go_enter Try.func26, Try.ntmps26
  go_wp2_with (first | (go_at_call 37; (with_reducible refine hW.mono ?_); rintro e w1 ⟨rfl, rfl⟩) | fail)
  go_ret
  exact ⟨rfl, rfl⟩
theorem cut_n (f t : Int) (w : World) : Calls Try.prog 27 #[.pointer none, .int .i64 f, .int .i64 t] w fun e w' => e = .returned (.int .i64 1) ∧ w' = w := by
  have hW := wrong_n f t w
  go_enter Try.func27, Try.ntmps27
  go_wp2_with (first | (go_at_call 37; (with_reducible refine hW.mono ?_); rintro e w1 ⟨rfl, rfl⟩) | fail)
  go_ret
  exact ⟨rfl, rfl⟩
theorem find_n (p : Int) (w : World) : Calls Try.prog 12 #[.pointer none, .int .i64 p] w fun e w' => e = .returned (.tuple #[.int .i64 0, .int .i64 0, .bool false]) ∧ w' = w := by
  have ht := top_n w
  obtain ⟨om, nm, hm⟩ := meets_w (NdAt.nil w) p p
  have hm := hm w (Below.refl _ _)
  obtain rfl : om = none := by
    have : Value.pointer om = .pointer none := nm
    simpa using this
  clear nm
  go_enter Try.func12, Try.ntmps12
  go_wp2_with (first | (go_at_call 29; (with_reducible refine ht.mono ?_); rintro e w1 ⟨rfl, rfl⟩) | (go_at_call 30; (with_reducible refine hm.mono ?_); rintro e w1 ⟨rfl, rfl⟩) | fail)
  go_ret3
  exact ⟨rfl, rfl⟩
theorem greatest_n (w : World) : Calls Try.prog 17 #[.pointer none] w fun e w' => e = .returned (.int .i64 0) ∧ w' = w := by
  go_enter Try.func17, Try.ntmps17
  go_wp2_with fail
  go_ret
  exact ⟨rfl, rfl⟩
theorem height_n (w : World) : Calls Try.prog 24 #[.pointer none] w fun e w' => e = .returned (.int .i64 0) ∧ w' = w := by
  have ht := top_n w
  have hl := tall_p (NdAt.nil w)
  have e0 : ((Nd.nil).ht : Int) = 0 := rfl
  rw [e0] at hl
  clear e0
  go_enter Try.func24, Try.ntmps24
  go_wp2_with (first | (go_at_call 29; (with_reducible refine ht.mono ?_); rintro e w1 ⟨rfl, rfl⟩) | (go_at_call 40; (with_reducible refine hl.mono ?_); rintro e w1 ⟨rfl, rfl⟩) | fail)
  go_ret
  exact ⟨rfl, rfl⟩
end
end Go.Proofs.Ytekfkglielmfaaa
