/- The reference of reservations: Fill, Clear. -/
import Derived.Test.YtfalmjibpkkjaaaA2
namespace Go.Proofs.Ytfalmjibpkkjaaa
open Go.RowKit
section
variable {w w' : World} {B xa : Nat} {v : Value} {K : List Rw} {S S' : Rs} {n : Nat} {s p : Int}
theorem atI_yes (hl : ixP S.L s p < S.L.length) : atI S.L s p = (ixP S.L s p : Nat) := if_pos hl
theorem atI_no (hl : ¬ ixP S.L s p < S.L.length) : atI S.L s p = -1 ∧ atP S.L s p = none := ⟨if_neg hl, ix_no hl⟩
theorem pd_of (hb : Bnd n S) {i : Nat} (hi : i = ixP S.L s p) (hl : i < S.L.length) : S.L[i].s = s ∧ S.L[i].p = pd p ∧ S.L[i].p ≤ p ∧ p < S.L[i].p + 8 ∧ 0 ≤ p ∧ p ≤ 4095 := by
  have hh := (ix_hit hi hl).1
  unfold hitP at hh
  simp only [decide_eq_true_eq] at hh
  have ok := hb.ok _ (List.getElem_mem hl)
  have h1 := ok.p0
  have h2 := ok.p1
  have e := hh.2
  unfold pd at e
  exact ⟨hh.1, hh.2, by omega, by omega, by omega, by omega⟩
theorem tuS_at {i : Nat} (hl : i < S.L.length) (b : Bool) : ∃ h2 : i < (tuS S s p b).L.length, (tuS S s p b).L[i] = tuX s p b (S.T + 1) S.L[i] :=
  ⟨by show i < (S.L.map _).length; rw [List.length_map]; exact hl, by show (S.L.map _)[i]'_ = _; rw [List.getElem_map]⟩
set_option maxRecDepth 100000 in
set_option maxHeartbeats 2000000 in
theorem fill_x (h : Rx B w xa v K S) (hb : Bnd n S) (hn : n ≤ 900) (s p : Int) : Calls Try.prog 42 #[.pointer (some ⟨xa, 0, none⟩), .int .i64 s, .int .i64 p] w fun e w' => e = .returned (.tuple #[.int .i64 (fiV S s p), .int .i64 (fiE S s p)]) ∧ DidR B w xa v K (fiS S s p) w' := by
  have ha := at_x h hb (by omega) s p
  by_cases hl : ixP S.L s p < S.L.length
  · obtain ⟨i, hi⟩ : ∃ i, i = ixP S.L s p := ⟨_, rfl⟩
    rw [atI_yes hl, ← hi] at ha
    rw [← hi] at hl
    obtain ⟨hk, hkv⟩ := h.at_ hl
    obtain ⟨A, c, hv⟩ := h.own.form
    obtain ⟨m, hm⟩ : ∃ m, m = K.length := ⟨_, rfl⟩
    rw [← hm] at hv
    obtain ⟨-, gl, rfl, -, hat⟩ := h.on hv hk
    have c0 := h.c0
    rw [hv] at c0
    obtain ⟨-, d1, -, d3, -⟩ := on_at hat
    have ok := hb.ok _ (List.getElem_mem hl)
    have hmk := h.mark (List.getElem_mem hk) (by rw [hkv]; exact ok.nl) (jd_lt p)
    obtain ⟨q1, q2, q3, q4, q5, q6⟩ := pd_of hb hi hl
    have hj := jd_lt p
    have hji := jd_is p
    obtain ⟨j, hjj⟩ : ∃ j, j = jd p := ⟨_, rfl⟩
    have f0 := ok.f0
    have f1 := ok.f1
    have p0 := ok.p0
    have i1 : (i : Int) < (m : Int) := by omega
    have i0 : (0 : Int) ≤ i := by omega
    have ep : IntKind.i64.wrap (p - S.L[i].p) = (j : Int) := by rw [q2, ← hji.2, ← hjj]; exact IntWalk.i64_in _ (by omega)
    have j1 : (j : Int) < 8 := by omega
    have j0 : (0 : Int) ≤ j := by omega
    have eP := (ix_hit hi hl).2
    by_cases hbit : S.L[i].n.testBit (jd p) = true
    · have HE : Hid (fiV S s p = 0 ∧ fiE S s p = 7 ∧ fiS S s p = S) := by
        have e : fiE S s p = 7 := by unfold fiE; rw [eP]; exact if_pos hbit
        exact ⟨by unfold fiV; rw [eP]; exact if_pos hbit, e, by unfold fiS; rw [e]; exact if_neg (by decide)⟩
      have HD : Hid (∀ k, DidR B w xa v K S (w.drewN k)) := fun k => h.did (below_dN (Below.refl _ _) k)
      rw [hkv] at d1 hmk
      rw [hbit, ← hjj] at hmk
      generalize S.L[i].p = xp at *
      generalize K[i].g = gy at *
      generalize K[i].c = cy at *
      clear h hb hn hi hv hat hm hkv hk hl hji hjj q1 q2 q3 q4 f0 f1 p0 ok eP hbit hj
      go_enter Try.func42, Try.ntmps42
      go_wp2_with (go_at_call 24; (with_reducible refine ha.mono ?_); rintro e w1 ⟨rfl, rfl⟩)
      go_quiet (fail)
      go_wp2
      go_ret2
      exact ⟨by rw [HE.out.1, HE.out.2.1]; rfl, by rw [HE.out.2.2]; exact HD.out _⟩
    · have hbit' : S.L[i].n.testBit (jd p) = false := by simpa using hbit
      have ht := turn_x h hb (by omega) hi hl true
      have HE : Hid (fiV S s p = S.L[i].f + j ∧ fiE S s p = 0 ∧ fiS S s p = tuS S s p true) := by
        have e : fiE S s p = 0 := by unfold fiE; rw [eP]; exact if_neg hbit
        exact ⟨by unfold fiV; rw [eP]; show (if _ then _ else _) = _; rw [if_neg hbit, hjj], e, by unfold fiS; rw [e]; exact if_pos rfl⟩
      have HR : Hid (∀ k w', DidR B (w.drewN k) xa v K (tuS S s p true) w' → DidR B w xa v K (tuS S s p true) w' ∧ ∃ gl' m' c', w'.cell? ⟨xa, 0, none⟩ = some (.slice (some ⟨gl', 0, none⟩) m' c') ∧ (i : Int) < (m' : Int) ∧ w'.cell? ⟨gl', i * 5 + 1, none⟩ = some (.int .i64 S.L[i].p) ∧ w'.cell? ⟨gl', i * 5 + 2, none⟩ = some (.int .i64 S.L[i].f)) := fun k w' d => by
        refine ⟨d.pre (below_dN (Below.refl _ _) k), ?_⟩
        obtain ⟨v', K', d1, d2, d3⟩ := d
        obtain ⟨h2, e2⟩ := tuS_at hl true
        obtain ⟨hk', hkv'⟩ := d1.at_ h2
        obtain ⟨A', c', hv'⟩ := d1.own.form
        obtain ⟨-, gl', rfl, -, hat'⟩ := d1.on hv' hk'
        obtain ⟨-, z1, z2, -, -⟩ := on_at hat'
        have c0' := d1.c0
        rw [hv'] at c0'
        obtain ⟨t1, t2, t3⟩ := tuX_key s p true (S.T + 1) S.L[i]
        rw [hkv', e2, t2] at z1
        rw [hkv', e2, t3] at z2
        exact ⟨gl', _, c', c0', by omega, z1, z2⟩
      have ht' : ∀ k, Calls Try.prog 51 #[.pointer (some ⟨xa, 0, none⟩), .int .i64 i, .int .i64 p, .bool true] (w.drewN k) fun e w' => e = .returned (.tuple #[]) ∧ DidR B (w.drewN k) xa v K (tuS S s p true) w' := fun k => turn_x (h.drewN k) hb (by omega) hi hl true
      have e1 : IntKind.i64.wrap (S.L[i].f + p) = S.L[i].f + p := IntWalk.i64_in _ (by omega)
      have e2 : IntKind.i64.wrap (S.L[i].f + p - S.L[i].p) = S.L[i].f + j := by
        rw [show S.L[i].f + p - S.L[i].p = S.L[i].f + j by rw [q2, hjj]; omega]; exact IntWalk.i64_in _ (by omega)
      rw [hkv] at d1 hmk
      rw [hbit', ← hjj] at hmk
      generalize S.L[i].p = xp at *
      generalize S.L[i].f = xf at *
      generalize K[i].g = gy at *
      generalize K[i].c = cy at *
      clear h hb hn hi hv hat hm hkv hk hl hji hjj q1 q2 q3 q4 f0 f1 p0 ok eP hbit hbit' hj ht
      go_enter Try.func42, Try.ntmps42
      go_wp2_with (go_at_call 24; (with_reducible refine ha.mono ?_); rintro e w1 ⟨rfl, rfl⟩)
      go_quiet (fail)
      go_wp2_with (go_at_call 51; (with_reducible refine (ht' _).mono ?_); rintro e w2 ⟨rfl, hd2⟩)
      obtain ⟨hd3, gl', m', c', z0, zi, z1, z2⟩ := HR.out _ _ hd2
      have HD3 : Hid (∀ k, DidR B w xa v K (tuS S s p true) (w2.drewN k)) := fun k => by
        obtain ⟨x1, x2, x3, x4, x5⟩ := hd3
        exact ⟨x1, x2, x3.drewN k, x4.drewN k, x5⟩
      clear hd2 hd3 c0 d1 d3 hmk
      go_quiet (fail)
      go_wp2
      go_ret2
      exact ⟨by rw [HE.out.1, HE.out.2.1]; rfl, by rw [HE.out.2.2]; exact HD3.out _⟩
  · obtain ⟨e1, e2⟩ := atI_no hl
    rw [e1] at ha
    have HE : Hid (fiV S s p = 0 ∧ fiE S s p = 6 ∧ fiS S s p = S) := by
      have e : fiE S s p = 6 := by unfold fiE; rw [e2]
      exact ⟨by unfold fiV; rw [e2], e, by unfold fiS; rw [e]; exact if_neg (by decide)⟩
    have HD := Lib.hid (h.did (Below.refl w.heap.size w))
    clear h hb hn hl e1 e2
    go_enter Try.func42, Try.ntmps42
    go_wp2_with (go_at_call 24; (with_reducible refine ha.mono ?_); rintro e w1 ⟨rfl, rfl⟩)
    go_ret2
    exact ⟨by rw [HE.out.1, HE.out.2.1]; rfl, by rw [HE.out.2.2]; exact HD.out⟩
set_option maxRecDepth 100000 in
set_option maxHeartbeats 2000000 in
theorem clear_x (h : Rx B w xa v K S) (hb : Bnd n S) (hn : n ≤ 900) (s p : Int) : Calls Try.prog 43 #[.pointer (some ⟨xa, 0, none⟩), .int .i64 s, .int .i64 p] w fun e w' => e = .returned (.int .i64 (clE S s p)) ∧ DidR B w xa v K (clS S s p) w' := by
  have ha := at_x h hb (by omega) s p
  by_cases hl : ixP S.L s p < S.L.length
  · obtain ⟨i, hi⟩ : ∃ i, i = ixP S.L s p := ⟨_, rfl⟩
    rw [atI_yes hl, ← hi] at ha
    rw [← hi] at hl
    obtain ⟨hk, hkv⟩ := h.at_ hl
    obtain ⟨A, c, hv⟩ := h.own.form
    obtain ⟨m, hm⟩ : ∃ m, m = K.length := ⟨_, rfl⟩
    rw [← hm] at hv
    obtain ⟨-, gl, rfl, -, hat⟩ := h.on hv hk
    have c0 := h.c0
    rw [hv] at c0
    obtain ⟨-, d1, -, d3, -⟩ := on_at hat
    have ok := hb.ok _ (List.getElem_mem hl)
    have hmk := h.mark (List.getElem_mem hk) (by rw [hkv]; exact ok.nl) (jd_lt p)
    obtain ⟨q1, q2, q3, q4, q5, q6⟩ := pd_of hb hi hl
    have hj := jd_lt p
    have hji := jd_is p
    obtain ⟨j, hjj⟩ : ∃ j, j = jd p := ⟨_, rfl⟩
    have p0 := ok.p0
    have i1 : (i : Int) < (m : Int) := by omega
    have i0 : (0 : Int) ≤ i := by omega
    have in0 : (decide ((i : Int) < 0)) = false := decide_eq_false (by omega)
    have in1 : ¬ (i : Int) < 0 := by omega
    have ep : IntKind.i64.wrap (p - S.L[i].p) = (j : Int) := by rw [q2, ← hji.2, ← hjj]; exact IntWalk.i64_in _ (by omega)
    have j1 : (j : Int) < 8 := by omega
    have j0 : (0 : Int) ≤ j := by omega
    have eP := (ix_hit hi hl).2
    by_cases hbit : S.L[i].n.testBit (jd p) = true
    · have HE : Hid (clE S s p = 0 ∧ clS S s p = tuS S s p false) := by
        have e : clE S s p = 0 := by unfold clE; rw [eP]; exact if_pos hbit
        exact ⟨e, by unfold clS; rw [e]; exact if_pos rfl⟩
      have ht' : ∀ k, Calls Try.prog 51 #[.pointer (some ⟨xa, 0, none⟩), .int .i64 i, .int .i64 p, .bool false] (w.drewN k) fun e w' => e = .returned (.tuple #[]) ∧ DidR B (w.drewN k) xa v K (tuS S s p false) w' := fun k => turn_x (h.drewN k) hb (by omega) hi hl false
      have HB : Hid (∀ k, Below (w.drewN k).heap.size w (w.drewN k)) := fun k => below_dN (Below.refl _ _) k
      rw [hkv] at d1 hmk
      rw [hbit, ← hjj] at hmk
      generalize S.L[i].p = xp at *
      generalize K[i].g = gy at *
      generalize K[i].c = cy at *
      clear h hb hn hi hv hat hm hkv hk hl hji hjj q1 q2 q3 q4 p0 ok eP hbit hj
      go_enter Try.func43, Try.ntmps43
      go_wp2_with (go_at_call 24; (with_reducible refine ha.mono ?_); rintro e w1 ⟨rfl, rfl⟩)
      go_quiet (fail)
      go_wp2_with (go_at_call 51; (with_reducible refine (ht' _).mono ?_); rintro e w2 ⟨rfl, hd2⟩)
      go_ret
      exact ⟨by rw [HE.out.1]; rfl, by rw [HE.out.2]; exact hd2.pre (HB.out _)⟩
    · have hbit' : S.L[i].n.testBit (jd p) = false := by simpa using hbit
      have HE : Hid (clE S s p = 6 ∧ clS S s p = S) := by
        have e : clE S s p = 6 := by unfold clE; rw [eP]; exact if_neg hbit
        exact ⟨e, by unfold clS; rw [e]; exact if_neg (by decide)⟩
      have HD : Hid (∀ k, DidR B w xa v K S (w.drewN k)) := fun k => h.did (below_dN (Below.refl _ _) k)
      rw [hkv] at d1 hmk
      rw [hbit', ← hjj] at hmk
      generalize S.L[i].p = xp at *
      generalize K[i].g = gy at *
      generalize K[i].c = cy at *
      clear h hb hn hi hv hat hm hkv hk hl hji hjj q1 q2 q3 q4 p0 ok eP hbit hbit' hj
      go_enter Try.func43, Try.ntmps43
      go_wp2_with (go_at_call 24; (with_reducible refine ha.mono ?_); rintro e w1 ⟨rfl, rfl⟩)
      go_quiet (fail)
      go_wp2
      go_ret
      exact ⟨by rw [HE.out.1]; rfl, by rw [HE.out.2]; exact HD.out _⟩
  · obtain ⟨e1, e2⟩ := atI_no hl
    rw [e1] at ha
    have HE : Hid (clE S s p = 6 ∧ clS S s p = S) := by
      have e : clE S s p = 6 := by unfold clE; rw [e2]
      exact ⟨e, by unfold clS; rw [e]; exact if_neg (by decide)⟩
    have HD : Hid (∀ k, DidR B w xa v K S (w.drewN k)) := fun k => h.did (below_dN (Below.refl _ _) k)
    clear h hb hn hl e1 e2
    go_enter Try.func43, Try.ntmps43
    go_wp2_with (go_at_call 24; (with_reducible refine ha.mono ?_); rintro e w1 ⟨rfl, rfl⟩)
    go_quiet (fail)
    go_wp2
    go_ret
    exact ⟨by rw [HE.out.1]; rfl, by rw [HE.out.2]; exact HD.out _⟩
end
end Go.Proofs.Ytfalmjibpkkjaaa
