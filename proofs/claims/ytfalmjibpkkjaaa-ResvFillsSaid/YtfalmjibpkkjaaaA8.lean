/- The reference of reservations: Oldest, Told. -/
import Derived.Test.YtfalmjibpkkjaaaA7
import Derived.Test.YtfalmjibpkkjaaaC4
namespace Go.Proofs.Ytfalmjibpkkjaaa
open Go.RowKit
def oldI (L : List Rv) : Int := if L.length = 0 then -1 else (oldK L (L.length - 1) : Nat)
def oldJ (L : List Rv) (j : Nat) : Int := if j = 0 then -1 else (oldK L (j - 1) : Nat)
section
variable {w w' : World} {B xa : Nat} {v : Value} {K : List Rw} {S S' : Rs} {n : Nat} {s p : Int}
set_option maxRecDepth 100000 in
set_option maxHeartbeats 2000000 in
theorem old_x (h : Rx B w xa v K S) (hb : Bnd n S) (hn : n ≤ 900) : Calls Try.prog 18 #[.pointer (some ⟨xa, 0, none⟩)] w fun e w' => e = .returned (.int .i64 (oldI S.L)) ∧ Below w.heap.size w w' := by
  obtain ⟨A, c, hv⟩ := h.own.form
  obtain ⟨m, hm⟩ : ∃ m, m = K.length := ⟨_, rfl⟩
  have m9 : (m : Int) ≤ 900 := by have := hb.ln; have := h.len; omega
  have HX := Lib.hid (And.intro h (And.intro hv (And.intro hm h.len)))
  rw [← hm] at hv
  have HV := Lib.hid hv
  clear h hv hm hb hn
  go_enter Try.func18, Try.ntmps18
  go_wp2
  go_loopw [3, 4] (fun k i wr => ∃ j q : Nat, j ≤ m ∧ i = .int .i64 j ∧ k = .int .i64 (oldJ S.L j) ∧ wr = w.drewN q) (fun _ i _ => m - (RowKit.intOf i).toNat)
  case atStart => exact ⟨0, 0, Nat.zero_le _, rfl, rfl, rfl⟩
  case round =>
    obtain ⟨j, q, hj, rfl, rfl, hwr⟩ := hrel
    have hx := HX.out.1.drewN q
    rw [← hwr] at hx
    have HWR := Lib.hid hwr
    have c0 := hx.c0
    rw [HV.out] at c0
    by_cases hlt : j < m
    · have hjl : j < K.length := by rw [← HX.out.2.2.1]; exact hlt
      obtain ⟨hjs, hks⟩ := hx.get hjl
      obtain ⟨-, g, e, -, hat⟩ := hx.on HX.out.2.1 hjl
      subst e
      obtain ⟨-, -, -, -, d4⟩ := on_at hat
      rw [← hks] at d4
      have HT1 := Lib.hid (tAt_get hjs)
      have j1 : (j : Int) < m := by omega
      have j0 : (0 : Int) ≤ j := by omega
      rcases Nat.eq_zero_or_pos j with hz | hz
      · subst hz
        have e1 : oldJ S.L 0 = -1 := rfl
        have e2 : Hid (oldJ S.L (0 + 1) = ((0 : Nat) : Int)) := rfl
        rw [e1]
        clear hwr hx hat hks d4
        go_wp2_with fail
        go_quiet (fail)
        go_wp2_with fail
        go_roundw
        case rel => exact ⟨0 + 1, _, by omega, by go_num, by rw [e2.out], by rw [HWR.out]; exact World.drewN_drewN _ _ _⟩
        case measure => simp [RowKit.intOf]; omega
      · obtain ⟨i, rfl⟩ : ∃ i, j = i + 1 := ⟨j - 1, by omega⟩
        have hko : oldK S.L i < S.L.length := by have := oldK_le S.L i; omega
        obtain ⟨hkk, hkv⟩ := hx.at_ hko
        obtain ⟨-, g2, e, -, hat2⟩ := hx.on HX.out.2.1 hkk
        injection e with e; injection e with e; subst e
        obtain ⟨-, -, -, -, f4⟩ := on_at hat2
        rw [hkv] at f4
        have HT2 := Lib.hid (tAt_get hko)
        have e1 : oldJ S.L (i + 1) = (oldK S.L i : Nat) := rfl
        have HN : Hid (∀ b, decide (S.L[i + 1].t < S.L[oldK S.L i].t) = b → oldJ S.L (i + 1 + 1) = if b = true then ((i + 1 : Nat) : Int) else (oldK S.L i : Nat)) := fun b e => by
          show ((oldK S.L (i + 1) : Nat) : Int) = _
          rw [oldK_succ, HT1.out, HT2.out, ← e]
          by_cases q : S.L[i + 1].t < S.L[oldK S.L i].t
          · rw [if_pos q, decide_eq_true q, if_pos rfl]
          · rw [if_neg q, decide_eq_false q, if_neg (by decide)]
        rw [e1]
        obtain ⟨k, hk⟩ : ∃ k, k = oldK S.L i := ⟨_, rfl⟩
        have hkm : k < m := by rw [HX.out.2.2.1, HX.out.2.2.2, hk]; exact hko
        have HK := Lib.hid hk
        obtain ⟨ti, hti⟩ : ∃ ti, ti = S.L[i + 1].t := ⟨_, rfl⟩
        obtain ⟨tk, htk⟩ : ∃ tk, tk = S.L[oldK S.L i].t := ⟨_, rfl⟩
        rw [← hti] at d4 HN
        rw [← htk] at f4 HN
        rw [← hk] at f4 HN ⊢
        obtain ⟨z, hz'⟩ : ∃ z, z = i + 1 := ⟨_, rfl⟩
        rw [← hz'] at d4 j1 j0 HN hlt ⊢
        have k1 : (k : Int) < m := by omega
        have k0 : (0 : Int) ≤ k := by omega
        have kn : (decide ((k : Int) < 0)) = false := decide_eq_false (by omega)
        have kn' : ¬ (k : Int) < 0 := by omega
        have HZ := Lib.hid hz'
        by_cases hcmp : ti < tk
        · have HF := Lib.hid (HN.out true (decide_eq_true hcmp))
          clear hwr hx hat hat2 hks hkv hti htk hk hz' HT1 HT2 HN e1 hj hjl hjs
          go_wp2_with fail
          go_quiet (fail)
          go_wp2_with fail
          go_roundw
          case rel => exact ⟨z + 1, _, by omega, by go_num, by rw [HF.out]; rfl, by rw [HWR.out]; exact World.drewN_drewN _ _ _⟩
          case measure => simp [RowKit.intOf]; omega
        · have HF := Lib.hid (HN.out false (decide_eq_false hcmp))
          clear hwr hx hat hat2 hks hkv hti htk hk hz' HT1 HT2 HN e1 hj hjl hjs
          go_wp2_with fail
          go_quiet (fail)
          go_wp2_with fail
          go_roundw
          case rel => exact ⟨z + 1, _, by omega, by go_num, by rw [HF.out]; rfl, by rw [HWR.out]; exact World.drewN_drewN _ _ _⟩
          case measure => simp [RowKit.intOf]; omega
    · obtain rfl : j = m := by omega
      have HE : Hid (oldJ S.L j = oldI S.L) := by
        show _ = _
        unfold oldJ oldI
        rw [← HX.out.2.2.2, ← HX.out.2.2.1]
      have HB : Hid (Below w.heap.size w wr) := by rw [hwr]; exact below_dN (Below.refl _ _) q
      clear hwr hx
      go_wp2_with fail
      go_ret
      exact ⟨ret_int HE.out, HB.out⟩
/-! Told. -/
theorem told_step : ∀ n, n < 256 → ∀ j, j < 8 → n / 2 ^ (7 - j) = 2 * (n / 2 ^ (8 - j)) + (n.testBit (7 - j)).toNat ∧ n / 2 ^ (8 - j) ≤ 127 := by decide +kernel
set_option maxRecDepth 100000 in
set_option maxHeartbeats 2000000 in
theorem told_x {g c nn : Nat} {sv pv fv tv : Int} (hm : ∀ i, i < 8 → w.cell? ⟨g, i, none⟩ = some (.bool (nn.testBit i))) (hn : nn < 256) (hg : g < w.heap.size) : Calls Try.prog 19 #[.agg #[.int .i64 sv, .int .i64 pv, .int .i64 fv, .slice (some ⟨g, 0, none⟩) 8 c, .int .i64 tv]] w fun e w' => e = .returned (.agg #[.int .i64 sv, .int .i64 pv, .int .i64 fv, .int .u8 (nn : Nat)]) ∧ Below w.heap.size w w' := by
  obtain ⟨W1, hW1⟩ : ∃ W1, W1 = w.alloc (.cells #[.int .i64 sv, .int .i64 pv, .int .i64 fv, .slice (some ⟨g, 0, none⟩) 8 c, .int .i64 tv] 53) := ⟨_, rfl⟩
  obtain ⟨W0, hW0⟩ : ∃ W0, W0 = W1.alloc (.cells #[.int .i64 0, .int .i64 0, .int .i64 0, .int .u8 0] 31) := ⟨_, rfl⟩
  obtain ⟨q, hq⟩ : ∃ q, q = w.heap.size := ⟨_, rfl⟩
  have b1 : Below w.heap.size w W1 := by rw [hW1]; exact below_new _ _
  have b2 : Below W1.heap.size W1 W0 := by rw [hW0]; exact below_new _ _
  have g0 : Below w.heap.size w W0 := b1.trans (b2.mono b1.size)
  have s1 : W1.heap.size = q + 1 := by rw [hW1, hq]; simp
  have rs : Lrow W0 q 53 [.int .i64 sv, .int .i64 pv, .int .i64 fv, .slice (some ⟨g, 0, none⟩) 8 c, .int .i64 tv] := by
    have : Lrow W1 q 53 [.int .i64 sv, .int .i64 pv, .int .i64 fv, .slice (some ⟨g, 0, none⟩) 8 c, .int .i64 tv] := by rw [hW1, hq]; exact Lrow.new w _ _
    exact this.call b2
  have rz : Lrow W0 (q + 1) 31 [.int .i64 0, .int .i64 0, .int .i64 0, .int .u8 0] := by rw [← s1, hW0]; exact Lrow.new W1 _ _
  have hm0 : ∀ i, i < 8 → W0.cell? ⟨g, i, none⟩ = some (.bool (nn.testBit i)) := fun i hi => (g0.cell (p := ⟨g, i, none⟩) hg).trans (hm i hi)
  have HW := Lib.hid (And.intro hW0 (And.intro hW1 hq))
  have HM := Lib.hid hm0
  have HS := Lib.hid (And.intro rs rz)
  have HG := Lib.hid (And.intro g0 hn)
  clear hm hg hW0 hW1 hq rs rz hm0 g0 b1 b2 s1 hn
  go_enter Try.func19, Try.ntmps19
  go_upto_region 1 with (fail)
  rw [← HW.out.2.1, ← HW.out.1, ← HW.out.2.2]
  go_wp2_with fail
  go_loopw [3, 4] (fun f k wr => ∃ j : Nat, j ≤ 8 ∧ k = .int .i64 (7 - (j : Int)) ∧ f = .int .u8 ((nn / 2 ^ (8 - j) : Nat) : Int) ∧ wr = W0) (fun _ k _ => (RowKit.intOf k + 1).toNat)
  case atStart => exact ⟨0, Nat.zero_le _, rfl, by rw [show nn / 2 ^ (8 - 0) = 0 from Nat.div_eq_of_lt HG.out.2]; rfl, rfl⟩
  case round =>
    obtain ⟨j, hj, rfl, rfl, rfl⟩ := hrel
    by_cases hlt : j < 8
    · obtain ⟨t1, t2⟩ := told_step nn HG.out.2 j hlt
      have hmk := HM.out (7 - j) (by omega)
      obtain ⟨f, hf⟩ : ∃ f : Nat, f = nn / 2 ^ (8 - j) := ⟨_, rfl⟩
      rw [← hf] at t1 t2 ⊢
      obtain ⟨i, hi⟩ : ∃ i : Nat, i = 7 - j := ⟨_, rfl⟩
      rw [← hi] at t1 hmk
      have hij : (7 - (j : Int)) = (i : Int) := by omega
      have hi8 : i < 8 := by omega
      rw [hij]
      have HF : Hid (nn / 2 ^ i = 2 * f + (nn.testBit i).toNat) := t1
      have HI : Hid (8 - (j + 1) = i ∧ (7 - ((j + 1 : Nat) : Int)) = (i : Int) - 1 ∧ j < 8) := ⟨by omega, by omega, hlt⟩
      have i0 : (0 : Int) ≤ i := by omega
      have i8 : (i : Int) < 8 := by omega
      have e1 : IntKind.u8.wrap ((f : Int) * 2) = (f : Int) * 2 := by simp [IntKind.wrap, IntKind.signed, IntKind.bits]; omega
      have e1' : (f : Int) * 2 % 256 = (f : Int) * 2 := by omega
      have e2 : IntKind.u8.wrap ((f : Int) * 2 + 1) = (f : Int) * 2 + 1 := by simp [IntKind.wrap, IntKind.signed, IntKind.bits]; omega
      have e3 : IntKind.i64.wrap ((i : Int) - 1) = (i : Int) - 1 := IntWalk.i64_in _ (by omega)
      have q3 := HS.out.1.cell 3
      have HB : Hid (2 * (f : Int) ≤ 254) := by show _ ≤ _; omega
      clear t1 t2 hf hi hij hj hlt
      by_cases hc : nn.testBit i = true
      · rw [hc] at hmk
        have HR : Hid (((nn / 2 ^ i : Nat) : Int) = (f : Int) * 2 + 1) := by show _ = _; rw [HF.out, hc]; show ((2 * f + 1 : Nat) : Int) = _; omega
        clear hc
        go_wp2_with fail
        go_roundw
        case rel => exact ⟨j + 1, by have := HI.out.2.2; omega, by rw [HI.out.2.1], by rw [HI.out.1, HR.out], trivial⟩
        case measure => simp [RowKit.intOf]
      · have hc' : nn.testBit i = false := by simpa using hc
        rw [hc'] at hmk
        have HR : Hid (((nn / 2 ^ i : Nat) : Int) = (f : Int) * 2) := by show _ = _; rw [HF.out, hc']; show ((2 * f + 0 : Nat) : Int) = _; omega
        clear hc hc'
        go_wp2_with fail
        go_roundw
        case rel => exact ⟨j + 1, by have := HI.out.2.2; omega, by rw [HI.out.2.1], by rw [HI.out.1, HR.out], trivial⟩
        case measure => simp [RowKit.intOf]
    · obtain rfl : j = 8 := by omega
      have HE : Hid (((nn / 2 ^ (8 - 8) : Nat) : Int) = (nn : Int)) := by show _ = _; rw [Nat.sub_self, Nat.pow_zero, Nat.div_one]
      obtain ⟨f, hf⟩ : ∃ f : Int, f = ((nn / 2 ^ (8 - 8) : Nat) : Int) := ⟨_, rfl⟩
      rw [← hf]
      have HF : Hid (f = (nn : Int)) := hf.trans HE.out
      have q0 := HS.out.1.cell 0
      have q1 := HS.out.1.cell 1
      have q2 := HS.out.1.cell 2
      have hz3 := HS.out.2
      have r1 := hz3.set_ 0 (.int .i64 sv)
      have r2 := r1.set_ 1 (.int .i64 pv)
      have r3 := r2.set_ 2 (.int .i64 fv)
      have r4 := r3.set_ 3 (.int .u8 f)
      have x0 := hz3.cell 0
      have x1 := r1.cell 1
      have x2 := r2.cell 2
      have x3 := r3.cell 3
      have y0 := hz3.frozen 0
      have y1 := r1.frozen 1
      have y2 := r2.frozen 2
      have y3 := r3.frozen 3
      have o0 := r4.cell 0
      have o1 := r4.cell 1
      have o2 := r4.cell 2
      have o3 := r4.cell 3
      have hge : w.heap.size ≤ q + 1 := by have := HW.out.2.2; omega
      have HB : Hid (Below w.heap.size w ((((wr.setCell ⟨q + 1, 0, none⟩ (.int .i64 sv)).setCell ⟨q + 1, 1, none⟩ (.int .i64 pv)).setCell ⟨q + 1, 2, none⟩ (.int .i64 fv)).setCell ⟨q + 1, 3, none⟩ (.int .u8 f))) := (((HG.out.1.setCell (by exact hge) _).setCell (by exact hge) _).setCell (by exact hge) _).setCell (by exact hge) _
      clear hz3 r1 r2 r3 r4 hf hge
      go_wp2_with fail
      exact bodyPost_ret (v := .agg #[.int .i64 sv, .int .i64 pv, .int .i64 fv, .int .u8 f]) (by simp [results, Try.results19, go_sem, *]) rfl ⟨by rw [HF.out], HB.out⟩
end
end Go.Proofs.Ytfalmjibpkkjaaa
