/- The program's reservations: find, has, touch, key, held. -/
import Derived.Test.YtfalmjibpkkjaaaB2
import Derived.Test.YtfalmjibpkkjaaaA4
import Derived.StillTailTactics
namespace Go.Proofs.Ytfalmjibpkkjaaa
open Go.RowKit
theorem bits_u8 : ∀ n : Fin 256, ∀ j : Fin 8, ((bits .and .u8 ((n.1 : Nat) : Int) ((2 ^ j.1 : Nat) : Int)) == 0) = !(n.1.testBit j.1) ∧ bits .or .u8 ((n.1 : Nat) : Int) ((2 ^ j.1 : Nat) : Int) = ((setB n.1 j.1 true : Nat) : Int) ∧ bits .andNot .u8 ((n.1 : Nat) : Int) ((2 ^ j.1 : Nat) : Int) = ((setB n.1 j.1 false : Nat) : Int) := by decide +kernel
theorem shift_u8 {j : Nat} (hj : j < 8) : (2 : Int) ^ min j 8 % 256 = ((2 ^ j : Nat) : Int) := by
  have : j = 0 ∨ j = 1 ∨ j = 2 ∨ j = 3 ∨ j = 4 ∨ j = 5 ∨ j = 6 ∨ j = 7 := by omega
  rcases this with rfl | rfl | rfl | rfl | rfl | rfl | rfl | rfl <;> rfl
section
variable {w w' : World} {B : Nat} {T : ObT} {S S' : Rs} {n : Nat} {s p f : Int}
set_option maxRecDepth 100000 in
theorem find_yes (h : ObAt B w T S) (hs : Fits s) (hp : Fits p) {x : Rv} (e : atP S.L s p = some x) : Calls Try.prog 32 #[.pointer (some ⟨T.s, 0, none⟩), .int .i64 s, .int .i64 p] w fun e w' => e = .returned (.tuple #[.pointer (some ⟨T.a x.s x.p, 0, none⟩), .int .i64 0]) ∧ ∃ k, w' = w.drewN k := by
  have c0 := h.c0
  have hl : ∀ k, (Instr.lookup 71 (.map (some T.bk)) (.agg #[.int .i64 s, .int .i64 (pd p)]) true).run Try.prog (w.drewN k) = .ok (.tuple #[.pointer (some ⟨T.a x.s x.p, 0, none⟩), .bool true]) (w.drewN k) := fun k => (h.drewN k).look hs hp e
  have hd := fun w => (down_r hp w).mono fun _ _ h => And.intro h.1 h.2.symm
  have hl0 := hl 0
  change (Instr.lookup _ _ _ true).run _ w = .ok _ w at hl0
  generalize T.a x.s x.p = q at *
  generalize pd p = d at *
  clear h hs hp e
  go_enter Try.func32, Try.ntmps32
  go_wp2_with fail
  go_quiet ((go_at_call 40; exact Calls.quiet_of_same (hd _)))
  go_wp2
  go_ret2
  exact ⟨rfl, _, rfl⟩
set_option maxRecDepth 100000 in
theorem find_no (h : ObAt B w T S) (hs : Fits s) (hp : Fits p) (e : atP S.L s p = none) : Calls Try.prog 32 #[.pointer (some ⟨T.s, 0, none⟩), .int .i64 s, .int .i64 p] w fun e w' => e = .returned (.tuple #[.pointer none, .int .i64 6]) ∧ ∃ k, w' = w.drewN k := by
  have c0 := h.c0
  have hl : ∀ k, (Instr.lookup 71 (.map (some T.bk)) (.agg #[.int .i64 s, .int .i64 (pd p)]) true).run Try.prog (w.drewN k) = .ok (.tuple #[.pointer none, .bool false]) (w.drewN k) := fun k => (h.drewN k).lookN hs hp e true
  have hl0 := h.lookN hs hp e true
  have hd := fun w => (down_r hp w).mono fun _ _ h => And.intro h.1 h.2.symm
  change (Instr.lookup _ _ _ true).run _ w = .ok (.tuple #[.pointer none, .bool false]) w at hl0
  generalize pd p = d at *
  clear h hs hp e
  go_enter Try.func32, Try.ntmps32
  go_wp2_with fail
  go_quiet ((go_at_call 40; exact Calls.quiet_of_same (hd _)))
  go_wp2
  go_ret2
  exact ⟨rfl, _, rfl⟩
theorem find_nil (s p : Int) (w : World) : Calls Try.prog 32 #[.pointer none, .int .i64 s, .int .i64 p] w fun e w' => e = .returned (.tuple #[.pointer none, .int .i64 1]) ∧ w = w' := by
  go_enter Try.func32, Try.ntmps32
  go_wp2
  go_ret2
  exact ⟨rfl, rfl⟩
theorem has_r {q nn j : Nat} (c3 : w.cell? ⟨q, 3, none⟩ = some (.int .u8 (nn : Int))) (hn : nn < 256) (hj : j < 8) : Calls Try.prog 34 #[.pointer (some ⟨q, 0, none⟩), .int .i64 (j : Int)] w fun e w' => e = .returned (.bool (nn.testBit j)) ∧ ∃ k, w' = w.drewN k := by
  have hsh := shift_u8 hj
  obtain ⟨b1, -, -⟩ := bits_u8 ⟨nn, hn⟩ ⟨j, hj⟩
  dsimp only at b1
  obtain ⟨a, ha⟩ : ∃ a, a = bits .and .u8 (nn : Int) ((2 ^ j : Nat) : Int) := ⟨_, rfl⟩
  rw [← ha] at b1
  have HB : Hid (nn.testBit j = !(a == 0)) := by show _ = _; rw [b1, Bool.not_not]
  obtain ⟨pw, hpw⟩ : ∃ pw : Int, pw = ((2 ^ j : Nat) : Int) := ⟨_, rfl⟩
  rw [← hpw] at ha hsh
  have ha' := ha.symm
  generalize (nn : Int) = ni at *
  clear b1 hpw ha hn hj
  go_enter Try.func34, Try.ntmps34
  go_wp2_with fail
  go_quiet (fail)
  go_wp2
  go_ret
  exact ⟨ret_bool (by rw [HB.out]; first | rfl | (simp [bne])), _, rfl⟩
/-- It was touched: the time is written. -/
theorem touch_r {ts q : Nat} {t : Int} {v0 v1 a0 a1 a2 a3 a4 : Value} (r : Lrow w ts 74 [v0, v1, .int .u64 t]) (k : Lrow w q 69 [a0, a1, a2, a3, a4]) (h0 : 0 ≤ t) (h1 : t ≤ 1000000) : Calls Try.prog 31 #[.pointer (some ⟨ts, 0, none⟩), .pointer (some ⟨q, 0, none⟩)] w fun e w' => e = .returned (.tuple #[]) ∧ w' = (w.setCell ⟨ts, 2, none⟩ (.int .u64 (t + 1))).setCell ⟨q, 4, none⟩ (.int .u64 (t + 1)) := by
  have c2 := r.cell 2
  have f2 := r.frozen 2
  have e1 : IntKind.u64.wrap (t + 1) = t + 1 := by simp [IntKind.wrap, IntKind.signed, IntKind.bits]; omega
  have hne : ts ≠ q := r.apart k (by decide)
  obtain ⟨w1, hw1⟩ : ∃ w1, w1 = w.setCell ⟨ts, 2, none⟩ (.int .u64 (t + 1)) := ⟨_, rfl⟩
  have r1 : Lrow w1 ts 74 [v0, v1, .int .u64 (t + 1)] := by rw [hw1]; exact r.set_ 2 _
  have k1 : Lrow w1 q 69 [a0, a1, a2, a3, a4] := by rw [hw1]; exact k.far (p := ⟨ts, 2, none⟩) hne.symm _
  have d2 := r1.cell 2
  have d4 := k1.cell 4
  have g4 := k1.frozen 4
  have HW := Lib.hid hw1
  rw [← hw1]
  clear r k hw1 r1 k1 h0 h1
  go_enter Try.func31, Try.ntmps31
  go_upto_region 1 with (fail)
  rw [← HW.out]
  go_wp2_with fail
  go_end0
  exact ⟨rfl, rfl⟩
set_option maxRecDepth 100000 in
theorem key_r {q : Nat} {s p : Int} {a2 a3 a4 : Value} (k : Lrow w q 69 [.int .i64 s, .int .i64 p, a2, a3, a4]) : Calls Try.prog 35 #[.pointer (some ⟨q, 0, none⟩)] w fun e w' => e = .returned (.agg #[.int .i64 s, .int .i64 p]) ∧ Below w.heap.size w w' := by
  obtain ⟨W0, hW0⟩ : ∃ W0, W0 = w.alloc (.cells #[.int .i64 0, .int .i64 0] 66) := ⟨_, rfl⟩
  obtain ⟨z, hz⟩ : ∃ z, z = w.heap.size := ⟨_, rfl⟩
  have g0 : Below w.heap.size w W0 := by rw [hW0]; exact below_new _ _
  have rz : Lrow W0 z 66 [.int .i64 0, .int .i64 0] := by rw [hW0, hz]; exact Lrow.new w _ _
  have k0 := k.call g0
  have c0 := k0.cell 0
  have c1 := k0.cell 1
  have HZ := Lib.hid rz
  have HW := Lib.hid (And.intro hW0 hz)
  have HB := Lib.hid g0
  clear k k0 rz hW0 hz g0
  go_enter Try.func35, Try.ntmps35
  go_upto_region 1 with (fail)
  rw [← HW.out.1, ← HW.out.2]
  go_wp2_with fail
  go_still_tail 11, (by kernel_rfl)
  change wpList _ _ _ _ _ W0.drew
  obtain ⟨W1, hW1⟩ : ∃ W1, W1 = W0.drew := ⟨_, rfl⟩
  have rz1 : Lrow W1 z 66 [.int .i64 0, .int .i64 0] := by rw [hW1]; exact HZ.out
  have hb1 : Below w.heap.size w W1 := by rw [hW1]; exact HB.out.drew
  rw [← hW1]
  have z0 := rz1.cell 0
  have z1 := rz1.cell 1
  have f0 := rz1.frozen 0
  have f1 := rz1.frozen 1
  have rz2 := rz1.set_ 0 (.int .i64 s)
  have y1 := rz2.cell 1
  have y2 := rz2.frozen 1
  have rz3 := rz2.set_ 1 (.int .i64 p)
  have x0 := rz3.cell 0
  have x1 := rz3.cell 1
  have HB2 : Hid (Below w.heap.size w ((W1.setCell ⟨z, 0, none⟩ (.int .i64 s)).setCell ⟨z, 1, none⟩ (.int .i64 p))) := (hb1.setCell (by have := HW.out.2; show w.heap.size ≤ z; omega) _).setCell (by have := HW.out.2; show w.heap.size ≤ z; omega) _
  clear rz1 rz2 rz3 hb1 hW1 c0 c1
  go_wp2_with fail
  exact bodyPost_ret (v := .agg #[.int .i64 s, .int .i64 p]) (by simp [results, Try.results35, go_sem, *]) rfl ⟨rfl, HB2.out⟩
set_option maxRecDepth 100000 in
set_option maxHeartbeats 2000000 in
theorem held_r {q nn : Nat} {fv : Int} {a0 a1 a4 : Value} (k : Lrow w q 69 [a0, a1, .int .i64 fv, .int .u8 (nn : Int), a4]) (hn : nn < 256) (f0 : 0 ≤ fv) (f1 : fv ≤ 1016) : Calls Try.prog 36 #[.pointer (some ⟨q, 0, none⟩)] w (ToldI (opN nn fv) w) := by
  have HK := Lib.hid (And.intro k hn)
  clear k hn
  go_enter Try.func36, Try.ntmps36
  go_wp2_with fail
  go_loopw [3, 5] (fun r k wr => ∃ j : Nat, j ≤ 8 ∧ k = .int .i64 j ∧ EI.Own w.heap.size wr r (opK nn fv j) ∧ Below w.heap.size w wr) (fun _ k _ => 8 - (RowKit.intOf k).toNat)
  case atStart => exact ⟨0, Nat.zero_le _, rfl, ⟨rfl, Or.inl ⟨rfl, rfl⟩⟩, Below.refl _ _⟩
  case round =>
    obtain ⟨j, hj, rfl, hown, hb⟩ := hrel
    obtain ⟨Ar_, cr, rfl⟩ := hown.form
    have hlen := opK_len nn fv j
    have HSU := Lib.hid (opK_succ nn fv j)
    obtain ⟨R, hR⟩ : ∃ R, R = opK nn fv j := ⟨_, rfl⟩
    rw [← hR] at hown HSU hlen ⊢
    obtain ⟨m, hmm⟩ : ∃ m, m = R.length := ⟨_, rfl⟩
    have HR := Lib.hid (And.intro hR hmm)
    have HO := Lib.hid hown
    have HB := Lib.hid hb
    rw [← hmm]
    by_cases hlt : j < 8
    · have kr := HK.out.1.call hb
      have hh := has_r (kr.cell 3) HK.out.2 hlt
      have j1 : (j : Int) < 8 := by omega
      have j0 : (0 : Int) ≤ j := by omega
      have HKR := Lib.hid kr
      clear kr hb hown hR hmm hlen
      by_cases hc : nn.testBit j = true
      · rw [hc] at hh
        have HF : Hid (opK nn fv (j + 1) = R) := by show _ = _; rw [HSU.out, if_pos hc]
        clear hc
        go_wp2_with (go_at_call 34; (with_reducible refine hh.mono ?_); rintro e w1 ⟨rfl, kk, rfl⟩)
        have HB2 := Lib.hid (below_dN HB.out kk)
        have HO2 := Lib.hid (HO.out.drewN kk)
        generalize wr.drewN kk = w1 at HB2 HO2 ⊢
        go_roundw
        case rel => exact ⟨j + 1, by omega, by go_num, by rw [HF.out, HR.out.2]; exact HO2.out, HB2.out⟩
        case measure => simp [RowKit.intOf]; omega
      · rw [show nn.testBit j = false by simpa using hc] at hh
        have HF : Hid (opK nn fv (j + 1) = R ++ [fv + (j : Nat)]) := by show _ = _; rw [HSU.out, if_neg hc]
        have hlen : R.length ≤ 8 := by have h1 := opK_len nn fv j; have h2 := HR.out.1; rw [h2]; omega
        have HLN := Lib.hid hlen
        obtain ⟨y, hy⟩ : ∃ y, y = fv + (j : Int) := ⟨_, rfl⟩
        have s1 : IntKind.i64.wrap (fv + (j : Int)) = y := by rw [hy]; exact IntWalk.i64_in _ (by omega)
        have HY := Lib.hid hy
        clear hc hy hlen
        go_wp2_with (first | (go_at_call 34; (with_reducible refine hh.mono ?_); rintro e w1 ⟨rfl, kk, rfl⟩; obtain ⟨w1, ew1⟩ : ∃ w1, w1 = wr.drewN kk := ⟨_, rfl⟩; have HB2 : Hid (Below w.heap.size w w1) := (by rw [ew1]; exact below_dN HB.out kk); have HO2 : Hid (EI.Own w.heap.size w1 (.slice Ar_ R.length cr) R) := (by rw [ew1]; exact HO.out.drewN kk); have e2 : w1.cell? ⟨q, 2, none⟩ = some (.int .i64 fv) := (by rw [ew1]; exact HKR.out.cell 2); rw [← ew1]; clear ew1; obtain ⟨A5, c5, W5, r5, o5, g5, -⟩ := HO2.out.app1 HB2.out.size y (by have := HLN.out; omega) #[.int .i64 y] rfl; have r5' := r5 _ rfl; rw [← HR.out.2] at r5' o5; change (Builtin.append_ #[42, 42] 42 _).run Try.prog (w1.alloc (.cells #[.int .i64 y] 3)) = _ at r5'; have HO5 := Lib.hid o5; have HB5 : Hid (Below w.heap.size w W5) := Below.grown HB2.out g5 HB2.out.size (fun k e => by (obtain ⟨vs, r, hlo⟩ := HO2.out.block e); exact hlo); clear o5 g5 r5) | (at_builtin; refine wpList_append_run rfl _ _ 42 rfl _ _ rfl rfl r5' ?_))
        go_roundw
        case rel => exact ⟨j + 1, by omega, by go_num, by rw [HF.out, ← HY.out]; exact HO5.out, HB5.out⟩
        case measure => simp [RowKit.intOf]; omega
    · obtain rfl : j = 8 := by omega
      have HE : Hid (R = opN nn fv) := hR
      clear hown hb hR hmm hlen
      go_wp2_with fail
      go_ret
      exact ⟨Ar_, cr, by rw [← HE.out, ← HR.out.2]; rfl, by rw [← HE.out, ← HR.out.2]; rw [HR.out.2]; exact HO.out, HB.out⟩
end
end Go.Proofs.Ytfalmjibpkkjaaa
