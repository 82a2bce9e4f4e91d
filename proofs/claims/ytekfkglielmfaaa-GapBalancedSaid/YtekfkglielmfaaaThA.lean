/- GapPuts, walked. -/
import Derived.Test.YtekfkglielmfaaaTgZ
namespace Go.Proofs.Ytekfkglielmfaaa
open Go.RowKit
theorem room_ord {L : List (Nat × Nat)} {low n o p : Int} (h : RoomIs L low n o p 0) : 0 ≤ o ∧ o ≤ 8 := by
  rcases h with ⟨-, -, h⟩ | ⟨c, -⟩
  · cases h
  · omega
theorem room_err {L : List (Nat × Nat)} {low n o p e : Int} (h : RoomIs L low n o p e) (he : e ≠ 0) : p = 0 := by
  rcases h with ⟨-, h, -⟩ | ⟨-, ⟨q, -, h, -⟩ | ⟨h, -⟩⟩
  · exact h
  · exact absurd h he
  · exact h
theorem put_len {L : List (Nat × Nat)} {f t : Int} (h : ptE L f t = 0) : (ptS L f t).length = L.length + 1 := by
  unfold ptS
  rw [if_pos h, insS_len]
theorem free_tk {L : List (Nat × Nat)} {q N i : Nat} (h : RmS L q N) (h1 : q ≤ i) (h2 : i < q + N) : tkS L i = false := by
  have := h (i - q) (by omega)
  rw [show q + (i - q) = i by omega] at this
  exact this
section
variable {w w' : World} {t x q : Nat} {a b c d : Value}
theorem keep_askF (hf : Foot (fun k => k = t) w w') (h : w.cell? ⟨q, 0, none⟩ = some a ∧ w.cell? ⟨q, 1, none⟩ = some b ∧ w.cell? ⟨q, 2, none⟩ = some c ∧ w.cell? ⟨x, 0, none⟩ = some d) (hq : ¬ q = t) (hx : ¬ x = t) : w'.cell? ⟨q, 0, none⟩ = some a ∧ w'.cell? ⟨q, 1, none⟩ = some b ∧ w'.cell? ⟨q, 2, none⟩ = some c ∧ w'.cell? ⟨x, 0, none⟩ = some d :=
  ⟨foot_cell hf h.1 hq, foot_cell hf h.2.1 hq, foot_cell hf h.2.2.1 hq, foot_cell hf h.2.2.2 hx⟩
theorem keep_askB (hf : Below w.heap.size w w') (h : w.cell? ⟨q, 0, none⟩ = some a ∧ w.cell? ⟨q, 1, none⟩ = some b ∧ w.cell? ⟨q, 2, none⟩ = some c ∧ w.cell? ⟨x, 0, none⟩ = some d) : w'.cell? ⟨q, 0, none⟩ = some a ∧ w'.cell? ⟨q, 1, none⟩ = some b ∧ w'.cell? ⟨q, 2, none⟩ = some c ∧ w'.cell? ⟨x, 0, none⟩ = some d :=
  ⟨keep_cell hf h.1, keep_cell hf h.2.1, keep_cell hf h.2.2.1, keep_cell hf h.2.2.2⟩
end
set_option maxHeartbeats 16000000 in
set_option maxRecDepth 100000 in
theorem puts_walk (A : Option Addr) (n c : Nat) (k : Ak) (w : World) (hA : Acs w w.heap.size A n) : Calls Try.prog 5 #[.slice A n c, .agg #[.int .i64 k.u, .int .i64 k.n, .int .i64 k.o]] w fun e w' => e = .returned (.bool true) ∧ Below w.heap.size w w' := by
  obtain ⟨M, hM, hA⟩ := hA.list
  obtain ⟨W0, hW0⟩ : ∃ W0, W0 = w.alloc (.cells #[.int .i64 k.u, .int .i64 k.n, .int .i64 k.o] 40) := ⟨_, rfl⟩
  obtain ⟨q, hq⟩ : ∃ q, q = w.heap.size := ⟨_, rfl⟩
  have b0 : Below w.heap.size w W0 := by rw [hW0]; exact below_new _ _
  have rs : Lrow W0 q 40 [.int .i64 k.u, .int .i64 k.n, .int .i64 k.o] := by rw [hW0, hq]; exact Lrow.new w _ _
  obtain ⟨ku, kn, ko⟩ := k
  dsimp only at *
  have hmade := made_any A n c w.heap.size M W0 hM (hA.below b0) b0.size
  have HR := Lib.hid rs
  have HB := Lib.hid b0
  have HW := Lib.hid (And.intro hW0 hq)
  clear hW0 hq b0 rs hA hM
  go_enter Try.func5, Try.ntmps5
  go_upto_region 1 with (fail)
  rw [← HW.out.1, ← HW.out.2]
  go_wp2_with fail
  refine hmade.mono ?_
  rintro e w1 ⟨t, x, rfl, L, hlen, hst, b1⟩
  have HS1 := Lib.hid (And.intro hst b1)
  have HLN := Lib.hid hlen
  have h2 := awake_any w1
  clear hmade hst hlen b1
  go_wp2_with fail
  refine h2.mono ?_
  rintro e w2 ⟨rfl, b2⟩
  have HB2 := Lib.hid (HS1.out.2.trans (b2.mono HS1.out.2.size))
  have hst := HS1.out.1.call b2
  have HS2 := Lib.hid hst
  clear h2 b2 HS1
  have hR := room_t hst.1 ku kn ko
  have rs2 := HR.out.call HB2.out
  have z0 := rs2.cell 0
  have z1 := rs2.cell 1
  have z2 := rs2.cell 2
  clear hst rs2
  go_upto_region 5 with (first | (go_at_call 19; (with_reducible refine hR.mono ?_); rintro e w3 ⟨p, er, rfl, hr, b3⟩) | fail)
  have HB3 := Lib.hid (HB2.out.trans (b3.mono HB2.out.size))
  have hst := HS2.out.call b3
  clear hR b3 z0 z1 z2
  by_cases he : er = 0
  · subst he
    obtain ⟨y, N, rfl, rfl, hN, hy1, hyN, hylow, hymod, hfree, hpt⟩ := room_ok hst.ok hr
    have hord := room_ord hr
    have hev : evB (y : Int) ko = true := by
      unfold evB ordB
      rw [Bool.and_eq_true, decide_eq_true_iff, decide_eq_true_iff]
      refine ⟨hord, ?_⟩
      have e2 : (2 : Int) ^ ko.toNat = ((2 ^ ko.toNat : Nat) : Int) := by push_cast; rfl
      rw [e2]; exact hymod
    obtain ⟨v, hv⟩ := hst.2.1
    have hT := rtaken hv (by have := HLN.out; omega) hst.ok
    have HF := Lib.hid (And.intro hfree (And.intro hpt hev))
    have HS3 := Lib.hid hst
    clear hv hst hr hfree hpt hev hymod hord HS2
    go_upto_region 9 with (first | (go_at_call 21; (with_reducible refine hT.mono ?_); rintro e w4 ⟨g, rfl, hg, hrow, b4⟩) | fail)
    have HB4 := Lib.hid (HB3.out.trans (b4.mono HB3.out.size))
    have HRW := Lib.hid hrow
    have HS4 := Lib.hid (HS3.out.call b4)
    clear hT hrow b4 hg HS3
    have e1 : IntKind.i64.wrap ((y : Int) + N) = (y : Int) + N := IntWalk.i64_in _ (by omega)
    go_loopw [11] (fun i wr => ∃ j : Nat, y ≤ j ∧ j ≤ y + N ∧ i = .int .i64 j ∧ wr = w4) (fun i _ => y + N - (RowKit.intOf i).toNat)
    case atStart => exact ⟨y, Nat.le_refl _, by omega, rfl, rfl⟩
    case round =>
      obtain ⟨j, hj1, hj2, rfl, rfl⟩ := hrel
      have rs4 := HR.out.call HB4.out
      have z1 := rs4.cell 1
      by_cases hlt : j < y + N
      · have hb : wr.cell? ⟨g, j, none⟩ = some (.bool (tkS L j)) := (HRW.out.cell j).trans (rwB_get (by omega))
        rw [free_tk HF.out.1 hj1 hlt] at hb
        have c1 : (j : Int) < (y : Int) + N := by omega
        have j0 : (0 : Int) ≤ j := by omega
        have j2 : (j : Int) < 4096 := by omega
        have hw3 : IntKind.i64.wrap ((j : Int) + 1) = (j : Int) + 1 := IntWalk.i64_in _ (by omega)
        clear rs4
        go_wp2_with fail
        go_roundw
        case rel => exact ⟨j + 1, by omega, by omega, by go_num, trivial⟩
        case measure => simp [RowKit.intOf]; omega
      · obtain rfl : j = y + N := by omega
        have c1 : ¬ ((y + N : Nat) : Int) < (y : Int) + N := by omega
        have z0 := rs4.cell 0
        have z2 := rs4.cell 2
        have hst := HS4.out
        obtain ⟨v, hv⟩ := hst.2.1
        obtain ⟨A2, c2, hv2⟩ := hv.2.1.form
        subst hv2
        have hs : wr.cell? ⟨q, 0, none⟩ = some (.int .i64 ku) ∧ wr.cell? ⟨q, 1, none⟩ = some (.int .i64 (N : Nat)) ∧ wr.cell? ⟨q, 2, none⟩ = some (.int .i64 ko) ∧ wr.cell? ⟨x, 0, none⟩ = some (.slice A2 L.length c2) := ⟨z0, z1, z2, hv.1.cell 0⟩
        have hxt : ¬ x = t := fun e => by
          obtain ⟨o, r⟩ := hst.1.row
          exact r.apart hv.1 (by decide) e.symm
        have hqt : ¬ q = t := fun e => by
          obtain ⟨o, r⟩ := hst.1.row
          exact r.apart rs4 (by decide) e.symm
        have cE := fun W => refEven_any (o := ko) (y : Int) (by omega) (by omega) W
        rw [HF.out.2.2] at cE
        have cP := put_p (w := wr.drew) (hst.1.call (below_dN (Below.refl wr.heap.size wr) 1)) (y : Int) ((y : Int) + N)
        rw [HF.out.2.1] at cP
        have hln := put_len HF.out.2.1
        obtain ⟨K, hK⟩ : ∃ K, K = L.length := ⟨_, rfl⟩
        have hK2 : K ≤ 90 := by rw [hK]; exact HLN.out
        rw [← hK] at hln hs
        have hw5 : IntKind.i64.wrap ((K : Int) + 1) = (K : Int) + 1 := IntWalk.i64_in _ (by omega)
        have LW : Hid (∀ W, PrT W0.heap.size W t (ptS L y ((y : Int) + N)) → Calls Try.prog 16 #[.pointer (some ⟨t, 0, none⟩)] W fun e w' => e = .returned (.int .i64 ((K : Int) + 1)) ∧ Below W.heap.size W w') := fun W h => by
          have := len_p h
          rw [hln] at this
          exact this
        have g1 : (y : Int) ≥ 1 := by omega
        have g2 : (y : Int) ≥ ku := hylow
        have g1' : decide ((y : Int) ≥ 1) = true := decide_eq_true g1
        have g2' : decide (ku ≤ (y : Int)) = true := decide_eq_true hylow
        have HBT : Hid (W0.heap.size ≤ t) := hst.2.2.1
        clear hst hv rs4 z0 z1 z2 hK hln
        go_upto_region 13 with (fail)
        go_region_held3 (fun v => v.cell? ⟨q, 0, none⟩ = some (.int .i64 ku) ∧ v.cell? ⟨q, 1, none⟩ = some (.int .i64 (N : Nat)) ∧ v.cell? ⟨q, 2, none⟩ = some (.int .i64 ko) ∧ v.cell? ⟨x, 0, none⟩ = some (.slice A2 K c2))
          (first | exact hs | exact hsp | exact hsl)
          (first | (go_at_call 22; (with_reducible refine (cE _).mono ?_); rintro e we ⟨rfl, rfl⟩) | (go_at_call 23; (with_reducible refine cP.mono ?_); rintro e wp ⟨rfl, hp1, fp⟩; have hsp := keep_askF fp hs hqt hxt) | (go_at_call 16; (with_reducible refine (LW.out _ hp1).mono ?_); rintro e wl ⟨rfl, bl⟩; have hsl := keep_askB bl hsp) | fail)
        all_goals
          go_wp2_with fail
          go_ret
          have hq0 := foot_blw fp (below_dN HB4.out 1) HB4.out.size HBT.out
          exact ⟨rfl, HB.out.trans ((hq0.trans (bl.mono hq0.size)).mono HB.out.size)⟩
  · have hp0 := room_err hr he
    subst hp0
    have he' : (er == 0) = false := by simpa using he
    clear hr hst
    go_wp2_with fail
    go_ret
    exact ⟨rfl, HB.out.trans (HB3.out.mono HB.out.size)⟩
end Go.Proofs.Ytekfkglielmfaaa
