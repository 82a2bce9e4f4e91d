/- The law TLBFlushes, walked. -/
import Derived.Test.YtbnnfgdlkldafaaAs
namespace Go.Proofs.Ytbnnfgdlkldafaa
open Go.RowKit
/-- What a flush leaves holds none of its pages. -/
theorem left_not {L : List Cd} {s p n : Int} {c : Cd} (h : c ∈ flL L s p n) : ¬ (0 < n ∧ c.s = s ∧ p ≤ c.p ∧ c.p - p < n) := by
  unfold flL at h
  have h2 := (List.mem_filter.1 h).2
  have h3 : metB c s p n = false := by simpa using h2
  unfold metB at h3
  rw [decide_eq_false_iff_not] at h3
  have := (szO_pos c.o).1
  rintro ⟨a1, a2, a3, a4⟩
  exact h3 ⟨by omega, a2, by omega, by omega⟩
set_option maxHeartbeats 4000000 in
set_option maxRecDepth 100000 in
theorem flushes9_walk (A : Option Addr) (n c : Nat) (z : Int) (l : Kl) (w : World) (hA : Kls w w.heap.size A n) (hz : 0 ≤ z ∧ z < 256) (hl : IsKl l) :
    Calls Try.prog 5 #[.int .u8 z, .slice A n c, .agg (klCells l).toArray] w fun e w' => e = .returned (.bool true) ∧ Below w.heap.size w w' := by
  obtain ⟨m, rfl⟩ : ∃ m : Nat, z = m := ⟨z.toNat, by omega⟩
  obtain ⟨W0, hW0⟩ : ∃ W0, W0 = w.alloc (.cells (klCells l).toArray 44) := ⟨_, rfl⟩
  obtain ⟨s, hsz⟩ : ∃ s, s = w.heap.size := ⟨_, rfl⟩
  have g0 : Below w.heap.size w W0 := hW0 ▸ below_1 _
  have rs : Lrow W0 s 44 (klCells l) := by rw [hW0, hsz]; exact Lrow.new w _ (klCells l)
  have HW := Lib.hid (And.intro hW0 hsz)
  have HG0 := Lib.hid g0
  have HRS := Lib.hid rs
  have HOK := Lib.hid hl
  have hm256 : (m : Int) < 256 := hz.2
  have hm := made_any (m % 64 + 1) (by omega) (by omega) A n c w.heap.size W0 (hA.below g0) (HG0.out).size
  rw [show ((m % 64 + 1 : Nat) : Int) = (m : Int) % 64 + 1 by omega] at hm
  have HM := Lib.hid hm
  have m0 : (0 : Int) ≤ (m : Int) % 64 := by omega
  have m64 : (m : Int) % 64 < 64 := by omega
  clear hm
  obtain ⟨K, S, P, N, C⟩ := l
  dsimp only [klCells] at HW HRS ⊢
  clear hW0 hsz g0 rs hA hz hl
  go_enter Try.func5, Try.ntmps5
  go_upto_region 1 with (fail)
  rw [← HW.out.1, ← HW.out.2]
  go_wp2_with fail
  refine HM.out.mono ?_
  rintro e w2 ⟨ta, xa, rfl, tv, xv, L, hst, hb2⟩
  have HST2 := Lib.hid hst
  have HZ2 := Lib.hid hb2
  have HB2 := Lib.hid ((HG0.out).trans (hb2.mono (HG0.out).size))
  clear hst hb2
  go_wp2_with fail
  refine (awake_any _).mono ?_
  rintro e w3 ⟨rfl, hb3⟩
  have HZ3 := Lib.hid hb3
  have HST3 := Lib.hid (HST2.out.call hb3)
  have HB3 := Lib.hid (HB2.out.trans (hb3.mono HB2.out.size))
  clear hb3
  have r3 := (HRS.out.call HZ2.out).call HZ3.out
  have HR3 := Lib.hid r3
  have hln := lines_any HST3.out.t
  have HL64 := Lib.hid (Nat.le_trans HST3.out.t.good.len HST3.out.t.z64)
  obtain ⟨M, hM⟩ : ∃ M, M = flL L S P N := ⟨_, rfl⟩
  have hml : M.length ≤ L.length := by rw [hM]; exact flL_len L S P N
  obtain ⟨nL, hnL⟩ : ∃ nL, nL = L.length := ⟨_, rfl⟩
  obtain ⟨nM, hnM⟩ : ∃ nM, nM = M.length := ⟨_, rfl⟩
  have HNOT : Hid (∀ x ∈ M, ¬ (0 < N ∧ x.s = S ∧ P ≤ x.p ∧ x.p - P < N)) := fun x hx => by rw [hM] at hx; exact left_not hx
  have HFL : Hid (∀ W, Below w3.heap.size w3 W → Calls Try.prog 17 #[.pointer (some ⟨ta, 0, none⟩), .int .i64 S, .int .i64 P, .int .i64 N] W (Grown W0.heap.size W ta (m % 64 + 1) tv M (.int .i64 ((nL : Int) - nM)))) := fun W hW => by
    rw [hM, hnL, hnM, hM]
    exact (flush_any (HST3.out.call hW).t S HOK.out.p HOK.out.n).mono fun _ _ h => h.grown
  have HRF : Hid (∀ (W : World) (xv : Value), Rb W0.heap.size W xa (m % 64 + 1) xv L → Calls Try.prog 18 #[.pointer (some ⟨xa, 0, none⟩), .int .i64 S, .int .i64 P, .int .i64 N] W (DidR W0.heap.size W xa (m % 64 + 1) xv M (.int .i64 (flN L S P N)))) := fun W xv hR => by
    rw [hM]
    exact refFlush_any hR HST3.out.t.good.ok HL64.out S HOK.out.p HOK.out.n
  have n64 : (nL : Int) ≤ 64 := by have := HL64.out; omega
  have nml : (nM : Int) ≤ nL := by omega
  rw [← hnL] at hln
  have HNN := Lib.hid (And.intro hnL hnM)
  clear r3 hM hml hnL hnM
  go_wp2_with fail
  refine hln.mono ?_
  rintro e w4 ⟨A4, rfl, -, hb4⟩
  have r4 := HR3.out.call hb4
  have k1 : w4.cell? ⟨s, 1, none⟩ = some (.int .i64 S) := r4.cell 1
  have k2 : w4.cell? ⟨s, 2, none⟩ = some (.int .i64 P) := r4.cell 2
  have k3 : w4.cell? ⟨s, 3, none⟩ = some (.int .i64 N) := r4.cell 3
  have HST4 := Lib.hid (HST3.out.call hb4)
  have HB4 := Lib.hid (HB3.out.trans (hb4.mono HB3.out.size))
  have HFC := Lib.hid (HFL.out _ hb4)
  have HR4 := Lib.hid r4
  clear hln hb4 r4
  go_wp2_with fail
  refine HFC.out.mono ?_
  intro e w5 hd
  obtain ⟨rfl, tv5, hT5, hR5, hs5, hb5, hk5⟩ := HST4.out.half hd
  have HT5 := Lib.hid hT5
  have HRB5 := Lib.hid hR5
  have HS5 := Lib.hid hs5
  have HB5 := Lib.hid (HB4.out.trans (hb5.mono (by have := HG0.out.size; exact this)))
  have HR5 := Lib.hid (hk5 HR4.out (by decide) (by decide))
  have hln5 := lines_any hT5
  rw [← HNN.out.2] at hln5
  clear hd hT5 hR5 hs5 hb5 hk5 k1 k2 k3
  go_wp2_with fail
  refine hln5.mono ?_
  rintro e w6 ⟨A6, rfl, hl6, hb6⟩
  have HLN := Lib.hid hl6
  have HT6 := Lib.hid (HT5.out.call hb6)
  have HRB6 := Lib.hid (HRB5.out.call hb6)
  have HB6 := Lib.hid (HB5.out.trans (hb6.mono HB5.out.size))
  have HR6 := Lib.hid (HR5.out.call hb6)
  have hx5 : xa < w5.heap.size := HRB5.out.top.lt
  have hsz6 := hb6.size
  have HX5 := Lib.hid (And.intro hx5 hsz6)
  clear hln5 hl6 hb6 hx5 hsz6
  go_wp2_with fail
  go_loopw [13] (fun i wr => ∃ j : Nat, j ≤ nM ∧ i = .int .i64 j ∧ Below w6.heap.size w6 wr) (fun i _ => nM - (intOf i).toNat)
  case atStart => exact ⟨0, by omega, rfl, Below.refl _ _⟩
  case round =>
    obtain ⟨j, hj, rfl, hb⟩ := hrel
    have HB := Lib.hid hb
    have rr := HR6.out.call hb
    have k1 : wr.cell? ⟨s, 1, none⟩ = some (.int .i64 S) := rr.cell 1
    have k2 : wr.cell? ⟨s, 2, none⟩ = some (.int .i64 P) := rr.cell 2
    have k3 : wr.cell? ⟨s, 3, none⟩ = some (.int .i64 N) := rr.cell 3
    by_cases hlt : j < nM
    · have hjm : j < M.length := by have := HNN.out.2; omega
      obtain ⟨g, rfl, hgl, -, hat⟩ := HLN.out (by omega)
      have hat := (hat j hjm).heap (w' := wr) (hb.block g hgl)
      have hnot := HNOT.out M[j] (List.getElem_mem _)
      have hxp : M[j].p < 4096 := (HT5.out.good.ok _ (List.getElem_mem _)).2.2.2.1
      have c0 := hat.c0
      have c1 := hat.c1
      dsimp only at c0 c1
      obtain ⟨x, hx⟩ : ∃ x, x = M[j] := ⟨_, rfl⟩
      rw [← hx] at c0 c1 hnot hxp
      obtain ⟨xs, xp, xo, xf, xw⟩ := x
      dsimp only at c0 c1 hnot hxp
      have hjN : (j : Int) < nM := by omega
      have hj0 : (0 : Int) ≤ j := by omega
      clear hat hx hb rr hgl hjm
      by_cases t1 : 0 < N
      · have e1 : decide (0 < N) = true := by simpa using t1
        by_cases t2 : xs = S
        · have e2 : (xs == S) = true := by simpa using t2
          by_cases t3 : P ≤ xp
          · have e3 : decide (P ≤ xp) = true := by simpa using t3
            by_cases t4 : 0 ≤ P
            · have e4 : decide (0 ≤ P) = true := by simpa using t4
              have hw : IntKind.i64.wrap (xp - P) = xp - P := IntWalk.i64_in _ (by omega)
              have e5 : decide (xp - P < N) = false := by rw [decide_eq_false_iff_not]; exact fun h => hnot ⟨t1, t2, t3, h⟩
              clear hnot
              go_wp2_with fail
              go_quiet (fail)
              go_wp2_with fail
              go_roundw
              case rel => exact ⟨j + 1, by omega, by go_num, below_dN HB.out nq⟩
              case measure => simp [intOf]; omega
            · have e4 : decide (0 ≤ P) = false := by simpa using t4
              clear hnot
              go_wp2_with fail
              go_quiet (fail)
              go_wp2_with fail
              go_roundw
              case rel => exact ⟨j + 1, by omega, by go_num, below_dN HB.out nq⟩
              case measure => simp [intOf]; omega
          · have e3 : decide (P ≤ xp) = false := by simpa using t3
            clear hnot
            go_wp2_with fail
            go_quiet (fail)
            go_wp2_with fail
            go_roundw
            case rel => exact ⟨j + 1, by omega, by go_num, below_dN HB.out nq⟩
            case measure => simp [intOf]; omega
        · have e2 : (xs == S) = false := by simpa using t2
          clear hnot
          go_wp2_with fail
          go_quiet (fail)
          go_wp2_with fail
          go_roundw
          case rel => exact ⟨j + 1, by omega, by go_num, below_dN HB.out nq⟩
          case measure => simp [intOf]; omega
      · have e1 : decide (0 < N) = false := by simpa using t1
        clear hnot
        go_wp2_with fail
        go_quiet (fail)
        go_wp2_with fail
        go_roundw
        case rel => exact ⟨j + 1, by omega, by go_num, below_dN HB.out nq⟩
        case measure => simp [intOf]; omega
    · have hd : ¬ (j : Int) < nM := by omega
      have HTW := Lib.hid (HT6.out.call hb)
      have HRW := Lib.hid (HRB6.out.call hb)
      have HLW := Lib.hid (HLN.out.call hb)
      have HRFC := Lib.hid (HRF.out _ _ HRW.out)
      clear hb rr
      go_wp2_with fail
      refine HRFC.out.mono ?_
      intro e w8 hd8
      obtain ⟨-, -, -, hF8, -⟩ := id hd8
      obtain ⟨rfl, xv8, hst8, hb8, -⟩ := St.whole HTW.out HRW.out HS5.out hd8
      have hl8 : Ln w8 w5.heap.size A6 M := fun hn => by
        obtain ⟨g, e, hl, hB, hc⟩ := HLW.out hn
        refine ⟨g, e, Nat.lt_of_lt_of_le hl hF8.size, hB, fun j hj => (hc j hj).heap (hF8.keep g hl ?_)⟩
        have := HX5.out
        show ¬ g = xa
        omega
      obtain ⟨Ax, cx, ex⟩ := hst8.r.own.form
      rw [ex] at hst8
      have hc8 := hst8.r.c1
      have hl64 : M.length ≤ 64 := by have := HNN.out; omega
      have hsm := same_any (c := M.length) (c' := cx) hl8 hst8.r.own.ln hl64 hl64
      rw [← HNN.out.2] at hsm hc8
      have HB8 := Lib.hid ((HB6.out.trans (HB.out.mono HB6.out.size)).trans (hb8.mono HG0.out.size))
      clear hd8 hF8 hst8 hb8 hl8 ex hl64
      go_wp2_with (go_at_call 13; refine hsm.mono ?_; rintro e w9 ⟨rfl, hb9⟩)
      go_ret
      exact ⟨ret_bool (by simp), HB8.out.trans (hb9.mono HB8.out.size)⟩
end Go.Proofs.Ytbnnfgdlkldafaa
