/- The law TLBHolds, walked. -/
import Derived.Test.YtbnnfgdlkldafaaAs
namespace Go.Proofs.Ytbnnfgdlkldafaa
open Go.RowKit
theorem any_snoc (L : List Cd) (f : Cd → Bool) {k : Nat} (h : k < L.length) : (L.take (k + 1)).any f = ((L.take k).any f || f L[k]) := by
  rw [List.take_succ_eq_append_getElem h, List.any_append]
  simp
theorem lk_any (L : List Cd) (s p : Int) : (lkP L s p).isSome = L.any fun c => hdB c s p := by
  unfold lkP
  rw [List.isSome_find?, List.any_reverse]
theorem lk_good {z : Nat} {L : List Cd} (h : Good z L) {s p : Int} {k : Cd} (hk : lkP L s p = some k) : ROk k ∧ hdB k s p = true := by
  unfold lkP at hk
  refine ⟨h.ok k (List.mem_reverse.1 (List.mem_of_find?_eq_some hk)), ?_⟩
  have := List.find?_some hk
  exact this
set_option maxHeartbeats 4000000 in
set_option maxRecDepth 100000 in
theorem holds9_walk (A : Option Addr) (n c : Nat) (z sp pg : Int) (w : World) (hA : Kls w w.heap.size A n) (hz : 0 ≤ z ∧ z < 256) (hp : Fits pg) :
    Calls Try.prog 8 #[.agg #[.int .u8 z, .slice A n c, .int .i64 sp, .int .i64 pg]] w fun e w' => e = .returned (.bool true) ∧ Below w.heap.size w w' := by
  obtain ⟨m, rfl⟩ : ∃ m : Nat, z = m := ⟨z.toNat, by omega⟩
  obtain ⟨W0, hW0⟩ : ∃ W0, W0 = w.alloc (.cells #[.int .u8 m, .slice A n c, .int .i64 sp, .int .i64 pg] 54) := ⟨_, rfl⟩
  obtain ⟨s, hsz⟩ : ∃ s, s = w.heap.size := ⟨_, rfl⟩
  have g0 : Below w.heap.size w W0 := hW0 ▸ below_1 _
  have rs : Lrow W0 s 54 [.int .u8 m, .slice A n c, .int .i64 sp, .int .i64 pg] := by rw [hW0, hsz]; exact Lrow.new w _ _
  have HW := Lib.hid (And.intro hW0 hsz)
  have HG0 := Lib.hid (below_dN g0 1)
  have d0 : W0.cell? ⟨s, 0, none⟩ = some (.int .u8 m) := rs.cell 0
  have d1 : W0.cell? ⟨s, 1, none⟩ = some (.slice A n c) := rs.cell 1
  have d2 : W0.cell? ⟨s, 2, none⟩ = some (.int .i64 sp) := rs.cell 2
  have d3 : W0.cell? ⟨s, 3, none⟩ = some (.int .i64 pg) := rs.cell 3
  have HP := Lib.hid hp
  have hm256 : (m : Int) < 256 := hz.2
  have hm := made_any (m % 64 + 1) (by omega) (by omega) A n c w.heap.size (W0.drewN 1) (hA.below HG0.out) (HG0.out).size
  rw [show ((m % 64 + 1 : Nat) : Int) = (m : Int) % 64 + 1 by omega] at hm
  have HM := Lib.hid hm
  have m0 : (0 : Int) ≤ (m : Int) % 64 := by omega
  have m64 : (m : Int) % 64 < 64 := by omega
  clear hm
  clear hW0 hsz g0 rs hA hz hp
  go_enter Try.func8, Try.ntmps8
  go_upto_region 1 with (fail)
  rw [← HW.out.1, ← HW.out.2]
  go_region
  all_goals
    go_wp2_with fail
    refine HM.out.mono ?_
    rintro e w2 ⟨ta, xa, rfl, tv, xv, L, hst, hb2⟩
    have HST2 := Lib.hid hst
    have HZ2 := Lib.hid hb2
    have HB2 := Lib.hid ((HG0.out).trans (hb2.mono (HG0.out).size))
    clear hst hb2
    go_wp2_with fail
    refine (awake_any _).mono ?_
    rintro e w3 ⟨rfl, hb3⟩
    have HZ3 := Lib.hid hb3
    have HST3 := Lib.hid (HST2.out.call hb3)
    have HB3 := Lib.hid (HB2.out.trans (hb3.mono HB2.out.size))
    clear hb3
    have hlk := look_any HST3.out.t sp HP.out
    have HL64 := Lib.hid (Nat.le_trans HST3.out.t.good.len HST3.out.t.z64)
    obtain ⟨k, hk⟩ : ∃ k, k = lkC (lkP L sp pg) := ⟨_, rfl⟩
    obtain ⟨bb, hbb⟩ : ∃ bb, bb = (lkP L sp pg).isSome := ⟨_, rfl⟩
    have HKK : Hid (bb = true → ROk k ∧ hdB k sp pg = true) := fun e => by
      rw [hbb] at e
      obtain ⟨k', e'⟩ := Option.isSome_iff_exists.1 e
      rw [hk, e']
      exact lk_good HST3.out.t.good e'
    have HBB : Hid (bb = L.any fun c => hdB c sp pg) := hbb.trans (lk_any L sp pg)
    rw [← hk, ← hbb] at hlk
    clear hk hbb d0 d1 d2 d3
    go_wp2_with fail
    refine hlk.mono ?_
    rintro e w4 ⟨rfl, hb4⟩
    obtain ⟨sc, hsc⟩ : ∃ sc, sc = w4.heap.size := ⟨_, rfl⟩
    obtain ⟨W5, hW5⟩ : ∃ W5, W5 = w4.alloc (.cells #[.int .i64 k.s, .int .i64 k.p, .int .i64 k.o, .int .i64 k.f, .bool k.w] 31) := ⟨_, rfl⟩
    have hb5 : Below w3.heap.size w3 W5 := by rw [hW5]; exact hb4.alloc hb4.size _
    have hr5 : Lrow W5 sc 31 [.int .i64 k.s, .int .i64 k.p, .int .i64 k.o, .int .i64 k.f, .bool k.w] := by rw [hW5, hsc]; exact Lrow.new w4 _ _
    have q0 : W5.cell? ⟨sc, 0, none⟩ = some (.int .i64 k.s) := hr5.cell 0
    have q1 : W5.cell? ⟨sc, 1, none⟩ = some (.int .i64 k.p) := hr5.cell 1
    have q2 : W5.cell? ⟨sc, 2, none⟩ = some (.int .i64 k.o) := hr5.cell 2
    have q3 : W5.cell? ⟨sc, 3, none⟩ = some (.int .i64 k.f) := hr5.cell 3
    have q4 : W5.cell? ⟨sc, 4, none⟩ = some (.bool k.w) := hr5.cell 4
    have HST5 := Lib.hid (HST3.out.call hb5)
    have HB5 := Lib.hid (HB3.out.trans (hb5.mono HB3.out.size))
    have HW5 := Lib.hid (And.intro hW5 hsc)
    clear hlk hb4 hb5 hr5 hW5 hsc
    have TAIL : Hid (∀ W, Below W5.heap.size W5 W → Calls Try.prog 14 #[.pointer (some ⟨ta, 0, none⟩)] W fun e w' => ∃ A, e = .returned (.slice A L.length L.length) ∧ Ln w' W.heap.size A L ∧ Below W.heap.size W w') := fun W hW => lines_any (HST5.out.call hW).t
    go_upto_region 6 with (fail)
    rw [← HW5.out.1, ← HW5.out.2]
    have HOLD : Hid (bb = true → ∀ W, Calls Try.prog 15 #[.agg #[.int .i64 k.s, .int .i64 k.p, .int .i64 k.o, .int .i64 k.f, .bool k.w], .int .i64 sp, .int .i64 pg] W fun e w' => e = .returned (.bool true) ∧ Below W.heap.size W w') := fun e W => by
      obtain ⟨h1, h2⟩ := HKK.out e
      have := hold9_any h1 (s1 := sp) HP.out W
      rw [h2] at this
      exact this
    obtain ⟨nL, hnL⟩ : ∃ nL, nL = L.length := ⟨_, rfl⟩
    have HNL := Lib.hid hnL
    have n64 : (nL : Int) ≤ 64 := by have := HL64.out; omega
    obtain ⟨M, hM⟩ : ∃ M, M = flL L sp pg 1 := ⟨_, rfl⟩
    obtain ⟨nM, hnM⟩ : ∃ nM, nM = M.length := ⟨_, rfl⟩
    have nml : (nM : Int) ≤ nL := by have : M.length ≤ L.length := by { rw [hM]; exact flL_len L sp pg 1 }; omega
    have HFL : Hid (∀ W, Below W5.heap.size W5 W → Calls Try.prog 17 #[.pointer (some ⟨ta, 0, none⟩), .int .i64 sp, .int .i64 pg, .int .i64 1] W fun e w' => e = .returned (.int .i64 ((nL : Int) - nM)) ∧ Below (W0.drewN 1).heap.size W w' ∧ Calls Try.prog 14 #[.pointer (some ⟨ta, 0, none⟩)] w' fun e w'' => ∃ A, e = .returned (.slice A nM nM) ∧ Below w'.heap.size w' w'') := fun W hW => by
      have hst := HST5.out.call hW
      refine (flush_any hst.t sp HP.out (n := 1) ⟨by omega, by omega⟩).mono ?_
      intro e w' hd
      obtain ⟨rfl, tv', hT', -, -, hb', -⟩ := hst.half hd.grown
      refine ⟨by rw [hnL, hnM, hM]; rfl, hb', (lines_any hT').mono ?_⟩
      rintro e w'' ⟨A, rfl, -, hb''⟩
      exact ⟨A, by rw [hnM, hM], hb''⟩
    rw [← hnL] at TAIL
    clear hM hnM hnL
    have LOOP : Hid (∀ j (h : j < L.length), (L.take (j + 1)).any (fun c => hdB c sp pg) = ((L.take j).any (fun c => hdB c sp pg) || hdB L[j] sp pg)) := fun j h => any_snoc L _ h
    have HROK : Hid (∀ x ∈ L, ROk x) := HST5.out.t.good.ok
    cases bb
    · go_wp2_with fail
      have hb6 := Below.refl W5.heap.size W5
      refine (TAIL.out _ hb6).mono ?_
      rintro e w7 ⟨A7, rfl, hl7, hb7⟩
      have HLN := Lib.hid hl7
      have HB57 := Lib.hid (hb6.trans (hb7.mono hb6.size))
      clear q0 q1 q2 q3 q4 hl7 hb7 hb6
      go_wp2_with fail
      go_loopw [13, 14] (fun th i wr => ∃ j : Nat, j ≤ nL ∧ i = .int .i64 j ∧ th = .bool ((L.take j).any fun c => hdB c sp pg) ∧ Below w7.heap.size w7 wr) (fun _ i _ => nL - (intOf i).toNat)
      case atStart => exact ⟨0, by omega, rfl, by simp, Below.refl _ _⟩
      case round =>
        obtain ⟨j, hj, rfl, rfl, hb⟩ := hrel
        have HB := Lib.hid hb
        by_cases hlt : j < nL
        · have hjl : j < L.length := by have := HNL.out; omega
          obtain ⟨g, rfl, hgl, -, hat⟩ := HLN.out (by omega)
          have hat := (hat j hjl).heap (w' := wr) (hb.block g hgl)
          have hlp := LOOP.out j hjl
          have hxo := HROK.out L[j] (List.getElem_mem _)
          have c0 := hat.c0
          have c1 := hat.c1
          have c2 := hat.c2
          have c3 := hat.c3
          have c4 := hat.c4
          dsimp only at c0 c1 c2 c3 c4
          obtain ⟨x, hx⟩ : ∃ x, x = L[j] := ⟨_, rfl⟩
          rw [← hx] at c0 c1 c2 c3 c4 hlp hxo
          have hh := fun W => hold9_any hxo (s1 := sp) HP.out W
          obtain ⟨xs, xp, xo, xf, xw⟩ := x
          dsimp only at c0 c1 c2 c3 c4 hh
          have hjN : (j : Int) < nL := by omega
          have hj0 : (0 : Int) ≤ j := by omega
          obtain ⟨th, hth⟩ : ∃ th, th = (L.take j).any fun c => hdB c sp pg := ⟨_, rfl⟩
          rw [← hth] at hlp ⊢
          have HLP := Lib.hid hlp
          clear hat hx hb hgl hjl hlp hth hxo
          cases th
          · go_wp2_with fail
            refine (hh _).mono ?_
            rintro e w8 ⟨rfl, hb8⟩
            have HB8 := Lib.hid (HB.out.trans (hb8.mono HB.out.size))
            clear hb8
            go_wp2_with fail
            go_roundw
            case rel => exact ⟨j + 1, by omega, by go_num, by rw [HLP.out]; rfl, HB8.out⟩
            case measure => simp [intOf]; omega
          · go_wp2_with fail
            go_roundw
            case rel => exact ⟨j + 1, by omega, by go_num, by rw [HLP.out]; rfl, HB.out⟩
            case measure => simp [intOf]; omega
        · have hjN : j = nL := by omega
          have hth : ((L.take j).any fun c => hdB c sp pg) = false := by
            rw [hjN, HNL.out, List.take_length]; exact HBB.out.symm
          rw [hth]
          have hb5r := HB57.out.trans (hb.mono HB57.out.size)
          have HFC := Lib.hid (HFL.out _ hb5r)
          have HB5R := Lib.hid hb5r
          have hd : ¬ (j : Int) < nL := by omega
          have hw1 : IntKind.i64.wrap ((nL : Int) - nM) = (nL : Int) - nM := IntWalk.i64_in _ (by omega)
          clear hb hb5r hth hlt hj
          go_wp2_with fail
          refine HFC.out.mono ?_
          rintro e w9 ⟨rfl, hb9, hln9⟩
          have HB9 := Lib.hid hb9
          clear hb9
          go_wp2_with (go_at_call 14; refine hln9.mono ?_; rintro e w10 ⟨A10, rfl, hb10⟩)
          go_ret
          have t5 := HB5.out.trans (HB5R.out.mono HB5.out.size)
          have t9 := t5.trans (HB9.out.mono HG0.out.size)
          exact ⟨rfl, t9.trans (hb10.mono t9.size)⟩
    · go_wp2_with (go_at_call 15; refine (HOLD.out rfl _).mono ?_; rintro e w6 ⟨rfl, hb6⟩)
      refine (TAIL.out _ hb6).mono ?_
      rintro e w7 ⟨A7, rfl, hl7, hb7⟩
      have HLN := Lib.hid hl7
      have HB57 := Lib.hid (hb6.trans (hb7.mono hb6.size))
      clear q0 q1 q2 q3 q4 hl7 hb7 hb6
      go_wp2_with fail
      go_loopw [13, 14] (fun th i wr => ∃ j : Nat, j ≤ nL ∧ i = .int .i64 j ∧ th = .bool ((L.take j).any fun c => hdB c sp pg) ∧ Below w7.heap.size w7 wr) (fun _ i _ => nL - (intOf i).toNat)
      case atStart => exact ⟨0, by omega, rfl, by simp, Below.refl _ _⟩
      case round =>
        obtain ⟨j, hj, rfl, rfl, hb⟩ := hrel
        have HB := Lib.hid hb
        by_cases hlt : j < nL
        · have hjl : j < L.length := by have := HNL.out; omega
          obtain ⟨g, rfl, hgl, -, hat⟩ := HLN.out (by omega)
          have hat := (hat j hjl).heap (w' := wr) (hb.block g hgl)
          have hlp := LOOP.out j hjl
          have hxo := HROK.out L[j] (List.getElem_mem _)
          have c0 := hat.c0
          have c1 := hat.c1
          have c2 := hat.c2
          have c3 := hat.c3
          have c4 := hat.c4
          dsimp only at c0 c1 c2 c3 c4
          obtain ⟨x, hx⟩ : ∃ x, x = L[j] := ⟨_, rfl⟩
          rw [← hx] at c0 c1 c2 c3 c4 hlp hxo
          have hh := fun W => hold9_any hxo (s1 := sp) HP.out W
          obtain ⟨xs, xp, xo, xf, xw⟩ := x
          dsimp only at c0 c1 c2 c3 c4 hh
          have hjN : (j : Int) < nL := by omega
          have hj0 : (0 : Int) ≤ j := by omega
          obtain ⟨th, hth⟩ : ∃ th, th = (L.take j).any fun c => hdB c sp pg := ⟨_, rfl⟩
          rw [← hth] at hlp ⊢
          have HLP := Lib.hid hlp
          clear hat hx hb hgl hjl hlp hth hxo
          cases th
          · go_wp2_with fail
            refine (hh _).mono ?_
            rintro e w8 ⟨rfl, hb8⟩
            have HB8 := Lib.hid (HB.out.trans (hb8.mono HB.out.size))
            clear hb8
            go_wp2_with fail
            go_roundw
            case rel => exact ⟨j + 1, by omega, by go_num, by rw [HLP.out]; rfl, HB8.out⟩
            case measure => simp [intOf]; omega
          · go_wp2_with fail
            go_roundw
            case rel => exact ⟨j + 1, by omega, by go_num, by rw [HLP.out]; rfl, HB.out⟩
            case measure => simp [intOf]; omega
        · have hjN : j = nL := by omega
          have hth : ((L.take j).any fun c => hdB c sp pg) = true := by
            rw [hjN, HNL.out, List.take_length]; exact HBB.out.symm
          rw [hth]
          have hb5r := HB57.out.trans (hb.mono HB57.out.size)
          have HFC := Lib.hid (HFL.out _ hb5r)
          have HB5R := Lib.hid hb5r
          have hd : ¬ (j : Int) < nL := by omega
          have hw1 : IntKind.i64.wrap ((nL : Int) - nM) = (nL : Int) - nM := IntWalk.i64_in _ (by omega)
          clear hb hb5r hth hlt hj
          go_wp2_with fail
          refine HFC.out.mono ?_
          rintro e w9 ⟨rfl, hb9, hln9⟩
          have HB9 := Lib.hid hb9
          clear hb9
          go_wp2_with (go_at_call 14; refine hln9.mono ?_; rintro e w10 ⟨A10, rfl, hb10⟩)
          go_ret
          have t5 := HB5.out.trans (HB5R.out.mono HB5.out.size)
          have t9 := t5.trans (HB9.out.mono HG0.out.size)
          exact ⟨rfl, t9.trans (hb10.mono t9.size)⟩
end Go.Proofs.Ytbnnfgdlkldafaa
