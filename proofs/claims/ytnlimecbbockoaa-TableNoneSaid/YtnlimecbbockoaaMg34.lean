/- Eight entries put together: the contract of merged. -/
import Derived.Test.YtnlimecbbockoaaMg33
namespace Go.Proofs.Ytnlimecbbockoaa
open Go.RowKit
/-- One of an array's entries, as a value. -/
theorem index8 (g : Nat → En) (j : Nat) (hj : j < 8) (w : World) : (Instr.index 80 (.agg (encells (ens g)).toArray) (.int .i64 j)).run Try.prog w = .ok (.agg (encell (g j)).toArray) w := by
  have hp : ((encells (ens g)).drop (j * 7)).take 7 = encell (g j) := by rw [encells_part _ j (by rw [ens_length]; exact hj), ens_get]
  have hs : (sizeOf 28).run Try.prog w = .ok 7 w := by kernel_rfl
  have hu : (underlying 80).run Try.prog w = .ok (.array 8 28) w := run_underlying under8 w
  have hag : (isAgg 28).run Try.prog w = .ok true w := by kernel_rfl
  simp [Instr.index, asIntOf, hu, hs, hag, part, hj, hp, Result.andThen]
theorem wpList_index_run {P : Program} {w : World} {ops : Array Oper} {rest : List Oper} {o : Oper} {a : Act} {Q : Exit → Act → World → Prop} (hg : o.guard = none) (t : TypeId) (x i : Operand) (ho : o.op = .index t x i)
    (v iv u : Value) (hx : a.eval x = v) (hi : a.eval i = iv) (hr : (Instr.index t v iv).run P w = .ok u w) (h : wpList P ops Q rest (a.put o.dst u) w) : wpList P ops Q (o :: rest) a w := by
  refine wpList_plain hg fun K' hK' => ?_
  unfold Oper.wp execOp
  simp only [ho, hx, hi, hr, Sem.run_bind, Result.andThen_ok]
  exact hK' _ _ h
/-- Do eight entries go together? -/
def mgOk (E : Nat → En) : Bool := evB (E 0).f 3 && (List.range 8).all fun i => (E i).p && ((E i).w == (E 0).w) && decide ((E i).f = (E 0).f + i)
theorem mg_bad {E : Nat → En} {j : Nat} (hj : j < 8) (h : ¬ ((E j).p = true ∧ (E j).w = (E 0).w ∧ (E j).f = (E 0).f + (j : Int))) : mgOk E = false := by
  cases e : mgOk E
  · rfl
  · unfold mgOk at e
    rw [Bool.and_eq_true, List.all_eq_true] at e
    have := e.2 j (List.mem_range.2 hj)
    simp at this
    exact absurd ⟨this.1.1, this.1.2, this.2⟩ h
theorem mg_good {E : Nat → En} (h0 : evB (E 0).f 3 = true) (h : ∀ k, k < 8 → (E k).p = true ∧ (E k).w = (E 0).w ∧ (E k).f = (E 0).f + (k : Int)) : mgOk E = true := by
  unfold mgOk
  rw [Bool.and_eq_true, List.all_eq_true]
  refine ⟨h0, fun i hi => ?_⟩
  obtain ⟨a, b, c⟩ := h i (List.mem_range.1 hi)
  simp [a, b, c]
def anU (E : Nat → En) (n : Nat) : Bool := (List.range n).any fun k => (E k).u
def anD (E : Nat → En) (n : Nat) : Bool := (List.range n).any fun k => (E k).d
theorem anU_succ (E : Nat → En) (n : Nat) : anU E (n + 1) = (anU E n || (E n).u) := by simp [anU, List.range_succ]
theorem anD_succ (E : Nat → En) (n : Nat) : anD E (n + 1) = (anD E n || (E n).d) := by simp [anD, List.range_succ]
def mgErr (E : Nat → En) : Int := if mgOk E = true then 0 else 5
def Merg (w : World) (E : Nat → En) (e : Ending) (w' : World) : Prop :=
  (mgOk E = false ∧ e = .returned (.tuple #[agg0, .int .i64 5]) ∨ mgOk E = true ∧ e = .returned (.tuple #[.agg #[.int .i64 (E 0).f, .bool true, .bool (E 0).w, .bool true, .bool false, .bool (anU E 8), .bool (anD E 8)], .int .i64 0])) ∧ Below w.heap.size w w'
section
variable {w : World}
set_option maxRecDepth 100000 in
set_option maxHeartbeats 800000 in
theorem merged_any (E : Nat → En) (h0 : 0 ≤ (E 0).f) (h1 : (E 0).f < 1048576) : Calls Try.prog 32 #[.agg (encells (ens E)).toArray] w (Merg w E) := by
  obtain ⟨g, hg⟩ : ∃ g, g = w.heap.size := ⟨_, rfl⟩
  obtain ⟨q, hq⟩ : ∃ q, q = g + 1 := ⟨_, rfl⟩
  obtain ⟨wa, hwa⟩ : ∃ wa, wa = w.alloc (.cells (encells (ens E)).toArray 80) := ⟨_, rfl⟩
  obtain ⟨w1, hw1⟩ : ∃ w1, w1 = wa.alloc (.cells #[.int .i64 0, .bool false, .bool false, .bool false, .bool false, .bool false, .bool false] 28) := ⟨_, rfl⟩
  have hga : wa.heap.size = q := by rw [hwa, hq, hg]; simp
  have r0 : Row8 w1 g E := by rw [hw1]; refine Row.alloc ?_ _; rw [hwa, hg]; exact Row.new w _ _
  have r1 : Row w1 q 28 [.int .i64 0, .bool false, .bool false, .bool false, .bool false, .bool false, .bool false] := by rw [hw1, ← hga]; exact Row.new wa _ _
  have b1 : Below g w w1 := by rw [hw1]; exact (show Below g w wa by rw [hwa, hg]; exact (Below.refl _ _).alloc (Nat.le_refl _) _).alloc (by omega) _
  have hs1 : w1.heap.size = q + 1 := by rw [hw1]; simp [hga]
  obtain ⟨f0, hf0⟩ : ∃ f0, f0 = (E 0).f := ⟨_, rfl⟩
  obtain ⟨y0, hy0⟩ : ∃ y0, y0 = (E 0).w := ⟨_, rfl⟩
  have c0 : w1.cell? ⟨g, 0, none⟩ = some (.int .i64 f0) := by have := r0.cell (show 0 < 8 by omega) (show 0 < 7 by omega); simpa [encell, hf0] using this
  have c2 : w1.cell? ⟨g, 2, none⟩ = some (.bool y0) := by have := r0.cell (show 0 < 8 by omega) (show 2 < 7 by omega); simpa [encell, hy0] using this
  obtain ⟨w2, hw2⟩ : ∃ w2, w2 = w1.alloc (.cells #[.int .i64 f0, .bool true, .bool y0, .bool true, .bool false, .bool false, .bool false] 28) := ⟨_, rfl⟩
  obtain ⟨q2, hq2⟩ : ∃ q2, q2 = q + 1 := ⟨_, rfl⟩
  have R0 : Hid (Row8 w2 g E) := by show Row8 w2 g E; rw [hw2]; exact Row.alloc r0 _
  have R1 : Hid (Row w2 q 28 [.int .i64 0, .bool false, .bool false, .bool false, .bool false, .bool false, .bool false]) := by show Row _ _ _ _; rw [hw2]; exact r1.alloc _
  have r2 : Row w2 q2 28 [.int .i64 f0, .bool true, .bool y0, .bool true, .bool false, .bool false, .bool false] := by rw [hw2, hq2, ← hs1]; exact Row.new w1 _ _
  have B2 : Hid (Below g w w2) := by show Below _ _ _; rw [hw2]; exact b1.alloc (by omega) _
  have HG := Lib.hid hg
  have HQ := Lib.hid hq
  have HQ2 := Lib.hid hq2
  have HA := Lib.hid hwa
  have HW1 := Lib.hid hw1
  have HW2 := Lib.hid hw2
  have HS1 := Lib.hid hs1
  have R2 := Lib.hid r2
  have HF := Lib.hid hf0
  have HY := Lib.hid hy0
  have H01 : Hid (0 ≤ f0 ∧ f0 < 1048576) := by show _ ∧ _; rw [hf0]; exact ⟨h0, h1⟩
  have n1 : ¬ q = q2 := by omega
  have n2 : ¬ q2 = q := by omega
  obtain ⟨⟨a0, a1, a2, a3, a4, a5, a6⟩, af⟩ := R1.out.seven
  obtain ⟨b0, b1', b2, b3, b4, b5, b6⟩ := r2.seven.1
  clear hg hq hq2 hga hwa hw1 hw2 r0 r1 r2 b1 hs1 hf0 hy0 h0 h1
  go_enter Try.func32, Try.ntmps32
  go_upto_region 1 with (fail)
  rw [← HA.out, ← HW1.out, ← HG.out, ← HQ.out]
  go_upto_region 2 with (fail)
  rw [← HW2.out, HS1.out, ← HQ2.out]
  clear c0 c2
  cases hev : evB f0 3
  · have HN : Hid (mgOk E = false) := by show _ = _; unfold mgOk; rw [← HF.out, hev]; rfl
    go_wp2_with fail
    refine (even_any f0 (by have := H01.out; omega) (by have := H01.out; omega) _).mono ?_
    rw [hev]
    rintro e w' ⟨rfl, rfl⟩
    clear b0 b1' b2 b3 b4 b5 b6
    go_wp2_with fail
    exact bodyPost_ret (v := .tuple #[.agg #[.int .i64 0, .bool false, .bool false, .bool false, .bool false, .bool false, .bool false], .int .i64 5]) (by simp [results, Try.results32, go_sem, *]) rfl ⟨Or.inl ⟨HN.out, rfl⟩, below_7 (HG.out ▸ B2.out) (by have := HG.out; have := HQ.out; omega)⟩
  · go_wp2_with fail
    refine (even_any f0 (by have := H01.out; omega) (by have := H01.out; omega) _).mono ?_
    rw [hev]
    rintro e w' ⟨rfl, rfl⟩
    go_upto_region 4 with (fail)
    apply wp_region_lit
    refine wpList_load_row rfl _ _ rfl g rfl 80 (encells (ens E)).toArray (0, 0) _ R0.out under8 rfl (by simp [info8, encells_length, ens_length]) ?_
    have HEV := Lib.hid hev
    clear a0 a1 a2 a3 a4 a5 a6 af b0 b1' b2 b3 b4 b5 b6 HA HW1 HW2 HS1 hev
    go_wp2_with fail
    go_loopw [20] (fun i wx => ∃ (j : Nat) (uu dd : Bool), j ≤ 8 ∧ i = .int .i64 j ∧ Row wx q2 28 [.int .i64 f0, .bool true, .bool y0, .bool true, .bool false, .bool uu, .bool dd] ∧ Row wx q 28 [.int .i64 0, .bool false, .bool false, .bool false, .bool false, .bool false, .bool false] ∧ (∀ k, k < j → (E k).p = true ∧ (E k).w = y0 ∧ (E k).f = f0 + (k : Int)) ∧ Below g w wx ∧ uu = anU E j ∧ dd = anD E j) (fun i _ => 8 - (intOf i).toNat)
    case atStart => exact ⟨0, false, false, by omega, rfl, R2.out, R1.out, fun k hk => absurd hk (Nat.not_lt_zero _), B2.out, rfl, rfl⟩
    case round =>
      obtain ⟨j, uu, dd, hj, rfl, hr2, hr1, hok, hb, huu, hdd⟩ := hrel
      have HUU := Lib.hid huu
      have HDD := Lib.hid hdd
      clear huu hdd
      by_cases hj8 : j < 8
      · have hidx := index8 E j hj8
        obtain ⟨x, hx⟩ : ∃ x, x = E j := ⟨_, rfl⟩
        rw [← hx] at hidx
        have HX := Lib.hid hx
        obtain ⟨ef, ep, ew, eh, ek, eu, ed⟩ := x
        simp only [encell] at hidx
        obtain ⟨w3, hw3⟩ : ∃ w3, w3 = wr.alloc (.cells #[.int .i64 ef, .bool ep, .bool ew, .bool eh, .bool ek, .bool eu, .bool ed] 28) := ⟨_, rfl⟩
        obtain ⟨q3, hq3⟩ : ∃ q3, q3 = wr.heap.size := ⟨_, rfl⟩
        have hl2 := hr2.lt
        have hl1 := hr1.lt
        have r3 : Row w3 q3 28 [.int .i64 ef, .bool ep, .bool ew, .bool eh, .bool ek, .bool eu, .bool ed] := by rw [hw3, hq3]; exact Row.new wr _ _
        have R23 : Hid (Row w3 q2 28 [.int .i64 f0, .bool true, .bool y0, .bool true, .bool false, .bool uu, .bool dd]) := by show Row _ _ _ _; rw [hw3]; exact hr2.alloc _
        have R13 : Hid (Row w3 q 28 [.int .i64 0, .bool false, .bool false, .bool false, .bool false, .bool false, .bool false]) := by show Row _ _ _ _; rw [hw3]; exact hr1.alloc _
        have B3 : Hid (Below g w w3) := by show Below _ _ _; rw [hw3]; exact hb.alloc (by have := HQ.out; omega) _
        have m1 : ¬ q2 = q3 := by omega
        have m2 : ¬ q3 = q2 := by omega
        have HW3 := Lib.hid hw3
        have HQ3 := Lib.hid hq3
        have HOK := Lib.hid hok
        clear hx hw3 hq3 hl2 hl1 hr2 hr1 hok hb
        go_upto_region 7 with (refine wpList_index_run rfl _ _ _ rfl _ _ _ rfl rfl (hidx _) ?_)
        rw [← HW3.out, ← HQ3.out]
        cases ep
        · have HBAD : Hid (mgOk E = false) := mg_bad hj8 (by rw [← HX.out, ← HY.out, ← HF.out]; simp)
          obtain ⟨⟨a0, a1, a2, a3, a4, a5, a6⟩, af⟩ := R13.out.seven
          obtain ⟨e0, e1, e2, e3, e4, e5, e6⟩ := r3.seven.1
          obtain ⟨b0, b1', b2, b3, b4, b5, b6⟩ := R23.out.seven.1
          go_wp2_with fail
          exact bodyPost_ret (v := .tuple #[.agg #[.int .i64 0, .bool false, .bool false, .bool false, .bool false, .bool false, .bool false], .int .i64 5]) (by simp [results, Try.results32, go_sem, *]) rfl ⟨Or.inl ⟨HBAD.out, rfl⟩, below_7 (HG.out ▸ B3.out) (by have := HG.out; have := HQ.out; omega)⟩
        · by_cases hew : ew = y0
          · subst hew
            by_cases hef : ef = f0 + (j : Int)
            · have hef' : (ef != f0 + (j : Int)) = false := by simpa using hef
              have hwf : IntKind.i64.wrap (f0 + (j : Int)) = f0 + (j : Int) := IntWalk.i64_in _ (by have := H01.out; omega)
              have HXE := Lib.hid hef
              obtain ⟨e0, e1, e2, e3, e4, e5, e6⟩ := r3.seven.1
              obtain ⟨⟨b0, b1', b2, b3, b4, b5, b6⟩, bf⟩ := R23.out.seven
              have hqq : q ≠ q2 := n1
              have hgq : g ≤ q2 := by have := HQ.out; have := HQ2.out; omega
              clear hef
              cases uu
              all_goals cases dd
              all_goals
                go_wp2_with fail
                go_roundw
                case rel => exact ⟨j + 1, _, _, by omega, by go_num, (R23.out.set_ 5 _).set_ 6 _, (R13.out.far (p := ⟨q2, 5, none⟩) hqq _).far (p := ⟨q2, 6, none⟩) hqq _, (fun k hk => by
                  by_cases e : k = j
                  · subst e; rw [← HX.out]; exact ⟨rfl, rfl, HXE.out⟩
                  · exact HOK.out k (by omega)), (B3.out.setCell (p := ⟨q2, 5, none⟩) hgq _).setCell (p := ⟨q2, 6, none⟩) hgq _, by rw [anU_succ, ← HUU.out, ← HX.out]; rfl, by rw [anD_succ, ← HDD.out, ← HX.out]; rfl⟩
                case measure => simp [intOf]; omega
            · have hef' : (ef != f0 + (j : Int)) = true := by simpa using hef
              have hwf : IntKind.i64.wrap (f0 + (j : Int)) = f0 + (j : Int) := IntWalk.i64_in _ (by have := H01.out; omega)
              have HBAD : Hid (mgOk E = false) := mg_bad hj8 (by rw [← HX.out, ← HY.out, ← HF.out]; exact fun h => hef h.2.2)
              obtain ⟨⟨a0, a1, a2, a3, a4, a5, a6⟩, af⟩ := R13.out.seven
              obtain ⟨e0, e1, e2, e3, e4, e5, e6⟩ := r3.seven.1
              obtain ⟨b0, b1', b2, b3, b4, b5, b6⟩ := R23.out.seven.1
              go_wp2_with fail
              exact bodyPost_ret (v := .tuple #[.agg #[.int .i64 0, .bool false, .bool false, .bool false, .bool false, .bool false, .bool false], .int .i64 5]) (by simp [results, Try.results32, go_sem, *]) rfl ⟨Or.inl ⟨HBAD.out, rfl⟩, below_7 (HG.out ▸ B3.out) (by have := HG.out; have := HQ.out; omega)⟩
          · have hew' : (ew != y0) = true := by simpa using hew
            have HBAD : Hid (mgOk E = false) := mg_bad hj8 (by rw [← HX.out, ← HY.out, ← HF.out]; exact fun h => hew h.2.1)
            obtain ⟨⟨a0, a1, a2, a3, a4, a5, a6⟩, af⟩ := R13.out.seven
            obtain ⟨e0, e1, e2, e3, e4, e5, e6⟩ := r3.seven.1
            obtain ⟨b0, b1', b2, b3, b4, b5, b6⟩ := R23.out.seven.1
            go_wp2_with fail
            exact bodyPost_ret (v := .tuple #[.agg #[.int .i64 0, .bool false, .bool false, .bool false, .bool false, .bool false, .bool false], .int .i64 5]) (by simp [results, Try.results32, go_sem, *]) rfl ⟨Or.inl ⟨HBAD.out, rfl⟩, below_7 (HG.out ▸ B3.out) (by have := HG.out; have := HQ.out; omega)⟩
      · obtain rfl : j = 8 := by omega
        have HOKK : Hid (mgOk E = true) := mg_good (HF.out ▸ HEV.out) (fun k hk => by
          have := hok k hk
          rw [HY.out, HF.out] at this
          exact this)
        obtain ⟨⟨a0, a1, a2, a3, a4, a5, a6⟩, af⟩ := hr1.seven
        obtain ⟨b0, b1', b2, b3, b4, b5, b6⟩ := hr2.seven.1
        have HB := Lib.hid hb
        clear hr1 hr2 hb hok
        go_wp2_with fail
        exact bodyPost_ret (v := .tuple #[.agg #[.int .i64 f0, .bool true, .bool y0, .bool true, .bool false, .bool uu, .bool dd], .int .i64 0]) (by simp [results, Try.results32, go_sem, *]) rfl ⟨Or.inr ⟨HOKK.out, by rw [HF.out, HY.out, HUU.out, HDD.out]⟩, below_7 (HG.out ▸ HB.out) (by have := HG.out; have := HQ.out; omega)⟩
end
end Go.Proofs.Ytnlimecbbockoaa
