/- Same; what must come at any rate. -/
import Derived.Test.YtbnnfgdlkldafaaAi
import Derived.Test.YtbnnfgdlkldafaaAj
namespace Go.Proofs.Ytbnnfgdlkldafaa
open Go.RowKit
theorem cd_ne {s p o f s' p' o' f' : Int} {b b' : Bool} (h : (⟨s, p, o, f, b⟩ : Cd) ≠ ⟨s', p', o', f', b'⟩) : ¬ s = s' ∨ (s = s' ∧ ¬ p = p') ∨ (s = s' ∧ p = p' ∧ ¬ o = o') ∨ (s = s' ∧ p = p' ∧ o = o' ∧ ¬ f = f') ∨ (s = s' ∧ p = p' ∧ o = o' ∧ f = f' ∧ ¬ b = b') := by
  by_cases h1 : s = s'
  · by_cases h2 : p = p'
    · by_cases h3 : o = o'
      · by_cases h4 : f = f'
        · by_cases h5 : b = b'
          · subst h1 h2 h3 h4 h5; exact absurd rfl h
          · exact Or.inr (Or.inr (Or.inr (Or.inr ⟨h1, h2, h3, h4, h5⟩)))
        · exact Or.inr (Or.inr (Or.inr (Or.inl ⟨h1, h2, h3, h4⟩)))
      · exact Or.inr (Or.inr (Or.inl ⟨h1, h2, h3⟩))
    · exact Or.inr (Or.inl ⟨h1, h2⟩)
  · exact Or.inl h1
section
variable {w : World}
set_option maxHeartbeats 4000000 in
set_option maxRecDepth 100000 in
theorem same_any {B B' : Nat} {A A' : Option Addr} {c c' : Nat} {L M : List Cd} (hL : Ln w B A L) (hM : Ln w B' A' M) (hl : L.length ≤ 64) (hm : M.length ≤ 64) :
    Calls Try.prog 13 #[.slice A L.length c, .slice A' M.length c'] w fun e w' => e = .returned (.bool (decide (L = M))) ∧ Below w.heap.size w w' := by
  obtain ⟨n, hn⟩ : ∃ n, n = L.length := ⟨_, rfl⟩
  by_cases hnm : L.length = M.length
  · have hnm' : n = M.length := hn.trans hnm
    rw [← hnm', ← hn]
    have HN := Lib.hid (And.intro hn hnm')
    have HL := Lib.hid hL
    have HM := Lib.hid hM
    have n64 : (n : Int) ≤ 64 := by omega
    clear hL hM hl hm hnm hn hnm'
    go_enter Try.func13, Try.ntmps13
    go_wp2
    go_loopw [5] (fun i wr => ∃ j k : Nat, j ≤ n ∧ i = .int .i64 j ∧ wr = w.drewN k ∧ ∀ i (h1 : i < L.length) (h2 : i < M.length), i < j → L[i] = M[i]) (fun i _ => n - (intOf i).toNat)
    case atStart => exact ⟨0, 0, Nat.zero_le _, rfl, rfl, fun i _ _ h => absurd h (Nat.not_lt_zero _)⟩
    case round =>
      obtain ⟨j, k, hj, rfl, rfl, heq⟩ := hrel
      have HEQ := Lib.hid heq
      clear heq
      by_cases hlt : j < n
      · have hjl : j < L.length := by have := HN.out.1; omega
        have hjm : j < M.length := by have := HN.out.2; omega
        obtain ⟨g, rfl, -, -, hat⟩ := HL.out (by omega)
        obtain ⟨g', rfl, -, -, hat'⟩ := HM.out (by omega)
        have hat := hat j hjl
        have hat' := hat' j hjm
        obtain ⟨x, ex⟩ : ∃ x, x = L[j] := ⟨_, rfl⟩
        obtain ⟨y, ey⟩ : ∃ y, y = M[j] := ⟨_, rfl⟩
        rw [← ex] at hat
        rw [← ey] at hat'
        have HX := Lib.hid ex
        have HY := Lib.hid ey
        obtain ⟨w1, ew⟩ : ∃ w1, w1 = w.drewN k := ⟨_, rfl⟩
        have hw : ∀ a, w1.cell? a = w.cell? a := fun a => by rw [ew]; rfl
        have c0 := (hw _).trans hat.c0
        have c1 := (hw _).trans hat.c1
        have c2 := (hw _).trans hat.c2
        have c3 := (hw _).trans hat.c3
        have c4 := (hw _).trans hat.c4
        have d0 := (hw _).trans hat'.c0
        have d1 := (hw _).trans hat'.c1
        have d2 := (hw _).trans hat'.c2
        have d3 := (hw _).trans hat'.c3
        have d4 := (hw _).trans hat'.c4
        dsimp only at c0 c1 c2 c3 c4 d0 d1 d2 d3 d4
        rw [← ew]
        have HW := Lib.hid ew
        have jn : (j : Int) < n := by omega
        have j0 : (0 : Int) ≤ j := by omega
        clear hw hat hat' ex ey ew
        obtain ⟨s, p, o, f, b⟩ := x
        obtain ⟨s', p', o', f', b'⟩ := y
        dsimp only at c0 c1 c2 c3 c4 d0 d1 d2 d3 d4
        by_cases hxy : (⟨s, p, o, f, b⟩ : Cd) = ⟨s', p', o', f', b'⟩
        · have HXY := Lib.hid hxy
          injection hxy with h1 h2 h3 h4 h5
          subst h1 h2 h3 h4 h5
          go_wp2_with fail
          go_region
          all_goals
            go_wp2_with fail
            go_roundw
            case rel =>
              refine ⟨j + 1, k + 1, by omega, by go_num, by rw [HW.out]; rfl, fun i h1 h2 hij => ?_⟩
              by_cases e : i = j
              · subst e; rw [← HX.out, ← HY.out]
              · exact HEQ.out i h1 h2 (by omega)
            case measure => simp [intOf]; omega
        · have HNE : Hid (decide (L = M) = false) := by
            show _ = _
            rw [decide_eq_false_iff_not]
            intro e
            subst e
            exact hxy (HX.out.trans HY.out.symm)
          have hcs := cd_ne hxy
          clear hxy
          rcases hcs with h | ⟨h1, h⟩ | ⟨h1, h2, h⟩ | ⟨h1, h2, h3, h⟩ | ⟨h1, h2, h3, h4, h⟩
          all_goals
            (try subst h1)
            (try subst h2)
            (try subst h3)
            (try subst h4)
            go_wp2_with fail
            go_region
            all_goals
              go_wp2_with fail
              go_ret
              exact ⟨ret_bool HNE.out.symm, by rw [HW.out]; exact below_dN (Below.refl _ _) (k + 1)⟩
      · have hy : Hid (decide (L = M) = true) := by
          show _ = _
          rw [decide_eq_true_eq]
          refine List.ext_getElem (HN.out.1.symm.trans HN.out.2) fun i h1 h2 => HEQ.out i h1 h2 (by have := HN.out.1; omega)
        have hd : ¬ (j : Int) < n := by omega
        obtain ⟨w1, ew⟩ : ∃ w1, w1 = w.drewN k := ⟨_, rfl⟩
        rw [← ew]
        have HW := Lib.hid ew
        clear ew
        go_wp2_with fail
        go_ret
        exact ⟨ret_bool hy.out.symm, by rw [HW.out]; exact below_dN (Below.refl _ _) k⟩
  · have hy : Hid (false = decide (L = M)) := by
      show _ = _
      symm
      rw [decide_eq_false_iff_not]
      rintro rfl
      exact hnm rfl
    obtain ⟨m, hm'⟩ : ∃ m, m = M.length := ⟨_, rfl⟩
    rw [← hm', ← hn]
    have hne : ((n : Int) != (m : Int)) = true := by simpa using (by omega : ¬ (n : Int) = m)
    clear hL hM hl hm hnm hn hm'
    go_enter Try.func13, Try.ntmps13
    go_wp2
    go_ret
    exact ⟨ret_bool hy.out, Below.refl _ _⟩
/-! What must come at any rate. -/
def awL : Nat → List Cd
  | 0 => []
  | 1 => []
  | 2 => [⟨0, 1, 0, 1, false⟩]
  | 3 => [⟨0, 1, 0, 1, false⟩, ⟨0, 2, 0, 2, false⟩]
  | _ => [⟨0, 2, 0, 2, false⟩, ⟨0, 3, 0, 3, false⟩]
theorem awL_put (k : Nat) (h1 : 1 ≤ k) (h2 : k ≤ 3) : putL 2 (awL k) ⟨0, k, 0, k, false⟩ = awL (k + 1) := by
  have : k = 1 ∨ k = 2 ∨ k = 3 := by omega
  rcases this with rfl | rfl | rfl <;> decide
theorem awL_good : putL 2 (awL 4) ⟨0, 0, 3, 8, false⟩ = [⟨0, 0, 3, 8, false⟩] := by decide
theorem awL_yes : lkP (awL 4) 0 3 = some ⟨0, 3, 0, 3, false⟩ := by decide
theorem awL_no : lkP (awL 4) 0 1 = none := by decide
set_option maxHeartbeats 4000000 in
set_option maxRecDepth 100000 in
theorem awake_any (w : World) : Calls Try.prog 10 #[] w fun e w' => e = .returned (.bool true) ∧ Below w.heap.size w w' := by
  have hnew := (new_any 2 w).1 ⟨by omega, by omega⟩
  have f0 : Fits 0 := ⟨by omega, by omega⟩
  have f3 : Fits 3 := ⟨by omega, by omega⟩
  have f1 : Fits 1 := ⟨by omega, by omega⟩
  have f8 : Fits 8 := ⟨by omega, by omega⟩
  have F0 := Lib.hid f0
  have F1 := Lib.hid f1
  have F3 := Lib.hid f3
  have F8 := Lib.hid f8
  clear f0 f1 f3 f8
  go_enter Try.func10, Try.ntmps10
  go_wp2_with fail
  refine hnew.mono ?_
  rintro e w1 ⟨ta, rfl, hT, hb⟩
  have HG : Hid (∃ v, Tb w.heap.size w1 ta 2 v (awL 1) ∧ Below w.heap.size w w1) := ⟨_, hT, hb⟩
  clear hnew hT hb
  go_wp2_with fail
  go_loopw [3] (fun i wr => ∃ k : Nat, 1 ≤ k ∧ k ≤ 4 ∧ i = .int .i64 k ∧ ∃ v, Tb w.heap.size wr ta 2 v (awL k) ∧ Below w.heap.size w wr) (fun i _ => 4 - (intOf i).toNat)
  case atStart => exact ⟨1, by omega, by omega, rfl, HG.out⟩
  case round =>
    obtain ⟨k, hk1, hk4, rfl, v, hT, hb⟩ := hrel
    by_cases hlt : k < 4
    · have fk : Fits (k : Int) := ⟨by omega, by omega⟩
      have hput := put_any hT (c := ⟨0, k, 0, k, false⟩) ⟨F0.out, fk, F0.out, fk⟩
      rw [awL_put k hk1 (by omega)] at hput
      have HT := Lib.hid hT
      have HB := Lib.hid hb
      have HK := Lib.hid (And.intro hk1 hk4)
      have k4 : (k : Int) < 4 := by omega
      clear hT hb fk HG
      go_wp2_with fail
      refine hput.mono ?_
      rintro e w2 ⟨rfl, v2, hT2, hF, -⟩
      have HZ : Hid (∃ v, Tb w.heap.size w2 ta 2 v (awL (k + 1)) ∧ Below w.heap.size w w2) := ⟨v2, hT2, HB.out.trans (hF.below HT.out.lw (fun b hb => HT.out.hi hb))⟩
      clear hput hT2 hF
      go_wp2_with fail
      go_roundw
      case rel => exact ⟨k + 1, by have := HK.out; omega, by have := HK.out; omega, by go_num, HZ.out⟩
      case measure => have := HK.out; simp [intOf]; omega
    · obtain rfl : k = 4 := by omega
      have hl1 := look_any hT 0 F3.out
      rw [awL_yes] at hl1
      replace hl1 : Calls Try.prog 11 #[.pointer (some ⟨ta, 0, none⟩), .int .i64 0, .int .i64 3] wr fun e w' => e = .returned (.tuple #[.agg #[.int .i64 0, .int .i64 3, .int .i64 0, .int .i64 3, .bool false], .bool true]) ∧ Below wr.heap.size wr w' := hl1
      have HL2 : Hid (∀ W, Below wr.heap.size wr W → Calls Try.prog 11 #[.pointer (some ⟨ta, 0, none⟩), .int .i64 0, .int .i64 1] W fun e w' => e = .returned (.tuple #[.agg #[.int .i64 0, .int .i64 0, .int .i64 0, .int .i64 0, .bool false], .bool false]) ∧ Below W.heap.size W w') := fun W hbW => by
        have := look_any (hT.call hbW) 0 F1.out
        rw [awL_no] at this
        exact this
      have HPU : Hid (∀ W, Below wr.heap.size wr W → Calls Try.prog 19 #[.pointer (some ⟨ta, 0, none⟩), .agg #[.int .i64 0, .int .i64 0, .int .i64 3, .int .i64 8, .bool false]] W fun e w' => e = .returned (.int .i64 0) ∧ Below w.heap.size W w' ∧ Calls Try.prog 14 #[.pointer (some ⟨ta, 0, none⟩)] w' fun e w'' => ∃ A, e = .returned (.slice A 1 1) ∧ Below w.heap.size w' w'') := fun W hbW => by
        have hTW := hT.call hbW
        have := put_any hTW (c := ⟨0, 0, 3, 8, false⟩) ⟨F0.out, F0.out, F3.out, F8.out⟩
        rw [awL_good] at this
        refine this.mono ?_
        rintro e w5 ⟨rfl, v5, hT5, hF5, -⟩
        refine ⟨rfl, hF5.below hTW.lw (fun b hb => hTW.hi hb), (lines_any hT5).mono ?_⟩
        rintro e w6 ⟨A, rfl, -, hb6⟩
        exact ⟨A, rfl, hb6.mono hT5.lw⟩
      have HLW := Lib.hid hT.lw
      have HB := Lib.hid hb
      clear hT hb HG hk1 hk4 hlt
      go_wp2_with fail
      refine hl1.mono ?_
      rintro e w2 ⟨rfl, hb2⟩
      have HB2 := Lib.hid hb2
      have hba : Below wr.heap.size wr (w2.alloc (.cells #[.int .i64 0, .int .i64 3, .int .i64 0, .int .i64 3, .bool false] 31)) := hb2.alloc hb2.size _
      have hra := Lrow.new w2 31 [.int .i64 0, .int .i64 3, .int .i64 0, .int .i64 3, .bool false]
      have HBA := Lib.hid hba
      have HRA := Lib.hid hra
      clear hl1 hb2 hba hra
      go_wp2_with fail
      refine (HL2.out _ HBA.out).mono ?_
      rintro e w3 ⟨rfl, hb3⟩
      have hr3 := HRA.out.call hb3
      have hc3 : w3.cell? ⟨w2.heap.size, 3, none⟩ = some (.int .i64 3) := hr3.cell 3
      have hba3 : Below wr.heap.size wr (w3.alloc (.cells #[.int .i64 0, .int .i64 0, .int .i64 0, .int .i64 0, .bool false] 31)) := (HBA.out.trans (hb3.mono HBA.out.size)).alloc (Nat.le_trans HBA.out.size hb3.size) _
      have hl3 := hr3.lt
      have hnn : ¬ w2.heap.size = w3.heap.size := by omega
      have HB3 := Lib.hid hba3
      clear hb3 hr3 hba3
      go_wp2_with (first | (go_at_call 14; refine hln.mono ?_; rintro e w6 ⟨A6, rfl, hb6⟩) | (go_at_call 19; refine (HPU.out _ HB3.out).mono ?_; rintro e w5 ⟨rfl, hb5, hln⟩))
      go_ret
      have h1 : Below w.heap.size w _ := HB.out.trans (HB3.out.mono HB.out.size)
      exact ⟨rfl, (h1.trans hb5).trans hb6⟩
end
end Go.Proofs.Ytbnnfgdlkldafaa
