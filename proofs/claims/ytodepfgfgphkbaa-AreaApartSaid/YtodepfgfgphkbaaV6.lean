/- The reference's Same, New. -/
import Derived.Test.YtodepfgfgphkbaaV5
import Derived.Laws.OwnMore
namespace Go.Proofs.Ytodepfgfgphkbaa
open Go.RowKit
theorem sameA_any_ne {f t h p o x f' t' h' p' o' x' : Int} (hne : (⟨f, t, h, p, o, x⟩ : Ar) ≠ ⟨f', t', h', p', o', x'⟩) : (¬ f = f') ∨ (f = f' ∧ ¬ t = t') ∨ (f = f' ∧ t = t' ∧ ¬ h = h') ∨ (f = f' ∧ t = t' ∧ h = h' ∧ ¬ p = p') ∨ (f = f' ∧ t = t' ∧ h = h' ∧ p = p' ∧ ¬ o = o') ∨ (f = f' ∧ t = t' ∧ h = h' ∧ p = p' ∧ o = o' ∧ ¬ x = x') := by
  have k : ¬ (f = f' ∧ t = t' ∧ h = h' ∧ p = p' ∧ o = o' ∧ x = x') := fun ⟨e0, e1, e2, e3, e4, e5⟩ => hne (by rw [e0, e1, e2, e3, e4, e5])
  omega
set_option maxHeartbeats 4000000 in
set_option maxRecDepth 100000 in
theorem sameA_any {w : World} {A A' : Option Addr} {c c' : Nat} {L M : List Ar} (hL : EAr.Ls w A L) (hM : EAr.Ls w A' M) (hl : L.length ≤ 5000) (hm : M.length ≤ 5000) :
    Calls Try.prog 10 #[.slice A L.length c, .slice A' M.length c'] w fun e w' => e = .returned (.bool (decide (L = M))) ∧ Below w.heap.size w w' := by
  obtain ⟨n, hn⟩ : ∃ n, n = L.length := ⟨_, rfl⟩
  by_cases hnm : L.length = M.length
  · have hnm' : n = M.length := hn.trans hnm
    rw [← hnm', ← hn]
    have HN := Lib.hid (And.intro hn hnm')
    have HL := Lib.hid hL
    have HM := Lib.hid hM
    have n64 : (n : Int) ≤ 5000 := by omega
    clear hL hM hl hm hnm hn hnm'
    go_enter Try.func10, Try.ntmps10
    go_wp2
    go_loopw [5] (fun i wr => ∃ j k : Nat, j ≤ n ∧ i = .int .i64 j ∧ wr = w.drewN k ∧ ∀ i (h1 : i < L.length) (h2 : i < M.length), i < j → L[i] = M[i]) (fun i _ => n - (RowKit.intOf i).toNat)
    case atStart => exact ⟨0, 0, Nat.zero_le _, rfl, rfl, fun i _ _ h => absurd h (Nat.not_lt_zero _)⟩
    case round =>
      obtain ⟨j, k, hj, rfl, rfl, heq⟩ := hrel
      have HEQ := Lib.hid heq
      clear heq
      by_cases hlt : j < n
      · have hjl : j < L.length := by have := HN.out.1; omega
        have hjm : j < M.length := by have := HN.out.2; omega
        obtain ⟨g, rfl, -, hat⟩ := HL.out (by omega)
        obtain ⟨g', rfl, -, hat'⟩ := HM.out (by omega)
        have hat := hat j hjl
        have hat' := hat' j hjm
        obtain ⟨x, ex⟩ : ∃ x, x = L[j] := ⟨_, rfl⟩
        obtain ⟨y, ey⟩ : ∃ y, y = M[j] := ⟨_, rfl⟩
        rw [← ex] at hat
        rw [← ey] at hat'
        have HX := Lib.hid ex
        have HY := Lib.hid ey
        obtain ⟨w1, ew⟩ : ∃ w1, w1 = w.drewN k := ⟨_, rfl⟩
        have hw : ∀ a, w1.cell? a = w.cell? a := fun a => by rw [ew]; rfl
        rw [← ew]
        have HW := Lib.hid ew
        have jn : (j : Int) < n := by omega
        have j0 : (0 : Int) ≤ j := by omega
        obtain ⟨f, t, h, p, o, x⟩ := x
        obtain ⟨f', t', h', p', o', x'⟩ := y
        have c0 : w1.cell? ⟨g, j * 6, none⟩ = some (.int .i64 f) := (hw _).trans (hat 0 (by decide))
        have d0 : w1.cell? ⟨g', j * 6, none⟩ = some (.int .i64 f') := (hw _).trans (hat' 0 (by decide))
        have c1 : w1.cell? ⟨g, j * 6 + 1, none⟩ = some (.int .i64 t) := (hw _).trans (hat 1 (by decide))
        have d1 : w1.cell? ⟨g', j * 6 + 1, none⟩ = some (.int .i64 t') := (hw _).trans (hat' 1 (by decide))
        have c2 : w1.cell? ⟨g, j * 6 + 2, none⟩ = some (.int .i64 h) := (hw _).trans (hat 2 (by decide))
        have d2 : w1.cell? ⟨g', j * 6 + 2, none⟩ = some (.int .i64 h') := (hw _).trans (hat' 2 (by decide))
        have c3 : w1.cell? ⟨g, j * 6 + 3, none⟩ = some (.int .i64 p) := (hw _).trans (hat 3 (by decide))
        have d3 : w1.cell? ⟨g', j * 6 + 3, none⟩ = some (.int .i64 p') := (hw _).trans (hat' 3 (by decide))
        have c4 : w1.cell? ⟨g, j * 6 + 4, none⟩ = some (.int .i64 o) := (hw _).trans (hat 4 (by decide))
        have d4 : w1.cell? ⟨g', j * 6 + 4, none⟩ = some (.int .i64 o') := (hw _).trans (hat' 4 (by decide))
        have c5 : w1.cell? ⟨g, j * 6 + 5, none⟩ = some (.int .i64 x) := (hw _).trans (hat 5 (by decide))
        have d5 : w1.cell? ⟨g', j * 6 + 5, none⟩ = some (.int .i64 x') := (hw _).trans (hat' 5 (by decide))
        clear hw hat hat' ex ey ew
        by_cases hxy : (⟨f, t, h, p, o, x⟩ : Ar) = ⟨f', t', h', p', o', x'⟩
        · have HXY := Lib.hid hxy
          injection hxy with q1 q2 q3 q4 q5 q6
          subst q1 q2 q3 q4 q5 q6
          go_wp2_with fail
          go_region
          all_goals
            go_wp2_with fail
            go_roundw
            case rel =>
              refine ⟨j + 1, k + 1, by omega, by go_num, by rw [HW.out]; rfl, fun i h1 h2 hij => ?_⟩
              by_cases e : i = j
              · subst e; rw [← HX.out, ← HY.out]
              · exact HEQ.out i h1 h2 (by omega)
            case measure => simp [RowKit.intOf]; omega
        · have HNE : Hid (decide (L = M) = false) := by
            show _ = _
            rw [decide_eq_false_iff_not]
            intro e
            subst e
            exact hxy (HX.out.trans HY.out.symm)
          have hcs := sameA_any_ne hxy
          clear hxy
          rcases hcs with q | ⟨q1, q⟩ | ⟨q1, q2, q⟩ | ⟨q1, q2, q3, q⟩ | ⟨q1, q2, q3, q4, q⟩ | ⟨q1, q2, q3, q4, q5, q⟩
          all_goals
            (try subst q1)
            (try subst q2)
            (try subst q3)
            (try subst q4)
            (try subst q5)
            go_wp2_with fail
            go_region
            all_goals
              go_wp2_with fail
              go_ret
              exact ⟨ret_bool HNE.out.symm, by rw [HW.out]; exact below_dN (Below.refl _ _) (k + 1)⟩
      · have hy : Hid (decide (L = M) = true) := by
          show _ = _
          rw [decide_eq_true_eq]
          refine List.ext_getElem (HN.out.1.symm.trans HN.out.2) fun i h1 h2 => HEQ.out i h1 h2 (by have := HN.out.1; omega)
        have hd : ¬ (j : Int) < n := by omega
        obtain ⟨w1, ew⟩ : ∃ w1, w1 = w.drewN k := ⟨_, rfl⟩
        rw [← ew]
        have HW := Lib.hid ew
        clear ew
        go_wp2_with fail
        go_ret
        exact ⟨ret_bool hy.out.symm, by rw [HW.out]; exact below_dN (Below.refl _ _) k⟩
  · have hy : Hid (false = decide (L = M)) := by
      show _ = _
      symm
      rw [decide_eq_false_iff_not]
      rintro rfl
      exact hnm rfl
    obtain ⟨m, hm'⟩ : ∃ m, m = M.length := ⟨_, rfl⟩
    rw [← hm', ← hn]
    have hne : ((n : Int) != (m : Int)) = true := by simpa using (by omega : ¬ (n : Int) = m)
    have hne2 : ¬ (n : Int) = m := by omega
    clear hL hM hl hm hnm hn hm'
    go_enter Try.func10, Try.ntmps10
    go_wp2
    go_ret
    exact ⟨ret_bool hy.out, Below.refl _ _⟩
theorem zcells (n : Nat) : EPg.cells (List.replicate n zP) = List.replicate (n * 4) (.int .i64 0) := by
  induction n with
  | zero => rfl
  | succ n ih =>
    rw [List.replicate_succ, Enc.cells_cons, ih, show (n + 1) * 4 = 4 + n * 4 by omega, ← List.replicate_append_replicate]
    rfl
theorem made_zero (m : Nat) : (madeCells (Value.agg #[.int .i64 0, .int .i64 0, .int .i64 0, .int .i64 0]).cells m).toList = List.replicate m (.int .i64 0) := by
  apply List.ext_getElem?
  intro j
  by_cases hj : j < m
  · have h4 : j % 4 = 0 ∨ j % 4 = 1 ∨ j % 4 = 2 ∨ j % 4 = 3 := by omega
    rcases h4 with e | e | e | e <;> simp [madeCells, hj, Value.cells, e]
  · simp [madeCells, hj]
def NewedX (w : World) (e : Ending) (w' : World) : Prop := ∃ xa v, e = .returned (.pointer (some ⟨xa, 0, none⟩)) ∧ Px w.heap.size w' xa v (fun _ => zP) ∧ Below w.heap.size w w'
theorem PsOk.zero : PsOk (fun _ => zP) := ⟨fun _ => zP_ok, fun _ _ => rfl, fun _ => ⟨Int.le_refl _, by decide⟩⟩
set_option maxRecDepth 100000 in
theorem xnew_is (w : World) : Calls Try.prog 21 #[] w (NewedX w) := by
  obtain ⟨i0, hi0, hz0, hz1, hz2⟩ := info_parts EPg.info
  obtain ⟨W1, r1, o1, g1⟩ := run_makeSlice_full (P := Try.prog) (w := w) w.heap.size 41 40 i0 _ 4 EPg.und hi0 hz0 hz1 .i64 .i64 4096 (by decide) (by rw [hz2]; decide) (by decide) (Nat.le_refl _)
  have ho : EPg.Own w.heap.size W1 (.slice (some ⟨w.heap.size, 0, none⟩) 4096 4096) (List.replicate 4096 zP) := by
    show W1.ownsRow w.heap.size 40 4 _ (List.replicate 4096 zP).length (EPg.cells (List.replicate 4096 zP))
    rw [List.length_replicate, zcells, ← made_zero]
    exact o1
  have hb : Below w.heap.size w W1 := (Below.refl _ _).grown g1 (Nat.le_refl _) (fun k e => by cases e)
  have HEND : Hid (NewedX w (.returned (.pointer (some ⟨W1.heap.size, 0, none⟩))) (W1.alloc (.cells #[.slice (some ⟨w.heap.size, 0, none⟩) 4096 4096] 43))) :=
    ⟨W1.heap.size, _, rfl, ⟨Lrow.new W1 _ _, ⟨_, List.length_replicate, ho.call (below_new _ _), fun i h => List.getElem_replicate ..⟩, PsOk.zero, hb.size, Nat.le_trans hb.size (below_new W1 (.cells #[.slice (some ⟨w.heap.size, 0, none⟩) 4096 4096] 43)).size⟩, hb.alloc hb.size _⟩
  have hmk : (Instr.makeSlice 41 (.int .i64 4096) (.int .i64 4096)).run Try.prog w = .ok (.slice (some ⟨w.heap.size, 0, none⟩) 4096 4096) W1 := r1
  clear o1 g1 ho hb hi0 hz0 hz1 hz2 r1
  go_enter Try.func21, Try.ntmps21
  go_wp2
  go_ret
  exact HEND.out
end Go.Proofs.Ytodepfgfgphkbaa
