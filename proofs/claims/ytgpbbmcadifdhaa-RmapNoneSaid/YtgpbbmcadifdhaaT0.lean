/- The reference's Frames. -/
import Derived.Test.YtgpbbmcadifdhaaS2
import Derived.BigQuiet
namespace Go.Proofs.Ytgpbbmcadifdhaa
open Go.RowKit
/-- Numbers that a call of the reference told. -/
def ToldN (l : List Int) (w : World) (e : Ending) (w' : World) : Prop := ∃ A c, e = .returned (.slice A l.length c) ∧ EI.Own w.heap.size w' (.slice A l.length c) l ∧ Below w.heap.size w w'
theorem app_int {W wr : World} {Ar : Option Addr} {m cr : Nat} {R : List Int} (h : EI.Own W.heap.size wr (.slice Ar m cr) R) (hb : Below W.heap.size W wr) (hl : R.length ≤ 90000) (f : Int) : ∃ A5 c5 W5,
    (Builtin.append_ #[33, 33] 33 #[.slice Ar m cr, .slice (some ⟨wr.heap.size, 0, none⟩) 1 1]).run Try.prog (wr.alloc (.cells #[.int .i64 f] 3)) = .ok (.slice A5 (m + 1) c5) W5 ∧
    EI.Own W.heap.size W5 (.slice A5 (m + 1) c5) (R ++ [f]) ∧ Below W.heap.size W W5 := by
  obtain ⟨A5, c5, W5, r5, o5, g5, -⟩ := h.app1 hb.size f hl #[.int .i64 f] rfl
  have hm : R.length = m := by
    obtain ⟨_, _, e⟩ := h.form
    injection e with _ e _
    exact e.symm
  rw [hm] at r5 o5
  refine ⟨A5, c5, W5, r5 _ rfl, o5, Below.grown hb g5 hb.size (fun k e => ?_)⟩
  obtain ⟨vs, r, hlo⟩ := h.block e
  exact hlo
theorem getD_at (L : List On) {j : Nat} (h : j < L.length) : L.getD j (0, 0, 0) = L[j] := by rw [List.getD_eq_getElem?_getD, List.getElem?_eq_getElem h]; rfl
section
variable {w w' : World} {B xa : Nat} {v : Value} {L : List On}
set_option maxRecDepth 100000 in
set_option maxHeartbeats 4000000 in
theorem xframes_any (h : Rx B w xa v L) (hL : L.length ≤ 200) : Calls Try.prog 19 #[.pointer (some ⟨xa, 0, none⟩)] w (ToldN (frs L) w) := by
  obtain ⟨A, c, rfl⟩ := h.own.form
  obtain ⟨N, hN⟩ : ∃ N, N = L.length := ⟨_, rfl⟩
  have HH := Lib.hid h
  have hc0 := h.c0
  have hxl := h.top.lt
  rw [← hN] at hc0
  have HN := Lib.hid hN
  have n200 : (N : Int) ≤ 200 := by omega
  clear h hN
  go_enter Try.func19, Try.ntmps19
  go_wp2
  go_loopw [3, 4] (fun r i wr => ∃ (j : Nat), j ≤ N ∧ i = .int .i64 j ∧ EI.Own w.heap.size wr r (frs (L.take j)) ∧ Below w.heap.size w wr) (fun _ i _ => N - (RowKit.intOf i).toNat)
  case atStart => exact ⟨0, Nat.zero_le _, rfl, by simpa [frs, frg] using Enc.Own.nil (E := EI) _ w, Below.refl _ _⟩
  case round =>
    obtain ⟨j, hj, rfl, hcs, hb⟩ := hrel
    obtain ⟨Ar, cr, rfl⟩ := hcs.form
    have hcw : wr.cell? ⟨xa, 0, none⟩ = some (.slice A N c) := (hb.cell (p := ⟨xa, 0, none⟩) hxl).trans hc0
    by_cases hlt : j < N
    · have hjl : j < L.length := by have := HN.out; omega
      obtain ⟨g, rfl, -, hgl, -, hat⟩ := HH.out.own.some_ (by omega)
      have hfs := frs_next hjl
      rw [getD_at L hjl] at hfs
      have hRl : (frs (L.take j)).length ≤ 1000 := by
        have := frs_len (L.take j)
        rw [List.length_take] at this
        omega
      obtain ⟨R, hR⟩ : ∃ R, R = frs (L.take j) := ⟨_, rfl⟩
      rw [← hR] at hcs hfs hRl ⊢
      obtain ⟨m, hm⟩ : ∃ m, m = R.length := ⟨_, rfl⟩
      obtain ⟨zf, hzf⟩ : ∃ zf, zf = L[j].1 := ⟨_, rfl⟩
      rw [← hzf] at hfs
      have jN : (j : Int) < N := by omega
      have j0 : (0 : Int) ≤ j := by omega
      have HF : Hid (∀ w', Below w.heap.size w w' → w'.cell? ⟨xa, 0, none⟩ = some (.slice (some ⟨g, 0, none⟩) N c) ∧ w'.cell? ⟨g, j * 3, none⟩ = some (.int .i64 zf)) := fun w' hb' =>
        ⟨(hb'.cell (p := ⟨xa, 0, none⟩) hxl).trans hc0, by rw [hzf]; exact (on_at ((hat j hjl).heap (w' := w') (hb'.block g hgl))).1⟩
      have HCM : Hid (EI.Own w.heap.size wr (.slice Ar m cr) R) := by rw [hm]; exact hcs
      have HBW := Lib.hid hb
      have HM := Lib.hid hm
      rw [← hm]
      have e0 := (HF.out wr hb).2
      have HFS := Lib.hid hfs
      have HJ : Hid (∀ i : Nat, j = i + 1 → wr.cell? ⟨g, i * 3, none⟩ = some (.int .i64 (L.getD (j - 1) (0, 0, 0)).1)) := fun i hi => by
        subst hi
        have hil : i < L.length := by omega
        rw [Nat.add_sub_cancel, getD_at L hil]
        exact (on_at ((hat i hil).heap (w' := wr) (hb.block g hgl))).1
      clear hcs hb hR hm hat hfs hzf
      by_cases h0 : j = 0
      · have h0' : ((j : Int) == 0) = true := by subst h0; rfl
        have HF2 : Hid (frs (L.take (j + 1)) = R ++ [zf]) := by
          have := HFS.out
          rw [if_neg (by omega)] at this
          exact this
        clear h0
        go_wp2_with fail
        go_quiet (fail)
        obtain ⟨wa, hwa⟩ : ∃ wa, wa = wr.drewN nq := ⟨_, rfl⟩
        rw [← hwa]
        have HBA : Hid (Below w.heap.size w wa) := by rw [hwa]; exact below_dN HBW.out _
        have HCA : Hid (EI.Own w.heap.size wa (.slice Ar m cr) R) := by rw [hwa]; exact HCM.out.drewN _
        obtain ⟨A5, c5, W5, r5, o5, hb5⟩ := app_int HCA.out HBA.out (by omega) zf
        obtain ⟨l0, l1⟩ := HF.out wa HBA.out
        have HO5 := Lib.hid o5
        have HB5 := Lib.hid hb5
        clear o5 hb5 hwa hcw e0
        go_wp2_with (at_builtin; refine wpList_append_run rfl _ _ 33 rfl _ _ rfl rfl r5 ?_)
        go_roundw
        case rel => exact ⟨j + 1, by omega, by go_num, by rw [HF2.out]; exact HO5.out, HB5.out⟩
        case measure => simp [RowKit.intOf]; omega
      · obtain ⟨i, hi⟩ : ∃ i : Nat, j = i + 1 := ⟨j - 1, by omega⟩
        obtain ⟨yf, hyf⟩ : ∃ yf, yf = (L.getD (j - 1) (0, 0, 0)).1 := ⟨_, rfl⟩
        have e1 := HJ.out i hi
        rw [← hyf] at e1
        have hw1 : IntKind.i64.wrap ((j : Int) - 1) = (i : Int) := by rw [IntKind.wrap_i64]; omega
        have i0 : (0 : Int) ≤ i := by omega
        have iN : (i : Int) < N := by omega
        have h0' : ((j : Int) == 0) = false := by simpa using h0
        have h0'' : ¬ (j : Int) = 0 := by omega
        have h00 : 0 < j := by omega
        have HI := Lib.hid hi
        clear hi h0
        by_cases hzy : zf = yf
        · have HF2 : Hid (frs (L.take (j + 1)) = R) := by
            have := HFS.out
            rw [if_pos ⟨h00, by rw [← hyf]; exact hzy.symm⟩, List.append_nil] at this
            exact this
          clear hyf
          subst hzy
          go_wp2_with fail
          go_quiet (fail)
          go_wp2_with fail
          go_roundw
          case rel => exact ⟨j + 1, by omega, by go_num, by rw [HF2.out, HM.out]; exact (show EI.Own w.heap.size wr (.slice Ar R.length cr) R by rw [← HM.out]; exact HCM.out).drewN _, below_dN HBW.out _⟩
          case measure => simp [RowKit.intOf]; omega
        · have HF2 : Hid (frs (L.take (j + 1)) = R ++ [zf]) := by
            have := HFS.out
            rw [if_neg (fun e => hzy (by rw [hyf]; exact e.2.symm))] at this
            exact this
          clear hyf
          go_wp2_with fail
          go_quiet (fail)
          obtain ⟨wa, hwa⟩ : ∃ wa, wa = wr.drewN nq := ⟨_, rfl⟩
          rw [← hwa]
          have HBA : Hid (Below w.heap.size w wa) := by rw [hwa]; exact below_dN HBW.out _
          have HCA : Hid (EI.Own w.heap.size wa (.slice Ar m cr) R) := by rw [hwa]; exact HCM.out.drewN _
          obtain ⟨A5, c5, W5, r5, o5, hb5⟩ := app_int HCA.out HBA.out (by omega) zf
          obtain ⟨l0, l1⟩ := HF.out wa HBA.out
          have HO5 := Lib.hid o5
          have HB5 := Lib.hid hb5
          clear o5 hb5 hwa hcw e0 e1
          go_wp2_with (at_builtin; refine wpList_append_run rfl _ _ 33 rfl _ _ rfl rfl r5 ?_)
          go_roundw
          case rel => exact ⟨j + 1, by omega, by go_num, by rw [HF2.out]; exact HO5.out, HB5.out⟩
          case measure => simp [RowKit.intOf]; omega
    · obtain rfl : j = N := by omega
      have e : L.take j = L := by rw [HN.out]; exact List.take_length
      rw [e] at hcs ⊢
      have HO := Lib.hid hcs
      have HB := Lib.hid hb
      clear hcs hb e
      go_wp2
      go_ret
      exact ⟨Ar, cr, rfl, HO.out, HB.out⟩
end
end Go.Proofs.Ytgpbbmcadifdhaa
