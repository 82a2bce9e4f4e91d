/- The reference's Del. -/
import Derived.Test.YtgpbbmcadifdhaaS4
import Derived.BigQuiet
namespace Go.Proofs.Ytgpbbmcadifdhaa
open Go.RowKit
theorem del_snoc (L : List On) (f : Int) (s : It) {k : Nat} (h : k < L.length) : deL (L.take (k + 1)) f s = if L[k] = (f, s) then deL (L.take k) f s else deL (L.take k) f s ++ [L[k]] := by
  unfold deL
  rw [List.take_succ_eq_append_getElem h, List.filter_append]
  by_cases e : L[k] = (f, s)
  · rw [if_pos e, List.filter_cons_of_neg (by simpa using e)]; simp
  · rw [if_neg e, List.filter_cons_of_pos (by simpa using e)]; rfl
theorem del_le (L : List On) (f : Int) (s : It) : (deL L f s).length ≤ L.length := List.length_filter_le _ _
section
variable {w w' : World} {B xa : Nat} {v : Value} {L : List On}
set_option maxRecDepth 100000 in
set_option maxHeartbeats 4000000 in
theorem xdel_any (h : Rx B w xa v L) (hu : Srt L) (hL : L.length ≤ 200) (f x y : Int) : Calls Try.prog 31 #[.pointer (some ⟨xa, 0, none⟩), .int .i64 f, .agg #[.int .i64 x, .int .i64 y]] w (DidX B w xa v (deL L f (x, y)) (deE L f (x, y))) := by
  obtain ⟨A, c, rfl⟩ := h.own.form
  obtain ⟨N, hN⟩ : ∃ N, N = L.length := ⟨_, rfl⟩
  obtain ⟨W, hW⟩ : ∃ W, W = w.alloc (.cells #[.int .i64 x, .int .i64 y] 27) := ⟨_, rfl⟩
  have hb : Lrow W w.heap.size 27 [.int .i64 x, .int .i64 y] := by rw [hW]; exact Lrow.new w _ _
  have hWB : Below w.heap.size w W := by rw [hW]; exact below_new _ _
  have HH := Lib.hid h
  have hxl := h.top.lt
  have hc0 : W.cell? ⟨xa, 0, none⟩ = some (.slice A N c) := by rw [hN]; exact (h.top.call hWB).cell 0
  have b0 := hb.cell 0
  have b1 := hb.cell 1
  have hbl := hb.lt
  have HN := Lib.hid hN
  have HU := Lib.hid hu
  have HWB := Lib.hid hWB
  have HW := Lib.hid hW
  have n200 : (N : Int) ≤ 200 := by omega
  clear h hu hb hWB hN
  go_enter Try.func31, Try.ntmps31
  go_upto_region 1 with (fail)
  rw [← HW.out]
  clear hW
  go_wp2_with fail
  go_loopw [7, 8] (fun r i wr => ∃ (j : Nat), j ≤ N ∧ i = .int .i64 j ∧ EOn.Own W.heap.size wr r (deL (L.take j) f (x, y)) ∧ Below W.heap.size W wr) (fun _ i _ => N - (RowKit.intOf i).toNat)
  case atStart => exact ⟨0, Nat.zero_le _, rfl, by simpa [deL] using Enc.Own.nil (E := EOn) _ W, Below.refl _ _⟩
  case round =>
    obtain ⟨j, hj, rfl, hcs, hb⟩ := hrel
    obtain ⟨Ar, cr, rfl⟩ := hcs.form
    have hxl2 : xa < W.heap.size := Nat.lt_of_lt_of_le hxl HWB.out.size
    have hcw : wr.cell? ⟨xa, 0, none⟩ = some (.slice A N c) := (hb.cell (p := ⟨xa, 0, none⟩) hxl2).trans hc0
    have hb0 : wr.cell? ⟨w.heap.size, 0, none⟩ = some (.int .i64 x) := (hb.cell (p := ⟨w.heap.size, 0, none⟩) hbl).trans b0
    have hb1 : wr.cell? ⟨w.heap.size, 1, none⟩ = some (.int .i64 y) := (hb.cell (p := ⟨w.heap.size, 1, none⟩) hbl).trans b1
    by_cases hlt : j < N
    · have hjl : j < L.length := by have := HN.out; omega
      obtain ⟨g, rfl, -, hgl, -, hat⟩ := HH.out.own.some_ (by omega)
      obtain ⟨z, ez⟩ : ∃ z, z = L[j] := ⟨_, rfl⟩
      have hat := hat j hjl
      have hfs := del_snoc L f (x, y) hjl
      rw [← ez] at hat hfs
      have hwrB : Below w.heap.size w wr := HWB.out.trans (hb.mono HWB.out.size)
      obtain ⟨e0, e1, e2⟩ := on_at (hat.heap (w' := wr) (hwrB.block g hgl))
      change wr.cell? ⟨g, j * 3, none⟩ = _ at e0
      change wr.cell? ⟨g, j * 3 + 1, none⟩ = _ at e1
      change wr.cell? ⟨g, j * 3 + 2, none⟩ = _ at e2
      have hrl : (deL (L.take j) f (x, y)).length ≤ 200 := by
        have := del_le (L.take j) f (x, y)
        rw [List.length_take] at this
        omega
      obtain ⟨R, hR⟩ : ∃ R, R = deL (L.take j) f (x, y) := ⟨_, rfl⟩
      rw [← hR] at hcs hfs hrl ⊢
      obtain ⟨m, hm⟩ : ∃ m, m = R.length := ⟨_, rfl⟩
      obtain ⟨zf, zs, zp⟩ := z
      dsimp only at e0 e1 e2 hfs
      have HAT : Hid (∀ k, (wr.drewN k).cell? ⟨g, j * 3, none⟩ = some (.int .i64 zf) ∧ (wr.drewN k).cell? ⟨g, j * 3 + 1, none⟩ = some (.int .i64 zs) ∧ (wr.drewN k).cell? ⟨g, j * 3 + 2, none⟩ = some (.int .i64 zp) ∧ (wr.drewN k).cell? ⟨xa, 0, none⟩ = some (.slice (some ⟨g, 0, none⟩) N c)) := fun k => ⟨e0, e1, e2, hcw⟩
      have HAPP : Hid (∀ k, ∃ A5 c5 W5, (Builtin.append_ #[63, 63] 63 #[.slice Ar m cr, .slice (some ⟨wr.heap.size, 0, none⟩) 1 1]).run Try.prog ((wr.drewN k).alloc (.cells #[.int .i64 zf, .int .i64 zs, .int .i64 zp] 67)) = .ok (.slice A5 (m + 1) c5) W5 ∧ EOn.Own W.heap.size W5 (.slice A5 (m + 1) c5) (R ++ [(zf, zs, zp)]) ∧ Below W.heap.size W W5) := fun k => by
        obtain ⟨A5, c5, W5, r5, o5, g5, -⟩ := (hcs.drewN k).app1 (w := wr.drewN k) hb.size (zf, zs, zp) (by omega) #[.int .i64 zf, .int .i64 zs, .int .i64 zp] rfl
        rw [← hm] at r5 o5
        refine ⟨A5, c5, W5, r5 _ rfl, o5, Below.grown (below_dN hb k) g5 hb.size (fun k e => ?_)⟩
        obtain ⟨vs, r, hlo⟩ := hcs.block e
        exact hlo
      have HCS := Lib.hid hcs
      have HB := Lib.hid hb
      have HFS := Lib.hid hfs
      have HM := Lib.hid hm
      have jN : (j : Int) < N := by omega
      have j0 : (0 : Int) ≤ j := by omega
      rw [← hm]
      clear hcs hb hfs hm hat hjl ez hrl hgl hwrB hR
      rcases (show (¬ zf = f) ∨ (zf = f ∧ ¬ zs = x) ∨ (zf = f ∧ zs = x ∧ ¬ zp = y) ∨ (zf = f ∧ zs = x ∧ zp = y) by omega) with h | ⟨h1, h⟩ | ⟨h1, h2, h⟩ | ⟨h1, h2, h3⟩
      case inr.inr.inr =>
        subst h1 h2 h3
        have hfs2 := HFS.out
        rw [if_pos rfl] at hfs2
        have HF2 := Lib.hid hfs2
        clear hfs2
        go_wp2_with fail
        go_quiet (fail)
        go_wp2_with fail
        go_roundw
        case rel => exact ⟨j + 1, by omega, by go_num, by rw [HF2.out, HM.out]; exact HCS.out.drewN _, below_dN HB.out _⟩
        case measure => simp [RowKit.intOf]; omega
      all_goals
        (try subst h1)
        (try subst h2)
        have hfs2 := HFS.out
        rw [if_neg (by simp [h])] at hfs2
        have HF2 := Lib.hid hfs2
        clear hfs2
        go_wp2_with fail
        go_quiet (fail)
        obtain ⟨A5, c5, W5, r5, o5, hb5⟩ := HAPP.out nq
        obtain ⟨k0, k1, k2, k3⟩ := HAT.out nq
        have HO5 := Lib.hid o5
        have HB5 := Lib.hid hb5
        clear o5 hb5
        go_wp2_with (at_builtin; refine wpList_append_run rfl _ _ 63 rfl (.slice Ar m cr) (.slice (some ⟨wr.heap.size, 0, none⟩) 1 1) rfl rfl r5 ?_)
        go_roundw
        case rel => exact ⟨j + 1, by omega, by go_num, by rw [HF2.out]; exact HO5.out, HB5.out⟩
        case measure => simp [RowKit.intOf]; omega
    · obtain rfl : j = N := by omega
      have e : L.take j = L := by rw [HN.out]; exact List.take_length
      rw [e] at hcs ⊢
      have HO := Lib.hid hcs
      have HB := Lib.hid hb
      have hrx := HH.out.set (HWB.out.trans (hb.mono HWB.out.size)) (r := 0) (hcs.base HWB.out.size)
      have HRX := Lib.hid hrx
      obtain ⟨m, hm⟩ : ∃ m, m = (deL L f (x, y)).length := ⟨_, rfl⟩
      have hfr := ((HH.out.top.call (HWB.out.trans (hb.mono HWB.out.size)))).frozen 0
      by_cases hin : (f, x, y) ∈ L
      · have hl := del_len HU.out hin
        have hd : deE L f (x, y) = 0 := if_pos hin
        have hmj : ¬ (m : Int) = (j : Int) := by have := HN.out; omega
        have hmj2 : ((m : Int) == (j : Int)) = false := by simpa using hmj
        rw [← hm] at HRX ⊢
        have HM := Lib.hid hm
        clear hcs hb e hl hrx hm hin
        have hd := Lib.hid hd
        go_wp2
        go_ret
        rw [hd.out]
        exact HRX.out
      · have hd : deE L f (x, y) = 6 := if_neg hin
        have hl : deL L f (x, y) = L := del_none hin
        have hmj : (m : Int) = (j : Int) := by rw [hm, hl]; have := HN.out; omega
        rw [← hm]
        have HM := Lib.hid hm
        have HEND : Hid (DidX B w xa (.slice A j c) (deL L f (x, y)) (deE L f (x, y)) (.returned (.int .i64 6)) wr) := by
          show DidX _ _ _ _ _ _ _ _
          rw [hl, hd, HN.out]
          exact ⟨rfl, _, HH.out.call (HWB.out.trans (hb.mono HWB.out.size)), Foot.of_below (HWB.out.trans (hb.mono HWB.out.size)), Or.inl rfl⟩
        clear hcs hb e hl hd hrx hm hin
        go_wp2
        go_ret
        rw [← HN.out]
        exact HEND.out
end
end Go.Proofs.Ytgpbbmcadifdhaa
