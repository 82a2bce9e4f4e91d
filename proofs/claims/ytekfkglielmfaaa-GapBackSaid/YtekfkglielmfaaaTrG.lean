/- The reference of stretches: Taken. -/
import Derived.Test.YtekfkglielmfaaaTrF
namespace Go.Proofs.Ytekfkglielmfaaa
open Go.RowKit
theorem info_bool : (Try.prog.info? 4).map (fun i => (i.zero, i.size, i.bytes)) = some (some (.bool false), 1, 1) := by kernel_rfl
theorem made_bools (n : Nat) : (madeCells #[Value.bool false] n).toList = List.replicate n (.bool false) := by
  apply List.ext_getElem?
  intro i
  rw [List.getElem?_replicate]
  simp only [madeCells, Array.getElem?_toList, Array.getElem?_map]
  by_cases hi : i < n
  · rw [if_pos hi]
    simp [hi, Nat.mod_one]
  · rw [if_neg hi]
    simp; omega
/-- A row of 4096 bools. -/
def rwB (f : Nat → Bool) : List Value := (List.range 4096).map fun p => .bool (f p)
theorem rwB_get {f : Nat → Bool} {p : Nat} (h : p < 4096) : (rwB f)[p]? = some (.bool (f p)) := by
  unfold rwB
  rw [List.getElem?_map, List.getElem?_range h]; rfl
theorem rwB_len (f : Nat → Bool) : (rwB f).length = 4096 := by unfold rwB; rw [List.length_map, List.length_range]
theorem rwB_same {f g : Nat → Bool} (h : ∀ p, p < 4096 → f p = g p) : rwB f = rwB g := by
  unfold rwB
  exact List.map_congr_left fun p hp => by rw [h p (List.mem_range.1 hp)]
theorem rwB_zero : rwB (fun _ => false) = List.replicate 4096 (.bool false) := by
  unfold rwB
  rw [List.map_const', List.length_range]
theorem rwB_set (f : Nat → Bool) (i : Nat) : (rwB f).set i (.bool true) = rwB fun k => decide (k = i) || f k := by
  apply List.ext_getElem?
  intro k
  by_cases hk : k < 4096
  · rw [rwB_get hk, List.getElem?_set]
    by_cases hi : i = k
    · subst hi
      rw [if_pos rfl, if_pos (by rw [rwB_len]; exact hk)]; simp
    · rw [if_neg hi, rwB_get hk, decide_eq_false (show ¬ k = i by omega), Bool.false_or]
  · rw [List.getElem?_eq_none (by rw [List.length_set, rwB_len]; omega), List.getElem?_eq_none (by rw [rwB_len]; omega)]
def tkA (P : List (Nat × Nat)) (k : Nat) : Bool := decide (k = 0) || P.any fun x => decide (x.1 ≤ k ∧ k < x.2)
def tkB (P : List (Nat × Nat)) (a p k : Nat) : Bool := tkA P k || decide (a ≤ k ∧ k < p)
theorem tkA_nil : (fun k => decide (k = 0) || false) = tkA [] := by funext k; unfold tkA; simp
theorem tkA_snoc (P : List (Nat × Nat)) (y : Nat × Nat) : tkA (P ++ [y]) = tkB P y.1 y.2 := by
  funext k; unfold tkB tkA; rw [any_snoc, Bool.or_assoc]
theorem tkB_none (P : List (Nat × Nat)) (a : Nat) : tkB P a a = tkA P := by
  funext k; unfold tkB; rw [decide_eq_false (show ¬ (a ≤ k ∧ k < a) by omega), Bool.or_false]
theorem tkB_one (P : List (Nat × Nat)) {a p : Nat} (h : a ≤ p) : (fun k => decide (k = p) || tkB P a p k) = tkB P a (p + 1) := by
  funext k; unfold tkB
  by_cases hk : k = p
  · subst hk
    rw [decide_eq_true rfl, Bool.true_or, decide_eq_true (show a ≤ k ∧ k < k + 1 by omega), Bool.or_true]
  · rw [decide_eq_false hk, Bool.false_or]
    congr 1
    exact decide_eq_decide.2 (by omega)
theorem tkA_end (L : List (Nat × Nat)) : rwB (tkA L) = rwB (tkS L) := rwB_same fun p hp => by
  unfold tkA tkS
  congr 1
  exact decide_eq_decide.2 (by omega)
section
variable {w w' : World} {B x : Nat} {v v' : Value} {L L' : List (Nat × Nat)} {f t : Int}
theorem row_mk (m : Nat) (hm : m ≤ 5000) (w : World) : ∃ W1, (Instr.makeSlice 45 (.int .i64 m) (.int .i64 m)).run Try.prog w = .ok (.slice (some ⟨w.heap.size, 0, none⟩) m m) W1 ∧ Lrow W1 w.heap.size 4 (List.replicate m (.bool false)) ∧ Below w.heap.size w W1 := by
  refine ⟨w.alloc (.cells (madeCells #[.bool false] m) 4), run_make_row' (P := Try.prog) 45 4 (.bool false) 1 Try.underlying45 info_bool rfl .i64 .i64 m (by omega) (by omega) w, ?_, below_new _ _⟩
  rw [← made_bools]
  simpa using Lrow.new w 4 (madeCells #[Value.bool false] m).toList
set_option maxHeartbeats 4000000 in
set_option maxRecDepth 100000 in
theorem rtaken (h : RtT B w x v L) (hl : L.length ≤ 1000) (hk : OkS L) : Calls Try.prog 21 #[.pointer (some ⟨x, 0, none⟩)] w fun e w' => ∃ g, e = .returned (.slice (some ⟨g, 0, none⟩) 4096 4096) ∧ w.heap.size ≤ g ∧ Lrow w' g 4 (rwB (tkS L)) ∧ Below w.heap.size w w' := by
  obtain ⟨A, c, hv⟩ := h.2.1.form
  subst hv
  obtain ⟨n, hn⟩ : ∃ n, n = L.length := ⟨_, rfl⟩
  rw [← hn] at h
  have HX := Lib.hid (And.intro h (And.intro hn hk))
  obtain ⟨g, hg⟩ : ∃ g, g = w.heap.size := ⟨_, rfl⟩
  obtain ⟨W1, hmk, hr, hb1⟩ := row_mk 4096 (by decide) w
  rw [← rwB_zero] at hr
  rw [show ((4096 : Nat) : Int) = 4096 from rfl] at hmk
  rw [← hg] at hmk hr
  have y0 := hr.frozen 0
  have d0 : W1.cell? ⟨g, 0, none⟩ = some (.bool false) := (hr.cell 0).trans (rwB_get (by decide))
  have HR : Hid (Lrow (W1.setCell ⟨g, 0, none⟩ (.bool true)) g 4 (rwB (tkA [])) ∧ Below w.heap.size w (W1.setCell ⟨g, 0, none⟩ (.bool true))) := by
    refine ⟨?_, hb1.setCell (p := ⟨g, 0, none⟩) (by show w.heap.size ≤ g; omega) _⟩
    have := hr.set_ 0 (.bool true)
    rw [rwB_set, tkA_nil] at this
    exact this
  have HG := Lib.hid hg
  rw [← hn] at hl
  clear h hn hk hg hr hb1
  go_enter Try.func21, Try.ntmps21
  go_wp2_with fail
  clear d0 y0 hmk
  obtain ⟨W2, hW2⟩ : ∃ W2, W2 = W1.setCell ⟨g, 0, none⟩ (.bool true) := ⟨_, rfl⟩
  rw [← hW2] at HR ⊢
  clear hW2
  go_loopw [4] (fun i wr => ∃ j : Nat, j ≤ n ∧ i = .int .i64 j ∧ Lrow wr g 4 (rwB (tkA (L.take j))) ∧ Below w.heap.size w wr) (fun i _ => n - (RowKit.intOf i).toNat)
  case atStart => exact ⟨0, Nat.zero_le _, rfl, HR.out.1, HR.out.2⟩
  case round =>
    clear HR
    obtain ⟨j, hj, rfl, hrow, hb⟩ := hrel
    have hrt := HX.out.1.call hb
    have c0 : wr.cell? ⟨x, 0, none⟩ = some (.slice A n c) := hrt.1.cell 0
    by_cases hlt : j < n
    · have hjL : j < L.length := by have := HX.out.2.1; omega
      obtain ⟨u, rfl, -, hu, d0, d1⟩ := hrt.at_ hjL
      have htk1 := take_one L hjL
      have hin := HX.out.2.2.in_ L[j] (List.getElem_mem hjL)
      have HAT : Hid (∀ W, Below w.heap.size w W → W.cell? ⟨x, 0, none⟩ = some (.slice (some ⟨u, 0, none⟩) n c) ∧ W.cell? ⟨u, j * 2, none⟩ = some (.int .i64 (L[j].1 : Nat)) ∧ W.cell? ⟨u, j * 2 + 1, none⟩ = some (.int .i64 (L[j].2 : Nat)) ∧ u < W.heap.size) := fun W hW => by
        have hrt := HX.out.1.call hW
        obtain ⟨u', e, -, hu', d0, d1⟩ := hrt.at_ hjL
        injection e with e; injection e with e
        subst e
        exact ⟨hrt.1.cell 0, d0, d1, hu'⟩
      obtain ⟨y, hy⟩ : ∃ y, y = L[j] := ⟨_, rfl⟩
      rw [← hy] at d0 d1 htk1 hin HAT
      obtain ⟨y0, y1⟩ := y
      dsimp only at d0 d1 hin HAT
      have j1 : (j : Int) < n := by omega
      have j0 : (0 : Int) ≤ j := by omega
      have hw3 : IntKind.i64.wrap ((j : Int) + 1) = (j : Int) + 1 := IntWalk.i64_in _ (by omega)
      have HJ := Lib.hid hlt
      have HT : Hid (tkA (L.take (j + 1)) = tkB (L.take j) y0 y1) := by rw [htk1]; exact tkA_snoc _ _
      have HP : Hid (Lrow wr g 4 (rwB (tkB (L.take j) y0 y0)) ∧ Below w.heap.size w wr) := ⟨by rw [tkB_none]; exact hrow, hb⟩
      clear hrow hb hrt htk1 hy hjL hlt hj
      go_wp2_with fail
      clear c0 d0 d1 hu
      go_loopw [5] (fun p wr => ∃ q : Nat, y0 ≤ q ∧ q ≤ y1 ∧ p = .int .i64 q ∧ Lrow wr g 4 (rwB (tkB (L.take j) y0 q)) ∧ Below w.heap.size w wr) (fun p _ => y1 - (RowKit.intOf p).toNat)
      case atStart => exact ⟨y0, Nat.le_refl _, by omega, rfl, HP.out.1, HP.out.2⟩
      case round =>
        clear HP
        obtain ⟨q, q0, q1, rfl, hrow, hb⟩ := hrel
        obtain ⟨c0, d0, d1, hu⟩ := HAT.out _ hb
        by_cases hq : q < y1
        · have k1 : (q : Int) < y1 := by omega
          have k0 : (0 : Int) ≤ q := by omega
          have k2 : (q : Int) < 4096 := by omega
          have hw4 : IntKind.i64.wrap ((q : Int) + 1) = (q : Int) + 1 := IntWalk.i64_in _ (by omega)
          have e0 : ∃ bb, wr.cell? ⟨g, q, none⟩ = some (.bool bb) := ⟨_, (hrow.cell q).trans (rwB_get (by omega))⟩
          obtain ⟨bb, e0⟩ := e0
          have f0 := hrow.frozen q
          have HN : Hid (Lrow (wr.setCell ⟨g, q, none⟩ (.bool true)) g 4 (rwB (tkB (L.take j) y0 (q + 1))) ∧ Below w.heap.size w (wr.setCell ⟨g, q, none⟩ (.bool true))) := by
            refine ⟨?_, hb.setCell (p := ⟨g, q, none⟩) (by show w.heap.size ≤ g; have := HG.out; omega) _⟩
            have := hrow.set_ q (.bool true)
            rw [rwB_set, tkB_one _ q0] at this
            exact this
          have HQ := Lib.hid (And.intro q0 hq)
          clear hrow hb q0 q1 hin hq
          go_wp2_with fail
          go_roundw
          case rel => exact ⟨q + 1, by have := HQ.out; omega, by have := HQ.out; omega, by go_num, HN.out.1, HN.out.2⟩
          case measure => simp [RowKit.intOf]; have := HQ.out; omega
        · obtain rfl : q = y1 := by omega
          have k1 : ¬ (q : Int) < q := by omega
          have HN := Lib.hid (And.intro hrow hb)
          clear hrow hb q0 q1 hin hq
          go_wp2_with fail
          go_roundw
          case rel => exact ⟨j + 1, HJ.out, by go_num, by rw [HT.out]; exact HN.out.1, HN.out.2⟩
          case measure => simp [RowKit.intOf]; have := HJ.out; omega
    · obtain rfl : j = n := by omega
      have hall : L.take j = L := List.take_of_length_le (by have := HX.out.2.1; omega)
      rw [hall, tkA_end] at hrow
      have HN := Lib.hid (And.intro hrow hb)
      have j1 : ¬ (j : Int) < j := by omega
      clear hrow hb hall hj hrt
      go_wp2_with fail
      go_ret
      exact ⟨g, rfl, by have := HG.out; omega, HN.out.1, HN.out.2⟩
end
end Go.Proofs.Ytekfkglielmfaaa
