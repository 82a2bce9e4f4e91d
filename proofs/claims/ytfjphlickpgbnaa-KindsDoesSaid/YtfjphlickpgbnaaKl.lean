/- The contract of New: a row of one number, many times. -/
import Derived.Test.YtfjphlickpgbnaaKk
import Derived.Laws.CopyRow
namespace Go.Proofs.Ytfjphlickpgbnaa
variable {Xc : Nat → Prop}
open Go.RowKit

theorem info_int : (Try.prog.info? 3).map (fun i => (i.zero, i.size, i.bytes)) = some (some (.int .i64 0), 1, 8) := by kernel_rfl
theorem info_int1 : (Try.prog.info? 3).map (·.size) = some 1 := by kernel_rfl
theorem grown_setRow (w : World) (g : Nat) (cs : Array Value) : w.grownBy (w.setRow g cs) (some g) :=
  ⟨rfl, rfl, rfl, by simp, fun k _ hne => setRow_other w g k cs (by rintro rfl; exact hne rfl)⟩
/-- Copying into a stretch of a block. -/
theorem copy_lrow {P : Program} {w : World} {g : Nat} {t : TypeId} {L : List Value} (h : Lrow w g t L) (st : TypeId) (hu : P.underlying st = some (.slice t)) (hs : (P.info? t).map (·.size) = some 1) (o dl dc : Nat) (a : Addr) (sl sc : Nat) (cs : List Value) (hn : cs.length = Nat.min sl dl)
    (hsrc : ∀ j v, cs[j]? = some v → w.cell? (a.add j) = some v) (hfit : o + cs.length ≤ L.length) (h1 : ∀ v ∈ cs, v.oneCell' = true) :
    ∃ w2, (∀ ty, (Builtin.copy_ #[st, st] ty #[.slice (some ⟨g, o, none⟩) dl dc, .slice (some a) sl sc]).run P w = .ok (goInt cs.length) w2) ∧ Lrow w2 g t (splice L o cs) ∧ w.grownBy w2 (some g) := by
  refine ⟨w.setRow g (splice L o cs).toArray, fun ty => ?_, setRow_heap w g _ _ t _ h, grown_setRow _ _ _⟩
  have := run_copy_row (P := P) w st st ty t g o dl dc a sl sc L.toArray t cs hu hs h hn hsrc (by simpa using hfit) h1
  rw [this]
  simp [splice, List.append_assoc]
/-- The first i numbers are laid, the others are 0. -/
def part (v m i : Nat) : List Value := List.replicate i (.int .i64 v) ++ List.replicate (m - i) (.int .i64 0)
theorem part_length {v m i : Nat} (h : i ≤ m) : (part v m i).length = m := by simp [part]; omega
theorem part_get {v m i : Nat} (h : i ≤ m) (x : Nat) : (part v m i)[x]? = if x < i then some (.int .i64 v) else if x < m then some (.int .i64 0) else none := by
  unfold part
  by_cases h1 : x < i
  · rw [if_pos h1, List.getElem?_append_left (by simpa using h1), List.getElem?_replicate, if_pos h1]
  · rw [if_neg h1, List.getElem?_append_right (by simp; omega), List.getElem?_replicate]
    simp only [List.length_replicate]
    by_cases h2 : x < m
    · rw [if_pos h2, if_pos (by omega)]
    · rw [if_neg h2, if_neg (by omega)]
theorem part_more {v m i k : Nat} (h : i + k ≤ m) : splice (part v m i) i (List.replicate k (.int .i64 v)) = part v m (i + k) := by
  apply List.ext_getElem?
  intro x
  rw [splice_get _ _ _ (by rw [part_length (by omega), List.length_replicate]; exact h), part_get (by omega), part_get (by omega), List.length_replicate, List.getElem?_replicate]
  by_cases h1 : x < i
  · rw [if_pos h1, if_pos h1, if_pos (by omega)]
  · rw [if_neg h1]
    by_cases h2 : x < i + k
    · rw [if_pos h2, if_pos h2, if_pos (by omega)]
    · rw [if_neg h2, if_neg h1, if_neg h2]
theorem part_zero (v m : Nat) : part v m 0 = List.replicate m (.int .i64 0) := by simp [part]
theorem part_all (v m : Nat) : part v m m = kcl (List.replicate m v) := by simp [part, kcl]
theorem made_ints (n : Nat) : (madeCells #[Value.int .i64 0] n).toList = List.replicate n (.int .i64 0) := by
  apply List.ext_getElem?
  intro i
  rw [List.getElem?_replicate]
  simp only [madeCells, Array.getElem?_toList, Array.getElem?_map]
  by_cases hi : i < n
  · rw [if_pos hi]
    simp [hi, Nat.mod_one]
  · rw [if_neg hi]
    simp; omega
theorem rep_one (k v : Nat) : ∀ u ∈ List.replicate k (Value.int .i64 v), u.oneCell' = true := by
  intro u hu; rw [List.eq_of_mem_replicate hu]; rfl
section
variable {w : World}
set_option maxHeartbeats 1000000 in
set_option maxRecDepth 100000 in
theorem repeat_any {x v m : Nat} (hx : Lrow w x 3 [.int .i64 v]) (h0 : 1 ≤ m) (hm : m ≤ 4096) :
    Calls Try.prog 46 #[.slice (some ⟨x, 0, none⟩) 1 1, .int .i64 m] w fun e w' => e = .returned (.slice (some ⟨w.heap.size, 0, none⟩) m m) ∧ Below w.heap.size w w' ∧ Lrow w' w.heap.size 3 (kcl (List.replicate m v)) := by
  have hMul : Calls Try.prog 63 #[.int .u64 1, .int .u64 m] w fun e w' => e = .returned (.tuple #[.int .u64 0, .int .u64 m]) ∧ w = w' := by
    have := (Try.bits_Mul 1 m (by omega) (by omega) w).mono fun e w' ⟨h1, h2⟩ => (⟨h1, h2.symm⟩ : e = _ ∧ w = w')
    rw [Nat.one_mul, Nat.div_eq_of_lt (by omega), Nat.mod_eq_of_lt (by omega)] at this
    exact this
  have hw1 : IntKind.u64.wrap (m : Int) = m := by rw [IntKind.wrap_u64]; omega
  have hw2 : IntKind.i64.wrap (m : Int) = m := IntWalk.i64_in _ (by omega)
  have hmk : ∀ w : World, (Instr.makeSlice 40 (.int .i64 (m : Int)) (.int .i64 (m : Int))).run Try.prog w = .ok (.slice (some ⟨w.heap.size, 0, none⟩) m m) (w.alloc (.cells (madeCells #[.int .i64 0] m) 3)) := fun w =>
    run_make_row' (P := Try.prog) 40 3 (.int .i64 0) 8 Try.underlying40 info_int rfl .i64 .i64 m (by omega) (by omega) w
  obtain ⟨W, hW⟩ : ∃ W, W = w.alloc (.cells (madeCells #[.int .i64 0] m) 3) := ⟨_, rfl⟩
  have hB : Below w.heap.size w W := by rw [hW]; exact (Below.refl _ _).alloc (Nat.le_refl _) _
  have hr : Lrow W w.heap.size 3 (part v m 0) := by
    rw [hW, part_zero, ← made_ints]
    simpa using Lrow.new w 3 (madeCells #[Value.int .i64 0] m).toList
  have hx1 := hx.call hB
  obtain ⟨W2, hc2, hr2, hg2⟩ := copy_lrow (P := Try.prog) hr 40 Try.underlying40 info_int1 0 m m ⟨x, 0, none⟩ 1 1 (List.replicate 1 (.int .i64 v)) (by show 1 = min 1 m; omega) (fun j u hu => by
      have hj : j = 0 := by
        rcases Nat.eq_zero_or_pos j with h | h
        · exact h
        · rw [List.getElem?_eq_none (by simp; omega)] at hu; cases hu
      subst hj
      rw [add_zero_off, hx1.cell]
      exact hu) (by rw [part_length (Nat.zero_le _)]; simp; omega) (rep_one _ _)
  rw [part_more (by omega), Nat.zero_add] at hr2
  rw [hW] at hc2
  have hc3 : ∀ ty, (Builtin.copy_ #[40, 40] ty #[.slice (some ⟨w.heap.size, 0, none⟩) m m, .slice (some ⟨x, 0, none⟩) 1 1]).run Try.prog (w.alloc (.cells (madeCells #[.int .i64 0] m) 3)) = .ok (.int .i64 1) W2 := hc2
  have HR2 := Lib.hid hr2
  have HB2 : Hid (Below w.heap.size w W2) := hB.grown hg2 (Nat.le_trans (Nat.le_refl _) hB.size) (fun k e => by injection e with e; omega)
  have m0 : ¬ (m : Int) < 0 := by omega
  have m1 : ¬ (9223372036854775807 : Int) < m := by omega
  clear hr2 hr hx1 hg2 hc2 hW hB hx
  go_enter Try.func46, Try.ntmps46
  go_wp2_with fail
  refine hMul.mono ?_
  rintro e w' ⟨rfl, rfl⟩
  go_wp2_with fail
  generalize hgg : w.heap.size = g at HR2 HB2 ⊢
  have HGG := Lib.hid hgg
  clear hgg hMul hmk hc3
  go_loopw [8] (fun t wr => ∃ i : Nat, 1 ≤ i ∧ i ≤ m ∧ t = .int .i64 i ∧ Lrow wr g 3 (part v m i) ∧ Below g w wr) (fun t _ => m - (intOf t).toNat)
  case atStart => exact ⟨1, Nat.le_refl _, h0, rfl, HR2.out, HB2.out⟩
  case round =>
    obtain ⟨i, hi1, hi, rfl, hr, hb⟩ := hrel
    by_cases hlt : i < m
    · obtain ⟨k, hk⟩ : ∃ k, k = min i (m - i) := ⟨_, rfl⟩
      have hk1 : 1 ≤ k := by omega
      have hk2 : k ≤ i := by omega
      have hk3 : i + k ≤ m := by omega
      obtain ⟨W3, hc, hr3, hg3⟩ := copy_lrow (P := Try.prog) (hr.drewN 1) 40 Try.underlying40 info_int1 i (m - i) (m - i) ⟨g, 0, none⟩ i m (List.replicate k (.int .i64 v)) (by rw [List.length_replicate]; exact hk) (fun j u hu => by
          have hj : j < k := by
            rcases Nat.lt_or_ge j k with h | h
            · exact h
            · rw [List.getElem?_eq_none (by simpa using h)] at hu; cases hu
          rw [add_zero_off, (hr.drewN 1).cell, part_get hi, if_pos (by omega)]
          rw [List.getElem?_replicate, if_pos hj] at hu
          exact hu) (by rw [part_length hi, List.length_replicate]; exact hk3) (rep_one _ _)
      rw [part_more hk3] at hr3
      have hc3 : ∀ ty, (Builtin.copy_ #[40, 40] ty #[.slice (some ⟨g, i, none⟩) (m - i) (m - i), .slice (some ⟨g, 0, none⟩) i m]).run Try.prog wr.drew = .ok (.int .i64 k) W3 := by
        intro ty
        have := hc ty
        rw [List.length_replicate] at this
        exact this
      have hsz := HGG.out
      have HR3 := Lib.hid hr3
      have HB3 : Hid (Below g w W3) := (below_dN hb 1).grown hg3 (Nat.le_trans (by rw [← hsz]; exact Nat.le_refl _) hb.size) (fun b e => by injection e with e; omega)
      have i0 : (0 : Int) ≤ i := by omega
      have im : (i : Int) ≤ m := by omega
      have iw : IntKind.i64.wrap ((i : Int) + k) = (i : Int) + k := IntWalk.i64_in _ (by omega)
      clear hr hb hr3 hg3 hc hk hsz
      go_wp2_with fail
      go_region_held3 (fun _ => True) (trivial) (fail)
      go_wp2_with fail
      go_roundw
      case rel => exact ⟨i + k, by omega, hk3, by go_num, HR3.out, HB3.out⟩
      case measure => simp [intOf]; omega
    · obtain rfl : i = m := by omega
      rw [part_all] at hr
      have HR3 := Lib.hid hr
      have HB3 := Lib.hid hb
      clear hr hb
      go_wp2
      go_ret
      rw [HGG.out]
      exact ⟨rfl, HB3.out, HR3.out⟩
theorem kNew_bad {f : Int} (h : f < 8 ∨ 1024 < f) (w : World) : Calls Try.prog 27 #[.int .i64 f] w fun e w' => e = .returned (.tuple #[.pointer none, .int .i64 2]) ∧ w = w' := by
  have hN := fun W => new_bad h W
  clear h
  go_enter Try.func27, Try.ntmps27
  go_wp2_with (go_at_call 45; refine (hN _).mono ?_; rintro e w' ⟨rfl, rfl⟩)
  go_ret2
  exact ⟨rfl, rfl⟩
/-- New: all frames free, all sections movable. -/
def KNewly (Xc : Nat → Prop) (n : Nat) (w : World) (e : Ending) (w' : World) : Prop :=
  ∃ k a g, e = .returned (.tuple #[.pointer (some ⟨k, 0, none⟩), .int .i64 0]) ∧ Below w.heap.size w w' ∧ KinX Xc w.heap.size w' k a g n (List.replicate n true) (List.replicate ((n + 7) / 8) 1)
set_option maxHeartbeats 1000000 in
set_option maxRecDepth 100000 in
theorem kNew_any (n : Nat) (h1 : 8 ≤ n) (h2 : n ≤ 1024) (w : World) (hX : ∀ g, Xc g → g < w.heap.size) : Calls Try.prog 27 #[.int .i64 n] w (KNewly Xc n w) := by
  have hN := new_any n h1 h2 w hX
  obtain ⟨m, hm⟩ : ∃ m, m = (n + 7) / 8 := ⟨_, rfl⟩
  have s1 : IntKind.i64.wrap ((n : Int) - 1) = n - 1 := IntWalk.i64_in _ (by omega)
  have d1 : ((n : Int) - 1) / 8 = m - 1 := by omega
  have s2 : IntKind.i64.wrap ((m : Int) - 1 + 1) = m := by rw [IntWalk.i64_in _ (by omega)]; omega
  have hm1 : 1 ≤ m := by omega
  have hm2 : m ≤ 128 := by omega
  have HM := Lib.hid hm
  have HXX := Lib.hid hX
  clear hm hX
  go_enter Try.func27, Try.ntmps27
  go_wp2_with fail
  refine Calls.mono hN ?_
  rintro e w1 ⟨L1, rfl, hb1, hx1, hg1⟩
  have HB1 := Lib.hid hb1
  have HX1 := Lib.hid hx1
  have HG1 := Lib.hid hg1
  clear hb1 hx1 hg1 hN
  obtain ⟨W, hW⟩ : ∃ W, W = w1.alloc (.cells #[.int .i64 1] 3) := ⟨_, rfl⟩
  obtain ⟨x, hx⟩ : ∃ x, x = w1.heap.size := ⟨_, rfl⟩
  have hb2 : Below w1.heap.size w1 W := by rw [hW]; exact (Below.refl _ _).alloc (Nat.le_refl _) _
  have hr2 : Lrow W x 3 [.int .i64 (1 : Nat)] := by rw [hW, hx]; exact Lrow.new w1 _ _
  have hR := repeat_any hr2 hm1 (by omega)
  have HR := Lib.hid hR
  have HB2 := Lib.hid hb2
  have hsw : w1.heap.size < W.heap.size := by rw [hW]; simp
  have HSW := Lib.hid hsw
  obtain ⟨q, hq⟩ : ∃ q, q = w.heap.size := ⟨_, rfl⟩
  rw [← hq] at HX1 ⊢
  have HQ := Lib.hid hq
  have HW := Lib.hid hW
  have HXE := Lib.hid hx
  clear hR hb2 hr2 hq hW hx hsw
  go_wp2_with fail
  rw [← HW.out, ← HXE.out]
  refine HR.out.mono ?_
  rintro e w3 ⟨rfl, hb3, hr3⟩
  obtain ⟨g, hg⟩ : ∃ g, g = W.heap.size := ⟨_, rfl⟩
  rw [← hg] at hr3 ⊢
  have hb13 : Below w1.heap.size w1 w3 := HB2.out.trans (hb3.mono HB2.out.size)
  have HG3 : Hid (w1.heap.size ≤ g) := by show _ ≤ _; have := HSW.out; omega
  have HR3 := Lib.hid hr3
  have HB13 := Lib.hid hb13
  clear hg hb3 hr3 hb13 HR HB2
  go_wp2
  go_ret2
  have hlo : w.heap.size ≤ w1.heap.size := HB1.out.size
  have hb4 : Below w1.heap.size w1 (w3.alloc (.cells #[.int .i64 n, .pointer (some ⟨q, 0, none⟩), .slice (some ⟨g, 0, none⟩) m m] 64)) := HB13.out.alloc HB13.out.size _
  refine ⟨w3.heap.size, q, g, rfl, HB1.out.trans (hb4.mono hlo), ?_⟩
  have hlen : (List.replicate ((n + 7) / 8) 1).length = m := by rw [List.length_replicate]; exact HM.out.symm
  refine ⟨?_, ?_, ⟨L1, ?_, HG1.out⟩, by simp, by rw [hlen]; exact HM.out, fun y hy => by rw [List.eq_of_mem_replicate hy]; omega, h1, h2, ?_, ?_, ?_⟩
  · rw [hlen]; exact Lrow.new w3 _ _
  · rw [← HM.out]; exact HR3.out.alloc _
  · have hX1 : BudAt Xc w.heap.size w1 q n L1 := by
      have := HX1.out
      rw [HQ.out] at this ⊢
      exact this
    refine hX1.more hb4 (fun b hb => ?_)
    rcases hb with hb | rfl
    · refine ⟨?_, Or.inl hb⟩
      have := HXX.out b hb
      have := HB1.out.size
      have := hb4.size
      omega
    · refine ⟨?_, Or.inr HG3.out⟩
      have := HR3.out.lt
      simp; omega
  · exact Nat.le_trans hlo HB13.out.size
  · exact Nat.le_trans hlo HG3.out
  · intro hgx
    have := HXX.out g hgx
    have := HG3.out
    omega
end
end Go.Proofs.Ytfjphlickpgbnaa
