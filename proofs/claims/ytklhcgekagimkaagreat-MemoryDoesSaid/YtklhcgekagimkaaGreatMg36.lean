/- Package memory: what is counted. -/
import Derived.Test.YtklhcgekagimkaaGreatMg35
namespace Go.Proofs.YtklhcgekagimkaaGreat
open Go.RowKit
section
variable {X : Nat → Prop} {w w' : World} {B k n : Nat} {F : List Bool} {S : List Nat}
theorem nFreeOf (h : Kn X B w k n F S) (kd : Int) : Calls Tryz.prog 44 #[.pointer (some ⟨k, 0, none⟩), .int .i64 kd] w fun e w' => e = .returned (.int .i64 (frO F S kd : Nat)) ∧ Below w.heap.size w w' := by
  obtain ⟨a, g, hK⟩ := h.ex
  exact kFreeOf_any hK kd
theorem nFree (h : Kn X B w k n F S) : Calls Tryz.prog 46 #[.pointer (some ⟨k, 0, none⟩)] w fun e w' => e = .returned (.int .i64 (F.count true : Nat)) ∧ w = w' := by
  obtain ⟨a, g, hK⟩ := h.ex
  exact kFree_any hK
theorem nBlocks (h : Kn X B w k n F S) : Calls Tryz.prog 47 #[.pointer (some ⟨k, 0, none⟩)] w (Lists (bk F) w) := by
  obtain ⟨a, g, hK⟩ := h.ex
  exact kBlocks_any hK
theorem nHas (h : Kn X B w k n F S) (f : Int) (hf : Fits f) : Calls Tryz.prog 62 #[.pointer (some ⟨k, 0, none⟩), .int .i64 f] w fun e w' => e = .returned (.bool (hasB F f)) ∧ Below w.heap.size w w' := by
  obtain ⟨a, g, hK⟩ := h.ex
  exact kHas_any hK f hf.1 hf.2
theorem nKind (h : Kn X B w k n F S) (f : Int) : Calls Tryz.prog 39 #[.pointer (some ⟨k, 0, none⟩), .int .i64 f] w fun e w' => e = .returned (.int .i64 (kdZ n S f)) ∧ w = w' := by
  obtain ⟨a, g, hK⟩ := h.ex
  exact kind_any hK f
theorem Kn.len (h : Kn X B w k n F S) : F.length = n ∧ n ≤ 1024 := by
  obtain ⟨a, g, hK⟩ := h.ex
  exact ⟨hK.len, hK.hi⟩
theorem Kn.call (h : Kn X B w k n F S) (hb : Below w.heap.size w w') : Kn X B w' k n F S := h.keep hb.size fun q hq => hb.block q (h.lo q hq).2
/-- The free frames of the first j kinds. -/
def smK (F : List Bool) (S : List Nat) : Nat → Nat
  | 0 => 0
  | j + 1 => smK F S j + frO F S (j : Int)
theorem smK_le (F : List Bool) (S : List Nat) (j : Nat) : smK F S j ≤ j * F.length := by
  induction j with
  | zero => simp [smK]
  | succ j ih =>
    have := frO_le F S (j : Int)
    have h2 : (j + 1) * F.length = j * F.length + F.length := Nat.succ_mul j F.length
    simp only [smK]
    omega
set_option maxHeartbeats 2000000 in
set_option maxRecDepth 100000 in
theorem countedK (h : Kn X B w k n F S) {g : Nat} (r : Lrow w g 3 [.int .i64 0, .int .i64 1, .int .i64 2]) :
    Calls Tryz.prog 43 #[.pointer (some ⟨k, 0, none⟩), .func (.func 44) #[] #[], .slice (some ⟨g, 0, none⟩) 3 3] w fun e w' => e = .returned (.int .i64 (smK F S 3 : Nat)) ∧ Below w.heap.size w w' := by
  have hln := h.len
  have HX := Lib.hid (And.intro h r)
  clear h r
  go_enter Tryz.func43, Tryz.ntmps43
  go_wp2_with fail
  go_loopw [7, 12] (fun t i wr => ∃ j : Nat, j ≤ 3 ∧ i = .int .i64 j ∧ t = .int .i64 (smK F S j : Nat) ∧ Below w.heap.size w wr) (fun _ i _ => 3 - (RowKit.intOf i).toNat)
  case atStart => exact ⟨0, by omega, rfl, rfl, Below.refl _ _⟩
  case round =>
    obtain ⟨j, hj, rfl, rfl, hb⟩ := hrel
    by_cases hlt : j < 3
    · have d0 : wr.cell? ⟨g, j, none⟩ = some (.int .i64 j) := by
        rw [(HX.out.2.call hb).cell]
        obtain rfl | rfl | rfl : j = 0 ∨ j = 1 ∨ j = 2 := by omega
        all_goals rfl
      have hF := nFreeOf (HX.out.1.call hb) (j : Int)
      obtain ⟨s, hs⟩ : ∃ s, s = smK F S j := ⟨_, rfl⟩
      obtain ⟨u, hu⟩ : ∃ u, u = frO F S (j : Int) := ⟨_, rfl⟩
      have s1 : s ≤ 4000 := by
        have := smK_le F S j
        have h3 : j * F.length ≤ 3 * F.length := Nat.mul_le_mul_right _ (by omega)
        omega
      have u1 : u ≤ 1024 := by have := frO_le F S (j : Int); omega
      have HS : Hid (smK F S (j + 1) = s + u) := by show _ = _; rw [smK, hs, hu]
      rw [← hu] at hF
      rw [← hs]
      have hw1 : IntKind.i64.wrap ((s : Int) + (u : Int)) = ((s + u : Nat) : Int) := by rw [IntWalk.i64_in _ (by omega)]; omega
      have j1 : (j : Int) < 3 := by omega
      have HB := Lib.hid hb
      clear hs hu hb hj hln
      go_wp2_with (go_at_call 44; (with_reducible refine hF.mono ?_); rintro e w1 ⟨rfl, hb1⟩; have HB1 := Lib.hid (HB.out.trans (hb1.mono HB.out.size)); clear hb1)
      go_roundw
      case rel => exact ⟨j + 1, by omega, by go_num, by rw [HS.out]; go_num, HB1.out⟩
      case measure => simp [RowKit.intOf]; omega
    · obtain rfl : j = 3 := by omega
      have HB := Lib.hid hb
      clear hb hj hlt
      go_wp2_with fail
      go_ret
      exact ⟨rfl, HB.out⟩
end
section
variable {w w' : World} {B s g : Nat} {I : List Int}
set_option maxHeartbeats 2000000 in
set_option maxRecDepth 100000 in
theorem countedF (h : Fx B w s g I) (ok : OkF I) {x : Int} {b : Nat} (r : Lrow w b 3 [.int .i64 x]) :
    Calls Tryz.prog 41 #[.pointer (some ⟨s, 0, none⟩), .func (.func 42) #[] #[], .slice (some ⟨b, 0, none⟩) 1 1] w fun e w' => e = .returned (.int .i64 (I.count x : Nat)) ∧ w = w' := by
  have hC := count_f h ok x
  have c1 : I.count x ≤ 1024 := Nat.le_trans (count_len I x) ok.l1
  have d0 := r.cell 0
  generalize I.count x = u at *
  have hw1 : IntKind.i64.wrap ((u : Int)) = ((u : Nat) : Int) := by rw [IntWalk.i64_in _ (by omega)]
  clear h ok r
  go_enter Tryz.func41, Tryz.ntmps41
  go_wp2_with fail
  go_loopw [7, 12] (fun t i wr => ((i = .int .i64 0 ∧ t = .int .i64 0) ∨ (i = .int .i64 1 ∧ t = .int .i64 u)) ∧ w = wr) (fun _ i _ => 1 - (RowKit.intOf i).toNat)
  case atStart => exact ⟨Or.inl ⟨rfl, rfl⟩, rfl⟩
  case round =>
    obtain ⟨⟨rfl, rfl⟩ | ⟨rfl, rfl⟩, rfl⟩ := hrel
    · go_wp2_with (go_at_call 42; (with_reducible refine hC.mono ?_); rintro e w1 ⟨rfl, rfl⟩)
      go_roundw
      case rel => exact ⟨Or.inr ⟨rfl, by simp⟩, trivial⟩
      case measure => simp [RowKit.intOf]
    · go_wp2_with fail
      go_ret
      exact ⟨rfl, rfl⟩
theorem countedF_nil {x : Int} {b : Nat} (w : World) (r : Lrow w b 3 [.int .i64 x]) :
    Calls Tryz.prog 41 #[.pointer none, .func (.func 42) #[] #[], .slice (some ⟨b, 0, none⟩) 1 1] w fun e w' => e = .returned (.int .i64 0) ∧ w = w' := by
  have hC := count_nil x w
  have d0 := r.cell 0
  clear r
  go_enter Tryz.func41, Tryz.ntmps41
  go_wp2_with fail
  go_loopw [7, 12] (fun t i wr => (i = .int .i64 0 ∨ i = .int .i64 1) ∧ t = .int .i64 0 ∧ w = wr) (fun _ i _ => 1 - (RowKit.intOf i).toNat)
  case atStart => exact ⟨Or.inl rfl, rfl, rfl⟩
  case round =>
    obtain ⟨rfl | rfl, rfl, rfl⟩ := hrel
    · go_wp2_with (go_at_call 42; (with_reducible refine hC.mono ?_); rintro e w1 ⟨rfl, rfl⟩)
      go_roundw
      case rel => exact ⟨Or.inr rfl, rfl, trivial⟩
      case measure => simp [RowKit.intOf]
    · go_wp2_with fail
      go_ret
      exact ⟨rfl, rfl⟩
end
end Go.Proofs.YtklhcgekagimkaaGreat
/- Package memory: the looks, Set, Turn; of nil as well. -/
namespace Go.Proofs.YtklhcgekagimkaaGreat
open Go.RowKit
theorem fld_0 (x y z : Value) (w : World) : (Instr.field 76 (.agg #[x, y, z]) 0).run Tryz.prog w = .ok x w := by kernel_rfl
theorem fld_1 (x y z : Value) (w : World) : (Instr.field 76 (.agg #[x, y, z]) 1).run Tryz.prog w = .ok y w := by kernel_rfl
theorem fld_2 (x y z : Value) (w : World) : (Instr.field 76 (.agg #[x, y, z]) 2).run Tryz.prog w = .ok z w := by kernel_rfl
section
variable {X : Nat → Prop} {w w' : World} {B n mk : Nat} {p : Pn} {M : Me}
theorem ram_m (h : PmX B w p X n mk M) : Calls Tryz.prog 14 #[.pointer (some ⟨p.m, 0, none⟩)] w fun e w' => e = .returned (.pointer (some ⟨p.a, 0, none⟩)) ∧ Below w.heap.size w w' := by
  have hL := lowr_any h
  have H := Lib.hid h
  clear h
  have l0 := fld_0
  have l1 := fld_1
  have l2 := fld_2
  go_enter Tryz.func14, Tryz.ntmps14
  go_wp2_with fail
  refine hL.mono ?_
  rintro e w1 ⟨rfl, hb⟩
  have HB := Lib.hid hb
  clear hb hL
  go_wp2_with fail
  go_ret
  exact ⟨rfl, HB.out⟩
theorem is_m (h : PmX B w p X n mk M) (f : Int) : Calls Tryz.prog 11 #[.pointer (some ⟨p.m, 0, none⟩), .int .i64 f] w fun e w' => e = .returned (.int .i64 (isV M.I f)) ∧ Below w.heap.size w w' := by
  have hL := lowr_any h
  have H := Lib.hid h
  clear h
  have l0 := fld_0
  have l1 := fld_1
  have l2 := fld_2
  go_enter Tryz.func11, Tryz.ntmps11
  go_wp2_with fail
  refine hL.mono ?_
  rintro e w1 ⟨rfl, hb⟩
  have HB := Lib.hid hb
  have hI := is_f (H.out.call hb).frs f
  clear hb hL
  go_wp2_with fail
  refine hI.mono ?_
  rintro e w2 ⟨rfl, rfl⟩
  clear hI
  go_wp2_with fail
  go_ret
  exact ⟨rfl, HB.out⟩
theorem free_m (h : PmX B w p X n mk M) : Calls Tryz.prog 20 #[.pointer (some ⟨p.m, 0, none⟩)] w fun e w' => e = .returned (.int .i64 (M.F.count true : Nat)) ∧ Below w.heap.size w w' := by
  have hL := lowr_any h
  have H := Lib.hid h
  clear h
  have l0 := fld_0
  have l1 := fld_1
  have l2 := fld_2
  go_enter Tryz.func20, Tryz.ntmps20
  go_wp2_with fail
  refine hL.mono ?_
  rintro e w1 ⟨rfl, hb⟩
  have HB := Lib.hid hb
  have hI := nFree (H.out.call hb).kin
  clear hb hL
  go_wp2_with fail
  refine hI.mono ?_
  rintro e w2 ⟨rfl, rfl⟩
  clear hI
  go_wp2_with fail
  go_ret
  exact ⟨rfl, HB.out⟩
theorem kind_m (h : PmX B w p X n mk M) (f : Int) : Calls Tryz.prog 12 #[.pointer (some ⟨p.m, 0, none⟩), .int .i64 f] w fun e w' => e = .returned (.int .i64 (kdZ n M.S f)) ∧ Below w.heap.size w w' := by
  have hL := lowr_any h
  have H := Lib.hid h
  clear h
  have l0 := fld_0
  have l1 := fld_1
  have l2 := fld_2
  go_enter Tryz.func12, Tryz.ntmps12
  go_wp2_with fail
  refine hL.mono ?_
  rintro e w1 ⟨rfl, hb⟩
  have HB := Lib.hid hb
  have hI := nKind (H.out.call hb).kin f
  clear hb hL
  go_wp2_with fail
  refine hI.mono ?_
  rintro e w2 ⟨rfl, rfl⟩
  clear hI
  go_wp2_with fail
  go_ret
  exact ⟨rfl, HB.out⟩
set_option maxHeartbeats 1000000 in
set_option maxRecDepth 100000 in
theorem count_m (h : PmX B w p X n mk M) (ok : OkF M.I) (x : Int) : Calls Tryz.prog 16 #[.pointer (some ⟨p.m, 0, none⟩), .int .i64 x] w fun e w' => e = .returned (.int .i64 (M.I.count x : Nat)) ∧ Below w.heap.size w w' := by
  have hL := lowr_any h
  have H := Lib.hid (And.intro h ok)
  clear h ok
  have l0 := fld_0
  have l1 := fld_1
  have l2 := fld_2
  go_enter Tryz.func16, Tryz.ntmps16
  go_wp2_with fail
  refine hL.mono ?_
  rintro e w1 ⟨rfl, hb⟩
  have HB := Lib.hid hb
  obtain ⟨W2, hW⟩ : ∃ W2, W2 = w1.alloc (.cells #[.int .i64 x] 3) := ⟨_, rfl⟩
  obtain ⟨q, hq⟩ : ∃ q, q = w1.heap.size := ⟨_, rfl⟩
  have hr : Lrow W2 q 3 [.int .i64 x] := by rw [hW, hq]; exact Lrow.new w1 _ _
  have hb2 : Below w1.heap.size w1 W2 := by rw [hW]; exact below_new _ _
  have hI := countedF ((H.out.1.call hb).call hb2).frs H.out.2 hr
  have HB2 : Hid (Below w.heap.size w W2) := hb.trans (hb2.mono hb.size)
  have HW := Lib.hid (And.intro hW hq)
  clear hb hL hW hq hr hb2
  go_wp2_with fail
  rw [← HW.out.1, ← HW.out.2]
  refine hI.mono ?_
  rintro e w2 ⟨rfl, rfl⟩
  clear hI
  go_wp2_with fail
  go_ret
  exact ⟨rfl, HB2.out⟩
theorem blocks_m (h : PmX B w p X n mk M) : Calls Tryz.prog 23 #[.pointer (some ⟨p.m, 0, none⟩)] w (Lists (bk M.F) w) := by
  have hL := lowr_any h
  have H := Lib.hid h
  generalize hM : bk M.F = L at *
  have HM := Lib.hid hM
  clear h hM
  have l0 := fld_0
  have l1 := fld_1
  have l2 := fld_2
  go_enter Tryz.func23, Tryz.ntmps23
  go_wp2_with fail
  refine hL.mono ?_
  rintro e w1 ⟨rfl, hb⟩
  have HB := Lib.hid hb
  have hI := nBlocks (H.out.call hb).kin
  rw [HM.out] at hI
  clear hb hL
  go_wp2_with fail
  refine hI.mono ?_
  rintro e w2 ⟨A, c, rfl, hr, hb2⟩
  have HR := Lib.hid (And.intro hr (HB.out.trans (hb2.mono HB.out.size)))
  clear hI hr hb2
  go_wp2_with fail
  go_ret
  exact ⟨A, c, rfl, HR.out.1, HR.out.2⟩
theorem set_m (h : PmX B w p X n mk M) (s t : Int) : Calls Tryz.prog 36 #[.pointer (some ⟨p.m, 0, none⟩), .int .i64 s, .int .i64 t] w fun e w' => e = .returned (.int .i64 (stE M.S.length s t)) ∧ PDid B p X n mk (seM M s t) w w' := by
  have hL := lowr_any h
  have H := Lib.hid h
  obtain ⟨E, hE⟩ : ∃ E, E = stE M.S.length s t := ⟨_, rfl⟩
  rw [← hE]
  have HE := Lib.hid hE
  clear h hE
  have l0 := fld_0
  have l1 := fld_1
  have l2 := fld_2
  go_enter Tryz.func36, Tryz.ntmps36
  go_wp2_with fail
  refine hL.mono ?_
  rintro e w1 ⟨rfl, hb⟩
  have HB := Lib.hid hb
  have hI := nSet (H.out.call hb).kin s t
  rw [← HE.out] at hI
  have HH := Lib.hid (H.out.call hb)
  clear hb hL
  go_wp2_with fail
  refine hI.mono ?_
  rintro e w2 ⟨rfl, X', hK, hf, hx⟩
  have HD : Hid (PDid B p X n mk (seM M s t) w w2) := by
    have hs := HB.out.size
    refine ⟨X', HH.out.kinT hK hf hx, (Foot.of_below HB.out).trans hf fun q e _ => Or.inr (Or.inr (Or.inr (Or.inr (Or.inr e)))), fun q hq => ?_⟩
    rcases hx q hq with e | e
    · exact Or.inl e
    · exact Or.inr (by omega)
  clear hI hK hf hx
  go_wp2_with fail
  go_ret
  exact ⟨rfl, HD.out⟩
set_option maxHeartbeats 1000000 in
set_option maxRecDepth 100000 in
theorem spare_m (h : PmX B w p X n mk M) (hk : mk ≤ n) : Calls Tryz.prog 18 #[.pointer (some ⟨p.m, 0, none⟩)] w fun e w' => e = .returned (.int .i64 (spN M mk : Nat)) ∧ Below w.heap.size w w' := by
  obtain ⟨W2, hW⟩ : ∃ W2, W2 = w.alloc (.cells #[.int .i64 0, .int .i64 1, .int .i64 2] 3) := ⟨_, rfl⟩
  obtain ⟨q, hq⟩ : ∃ q, q = w.heap.size := ⟨_, rfl⟩
  have hr : Lrow W2 q 3 [.int .i64 0, .int .i64 1, .int .i64 2] := by rw [hW, hq]; exact Lrow.new w _ _
  have hb2 : Below w.heap.size w W2 := by rw [hW]; exact below_new _ _
  have hI := countedK (h.call hb2).kin hr
  have hs : spN M mk = smK M.F M.S 3 - mk := by simp [spN, smK]
  have hsz := smK_le M.F M.S 3
  have hln := h.kin.len
  have c1 := h.c1
  have H := Lib.hid h
  obtain ⟨s, hsv⟩ : ∃ s, s = smK M.F M.S 3 := ⟨_, rfl⟩
  rw [← hsv] at hI hs hsz
  rw [hs]
  have s1 : s ≤ 4000 := by omega
  have m1 : mk ≤ 1024 := by omega
  have hw : IntKind.i64.wrap ((s : Int) - (mk : Int)) = (s : Int) - (mk : Int) := IntWalk.i64_in _ (by omega)
  have HB := Lib.hid hb2
  have HW := Lib.hid (And.intro hW hq)
  clear hW hq hr hb2 hs hsz hln h hsv hk
  have l0 := fld_0
  have l1 := fld_1
  have l2 := fld_2
  go_enter Tryz.func18, Tryz.ntmps18
  go_wp2_with fail
  rw [← HW.out.1, ← HW.out.2]
  refine hI.mono ?_
  rintro e w3 ⟨rfl, hb3⟩
  have HB3 := Lib.hid (HB.out.trans (hb3.mono HB.out.size))
  have c3 := (H.out.call HB3.out).c3
  clear hI hb3 c1
  go_wp2_with fail
  go_ret
  exact ⟨ret_int (by omega), HB3.out⟩
set_option maxHeartbeats 1000000 in
theorem turn_m (h : PmX B w p X n mk M) (ok : OkF M.I) (f m a b : Int) : Calls Tryz.prog 35 #[.pointer (some ⟨p.m, 0, none⟩), .int .i64 f, .int .i64 m, .int .i64 a, .int .i64 b] w fun e w' => e = .returned (.int .i64 (tnE M f m a b)) ∧ PDid B p X n mk (tnM M f m a b) w w' := by
  by_cases ca : a = 0
  · have he : tnE M f m a b = 2 ∧ tnM M f m a b = M := by unfold tnE tnM; rw [if_pos (Or.inl ca), if_pos (Or.inl ca)]; exact ⟨rfl, rfl⟩
    rw [he.1, he.2]
    have HD : Hid (PDid B p X n mk M w w) := PDid.same h (Below.refl _ _)
    clear he h ok
    subst ca
    go_enter Tryz.func35, Tryz.ntmps35
    go_wp2_with fail
    go_ret
    exact ⟨rfl, HD.out⟩
  · have ca' : (a == 0) = false := by simpa using ca
    by_cases cb : b = 0
    · have he : tnE M f m a b = 2 ∧ tnM M f m a b = M := by unfold tnE tnM; rw [if_pos (Or.inr cb), if_pos (Or.inr cb)]; exact ⟨rfl, rfl⟩
      rw [he.1, he.2]
      have HD : Hid (PDid B p X n mk M w w) := PDid.same h (Below.refl _ _)
      clear he h ok ca
      subst cb
      go_enter Tryz.func35, Tryz.ntmps35
      go_wp2_with fail
      go_ret
      exact ⟨rfl, HD.out⟩
    · have cb' : (b == 0) = false := by simpa using cb
      have hc : ¬ (a = 0 ∨ b = 0) := fun e => by rcases e with e | e; exact ca e; exact cb e
      have he : tnE M f m a b = tuE M.I f m a b ∧ tnM M f m a b = ⟨M.F, M.S, tuL M.I f m a b, M.W⟩ := by unfold tnE tnM; rw [if_neg hc, if_neg hc]; exact ⟨rfl, rfl⟩
      rw [he.1, he.2]
      have hT := turn_f h.frs ok f m a b
      have c2 := h.c2
      have H := Lib.hid h
      generalize tuE M.I f m a b = E at *
      generalize tuL M.I f m a b = L at *
      clear he h ok ca cb hc
      go_enter Tryz.func35, Tryz.ntmps35
      go_wp2_with fail
      refine hT.mono ?_
      rintro e w1 ⟨rfl, hl1, hf1, ht1⟩
      have HD : Hid (PDid B p X n mk ⟨M.F, M.S, L, M.W⟩ w w1) :=
        ⟨X, H.out.frsT hf1 ht1, ht1.mono (fun q e => by rcases e with e | e; exact Or.inr (Or.inr (Or.inr (Or.inl e))); exact Or.inr (Or.inr (Or.inr (Or.inr (Or.inl e))))), fun _ e => Or.inl e⟩
      clear hl1 hf1 ht1 hT c2
      go_wp2_with fail
      go_ret
      exact ⟨rfl, HD.out⟩
end
/-! Of nil. -/
theorem ram_mn (w : World) : Calls Tryz.prog 14 #[.pointer none] w fun e w' => e = .returned (.pointer none) ∧ Below w.heap.size w w' := by
  have hL := lowr_nil w
  have l0 := fld_0
  have l1 := fld_1
  have l2 := fld_2
  go_enter Tryz.func14, Tryz.ntmps14
  go_wp2_with fail
  refine hL.mono ?_
  rintro e w1 ⟨rfl, hb⟩
  have HB := Lib.hid hb
  clear hb hL
  go_wp2_with fail
  go_ret
  exact ⟨rfl, HB.out⟩
theorem is_mn (f : Int) (w : World) : Calls Tryz.prog 11 #[.pointer none, .int .i64 f] w fun e w' => e = .returned (.int .i64 (-1)) ∧ Below w.heap.size w w' := by
  have hL := lowr_nil w
  have l0 := fld_0
  have l1 := fld_1
  have l2 := fld_2
  go_enter Tryz.func11, Tryz.ntmps11
  go_wp2_with fail
  refine hL.mono ?_
  rintro e w1 ⟨rfl, hb⟩
  have HB := Lib.hid hb
  have hI := is_nil f w1
  clear hb hL
  go_wp2_with fail
  refine hI.mono ?_
  rintro e w2 ⟨rfl, rfl⟩
  clear hI
  go_wp2_with fail
  go_ret
  exact ⟨rfl, HB.out⟩
theorem free_mn (w : World) : Calls Tryz.prog 20 #[.pointer none] w fun e w' => e = .returned (.int .i64 0) ∧ Below w.heap.size w w' := by
  have hL := lowr_nil w
  have l0 := fld_0
  have l1 := fld_1
  have l2 := fld_2
  go_enter Tryz.func20, Tryz.ntmps20
  go_wp2_with fail
  refine hL.mono ?_
  rintro e w1 ⟨rfl, hb⟩
  have HB := Lib.hid hb
  have hI := kFree_nil w1
  clear hb hL
  go_wp2_with fail
  refine hI.mono ?_
  rintro e w2 ⟨rfl, rfl⟩
  clear hI
  go_wp2_with fail
  go_ret
  exact ⟨rfl, HB.out⟩
theorem kind_mn (f : Int) (w : World) : Calls Tryz.prog 12 #[.pointer none, .int .i64 f] w fun e w' => e = .returned (.int .i64 (-1)) ∧ Below w.heap.size w w' := by
  have hL := lowr_nil w
  have l0 := fld_0
  have l1 := fld_1
  have l2 := fld_2
  go_enter Tryz.func12, Tryz.ntmps12
  go_wp2_with fail
  refine hL.mono ?_
  rintro e w1 ⟨rfl, hb⟩
  have HB := Lib.hid hb
  have hI := kind_nil f w1
  clear hb hL
  go_wp2_with fail
  refine hI.mono ?_
  rintro e w2 ⟨rfl, rfl⟩
  clear hI
  go_wp2_with fail
  go_ret
  exact ⟨rfl, HB.out⟩
theorem blocks_mn (w : World) : Calls Tryz.prog 23 #[.pointer none] w fun e w' => e = .returned (.slice none 0 0) ∧ Below w.heap.size w w' := by
  have hL := lowr_nil w
  have l0 := fld_0
  have l1 := fld_1
  have l2 := fld_2
  go_enter Tryz.func23, Tryz.ntmps23
  go_wp2_with fail
  refine hL.mono ?_
  rintro e w1 ⟨rfl, hb⟩
  have HB := Lib.hid hb
  have hI := kBlocks_nil w1
  clear hb hL
  go_wp2_with fail
  refine hI.mono ?_
  rintro e w2 ⟨rfl, rfl⟩
  clear hI
  go_wp2_with fail
  go_ret
  exact ⟨rfl, HB.out⟩
theorem set_mn (s t : Int) (w : World) : Calls Tryz.prog 36 #[.pointer none, .int .i64 s, .int .i64 t] w fun e w' => e = .returned (.int .i64 1) ∧ Below w.heap.size w w' := by
  have hL := lowr_nil w
  have l0 := fld_0
  have l1 := fld_1
  have l2 := fld_2
  go_enter Tryz.func36, Tryz.ntmps36
  go_wp2_with fail
  refine hL.mono ?_
  rintro e w1 ⟨rfl, hb⟩
  have HB := Lib.hid hb
  have hI := kSet_nil s t w1
  clear hb hL
  go_wp2_with fail
  refine hI.mono ?_
  rintro e w2 ⟨rfl, rfl⟩
  clear hI
  go_wp2_with fail
  go_ret
  exact ⟨rfl, HB.out⟩
set_option maxHeartbeats 1000000 in
set_option maxRecDepth 100000 in
theorem count_mn (x : Int) (w : World) : Calls Tryz.prog 16 #[.pointer none, .int .i64 x] w fun e w' => e = .returned (.int .i64 0) ∧ Below w.heap.size w w' := by
  have hL := lowr_nil w
  have l0 := fld_0
  have l1 := fld_1
  have l2 := fld_2
  go_enter Tryz.func16, Tryz.ntmps16
  go_wp2_with fail
  refine hL.mono ?_
  rintro e w1 ⟨rfl, hb⟩
  have HB := Lib.hid hb
  obtain ⟨W2, hW⟩ : ∃ W2, W2 = w1.alloc (.cells #[.int .i64 x] 3) := ⟨_, rfl⟩
  obtain ⟨q, hq⟩ : ∃ q, q = w1.heap.size := ⟨_, rfl⟩
  have hr : Lrow W2 q 3 [.int .i64 x] := by rw [hW, hq]; exact Lrow.new w1 _ _
  have hb2 : Below w1.heap.size w1 W2 := by rw [hW]; exact below_new _ _
  have hI := countedF_nil W2 hr
  have HB2 : Hid (Below w.heap.size w W2) := hb.trans (hb2.mono hb.size)
  have HW := Lib.hid (And.intro hW hq)
  clear hb hL hW hq hr hb2
  go_wp2_with fail
  rw [← HW.out.1, ← HW.out.2]
  refine hI.mono ?_
  rintro e w2 ⟨rfl, rfl⟩
  clear hI
  go_wp2_with fail
  go_ret
  exact ⟨rfl, HB2.out⟩
theorem spare_mn (w : World) : Calls Tryz.prog 18 #[.pointer none] w fun e w' => e = .returned (.int .i64 0) ∧ w = w' := by
  have l0 := fld_0
  have l1 := fld_1
  have l2 := fld_2
  go_enter Tryz.func18, Tryz.ntmps18
  go_wp2_with fail
  go_ret
  exact ⟨rfl, rfl⟩
theorem turn_mn (f m a b : Int) (w : World) : Calls Tryz.prog 35 #[.pointer none, .int .i64 f, .int .i64 m, .int .i64 a, .int .i64 b] w fun e w' => e = .returned (.int .i64 1) ∧ w = w' := by
  have l0 := fld_0
  have l1 := fld_1
  have l2 := fld_2
  go_enter Tryz.func35, Tryz.ntmps35
  go_wp2_with fail
  go_ret
  exact ⟨rfl, rfl⟩
theorem at_mn (f o x : Int) (w : World) : Calls Tryz.prog 34 #[.pointer none, .int .i64 f, .int .i64 o, .int .i64 x] w fun e w' => e = .returned (.int .i64 1) ∧ w = w' := by
  have l0 := fld_0
  have l1 := fld_1
  have l2 := fld_2
  go_enter Tryz.func34, Tryz.ntmps34
  go_wp2_with fail
  go_ret
  exact ⟨rfl, rfl⟩
theorem block_mn (o k x : Int) (w : World) : Calls Tryz.prog 32 #[.pointer none, .int .i64 o, .int .i64 k, .int .i64 x] w fun e w' => e = .returned (.tuple #[.int .i64 0, .int .i64 1]) ∧ w = w' := by
  have l0 := fld_0
  have l1 := fld_1
  have l2 := fld_2
  go_enter Tryz.func32, Tryz.ntmps32
  go_wp2_with fail
  go_ret2
  exact ⟨rfl, rfl⟩
theorem one_mn (k x : Int) (w : World) : Calls Tryz.prog 29 #[.pointer none, .int .i64 k, .int .i64 x] w fun e w' => e = .returned (.tuple #[.int .i64 0, .int .i64 1]) ∧ w = w' := by
  have hI := block_mn 0 k x w
  have l0 := fld_0
  have l1 := fld_1
  have l2 := fld_2
  go_enter Tryz.func29, Tryz.ntmps29
  go_wp2_with fail
  refine hI.mono ?_
  rintro e w1 ⟨rfl, rfl⟩
  go_wp2_with fail
  go_ret2
  exact ⟨rfl, rfl⟩
end Go.Proofs.YtklhcgekagimkaaGreat
