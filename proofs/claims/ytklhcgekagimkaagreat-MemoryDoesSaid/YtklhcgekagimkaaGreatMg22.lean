/- The contract of Take. -/
import Derived.Test.YtklhcgekagimkaaGreatMg21
import Derived.Test.YtklhcgekagimkaaGreatMg00
import Derived.Laws.CopyRow
import Derived.Test.YtklhcgekagimkaaGreatMg20
namespace Go.Proofs.YtklhcgekagimkaaGreat
variable {Xc : Nat → Prop}
open Go.RowKit

theorem bst_mem {great : Bool} : ∀ {l : List (Nat × Nat)} {x : Nat × Nat}, bstB great l = some x → x ∈ l := by
  intro l
  induction l using rev_ind with
  | h0 => intro x h; cases h
  | h1 l y ih =>
    intro x h
    rw [bstB_snoc] at h
    unfold bst1 at h
    cases hb : bstB great l with
    | none => rw [hb] at h; simp only [Option.some.injEq] at h; simp [h]
    | some z =>
      rw [hb] at h
      simp only at h
      split at h
      · simp only [Option.some.injEq] at h; simp [h]
      · simp only [Option.some.injEq] at h; subst h; exact List.mem_append_left _ (ih hb)
theorem chs_mem {M : Nat → List (Nat × Nat)} {kd : Nat} {x : Nat × Nat} (h : chs M kd = some x) : ∃ i, x ∈ M i := by
  unfold chs at h
  split at h
  · rename_i y e; injection h with h; subst h; exact ⟨_, bst_mem e⟩
  · split at h
    · rename_i y e; injection h with h; subst h; exact ⟨_, bst_mem e⟩
    · exact ⟨_, bst_mem h⟩
/-- The piece of which is taken. -/
def ktP (F : List Bool) (S : List Nat) (o kd : Nat) : Option (Nat × Nat) := chs (putL S o (fun _ => []) (pcs F S)) kd
def okB (o kd : Int) : Bool := decide (0 ≤ o ∧ o ≤ 8 ∧ 0 ≤ kd ∧ kd ≤ 2)
def ktB (F : List Bool) (S : List Nat) (o kd : Int) : Option (Nat × Nat) := if okB o kd = true then ktP F S o.toNat kd.toNat else none
def ktE (F : List Bool) (S : List Nat) (o kd : Int) : Int := if okB o kd = false then 2 else if (ktB F S o kd).isSome then 0 else 8
def ktV (F : List Bool) (S : List Nat) (o kd : Int) : Int := match ktB F S o kd with
  | some x => x.1
  | none => 0
def ktF (F : List Bool) (S : List Nat) (o kd : Int) : List Bool := match ktB F S o kd with
  | some x => setR F x.1 (2 ^ o.toNat) false
  | none => F
def ktS (F : List Bool) (S : List Nat) (o kd : Int) : List Nat := match ktB F S o kd with
  | some x => if 3 ≤ x.2 ∧ knd S x.1 ≠ kd.toNat then setS S (x.1 / 8) (upr x.1 o.toNat - x.1 / 8) kd.toNat else S
  | none => S
theorem ktF_length (F : List Bool) (S : List Nat) (o kd : Int) : (ktF F S o kd).length = F.length := by
  unfold ktF; split
  · exact setR_length _ _ _ _
  · rfl
theorem ktS_length (F : List Bool) (S : List Nat) (o kd : Int) : (ktS F S o kd).length = S.length := by
  unfold ktS; split
  · split
    · exact setS_length _ _ _ _
    · rfl
  · rfl
/-- What is taken is free. -/
theorem ktP_fre {F : List Bool} {S : List Nat} {o kd : Nat} {x : Nat × Nat} (h : ktP F S o kd = some x) : x ∈ pcs F S ∧ o ≤ x.2 ∧ o ≤ 8 ∧ Fre F x.1 o ∧ x.1 + 2 ^ o ≤ F.length := by
  obtain ⟨i, hi⟩ := chs_mem h
  rw [putL_at] at hi
  obtain ⟨h1, h2⟩ := List.mem_filter.1 hi
  have h3 : o ≤ x.2 := by
    unfold selB at h2
    rw [Bool.and_eq_true, decide_eq_true_eq] at h2
    exact h2.1
  obtain ⟨h4, h5, h6⟩ := pcs_fre h1
  have hp := Nat.pow_le_pow_right (by omega : 0 < 2) h3
  exact ⟨h1, h3, by omega, h5.in_ (al_less h5.1 h3) (Nat.le_refl _) (by omega), by omega⟩
theorem chE_take {F : List Bool} {f k : Nat} (hk : k ≤ 8) (h : Fre F f k) (h3 : f + 2 ^ k ≤ F.length) : chE F f k false = 0 ∧ chL F f k false = setR F f (2 ^ k) false := by
  have e : chE F f k false = 0 := by rw [chE_good false (ckE_zero hk h.1 h3), Bool.not_false, if_pos (allB_iff.2 h.2)]
  refine ⟨e, ?_⟩
  have := chL_of e
  rw [Int.toNat_natCast, Int.toNat_natCast] at this
  exact this
section
variable {w : World} {B k a g n : Nat} {F : List Bool} {S : List Nat}
theorem ktk_bad {o kd : Int} (h : okB o kd = false) : ktE F S o kd = 2 ∧ ktV F S o kd = 0 ∧ ktF F S o kd = F ∧ ktS F S o kd = S := by
  have hb : ktB F S o kd = none := by unfold ktB; rw [if_neg (by rw [h]; decide)]
  exact ⟨by unfold ktE; rw [if_pos h], by unfold ktV; rw [hb], by unfold ktF; rw [hb], by unfold ktS; rw [hb]⟩
theorem okB_nat {o kd : Nat} (ho : o ≤ 8) (hk : kd ≤ 2) : okB o kd = true := by unfold okB; rw [decide_eq_true_eq]; omega
theorem ktk_none {o kd : Nat} (ho : o ≤ 8) (hk : kd ≤ 2) (h : ktP F S o kd = none) : ktE F S o kd = 8 ∧ ktV F S o kd = 0 ∧ ktF F S o kd = F ∧ ktS F S o kd = S := by
  have hb : ktB F S o kd = none := by unfold ktB; rw [if_pos (okB_nat ho hk)]; exact h
  exact ⟨by unfold ktE; rw [if_neg (by rw [okB_nat ho hk]; decide), hb]; rfl, by unfold ktV; rw [hb], by unfold ktF; rw [hb], by unfold ktS; rw [hb]⟩
theorem ktk_some {o kd : Nat} {x : Nat × Nat} (ho : o ≤ 8) (hk : kd ≤ 2) (h : ktP F S o kd = some x) : ktE F S o kd = 0 ∧ ktV F S o kd = x.1 ∧ ktF F S o kd = setR F x.1 (2 ^ o) false ∧ ktS F S o kd = if 3 ≤ x.2 ∧ knd S x.1 ≠ kd then setS S (x.1 / 8) (upr x.1 o - x.1 / 8) kd else S := by
  have hb : ktB F S o kd = some x := by unfold ktB; rw [if_pos (okB_nat ho hk)]; exact h
  exact ⟨by unfold ktE; rw [if_neg (by rw [okB_nat ho hk]; decide), hb]; rfl, by unfold ktV; rw [hb], by unfold ktF; rw [hb]; simp, by unfold ktS; rw [hb]; simp⟩
/-- A taking: what it answers, the frames and the sections behind it. -/
def KTook (Xc : Nat → Prop) (B k a g n : Nat) (V E : Int) (G : List Bool) (S : List Nat) (w : World) (e : Ending) (w' : World) : Prop := e = .returned (.tuple #[.int .i64 V, .int .i64 E]) ∧ Turn Xc B w w' ∧ KinX Xc B w' k a g n G S
theorem kTake_bad (h : KinX Xc B w k a g n F S) {o kd : Int} (hb : okB o kd = false) : Calls Tryz.prog 67 #[.pointer (some ⟨k, 0, none⟩), .int .i64 o, .int .i64 kd] w (KTook Xc B k a g n 0 2 F S w) := by
  have HX := Lib.hid h
  have hc : o < 0 ∨ 8 < o ∨ kd < 0 ∨ 2 < kd := by
    unfold okB at hb
    rw [decide_eq_false_iff_not] at hb
    omega
  clear h hb
  by_cases h1 : o < 0
  · clear hc
    go_enter Tryz.func67, Tryz.ntmps67
    go_wp2
    go_ret2
    exact ⟨rfl, Turn.refl B w, HX.out⟩
  · by_cases h2 : 8 < o
    · clear hc
      go_enter Tryz.func67, Tryz.ntmps67
      go_wp2
      go_ret2
      exact ⟨rfl, Turn.refl B w, HX.out⟩
    · by_cases h3 : kd < 0
      · clear hc
        go_enter Tryz.func67, Tryz.ntmps67
        go_wp2
        go_ret2
        exact ⟨rfl, Turn.refl B w, HX.out⟩
      · have h4 : 2 < kd := by omega
        clear hc
        go_enter Tryz.func67, Tryz.ntmps67
        go_wp2
        go_ret2
        exact ⟨rfl, Turn.refl B w, HX.out⟩
set_option maxHeartbeats 1000000 in
set_option maxRecDepth 100000 in
theorem kTake_good (h : KinX Xc B w k a g n F S) {o kd : Nat} (ho : o ≤ 8) (hk : kd ≤ 2) : Calls Tryz.prog 67 #[.pointer (some ⟨k, 0, none⟩), .int .i64 o, .int .i64 kd] w (KTook Xc B k a g n (ktV F S o kd) (ktE F S o kd) (ktF F S o kd) (ktS F S o kd) w) := by
  have hmf : ∀ (fn : Fn) (first cap : Array Value) (w : World), (Instr.makeFunc fn first cap).run Tryz.prog w = .ok (.func fn first cap) w := fun _ _ _ _ => rfl
  have hCut := cut_any h o
  have HX := Lib.hid h
  have HL : Hid (∀ i, i ≤ 3 → (putL S o (fun _ => []) (pcs F S) i).length ≤ 1024) := fun i _ => by
    have := putL_len S o i (pcs F S)
    have := pcs_len F S
    have := h.len
    have := h.hi
    omega
  have HCut := Lib.hid hCut
  have o0 : ¬ (o : Int) < 0 := by omega
  have o8 : ¬ (8 : Int) < o := by omega
  have k0 : ¬ (kd : Int) < 0 := by omega
  have k2 : ¬ (2 : Int) < kd := by omega
  clear h hCut
  cases hkt : ktP F S o kd with
  | none =>
    obtain ⟨r1, r2, r3, r4⟩ := ktk_none ho hk hkt
    rw [r1, r2, r3, r4]
    have HKT := Lib.hid hkt
    clear r1 r2 r3 r4 hkt
    go_enter Tryz.func67, Tryz.ntmps67
    go_wp2_with fail
    refine Calls.mono HCut.out ?_
    rintro e w1 ⟨rfl, hb1, ob, kb, lb, V, hP⟩
    have hCh := choose_any hP HL.out hk
    rw [show chs (putL S o (fun _ => []) (pcs F S)) kd = none from HKT.out] at hCh
    simp only [chV, Option.isSome] at hCh
    have HCh := Lib.hid hCh
    have HX1 := Lib.hid (HX.out.call hb1)
    have HB1 := Lib.hid hb1
    clear hP hCh HCut hb1
    go_wp2_with fail
    refine HCh.out.mono ?_
    rintro e w2 ⟨rfl, hb2⟩
    have HX2 := Lib.hid (HX1.out.call hb2)
    have HB2 := Lib.hid (HB1.out.trans (hb2.mono HB1.out.size))
    have HT2 : Hid (Turn Xc B w w2) := Turn.of_below HB2.out HX.out.lo
    have hlo2 := HX2.out.lo
    clear HX1 HB1 hb2 HCh
    go_wp2
    go_ret2
    exact ⟨rfl, HT2.out.alloc hlo2 _, HX2.out.alloc _⟩
  | some x =>
    obtain ⟨r1, r2, r3, r4⟩ := ktk_some ho hk hkt
    rw [r1, r2, r3, r4]
    obtain ⟨-, -, -, t4, t5⟩ := ktP_fre hkt
    obtain ⟨c1, c2⟩ := chE_take ho t4 t5
    rw [HX.out.len] at t5
    have HKT := Lib.hid hkt
    have HC1 := Lib.hid c1
    have HC2 := Lib.hid c2
    have hln : (setR F x.1 (2 ^ o) false).length = n := by rw [setR_length]; exact HX.out.len
    clear r1 r2 r3 r4 hkt t4 c1 c2
    obtain ⟨f, j⟩ := x
    dsimp only at HC1 HC2 t5 hln ⊢
    obtain ⟨S2, hS2⟩ : ∃ S2, S2 = if 3 ≤ j ∧ knd S f ≠ kd then setS S (f / 8) (upr f o - f / 8) kd else S := ⟨_, rfl⟩
    rw [← hS2]
    have HS2 := Lib.hid hS2
    clear hS2
    have HT5 := Lib.hid t5
    have HLN := Lib.hid hln
    have hfn : f < n := by have := two_pos o; omega
    have HFN := Lib.hid hfn
    have hn10 := HX.out.hi
    clear t5 hln hfn
    go_enter Tryz.func67, Tryz.ntmps67
    go_wp2_with fail
    refine Calls.mono HCut.out ?_
    rintro e w1 ⟨rfl, hb1, ob, kb, lb, V, hP⟩
    have hCh := choose_any hP HL.out hk
    rw [show chs (putL S o (fun _ => []) (pcs F S)) kd = some (f, j) from HKT.out] at hCh
    simp only [chV, Option.isSome] at hCh
    have HCh := Lib.hid hCh
    have HX1 := Lib.hid (HX.out.call hb1)
    have HB1 := Lib.hid hb1
    clear hP hCh HCut hb1
    go_wp2_with fail
    refine HCh.out.mono ?_
    rintro e w2 ⟨rfl, hb2⟩
    have HX2 := Lib.hid (HX1.out.call hb2)
    have HB2 := Lib.hid (HB1.out.trans (hb2.mono HB1.out.size))
    have HT2 : Hid (Turn Xc B w w2) := Turn.of_below HB2.out HX.out.lo
    have hlo2 := HX2.out.lo
    clear HX1 HB1 hb2 HCh
    obtain ⟨W, hW⟩ : ∃ W, W = w2.alloc (.cells #[.int .i64 f, .int .i64 j] 92) := ⟨_, rfl⟩
    obtain ⟨q, hq⟩ : ∃ q, q = w2.heap.size := ⟨_, rfl⟩
    have hB : Below w2.heap.size w2 W := by rw [hW]; exact (Below.refl _ _).alloc (Nat.le_refl _) _
    have hqr : Lrow W q 92 [.int .i64 f, .int .i64 j] := by rw [hW, hq]; exact Lrow.new w2 _ _
    go_wp2_with fail
    rw [← hW, ← hq]
    have HX3 := Lib.hid ((HX2.out.call hB).drewN 1)
    have HT3 := Lib.hid ((HT2.out.trans (Turn.of_below hB hlo2)).drewN 1)
    have HQR := Lib.hid (hqr.drewN 1)
    have hs1 : W.drew.cell? ⟨k, 1, none⟩ = some (.pointer (some ⟨a, 0, none⟩)) ∧ W.drew.cell? ⟨q, 0, none⟩ = some (.int .i64 f) := ⟨HX3.out.c1, HQR.out.cell 0⟩
    have HTK : Hid (Calls Tryz.prog 93 #[.pointer (some ⟨a, 0, none⟩), .int .i64 f, .int .i64 o] W.drew (Chg (fun b => Xc b ∨ b = g) B a n 0 (setR F f (2 ^ o) false) W.drew)) := by
      obtain ⟨L, g1, g2⟩ := HX3.out.bud
      have := takeAt_any g1 g2 HX3.out.len HX3.out.hi f o (by omega) (by have := HFN.out; omega)
      rw [HC1.out, HC2.out] at this
      exact this
    clear hW hq hB hqr HX2 HT2
    go_region_held3 (fun v => v.cell? ⟨k, 1, none⟩ = some (.pointer (some ⟨a, 0, none⟩)) ∧ v.cell? ⟨q, 0, none⟩ = some (.int .i64 f)) (first | exact hs1 | exact ⟨hx4.c1, q4.cell 0⟩)
      (first | (go_at_call 93; refine Calls.mono HTK.out ?_; rintro e w4 ⟨rfl, ht4, L4, hl4, hg4⟩; have hx4 := HX3.out.budTurn ht4 hl4 hg4 HLN.out; have q4 := ht4.row _ _ _ HQR.out (by decide) (by decide)))
    have HX4 := Lib.hid hx4
    have HQ4 := Lib.hid q4
    have HT4 := Lib.hid (HT3.out.trans (ht4.weak (Y := Xc) fun b hb => Or.inl hb))
    have q0 : w4.cell? ⟨q, 0, none⟩ = some (.int .i64 f) := q4.cell 0
    have q1 : w4.cell? ⟨q, 1, none⟩ = some (.int .i64 j) := q4.cell 1
    have hKd := kind_any hx4 f
    have hkz : kdZ n S f = (knd S f : Nat) := by unfold kdZ; rw [if_pos (by have := HFN.out; omega), Int.toNat_natCast]
    rw [hkz] at hKd
    clear hx4 q4 ht4 hl4 hg4 hs1 HTK HX3 HQR HT3 hkz
    by_cases hj : 3 ≤ j
    · have hj' : (3 : Int) ≤ j := by omega
      by_cases hkk : knd S f = kd
      · have HE : Hid (S2 = S) := by show _ = _; rw [HS2.out, if_neg (fun h => h.2 hkk)]
        rw [hkk] at hKd
        clear hkk hj
        go_wp2_with (first | (go_at_call 39; refine hKd.mono ?_; rintro e w' ⟨rfl, rfl⟩))
        go_ret2
        exact ⟨rfl, HT4.out, by rw [HE.out]; exact HX4.out⟩
      · have HE : Hid (S2 = setS S (f / 8) (upr f o - f / 8) kd) := by show _ = _; rw [HS2.out, if_pos ⟨hj, hkk⟩]
        obtain ⟨z, hz⟩ : ∃ z, z = knd S f := ⟨_, rfl⟩
        rw [← hz] at hKd hkk
        have hzk : ((z : Int) != kd) = true := by simp; omega
        have hzk2 : ((z : Int) == kd) = false := by simp; omega
        have HTU := Lib.hid (turn_any HX4.out ho HT5.out (show kd ≤ 3 by omega))
        clear hz hkk hj
        go_wp2_with (first | (go_at_call 39; refine hKd.mono ?_; rintro e w' ⟨rfl, rfl⟩))
        refine Calls.mono HTU.out ?_
        rintro e w5 ⟨rfl, ht5, hx5⟩
        have HX5 := Lib.hid hx5
        have HT5 := Lib.hid (HT4.out.trans ht5)
        have q0' : w5.cell? ⟨q, 0, none⟩ = some (.int .i64 f) := (ht5.row _ _ _ HQ4.out (by decide) (by decide)).cell 0
        clear hx5 ht5 q0 q1
        go_wp2
        go_ret2
        exact ⟨rfl, HT5.out, by rw [HE.out]; exact HX5.out⟩
    · have hj' : ¬ (3 : Int) ≤ j := by omega
      have HE : Hid (S2 = S) := by show _ = _; rw [HS2.out, if_neg (fun h => hj h.1)]
      clear hj
      go_wp2
      go_ret2
      exact ⟨rfl, HT4.out, by rw [HE.out]; exact HX4.out⟩
theorem kTake_any (h : KinX Xc B w k a g n F S) (o kd : Int) : Calls Tryz.prog 67 #[.pointer (some ⟨k, 0, none⟩), .int .i64 o, .int .i64 kd] w (KTook Xc B k a g n (ktV F S o kd) (ktE F S o kd) (ktF F S o kd) (ktS F S o kd) w) := by
  cases hb : okB o kd with
  | false =>
    obtain ⟨r1, r2, r3, r4⟩ := ktk_bad (F := F) (S := S) hb
    rw [r1, r2, r3, r4]
    exact kTake_bad h hb
  | true =>
    unfold okB at hb
    rw [decide_eq_true_eq] at hb
    obtain ⟨o, rfl⟩ : ∃ x : Nat, o = x := ⟨o.toNat, by omega⟩
    obtain ⟨kd, rfl⟩ : ∃ x : Nat, kd = x := ⟨kd.toNat, by omega⟩
    exact kTake_good h (by omega) (by omega)
end
end Go.Proofs.YtklhcgekagimkaaGreat
/- The contract of New: a row of one number, many times. -/
namespace Go.Proofs.YtklhcgekagimkaaGreat
variable {Xc : Nat → Prop}
open Go.RowKit

theorem info_int : (Tryz.prog.info? 3).map (fun i => (i.zero, i.size, i.bytes)) = some (some (.int .i64 0), 1, 8) := by kernel_rfl
theorem info_int1 : (Tryz.prog.info? 3).map (·.size) = some 1 := by kernel_rfl
/-- Copying into a stretch of a block. -/
theorem copy_lrow {P : Program} {w : World} {g : Nat} {t : TypeId} {L : List Value} (h : Lrow w g t L) (st : TypeId) (hu : P.underlying st = some (.slice t)) (hs : (P.info? t).map (·.size) = some 1) (o dl dc : Nat) (a : Addr) (sl sc : Nat) (cs : List Value) (hn : cs.length = Nat.min sl dl)
    (hsrc : ∀ j v, cs[j]? = some v → w.cell? (a.add j) = some v) (hfit : o + cs.length ≤ L.length) (h1 : ∀ v ∈ cs, v.oneCell' = true) :
    ∃ w2, (∀ ty, (Builtin.copy_ #[st, st] ty #[.slice (some ⟨g, o, none⟩) dl dc, .slice (some a) sl sc]).run P w = .ok (goInt cs.length) w2) ∧ Lrow w2 g t (splice L o cs) ∧ w.grownBy w2 (some g) := by
  refine ⟨w.setRow g (splice L o cs).toArray, fun ty => ?_, setRow_heap w g _ _ t _ h, grown_setRow _ _ _⟩
  have := run_copy_row (P := P) w st st ty t g o dl dc a sl sc L.toArray t cs hu hs h hn hsrc (by simpa using hfit) h1
  rw [this]
  simp [splice, List.append_assoc]
/-- The first i numbers are laid, the others are 0. -/
def part (v m i : Nat) : List Value := List.replicate i (.int .i64 v) ++ List.replicate (m - i) (.int .i64 0)
theorem part_length {v m i : Nat} (h : i ≤ m) : (part v m i).length = m := by simp [part]; omega
theorem part_get {v m i : Nat} (h : i ≤ m) (x : Nat) : (part v m i)[x]? = if x < i then some (.int .i64 v) else if x < m then some (.int .i64 0) else none := by
  unfold part
  by_cases h1 : x < i
  · rw [if_pos h1, List.getElem?_append_left (by simpa using h1), List.getElem?_replicate, if_pos h1]
  · rw [if_neg h1, List.getElem?_append_right (by simp; omega), List.getElem?_replicate]
    simp only [List.length_replicate]
    by_cases h2 : x < m
    · rw [if_pos h2, if_pos (by omega)]
    · rw [if_neg h2, if_neg (by omega)]
theorem part_more {v m i k : Nat} (h : i + k ≤ m) : splice (part v m i) i (List.replicate k (.int .i64 v)) = part v m (i + k) := by
  apply List.ext_getElem?
  intro x
  rw [splice_get _ _ _ (by rw [part_length (by omega), List.length_replicate]; exact h), part_get (by omega), part_get (by omega), List.length_replicate, List.getElem?_replicate]
  by_cases h1 : x < i
  · rw [if_pos h1, if_pos h1, if_pos (by omega)]
  · rw [if_neg h1]
    by_cases h2 : x < i + k
    · rw [if_pos h2, if_pos h2, if_pos (by omega)]
    · rw [if_neg h2, if_neg h1, if_neg h2]
theorem part_zero (v m : Nat) : part v m 0 = List.replicate m (.int .i64 0) := by simp [part]
theorem part_all (v m : Nat) : part v m m = kcl (List.replicate m v) := by simp [part, kcl]
theorem made_ints (n : Nat) : (madeCells #[Value.int .i64 0] n).toList = List.replicate n (.int .i64 0) := by
  apply List.ext_getElem?
  intro i
  rw [List.getElem?_replicate]
  simp only [madeCells, Array.getElem?_toList, Array.getElem?_map]
  by_cases hi : i < n
  · rw [if_pos hi]
    simp [hi, Nat.mod_one]
  · rw [if_neg hi]
    simp; omega
theorem rep_one (k v : Nat) : ∀ u ∈ List.replicate k (Value.int .i64 v), u.oneCell' = true := by
  intro u hu; rw [List.eq_of_mem_replicate hu]; rfl
section
variable {w : World}
set_option maxHeartbeats 1000000 in
set_option maxRecDepth 100000 in
theorem repeat_any {x v m : Nat} (hx : Lrow w x 3 [.int .i64 v]) (h0 : 1 ≤ m) (hm : m ≤ 4096) :
    Calls Tryz.prog 78 #[.slice (some ⟨x, 0, none⟩) 1 1, .int .i64 m] w fun e w' => e = .returned (.slice (some ⟨w.heap.size, 0, none⟩) m m) ∧ Below w.heap.size w w' ∧ Lrow w' w.heap.size 3 (kcl (List.replicate m v)) := by
  have hMul : Calls Tryz.prog 100 #[.int .u64 1, .int .u64 m] w fun e w' => e = .returned (.tuple #[.int .u64 0, .int .u64 m]) ∧ w = w' := by
    have := (Tryz.bits_Mul 1 m (by omega) (by omega) w).mono fun e w' ⟨h1, h2⟩ => (⟨h1, h2.symm⟩ : e = _ ∧ w = w')
    rw [Nat.one_mul, Nat.div_eq_of_lt (by omega), Nat.mod_eq_of_lt (by omega)] at this
    exact this
  have hw1 : IntKind.u64.wrap (m : Int) = m := by rw [IntKind.wrap_u64]; omega
  have hw2 : IntKind.i64.wrap (m : Int) = m := IntWalk.i64_in _ (by omega)
  have hmk : ∀ w : World, (Instr.makeSlice 30 (.int .i64 (m : Int)) (.int .i64 (m : Int))).run Tryz.prog w = .ok (.slice (some ⟨w.heap.size, 0, none⟩) m m) (w.alloc (.cells (madeCells #[.int .i64 0] m) 3)) := fun w =>
    run_make_row' (P := Tryz.prog) 30 3 (.int .i64 0) 8 Tryz.underlying30 info_int rfl .i64 .i64 m (by omega) (by omega) w
  obtain ⟨W, hW⟩ : ∃ W, W = w.alloc (.cells (madeCells #[.int .i64 0] m) 3) := ⟨_, rfl⟩
  have hB : Below w.heap.size w W := by rw [hW]; exact (Below.refl _ _).alloc (Nat.le_refl _) _
  have hr : Lrow W w.heap.size 3 (part v m 0) := by
    rw [hW, part_zero, ← made_ints]
    simpa using Lrow.new w 3 (madeCells #[Value.int .i64 0] m).toList
  have hx1 := hx.call hB
  obtain ⟨W2, hc2, hr2, hg2⟩ := copy_lrow (P := Tryz.prog) hr 30 Tryz.underlying30 info_int1 0 m m ⟨x, 0, none⟩ 1 1 (List.replicate 1 (.int .i64 v)) (by show 1 = min 1 m; omega) (fun j u hu => by
      have hj : j = 0 := by
        rcases Nat.eq_zero_or_pos j with h | h
        · exact h
        · rw [List.getElem?_eq_none (by simp; omega)] at hu; cases hu
      subst hj
      rw [add_zero_off, hx1.cell]
      exact hu) (by rw [part_length (Nat.zero_le _)]; simp; omega) (rep_one _ _)
  rw [part_more (by omega), Nat.zero_add] at hr2
  rw [hW] at hc2
  have hc3 : ∀ ty, (Builtin.copy_ #[30, 30] ty #[.slice (some ⟨w.heap.size, 0, none⟩) m m, .slice (some ⟨x, 0, none⟩) 1 1]).run Tryz.prog (w.alloc (.cells (madeCells #[.int .i64 0] m) 3)) = .ok (.int .i64 1) W2 := hc2
  have HR2 := Lib.hid hr2
  have HB2 : Hid (Below w.heap.size w W2) := hB.grown hg2 (Nat.le_trans (Nat.le_refl _) hB.size) (fun k e => by injection e with e; omega)
  have m0 : ¬ (m : Int) < 0 := by omega
  have m1 : ¬ (9223372036854775807 : Int) < m := by omega
  clear hr2 hr hx1 hg2 hc2 hW hB hx
  go_enter Tryz.func78, Tryz.ntmps78
  go_wp2_with fail
  refine hMul.mono ?_
  rintro e w' ⟨rfl, rfl⟩
  go_wp2_with fail
  generalize hgg : w.heap.size = g at HR2 HB2 ⊢
  have HGG := Lib.hid hgg
  clear hgg hMul hmk hc3
  go_loopw [8] (fun t wr => ∃ i : Nat, 1 ≤ i ∧ i ≤ m ∧ t = .int .i64 i ∧ Lrow wr g 3 (part v m i) ∧ Below g w wr) (fun t _ => m - (intOf t).toNat)
  case atStart => exact ⟨1, Nat.le_refl _, h0, rfl, HR2.out, HB2.out⟩
  case round =>
    obtain ⟨i, hi1, hi, rfl, hr, hb⟩ := hrel
    by_cases hlt : i < m
    · obtain ⟨k, hk⟩ : ∃ k, k = min i (m - i) := ⟨_, rfl⟩
      have hk1 : 1 ≤ k := by omega
      have hk2 : k ≤ i := by omega
      have hk3 : i + k ≤ m := by omega
      obtain ⟨W3, hc, hr3, hg3⟩ := copy_lrow (P := Tryz.prog) (hr.drewN 1) 30 Tryz.underlying30 info_int1 i (m - i) (m - i) ⟨g, 0, none⟩ i m (List.replicate k (.int .i64 v)) (by rw [List.length_replicate]; exact hk) (fun j u hu => by
          have hj : j < k := by
            rcases Nat.lt_or_ge j k with h | h
            · exact h
            · rw [List.getElem?_eq_none (by simpa using h)] at hu; cases hu
          rw [add_zero_off, (hr.drewN 1).cell, part_get hi, if_pos (by omega)]
          rw [List.getElem?_replicate, if_pos hj] at hu
          exact hu) (by rw [part_length hi, List.length_replicate]; exact hk3) (rep_one _ _)
      rw [part_more hk3] at hr3
      have hc3 : ∀ ty, (Builtin.copy_ #[30, 30] ty #[.slice (some ⟨g, i, none⟩) (m - i) (m - i), .slice (some ⟨g, 0, none⟩) i m]).run Tryz.prog wr.drew = .ok (.int .i64 k) W3 := by
        intro ty
        have := hc ty
        rw [List.length_replicate] at this
        exact this
      have hsz := HGG.out
      have HR3 := Lib.hid hr3
      have HB3 : Hid (Below g w W3) := (below_dN hb 1).grown hg3 (Nat.le_trans (by rw [← hsz]; exact Nat.le_refl _) hb.size) (fun b e => by injection e with e; omega)
      have i0 : (0 : Int) ≤ i := by omega
      have im : (i : Int) ≤ m := by omega
      have iw : IntKind.i64.wrap ((i : Int) + k) = (i : Int) + k := IntWalk.i64_in _ (by omega)
      clear hr hb hr3 hg3 hc hk hsz
      go_wp2_with fail
      go_region_held3 (fun _ => True) (trivial) (fail)
      go_wp2_with fail
      go_roundw
      case rel => exact ⟨i + k, by omega, hk3, by go_num, HR3.out, HB3.out⟩
      case measure => simp [intOf]; omega
    · obtain rfl : i = m := by omega
      rw [part_all] at hr
      have HR3 := Lib.hid hr
      have HB3 := Lib.hid hb
      clear hr hb
      go_wp2
      go_ret
      rw [HGG.out]
      exact ⟨rfl, HB3.out, HR3.out⟩
theorem kNew_bad {f : Int} (h : f < 8 ∨ 1024 < f) (w : World) : Calls Tryz.prog 49 #[.int .i64 f] w fun e w' => e = .returned (.tuple #[.pointer none, .int .i64 2]) ∧ w = w' := by
  have hN := fun W => new_bad h W
  clear h
  go_enter Tryz.func49, Tryz.ntmps49
  go_wp2_with (go_at_call 77; refine (hN _).mono ?_; rintro e w' ⟨rfl, rfl⟩)
  go_ret2
  exact ⟨rfl, rfl⟩
/-- New: all frames free, all sections movable. -/
def KNewly (Xc : Nat → Prop) (n : Nat) (w : World) (e : Ending) (w' : World) : Prop :=
  ∃ k a g, e = .returned (.tuple #[.pointer (some ⟨k, 0, none⟩), .int .i64 0]) ∧ Below w.heap.size w w' ∧ KinX Xc w.heap.size w' k a g n (List.replicate n true) (List.replicate ((n + 7) / 8) 1)
set_option maxHeartbeats 1000000 in
set_option maxRecDepth 100000 in
theorem kNew_any (n : Nat) (h1 : 8 ≤ n) (h2 : n ≤ 1024) (w : World) (hX : ∀ g, Xc g → g < w.heap.size) : Calls Tryz.prog 49 #[.int .i64 n] w (KNewly Xc n w) := by
  have hN := new_any n h1 h2 w hX
  obtain ⟨m, hm⟩ : ∃ m, m = (n + 7) / 8 := ⟨_, rfl⟩
  have s1 : IntKind.i64.wrap ((n : Int) - 1) = n - 1 := IntWalk.i64_in _ (by omega)
  have d1 : ((n : Int) - 1) / 8 = m - 1 := by omega
  have s2 : IntKind.i64.wrap ((m : Int) - 1 + 1) = m := by rw [IntWalk.i64_in _ (by omega)]; omega
  have hm1 : 1 ≤ m := by omega
  have hm2 : m ≤ 128 := by omega
  have HM := Lib.hid hm
  have HXX := Lib.hid hX
  clear hm hX
  go_enter Tryz.func49, Tryz.ntmps49
  go_wp2_with fail
  refine Calls.mono hN ?_
  rintro e w1 ⟨L1, rfl, hb1, hx1, hg1⟩
  have HB1 := Lib.hid hb1
  have HX1 := Lib.hid hx1
  have HG1 := Lib.hid hg1
  clear hb1 hx1 hg1 hN
  obtain ⟨W, hW⟩ : ∃ W, W = w1.alloc (.cells #[.int .i64 1] 3) := ⟨_, rfl⟩
  obtain ⟨x, hx⟩ : ∃ x, x = w1.heap.size := ⟨_, rfl⟩
  have hb2 : Below w1.heap.size w1 W := by rw [hW]; exact (Below.refl _ _).alloc (Nat.le_refl _) _
  have hr2 : Lrow W x 3 [.int .i64 (1 : Nat)] := by rw [hW, hx]; exact Lrow.new w1 _ _
  have hR := repeat_any hr2 hm1 (by omega)
  have HR := Lib.hid hR
  have HB2 := Lib.hid hb2
  have hsw : w1.heap.size < W.heap.size := by rw [hW]; simp
  have HSW := Lib.hid hsw
  obtain ⟨q, hq⟩ : ∃ q, q = w.heap.size := ⟨_, rfl⟩
  rw [← hq] at HX1 ⊢
  have HQ := Lib.hid hq
  have HW := Lib.hid hW
  have HXE := Lib.hid hx
  clear hR hb2 hr2 hq hW hx hsw
  go_wp2_with fail
  rw [← HW.out, ← HXE.out]
  refine HR.out.mono ?_
  rintro e w3 ⟨rfl, hb3, hr3⟩
  obtain ⟨g, hg⟩ : ∃ g, g = W.heap.size := ⟨_, rfl⟩
  rw [← hg] at hr3 ⊢
  have hb13 : Below w1.heap.size w1 w3 := HB2.out.trans (hb3.mono HB2.out.size)
  have HG3 : Hid (w1.heap.size ≤ g) := by show _ ≤ _; have := HSW.out; omega
  have HR3 := Lib.hid hr3
  have HB13 := Lib.hid hb13
  clear hg hb3 hr3 hb13 HR HB2
  go_wp2
  go_ret2
  have hlo : w.heap.size ≤ w1.heap.size := HB1.out.size
  have hb4 : Below w1.heap.size w1 (w3.alloc (.cells #[.int .i64 n, .pointer (some ⟨q, 0, none⟩), .slice (some ⟨g, 0, none⟩) m m] 113)) := HB13.out.alloc HB13.out.size _
  refine ⟨w3.heap.size, q, g, rfl, HB1.out.trans (hb4.mono hlo), ?_⟩
  have hlen : (List.replicate ((n + 7) / 8) 1).length = m := by rw [List.length_replicate]; exact HM.out.symm
  refine ⟨?_, ?_, ⟨L1, ?_, HG1.out⟩, by simp, by rw [hlen]; exact HM.out, fun y hy => by rw [List.eq_of_mem_replicate hy]; omega, h1, h2, ?_, ?_, ?_⟩
  · rw [hlen]; exact Lrow.new w3 _ _
  · rw [← HM.out]; exact HR3.out.alloc _
  · have hX1 : BudAt Xc w.heap.size w1 q n L1 := by
      have := HX1.out
      rw [HQ.out] at this ⊢
      exact this
    refine hX1.more hb4 (fun b hb => ?_)
    rcases hb with hb | rfl
    · refine ⟨?_, Or.inl hb⟩
      have := HXX.out b hb
      have := HB1.out.size
      have := hb4.size
      omega
    · refine ⟨?_, Or.inr HG3.out⟩
      have := HR3.out.lt
      simp; omega
  · exact Nat.le_trans hlo HB13.out.size
  · exact Nat.le_trans hlo HG3.out
  · intro hgx
    have := HXX.out g hgx
    have := HG3.out
    omega
end
end Go.Proofs.YtklhcgekagimkaaGreat
/- How many frames of a kind are free: plain mathematics. -/
namespace Go.Proofs.YtklhcgekagimkaaGreat

/-- How many of m places from a on are as said. -/
def cnR (p : Nat → Bool) (a m : Nat) : Nat := (List.range m).countP fun i => p (a + i)
theorem cnR_succ (p : Nat → Bool) (a m : Nat) : cnR p a (m + 1) = cnR p a m + if p (a + m) = true then 1 else 0 := by
  unfold cnR
  rw [List.range_succ, List.countP_append]
  simp [List.countP_cons]
theorem cnR_add (p : Nat → Bool) (a m m' : Nat) : cnR p a (m + m') = cnR p a m + cnR p (a + m) m' := by
  induction m' with
  | zero => simp [cnR]
  | succ k ih => rw [← Nat.add_assoc, cnR_succ, cnR_succ, ih, Nat.add_assoc, Nat.add_assoc]
theorem cnR_congr {p q : Nat → Bool} {a m : Nat} (h : ∀ i, i < m → p (a + i) = q (a + i)) : cnR p a m = cnR q a m := by
  induction m with
  | zero => rfl
  | succ m ih => rw [cnR_succ, cnR_succ, ih (fun i hi => h i (by omega)), h m (by omega)]
theorem cnR_le (p : Nat → Bool) (a m : Nat) : cnR p a m ≤ m := by
  unfold cnR
  have := List.countP_le_length (p := fun i => p (a + i)) (l := List.range m)
  rwa [List.length_range] at this
theorem cnR_const {p : Nat → Bool} {a m : Nat} {v : Bool} (h : ∀ i, i < m → p (a + i) = v) : cnR p a m = if v = true then m else 0 := by
  induction m with
  | zero => simp [cnR]
  | succ m ih =>
    rw [cnR_succ, ih (fun i hi => h i (by omega)), h m (by omega)]
    cases v <;> simp
/-- Is a frame of a kind? Is it free too? -/
def kdP (S : List Nat) (kd : Int) (i : Nat) : Bool := ((knd S i : Nat) : Int) == kd
def frP (F : List Bool) (S : List Nat) (kd : Int) (i : Nat) : Bool := (F[i]? == some true) && kdP S kd i
/-- How many frames of a kind are free. -/
def frO (F : List Bool) (S : List Nat) (kd : Int) : Nat := cnR (frP F S kd) 0 F.length
theorem frO_le (F : List Bool) (S : List Nat) (kd : Int) : frO F S kd ≤ F.length := cnR_le _ _ _
/-- The frames of a kind in some blocks. -/
def smB (S : List Nat) (kd : Int) (l : List (Nat × Nat)) : Nat := (l.map fun x => cnR (kdP S kd) x.1 (2 ^ x.2)).sum
theorem smB_snoc (S : List Nat) (kd : Int) (l : List (Nat × Nat)) (x : Nat × Nat) : smB S kd (l ++ [x]) = smB S kd l + cnR (kdP S kd) x.1 (2 ^ x.2) := by simp [smB]
theorem smB_app (S : List Nat) (kd : Int) (l m : List (Nat × Nat)) : smB S kd (l ++ m) = smB S kd l + smB S kd m := by simp [smB]
theorem blF_sum (F : List Bool) (S : List Nat) (kd : Int) : ∀ (f a : Nat), F.length ≤ a + f → a ≤ F.length → cnR (frP F S kd) a (F.length - a) = smB S kd (blF F f a) := by
  intro f
  induction f with
  | zero =>
    intro a h1 h2
    rw [show F.length - a = 0 by omega]
    rfl
  | succ f ih =>
    intro a h1 h2
    simp only [blF]
    by_cases ha : a < F.length
    · rw [if_pos ha]
      cases hk : kb F a 9 with
      | none =>
        have h0 := kb_none hk 0 (by omega)
        have hf : frP F S kd a = false := by
          unfold frP
          cases hb : F[a]? == some true with
          | false => rfl
          | true =>
            exact absurd ⟨Nat.mod_one _, fun i g1 g2 => by
              rw [Nat.pow_zero] at g2
              obtain rfl : i = a := by omega
              exact eq_of_beq hb⟩ h0
        simp only
        rw [← ih (a + 1) (by omega) (by omega), show F.length - a = 1 + (F.length - (a + 1)) by omega, cnR_add, cnR_const (v := false) (m := 1) (fun i hi => by rw [show a + i = a by omega]; exact hf)]
        simp
      | some k =>
        obtain ⟨_, h3, _⟩ := kb_some hk
        have hp := two_pos k
        have h4 : a + 2 ^ k ≤ F.length := by
          have := h3.2 (a + 2 ^ k - 1) (by omega) (by omega)
          have := (List.getElem?_eq_some_iff.1 this).1
          omega
        simp only
        have e : smB S kd ((a, k) :: blF F f (a + 2 ^ k)) = cnR (kdP S kd) a (2 ^ k) + smB S kd (blF F f (a + 2 ^ k)) := by simp [smB]
        rw [e, ← ih (a + 2 ^ k) (by omega) h4, show F.length - a = 2 ^ k + (F.length - (a + 2 ^ k)) by omega, cnR_add]
        congr 1
        refine cnR_congr fun i hi => ?_
        unfold frP
        rw [h3.2 (a + i) (by omega) (by omega)]
        rfl
    · rw [if_neg ha, show F.length - a = 0 by omega]
      rfl
theorem frO_bk (F : List Bool) (S : List Nat) (kd : Int) : frO F S kd = smB S kd (bk F) := by
  have := blF_sum F S kd F.length 0 (by omega) (Nat.zero_le _)
  rw [Nat.sub_zero] at this
  exact this
/-- How many of some sections are of a kind. -/
def secN (S : List Nat) (kd : Int) (s c : Nat) : Nat := (List.range c).countP fun j => ((S.getD (s + j) 0 : Nat) : Int) == kd
theorem secN_succ (S : List Nat) (kd : Int) (s c : Nat) : secN S kd s (c + 1) = secN S kd s c + if ((S.getD (s + c) 0 : Nat) : Int) = kd then 1 else 0 := by
  unfold secN
  rw [List.range_succ, List.countP_append]
  simp [List.countP_cons]
theorem secN_eight (S : List Nat) (kd : Int) (s c : Nat) : cnR (kdP S kd) (s * 8) (c * 8) = secN S kd s c * 8 := by
  induction c with
  | zero => simp [cnR, secN]
  | succ c ih =>
    rw [Nat.succ_mul, cnR_add, ih, secN_succ, Nat.add_mul]
    congr 1
    have h : ∀ i, i < 8 → kdP S kd (s * 8 + c * 8 + i) = (((S.getD (s + c) 0 : Nat) : Int) == kd) := fun i hi => by
      unfold kdP knd
      rw [show (s * 8 + c * 8 + i) / 8 = s + c by omega]
    rw [cnR_const h]
    by_cases e : ((S.getD (s + c) 0 : Nat) : Int) = kd
    · rw [if_pos e, if_pos (beq_iff_eq.2 e)]
    · rw [if_neg e, if_neg (fun h => e (beq_iff_eq.1 h))]
/-- The frames of a kind in a block, by its sections. -/
theorem block_secs (S : List Nat) (kd : Int) {f k : Nat} (hf : f % 2 ^ k = 0) : cnR (kdP S kd) f (2 ^ k) = secN S kd (f / 8) (upr f k - f / 8) * 2 ^ (min k 3) := by
  by_cases hk : k ≤ 3
  · rw [Nat.min_eq_left hk]
    have hp := two_pos k
    have h1 : upr f k - f / 8 = 1 := by
      have := same_section hk hf (f := f + 2 ^ k - 1) (by omega) (by omega)
      unfold upr
      omega
    have h : ∀ i, i < 2 ^ k → kdP S kd (f + i) = (((S.getD (f / 8) 0 : Nat) : Int) == kd) := fun i hi => by
      unfold kdP knd
      rw [same_section hk hf (f := f + i) (by omega) (by omega)]
    rw [h1, cnR_const h, secN_succ]
    simp only [Nat.add_zero]
    by_cases e : ((S.getD (f / 8) 0 : Nat) : Int) = kd
    · rw [if_pos e, if_pos (beq_iff_eq.2 e)]; simp [secN]
    · rw [if_neg e, if_neg (fun h => e (beq_iff_eq.1 h))]; simp [secN]
  · rw [Nat.min_eq_right (by omega), upr_even hf (by omega)]
    obtain ⟨d, rfl⟩ : ∃ d, k = d + 3 := ⟨k - 3, by omega⟩
    have hp : 2 ^ (d + 3) = 2 ^ d * 8 := by rw [Nat.pow_add]
    rw [hp] at hf ⊢
    have h8 : f % 8 = 0 := Nat.mod_eq_zero_of_dvd (Nat.dvd_trans (Nat.dvd_mul_left 8 (2 ^ d)) (Nat.dvd_of_mod_eq_zero hf))
    rw [Nat.add_sub_cancel]
    have := secN_eight S kd (f / 8) (2 ^ d)
    rw [show f / 8 * 8 = f by omega] at this
    exact this
theorem secN_mono (S : List Nat) (kd : Int) (s : Nat) {i c : Nat} (h : i ≤ c) : secN S kd s i ≤ secN S kd s c := by
  obtain ⟨d, rfl⟩ : ∃ d, c = i + d := ⟨c - i, by omega⟩
  induction d with
  | zero => exact Nat.le_refl _
  | succ d ih => rw [← Nat.add_assoc, secN_succ]; have := ih (by omega); omega
theorem smB_take_le {F : List Bool} (S : List Nat) (kd : Int) (j : Nat) : smB S kd ((bk F).take j) ≤ F.length := by
  have h := frO_bk F S kd
  rw [← List.take_append_drop j (bk F), smB_app] at h
  have := frO_le F S kd
  omega
end Go.Proofs.YtklhcgekagimkaaGreat
