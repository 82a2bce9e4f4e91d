/- The contract of Take. -/
import Derived.Test.YtfjphlickpgbnaaKj
namespace Go.Proofs.Ytfjphlickpgbnaa
variable {Xc : Nat → Prop}
open Go.RowKit

theorem bst_mem {great : Bool} : ∀ {l : List (Nat × Nat)} {x : Nat × Nat}, bstB great l = some x → x ∈ l := by
  intro l
  induction l using rev_ind with
  | h0 => intro x h; cases h
  | h1 l y ih =>
    intro x h
    rw [bstB_snoc] at h
    unfold bst1 at h
    cases hb : bstB great l with
    | none => rw [hb] at h; simp only [Option.some.injEq] at h; simp [h]
    | some z =>
      rw [hb] at h
      simp only at h
      split at h
      · simp only [Option.some.injEq] at h; simp [h]
      · simp only [Option.some.injEq] at h; subst h; exact List.mem_append_left _ (ih hb)
theorem chs_mem {M : Nat → List (Nat × Nat)} {kd : Nat} {x : Nat × Nat} (h : chs M kd = some x) : ∃ i, x ∈ M i := by
  unfold chs at h
  split at h
  · rename_i y e; injection h with h; subst h; exact ⟨_, bst_mem e⟩
  · split at h
    · rename_i y e; injection h with h; subst h; exact ⟨_, bst_mem e⟩
    · exact ⟨_, bst_mem h⟩
/-- The piece of which is taken. -/
def ktP (F : List Bool) (S : List Nat) (o kd : Nat) : Option (Nat × Nat) := chs (putL S o (fun _ => []) (pcs F S)) kd
def okB (o kd : Int) : Bool := decide (0 ≤ o ∧ o ≤ 8 ∧ 0 ≤ kd ∧ kd ≤ 2)
def ktB (F : List Bool) (S : List Nat) (o kd : Int) : Option (Nat × Nat) := if okB o kd = true then ktP F S o.toNat kd.toNat else none
def ktE (F : List Bool) (S : List Nat) (o kd : Int) : Int := if okB o kd = false then 2 else if (ktB F S o kd).isSome then 0 else 8
def ktV (F : List Bool) (S : List Nat) (o kd : Int) : Int := match ktB F S o kd with
  | some x => x.1
  | none => 0
def ktF (F : List Bool) (S : List Nat) (o kd : Int) : List Bool := match ktB F S o kd with
  | some x => setR F x.1 (2 ^ o.toNat) false
  | none => F
def ktS (F : List Bool) (S : List Nat) (o kd : Int) : List Nat := match ktB F S o kd with
  | some x => if 3 ≤ x.2 ∧ knd S x.1 ≠ kd.toNat then setS S (x.1 / 8) (upr x.1 o.toNat - x.1 / 8) kd.toNat else S
  | none => S
theorem ktF_length (F : List Bool) (S : List Nat) (o kd : Int) : (ktF F S o kd).length = F.length := by
  unfold ktF; split
  · exact setR_length _ _ _ _
  · rfl
theorem ktS_length (F : List Bool) (S : List Nat) (o kd : Int) : (ktS F S o kd).length = S.length := by
  unfold ktS; split
  · split
    · exact setS_length _ _ _ _
    · rfl
  · rfl
/-- What is taken is free. -/
theorem ktP_fre {F : List Bool} {S : List Nat} {o kd : Nat} {x : Nat × Nat} (h : ktP F S o kd = some x) : x ∈ pcs F S ∧ o ≤ x.2 ∧ o ≤ 8 ∧ Fre F x.1 o ∧ x.1 + 2 ^ o ≤ F.length := by
  obtain ⟨i, hi⟩ := chs_mem h
  rw [putL_at] at hi
  obtain ⟨h1, h2⟩ := List.mem_filter.1 hi
  have h3 : o ≤ x.2 := by
    unfold selB at h2
    rw [Bool.and_eq_true, decide_eq_true_eq] at h2
    exact h2.1
  obtain ⟨h4, h5, h6⟩ := pcs_fre h1
  have hp := Nat.pow_le_pow_right (by omega : 0 < 2) h3
  exact ⟨h1, h3, by omega, h5.in_ (al_less h5.1 h3) (Nat.le_refl _) (by omega), by omega⟩
theorem chE_take {F : List Bool} {f k : Nat} (hk : k ≤ 8) (h : Fre F f k) (h3 : f + 2 ^ k ≤ F.length) : chE F f k false = 0 ∧ chL F f k false = setR F f (2 ^ k) false := by
  have e : chE F f k false = 0 := by rw [chE_good false (ckE_zero hk h.1 h3), Bool.not_false, if_pos (allB_iff.2 h.2)]
  refine ⟨e, ?_⟩
  have := chL_of e
  rw [Int.toNat_natCast, Int.toNat_natCast] at this
  exact this
section
variable {w : World} {B k a g n : Nat} {F : List Bool} {S : List Nat}
theorem ktk_bad {o kd : Int} (h : okB o kd = false) : ktE F S o kd = 2 ∧ ktV F S o kd = 0 ∧ ktF F S o kd = F ∧ ktS F S o kd = S := by
  have hb : ktB F S o kd = none := by unfold ktB; rw [if_neg (by rw [h]; decide)]
  exact ⟨by unfold ktE; rw [if_pos h], by unfold ktV; rw [hb], by unfold ktF; rw [hb], by unfold ktS; rw [hb]⟩
theorem okB_nat {o kd : Nat} (ho : o ≤ 8) (hk : kd ≤ 2) : okB o kd = true := by unfold okB; rw [decide_eq_true_eq]; omega
theorem ktk_none {o kd : Nat} (ho : o ≤ 8) (hk : kd ≤ 2) (h : ktP F S o kd = none) : ktE F S o kd = 8 ∧ ktV F S o kd = 0 ∧ ktF F S o kd = F ∧ ktS F S o kd = S := by
  have hb : ktB F S o kd = none := by unfold ktB; rw [if_pos (okB_nat ho hk)]; exact h
  exact ⟨by unfold ktE; rw [if_neg (by rw [okB_nat ho hk]; decide), hb]; rfl, by unfold ktV; rw [hb], by unfold ktF; rw [hb], by unfold ktS; rw [hb]⟩
theorem ktk_some {o kd : Nat} {x : Nat × Nat} (ho : o ≤ 8) (hk : kd ≤ 2) (h : ktP F S o kd = some x) : ktE F S o kd = 0 ∧ ktV F S o kd = x.1 ∧ ktF F S o kd = setR F x.1 (2 ^ o) false ∧ ktS F S o kd = if 3 ≤ x.2 ∧ knd S x.1 ≠ kd then setS S (x.1 / 8) (upr x.1 o - x.1 / 8) kd else S := by
  have hb : ktB F S o kd = some x := by unfold ktB; rw [if_pos (okB_nat ho hk)]; exact h
  exact ⟨by unfold ktE; rw [if_neg (by rw [okB_nat ho hk]; decide), hb]; rfl, by unfold ktV; rw [hb], by unfold ktF; rw [hb]; simp, by unfold ktS; rw [hb]; simp⟩
/-- A taking: what it answers, the frames and the sections behind it. -/
def KTook (Xc : Nat → Prop) (B k a g n : Nat) (V E : Int) (G : List Bool) (S : List Nat) (w : World) (e : Ending) (w' : World) : Prop := e = .returned (.tuple #[.int .i64 V, .int .i64 E]) ∧ Turn Xc B w w' ∧ KinX Xc B w' k a g n G S
theorem kTake_bad (h : KinX Xc B w k a g n F S) {o kd : Int} (hb : okB o kd = false) : Calls Try.prog 15 #[.pointer (some ⟨k, 0, none⟩), .int .i64 o, .int .i64 kd] w (KTook Xc B k a g n 0 2 F S w) := by
  have HX := Lib.hid h
  have hc : o < 0 ∨ 8 < o ∨ kd < 0 ∨ 2 < kd := by
    unfold okB at hb
    rw [decide_eq_false_iff_not] at hb
    omega
  clear h hb
  by_cases h1 : o < 0
  · clear hc
    go_enter Try.func15, Try.ntmps15
    go_wp2
    go_ret2
    exact ⟨rfl, Turn.refl B w, HX.out⟩
  · by_cases h2 : 8 < o
    · clear hc
      go_enter Try.func15, Try.ntmps15
      go_wp2
      go_ret2
      exact ⟨rfl, Turn.refl B w, HX.out⟩
    · by_cases h3 : kd < 0
      · clear hc
        go_enter Try.func15, Try.ntmps15
        go_wp2
        go_ret2
        exact ⟨rfl, Turn.refl B w, HX.out⟩
      · have h4 : 2 < kd := by omega
        clear hc
        go_enter Try.func15, Try.ntmps15
        go_wp2
        go_ret2
        exact ⟨rfl, Turn.refl B w, HX.out⟩
set_option maxHeartbeats 1000000 in
set_option maxRecDepth 100000 in
theorem kTake_good (h : KinX Xc B w k a g n F S) {o kd : Nat} (ho : o ≤ 8) (hk : kd ≤ 2) : Calls Try.prog 15 #[.pointer (some ⟨k, 0, none⟩), .int .i64 o, .int .i64 kd] w (KTook Xc B k a g n (ktV F S o kd) (ktE F S o kd) (ktF F S o kd) (ktS F S o kd) w) := by
  have hmf : ∀ (fn : Fn) (first cap : Array Value) (w : World), (Instr.makeFunc fn first cap).run Try.prog w = .ok (.func fn first cap) w := fun _ _ _ _ => rfl
  have hCut := cut_any h o
  have HX := Lib.hid h
  have HL : Hid (∀ i, i ≤ 3 → (putL S o (fun _ => []) (pcs F S) i).length ≤ 1024) := fun i _ => by
    have := putL_len S o i (pcs F S)
    have := pcs_len F S
    have := h.len
    have := h.hi
    omega
  have HCut := Lib.hid hCut
  have o0 : ¬ (o : Int) < 0 := by omega
  have o8 : ¬ (8 : Int) < o := by omega
  have k0 : ¬ (kd : Int) < 0 := by omega
  have k2 : ¬ (2 : Int) < kd := by omega
  clear h hCut
  cases hkt : ktP F S o kd with
  | none =>
    obtain ⟨r1, r2, r3, r4⟩ := ktk_none ho hk hkt
    rw [r1, r2, r3, r4]
    have HKT := Lib.hid hkt
    clear r1 r2 r3 r4 hkt
    go_enter Try.func15, Try.ntmps15
    go_wp2_with fail
    refine Calls.mono HCut.out ?_
    rintro e w1 ⟨rfl, hb1, ob, kb, lb, V, hP⟩
    have hCh := choose_any hP HL.out hk
    rw [show chs (putL S o (fun _ => []) (pcs F S)) kd = none from HKT.out] at hCh
    simp only [chV, Option.isSome] at hCh
    have HCh := Lib.hid hCh
    have HX1 := Lib.hid (HX.out.call hb1)
    have HB1 := Lib.hid hb1
    clear hP hCh HCut hb1
    go_wp2_with fail
    refine HCh.out.mono ?_
    rintro e w2 ⟨rfl, hb2⟩
    have HX2 := Lib.hid (HX1.out.call hb2)
    have HB2 := Lib.hid (HB1.out.trans (hb2.mono HB1.out.size))
    have HT2 : Hid (Turn Xc B w w2) := Turn.of_below HB2.out HX.out.lo
    have hlo2 := HX2.out.lo
    clear HX1 HB1 hb2 HCh
    go_wp2
    go_ret2
    exact ⟨rfl, HT2.out.alloc hlo2 _, HX2.out.alloc _⟩
  | some x =>
    obtain ⟨r1, r2, r3, r4⟩ := ktk_some ho hk hkt
    rw [r1, r2, r3, r4]
    obtain ⟨-, -, -, t4, t5⟩ := ktP_fre hkt
    obtain ⟨c1, c2⟩ := chE_take ho t4 t5
    rw [HX.out.len] at t5
    have HKT := Lib.hid hkt
    have HC1 := Lib.hid c1
    have HC2 := Lib.hid c2
    have hln : (setR F x.1 (2 ^ o) false).length = n := by rw [setR_length]; exact HX.out.len
    clear r1 r2 r3 r4 hkt t4 c1 c2
    obtain ⟨f, j⟩ := x
    dsimp only at HC1 HC2 t5 hln ⊢
    obtain ⟨S2, hS2⟩ : ∃ S2, S2 = if 3 ≤ j ∧ knd S f ≠ kd then setS S (f / 8) (upr f o - f / 8) kd else S := ⟨_, rfl⟩
    rw [← hS2]
    have HS2 := Lib.hid hS2
    clear hS2
    have HT5 := Lib.hid t5
    have HLN := Lib.hid hln
    have hfn : f < n := by have := two_pos o; omega
    have HFN := Lib.hid hfn
    have hn10 := HX.out.hi
    clear t5 hln hfn
    go_enter Try.func15, Try.ntmps15
    go_wp2_with fail
    refine Calls.mono HCut.out ?_
    rintro e w1 ⟨rfl, hb1, ob, kb, lb, V, hP⟩
    have hCh := choose_any hP HL.out hk
    rw [show chs (putL S o (fun _ => []) (pcs F S)) kd = some (f, j) from HKT.out] at hCh
    simp only [chV, Option.isSome] at hCh
    have HCh := Lib.hid hCh
    have HX1 := Lib.hid (HX.out.call hb1)
    have HB1 := Lib.hid hb1
    clear hP hCh HCut hb1
    go_wp2_with fail
    refine HCh.out.mono ?_
    rintro e w2 ⟨rfl, hb2⟩
    have HX2 := Lib.hid (HX1.out.call hb2)
    have HB2 := Lib.hid (HB1.out.trans (hb2.mono HB1.out.size))
    have HT2 : Hid (Turn Xc B w w2) := Turn.of_below HB2.out HX.out.lo
    have hlo2 := HX2.out.lo
    clear HX1 HB1 hb2 HCh
    obtain ⟨W, hW⟩ : ∃ W, W = w2.alloc (.cells #[.int .i64 f, .int .i64 j] 53) := ⟨_, rfl⟩
    obtain ⟨q, hq⟩ : ∃ q, q = w2.heap.size := ⟨_, rfl⟩
    have hB : Below w2.heap.size w2 W := by rw [hW]; exact (Below.refl _ _).alloc (Nat.le_refl _) _
    have hqr : Lrow W q 53 [.int .i64 f, .int .i64 j] := by rw [hW, hq]; exact Lrow.new w2 _ _
    go_wp2_with fail
    rw [← hW, ← hq]
    have HX3 := Lib.hid ((HX2.out.call hB).drewN 1)
    have HT3 := Lib.hid ((HT2.out.trans (Turn.of_below hB hlo2)).drewN 1)
    have HQR := Lib.hid (hqr.drewN 1)
    have hs1 : W.drew.cell? ⟨k, 1, none⟩ = some (.pointer (some ⟨a, 0, none⟩)) ∧ W.drew.cell? ⟨q, 0, none⟩ = some (.int .i64 f) := ⟨HX3.out.c1, HQR.out.cell 0⟩
    have HTK : Hid (Calls Try.prog 37 #[.pointer (some ⟨a, 0, none⟩), .int .i64 f, .int .i64 o] W.drew (Chg (fun b => Xc b ∨ b = g) B a n 0 (setR F f (2 ^ o) false) W.drew)) := by
      obtain ⟨L, g1, g2⟩ := HX3.out.bud
      have := takeAt_any g1 g2 HX3.out.len HX3.out.hi f o (by omega) (by have := HFN.out; omega)
      rw [HC1.out, HC2.out] at this
      exact this
    clear hW hq hB hqr HX2 HT2
    go_region_held3 (fun v => v.cell? ⟨k, 1, none⟩ = some (.pointer (some ⟨a, 0, none⟩)) ∧ v.cell? ⟨q, 0, none⟩ = some (.int .i64 f)) (first | exact hs1 | exact ⟨hx4.c1, q4.cell 0⟩)
      (first | (go_at_call 37; refine Calls.mono HTK.out ?_; rintro e w4 ⟨rfl, ht4, L4, hl4, hg4⟩; have hx4 := HX3.out.budTurn ht4 hl4 hg4 HLN.out; have q4 := ht4.row _ _ _ HQR.out (by decide) (by decide)))
    have HX4 := Lib.hid hx4
    have HQ4 := Lib.hid q4
    have HT4 := Lib.hid (HT3.out.trans (ht4.weak (Y := Xc) fun b hb => Or.inl hb))
    have q0 : w4.cell? ⟨q, 0, none⟩ = some (.int .i64 f) := q4.cell 0
    have q1 : w4.cell? ⟨q, 1, none⟩ = some (.int .i64 j) := q4.cell 1
    have hKd := kind_any hx4 f
    have hkz : kdZ n S f = (knd S f : Nat) := by unfold kdZ; rw [if_pos (by have := HFN.out; omega), Int.toNat_natCast]
    rw [hkz] at hKd
    clear hx4 q4 ht4 hl4 hg4 hs1 HTK HX3 HQR HT3 hkz
    by_cases hj : 3 ≤ j
    · have hj' : (3 : Int) ≤ j := by omega
      by_cases hkk : knd S f = kd
      · have HE : Hid (S2 = S) := by show _ = _; rw [HS2.out, if_neg (fun h => h.2 hkk)]
        rw [hkk] at hKd
        clear hkk hj
        go_wp2_with (first | (go_at_call 12; refine hKd.mono ?_; rintro e w' ⟨rfl, rfl⟩))
        go_ret2
        exact ⟨rfl, HT4.out, by rw [HE.out]; exact HX4.out⟩
      · have HE : Hid (S2 = setS S (f / 8) (upr f o - f / 8) kd) := by show _ = _; rw [HS2.out, if_pos ⟨hj, hkk⟩]
        obtain ⟨z, hz⟩ : ∃ z, z = knd S f := ⟨_, rfl⟩
        rw [← hz] at hKd hkk
        have hzk : ((z : Int) != kd) = true := by simp; omega
        have hzk2 : ((z : Int) == kd) = false := by simp; omega
        have HTU := Lib.hid (turn_any HX4.out ho HT5.out (show kd ≤ 3 by omega))
        clear hz hkk hj
        go_wp2_with (first | (go_at_call 12; refine hKd.mono ?_; rintro e w' ⟨rfl, rfl⟩))
        refine Calls.mono HTU.out ?_
        rintro e w5 ⟨rfl, ht5, hx5⟩
        have HX5 := Lib.hid hx5
        have HT5 := Lib.hid (HT4.out.trans ht5)
        have q0' : w5.cell? ⟨q, 0, none⟩ = some (.int .i64 f) := (ht5.row _ _ _ HQ4.out (by decide) (by decide)).cell 0
        clear hx5 ht5 q0 q1
        go_wp2
        go_ret2
        exact ⟨rfl, HT5.out, by rw [HE.out]; exact HX5.out⟩
    · have hj' : ¬ (3 : Int) ≤ j := by omega
      have HE : Hid (S2 = S) := by show _ = _; rw [HS2.out, if_neg (fun h => hj h.1)]
      clear hj
      go_wp2
      go_ret2
      exact ⟨rfl, HT4.out, by rw [HE.out]; exact HX4.out⟩
theorem kTake_any (h : KinX Xc B w k a g n F S) (o kd : Int) : Calls Try.prog 15 #[.pointer (some ⟨k, 0, none⟩), .int .i64 o, .int .i64 kd] w (KTook Xc B k a g n (ktV F S o kd) (ktE F S o kd) (ktF F S o kd) (ktS F S o kd) w) := by
  cases hb : okB o kd with
  | false =>
    obtain ⟨r1, r2, r3, r4⟩ := ktk_bad (F := F) (S := S) hb
    rw [r1, r2, r3, r4]
    exact kTake_bad h hb
  | true =>
    unfold okB at hb
    rw [decide_eq_true_eq] at hb
    obtain ⟨o, rfl⟩ : ∃ x : Nat, o = x := ⟨o.toNat, by omega⟩
    obtain ⟨kd, rfl⟩ : ∃ x : Nat, kd = x := ⟨kd.toNat, by omega⟩
    exact kTake_good h (by omega) (by omega)
end
end Go.Proofs.Ytfjphlickpgbnaa
