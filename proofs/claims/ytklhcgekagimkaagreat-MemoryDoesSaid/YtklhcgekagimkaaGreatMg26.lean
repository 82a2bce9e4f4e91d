/- The reference by kinds: Take. -/
import Derived.Test.YtklhcgekagimkaaGreatMg25
namespace Go.Proofs.YtklhcgekagimkaaGreat
open Go.RowKit

/-- The search goes from kind to kind. -/
def stP (F : List Bool) (S : List Nat) (o kd : Nat) : Nat → Option (Nat × Nat)
  | 0 => fnd S o kd false (pcs F S)
  | i + 1 => match stP F S o kd i with
    | some x => some x
    | none => fnd S o (nxt kd i) true (pcs F S)
theorem chs_fnd (F : List Bool) (S : List Nat) (o kd : Nat) : ktP F S o kd = stP F S o kd 2 := by
  unfold ktP chs
  simp only [putL_at, ← fnd_bst, stP]
  cases fnd S o kd false (pcs F S) with
  | some x => rfl
  | none =>
    simp only
    cases fnd S o (nxt kd 0) true (pcs F S) <;> rfl
theorem stP_some {F : List Bool} {S : List Nat} {o kd i : Nat} {x : Nat × Nat} (hi : i ≤ 2) (h : stP F S o kd i = some x) : ktP F S o kd = some x := by
  rw [chs_fnd]
  have h1 : ∀ i, stP F S o kd i = some x → stP F S o kd (i + 1) = some x := fun i h => by simp only [stP]; rw [h]
  have h2 : i = 0 ∨ i = 1 ∨ i = 2 := by omega
  rcases h2 with rfl | rfl | rfl
  · exact h1 1 (h1 0 h)
  · exact h1 1 h
  · exact h
theorem fnd_kind {F : List Bool} {S : List Nat} {o kd : Nat} {great : Bool} {x : Nat × Nat} (h : fnd S o kd great (pcs F S) = some x) : knd S x.1 = kd := ((fnd_spec S o kd great (pcs F S) (pcs_rise F S).less).2 x h).2.2.1
theorem nxt_ne {kd i : Nat} (hk : kd ≤ 2) (hi : i < 2) : nxt kd i ≠ kd := by
  have h1 : kd = 0 ∨ kd = 1 ∨ kd = 2 := by omega
  have h2 : i = 0 ∨ i = 1 := by omega
  rcases h1 with rfl | rfl | rfl <;> rcases h2 with rfl | rfl <;> decide
/-- What is found of its own kind is of its kind; what is found otherwise is not. -/
theorem own_kind {F : List Bool} {S : List Nat} {o kd : Nat} {x : Nat × Nat} (h : stP F S o kd 0 = some x) : knd S x.1 = kd := fnd_kind h
theorem other_kind {F : List Bool} {S : List Nat} {o kd : Nat} {x : Nat × Nat} (hk : kd ≤ 2) (h0 : stP F S o kd 0 = none) (h : ktP F S o kd = some x) : knd S x.1 ≠ kd := by
  rw [chs_fnd] at h
  simp only [stP] at h h0
  rw [h0] at h
  simp only at h
  cases h1 : fnd S o (nxt kd 0) true (pcs F S) with
  | some y =>
    rw [h1] at h
    simp only [Option.some.injEq] at h
    subst h
    rw [fnd_kind h1]
    exact nxt_ne hk (by omega)
  | none =>
    rw [h1] at h
    simp only at h
    rw [fnd_kind h]
    exact nxt_ne hk (by omega)
/-- The sections of some frames, turned frame by frame. -/
def trnS (S : List Nat) (f kd : Nat) : Nat → List Nat
  | 0 => S
  | i + 1 => (trnS S f kd i).set ((f + i) / 8) kd
theorem trnS_length (S : List Nat) (f kd i : Nat) : (trnS S f kd i).length = S.length := by
  induction i with
  | zero => rfl
  | succ i ih => simp [trnS, ih]
theorem trnS_get (S : List Nat) (f kd : Nat) : ∀ i, f + i ≤ S.length * 8 → ∀ s, (trnS S f kd i)[s]? = if 0 < i ∧ f / 8 ≤ s ∧ s ≤ (f + i - 1) / 8 then some kd else S[s]? := by
  intro i
  induction i with
  | zero => intro _ s; rw [if_neg (by omega)]; rfl
  | succ i ih =>
    intro hl s
    simp only [trnS, List.getElem?_set, trnS_length, ih (by omega)]
    by_cases h1 : (f + i) / 8 = s
    · rw [if_pos h1, if_pos (by omega), if_pos (by omega)]
    · rw [if_neg h1]
      by_cases h2 : 0 < i ∧ f / 8 ≤ s ∧ s ≤ (f + i - 1) / 8
      · rw [if_pos h2, if_pos (by omega)]
      · rw [if_neg h2, if_neg (by omega)]
theorem trnS_all {S : List Nat} {f o kd n : Nat} (hc : S.length = (n + 7) / 8) (hf : f + 2 ^ o ≤ n) : trnS S f kd (2 ^ o) = setS S (f / 8) (upr f o - f / 8) kd := by
  have hp := two_pos o
  have hu := upr_gt f o
  have hv := upr_le hf
  apply List.ext_getElem?
  intro s
  rw [trnS_get S f kd (2 ^ o) (by omega), setS_get _ _ _ _ (by omega)]
  unfold upr at hu hv ⊢
  by_cases h : f / 8 ≤ s ∧ s ≤ (f + 2 ^ o - 1) / 8
  · rw [if_pos ⟨hp, h⟩, if_pos (by omega)]
  · rw [if_neg (fun g => h g.2), if_neg (by omega)]
section
variable {w : World} {z x y h n : Nat} {F : List Bool} {S : List Nat} {o kd : Nat}
/-- A taking of the reference: what it answers, the frames and the sections behind it; it writes to the rows of the frames and of the sections alone, and to new memory. -/
def RefKTook (z x y h n : Nat) (V E : Int) (G : List Bool) (S : List Nat) (w : World) (e : Ending) (w' : World) : Prop :=
  e = .returned (.tuple #[.int .i64 V, .int .i64 E]) ∧ RefK w' z x y h n G S ∧ ∃ w1 w2, Below w.heap.size w w1 ∧ w1.grownBy w2 (some h) ∧ w2.grownBy w' (some y)
theorem refKTake_bad (hR : RefK w z x y h n F S) {o kd : Int} (hb : okB o kd = false) : Calls Tryz.prog 79 #[.pointer (some ⟨z, 0, none⟩), .int .i64 o, .int .i64 kd] w (RefKTook z x y h n 0 2 F S w) := by
  have HX := Lib.hid hR
  have hc : o < 0 ∨ 8 < o ∨ kd < 0 ∨ 2 < kd := by
    unfold okB at hb
    rw [decide_eq_false_iff_not] at hb
    omega
  clear hR hb
  by_cases h1 : o < 0
  · clear hc
    go_enter Tryz.func79, Tryz.ntmps79
    go_wp2
    go_ret2
    exact ⟨rfl, HX.out, w, w, Below.refl _ _, World.grownBy.refl _ _, World.grownBy.refl _ _⟩
  · by_cases h2 : 8 < o
    · clear hc
      go_enter Tryz.func79, Tryz.ntmps79
      go_wp2
      go_ret2
      exact ⟨rfl, HX.out, w, w, Below.refl _ _, World.grownBy.refl _ _, World.grownBy.refl _ _⟩
    · by_cases h3 : kd < 0
      · clear hc
        go_enter Tryz.func79, Tryz.ntmps79
        go_wp2
        go_ret2
        exact ⟨rfl, HX.out, w, w, Below.refl _ _, World.grownBy.refl _ _, World.grownBy.refl _ _⟩
      · have h4 : 2 < kd := by omega
        clear hc
        go_enter Tryz.func79, Tryz.ntmps79
        go_wp2
        go_ret2
        exact ⟨rfl, HX.out, w, w, Below.refl _ _, World.grownBy.refl _ _, World.grownBy.refl _ _⟩
set_option maxHeartbeats 4000000 in
set_option maxRecDepth 100000 in
theorem refKTake_good (hR : RefK w z x y h n F S) (hn : n ≤ 1024) (ho : o ≤ 8) (hk : kd ≤ 2) : Calls Tryz.prog 79 #[.pointer (some ⟨z, 0, none⟩), .int .i64 o, .int .i64 kd] w (RefKTook z x y h n (ktV F S o kd) (ktE F S o kd) (ktF F S o kd) (ktS F S o kd) w) := by
  have hnone := ktk_none (F := F) (S := S) (o := o) (kd := kd) ho hk
  have hsome := fun (b : Nat × Nat) => ktk_some (F := F) (S := S) (x := b) (o := o) (kd := kd) ho hk
  generalize ktV F S o kd = V at hnone hsome ⊢
  generalize ktE F S o kd = E at hnone hsome ⊢
  generalize ktF F S o kd = F2 at hnone hsome ⊢
  generalize ktS F S o kd = S2 at hnone hsome ⊢
  have HNONE := Lib.hid hnone
  have HSM := Lib.hid hsome
  have hPc := refPieces_any hR hn
  have HPC := Lib.hid hPc
  have HR := Lib.hid hR
  have HPF : Hid (∀ b ∈ pcs F S, b.1 < n) := fun b hb => by
    have h1 := (pcs_fre hb).2.2
    have := two_pos b.2
    rw [hR.ref.len] at h1
    omega
  have HPL : Hid ((pcs F S).length ≤ 1024) := by show _ ≤ _; have := pcs_len F S; have := hR.ref.len; omega
  have HNN := Lib.hid hn
  have hS := fun W => size_any ho W
  obtain ⟨M, hM⟩ : ∃ M, M = 2 ^ o := ⟨_, rfl⟩
  rw [← hM] at hS
  have HMM := Lib.hid hM
  have HSQ : Hid (∀ W, Calls Tryz.prog 33 #[.int .i64 o] W fun e w' => e = .returned (.int .i64 M) ∧ w' = W) := fun W => (hS W).mono fun _ _ ⟨h1, h2⟩ => ⟨h1, h2.symm⟩
  have o0 : ¬ (o : Int) < 0 := by omega
  have o8 : ¬ (8 : Int) < o := by omega
  have k0 : ¬ (kd : Int) < 0 := by omega
  have k2 : ¬ (2 : Int) < kd := by omega
  clear hnone hsome hPc hR hS hM
  go_enter Tryz.func79, Tryz.ntmps79
  go_wp2_with fail
  refine Calls.mono HPC.out ?_
  rintro e w1 ⟨A, c, rfl, hA, hb1⟩
  have HA := Lib.hid hA
  have HB1 := Lib.hid hb1
  have HR1 := Lib.hid (HR.out.call hb1)
  clear hA hb1 HPC
  have hF0 := find_least (c := c) (o := o) (kd := kd) HR1.out HNN.out HA.out HPL.out HPF.out
  cases hst : stP F S o kd 0 with
  | some b =>
    obtain ⟨f, j⟩ := b
    rw [show fnd S o kd false (pcs F S) = some (f, j) from hst] at hF0
    have HKT := Lib.hid (stP_some (by omega) hst)
    have HOK := Lib.hid (own_kind hst)
    have HF0 : Hid (Calls Tryz.prog 102 #[.pointer (some ⟨z, 0, none⟩), .slice A (pcs F S).length c, .int .i64 o, .int .i64 kd, .bool false] w1 fun e w' => e = .returned (.agg #[.int .i64 f, .int .i64 j]) ∧ Below w1.heap.size w1 w') := hF0
    clear hF0 hst
    go_wp2_with fail
    refine HF0.out.mono ?_
    rintro e w2 ⟨rfl, hb2⟩
    have HB2 := Lib.hid hb2
    clear HF0 hb2
    obtain ⟨-, -, -, t4, t5⟩ := ktP_fre HKT.out
    obtain ⟨c1, c2⟩ := chE_take ho t4 t5
    rw [HR.out.ref.len] at t5
    have HC1 := Lib.hid c1
    have HC2 := Lib.hid c2
    have HSOME := Lib.hid (HSM.out _ HKT.out)
    have HSF : Hid ((if 3 ≤ ((f, j) : Nat × Nat).2 ∧ knd S ((f, j) : Nat × Nat).1 ≠ kd then setS S (((f, j) : Nat × Nat).1 / 8) (upr ((f, j) : Nat × Nat).1 o - ((f, j) : Nat × Nat).1 / 8) kd else S) = S) := by show _ = _; rw [if_neg (fun e => e.2 HOK.out)]
    have HFM : Hid (f + M ≤ n) := by show _ ≤ _; rw [HMM.out]; exact t5
    clear t4 t5 c1 c2
    go_wp2_with fail
    obtain ⟨wB, hWB⟩ : ∃ W, W = (w2.alloc (.cells #[.int .i64 f, .int .i64 j] 92)).alloc (.cells #[.int .i64 2, .int .i64 1, .int .i64 2, .int .i64 0, .int .i64 0, .int .i64 1] 3) := ⟨_, rfl⟩
    obtain ⟨qp, hqp⟩ : ∃ q, q = w2.heap.size := ⟨_, rfl⟩
    obtain ⟨nb, hnb⟩ : ∃ q, q = w2.heap.size + 1 := ⟨_, rfl⟩
    rw [← hWB, ← hnb, ← hqp]
    have hbB : Below w2.heap.size w2 wB := by rw [hWB]; exact ((Below.refl _ _).alloc (Nat.le_refl _) _).alloc (by simp) _
    have hqB : Lrow wB qp 92 [.int .i64 f, .int .i64 j] := by rw [hWB, hqp]; exact (Lrow.new w2 _ _).alloc _
    have hnB : Lrow wB nb 3 [.int .i64 2, .int .i64 1, .int .i64 2, .int .i64 0, .int .i64 0, .int .i64 1] := by
      rw [hWB, hnb]
      have := Lrow.new (w2.alloc (.cells #[.int .i64 f, .int .i64 j] 92)) 3 [.int .i64 2, .int .i64 1, .int .i64 2, .int .i64 0, .int .i64 0, .int .i64 1]
      rw [World.size_alloc] at this
      exact this
    have hb1B := HB2.out.trans (hbB.mono HB2.out.size)
    have hqs : w1.heap.size ≤ qp := by rw [hqp]; exact HB2.out.size
    have HQB := Lib.hid hqB
    have HNB := Lib.hid hnB
    have HB1B := Lib.hid hb1B
    have HBB := Lib.hid (HB1.out.trans (hb1B.mono HB1.out.size))
    have HRB := Lib.hid (HR1.out.call hb1B)
    have HQS := Lib.hid hqs
    clear hWB hbB hqB hnB hb1B hqs hqp hnb
    have p1 : wB.cell? ⟨qp, 1, none⟩ = some (.int .i64 j) := HQB.out.cell 1
    have p0 : wB.cell? ⟨qp, 0, none⟩ = some (.int .i64 f) := HQB.out.cell 0
    go_loopw [12] (fun t wr => t = .int .i64 0 ∧ wr = wB) (fun _ _ => 0)
    case atStart => exact ⟨rfl, rfl⟩
    case round =>
      obtain ⟨rfl, rfl⟩ := hrel
      go_wp2_with fail
      clear p0 p1
      obtain ⟨wB, hWB⟩ : ∃ W, W = wr := ⟨_, rfl⟩
      rw [← hWB] at HRB HQB HBB ⊢
      clear hWB
      have hfm := HFM.out
      have ofs : IntKind.i64.wrap ((f : Int) + M) = f + M := IntWalk.i64_in _ (by omega)
      have hSq := HSQ.out
      go_loopw [13] (fun t wr => ∃ i : Nat, i ≤ M ∧ t = .int .i64 (f + i : Nat) ∧ RefK wr z x y h n F S ∧ wB.grownBy wr (some h)) (fun t _ => f + M - (intOf t).toNat)
      case atStart => exact ⟨0, Nat.zero_le _, rfl, HRB.out, World.grownBy.refl _ _⟩
      case round =>
        obtain ⟨i, hi, rfl, hRi, hgi⟩ := hrel
        have hqi : Lrow wr qp 92 [.int .i64 f, .int .i64 j] := by
          obtain ⟨r', hr'⟩ := HRB.out.row
          exact HQB.out.grown hgi (by intro e; injection e with e; exact HQB.out.apart hr' (by decide) e)
        have p0 : wr.cell? ⟨qp, 0, none⟩ = some (.int .i64 f) := hqi.cell 0
        have HRI := Lib.hid hRi
        have HGI := Lib.hid hgi
        have HQI := Lib.hid hqi
        clear hRi hgi hqi
        go_wp2_with fail
        go_quiet ((go_at_call 33; exact Calls.quiet_of_same (hSq _)))
        clear p0
        obtain ⟨W3, hW3⟩ : ∃ W3, W3 = wr.drewN nq := ⟨_, rfl⟩
        have HR3 : Hid (RefK W3 z x y h n F S) := by show RefK _ _ _ _ _ _ _ _; rw [hW3]; exact HRI.out.drewN nq
        have HG3 : Hid (wB.grownBy W3 (some h)) := by show World.grownBy _ _ _; rw [hW3]; exact HGI.out.trans (grown_drewN _ nq _)
        have hq3 : Lrow W3 qp 92 [.int .i64 f, .int .i64 j] := by rw [hW3]; exact HQI.out
        have HQ3 := Lib.hid hq3
        rw [← hW3]
        clear hW3 HRI HGI HQI hq3
        by_cases hli : i < M
        · go_wp2_with fail
          go_roundw
          case rel => exact ⟨i + 1, by omega, by go_num, HR3.out, HG3.out⟩
          case measure => simp [intOf]; omega
        · obtain rfl : i = M := by omega
          have HCH : Hid (∀ w4, RefAt w4 x y n F → Calls Tryz.prog 81 #[.pointer (some ⟨x, 0, none⟩), .int .i64 f, .int .i64 o, .bool false] w4 (RefChg x y n 0 (setR F f (2 ^ o) false) w4)) := fun w4 h4 => by
            have := refChange_any h4 f o (by omega) (by omega) false
            rw [HC1.out, HC2.out] at this
            exact this
          have hs1 : W3.cell? ⟨z, 0, none⟩ = some (.pointer (some ⟨x, 0, none⟩)) ∧ W3.cell? ⟨qp, 0, none⟩ = some (.int .i64 f) := ⟨HR3.out.c0, HQ3.out.cell 0⟩
          have HR3d := Lib.hid (HR3.out.drewN 1)
          go_wp2_with fail
          go_region_held3 (fun v => v.cell? ⟨z, 0, none⟩ = some (.pointer (some ⟨x, 0, none⟩)) ∧ v.cell? ⟨qp, 0, none⟩ = some (.int .i64 f)) (first | exact hs1 | exact ⟨hs5.c0, q5.cell 0⟩)
            (first | (go_at_call 81; refine Calls.mono (HCH.out _ HR3d.out.ref) ?_; rintro e w5 ⟨rfl, hr5, hg5⟩; have hs5 := HR3d.out.refGrown hg5 hr5; have q5 := (HQ3.out.drewN 1).grown hg5 (by intro e; injection e with e; exact HQ3.out.apart HR3.out.ref.row (by decide) e)))
          have q0 : w5.cell? ⟨qp, 0, none⟩ = some (.int .i64 f) := q5.cell 0
          have HS5 := Lib.hid hs5
          have HG5 : Hid (W3.grownBy w5 (some y)) := World.grownBy.trans (grown_drewN W3 1 _) hg5
          clear hs5 q5 hr5 hg5 hs1
          go_wp2
          go_ret2
          have hsf := HSOME.out
          exact ⟨by rw [hsf.1, hsf.2.1]; rfl, by rw [hsf.2.2.1, hsf.2.2.2, HSF.out]; exact HS5.out, wB, W3, HBB.out, HG3.out, HG5.out⟩
  | none =>
    rw [show fnd S o kd false (pcs F S) = none from hst] at hF0
    have HF0 : Hid (Calls Tryz.prog 102 #[.pointer (some ⟨z, 0, none⟩), .slice A (pcs F S).length c, .int .i64 o, .int .i64 kd, .bool false] w1 fun e w' => e = .returned (.agg #[.int .i64 0, .int .i64 (-1)]) ∧ Below w1.heap.size w1 w') := hF0
    have HST := Lib.hid hst
    clear hF0 hst
    go_wp2_with fail
    refine HF0.out.mono ?_
    rintro e w2 ⟨rfl, hb2⟩
    have HB2 := Lib.hid hb2
    clear HF0 hb2
    go_wp2_with fail
    obtain ⟨wB, hWB⟩ : ∃ W, W = (w2.alloc (.cells #[.int .i64 0, .int .i64 (-1)] 92)).alloc (.cells #[.int .i64 2, .int .i64 1, .int .i64 2, .int .i64 0, .int .i64 0, .int .i64 1] 3) := ⟨_, rfl⟩
    obtain ⟨qp, hqp⟩ : ∃ q, q = w2.heap.size := ⟨_, rfl⟩
    obtain ⟨nb, hnb⟩ : ∃ q, q = w2.heap.size + 1 := ⟨_, rfl⟩
    rw [← hWB, ← hnb, ← hqp]
    have hbB : Below w2.heap.size w2 wB := by rw [hWB]; exact ((Below.refl _ _).alloc (Nat.le_refl _) _).alloc (by simp) _
    have hqB : Lrow wB qp 92 [.int .i64 0, .int .i64 (-1)] := by rw [hWB, hqp]; exact (Lrow.new w2 _ _).alloc _
    have hnB : Lrow wB nb 3 [.int .i64 2, .int .i64 1, .int .i64 2, .int .i64 0, .int .i64 0, .int .i64 1] := by
      rw [hWB, hnb]
      have := Lrow.new (w2.alloc (.cells #[.int .i64 0, .int .i64 (-1)] 92)) 3 [.int .i64 2, .int .i64 1, .int .i64 2, .int .i64 0, .int .i64 0, .int .i64 1]
      rw [World.size_alloc] at this
      exact this
    have hb1B := HB2.out.trans (hbB.mono HB2.out.size)
    have hqs : w1.heap.size ≤ qp := by rw [hqp]; exact HB2.out.size
    have HQB := Lib.hid hqB
    have HNB := Lib.hid hnB
    have HB1B := Lib.hid hb1B
    have HBB := Lib.hid (HB1.out.trans (hb1B.mono HB1.out.size))
    have HRB := Lib.hid (HR1.out.call hb1B)
    have HQS := Lib.hid hqs
    clear hWB hbB hqB hnB hb1B hqs hqp hnb
    go_loopw [12] (fun t wr => ∃ i : Nat, i ≤ 2 ∧ t = .int .i64 i ∧ Lrow wr qp 92 (fdC (stP F S o kd i)) ∧ Lrow wr nb 3 [.int .i64 2, .int .i64 1, .int .i64 2, .int .i64 0, .int .i64 0, .int .i64 1] ∧ Below w1.heap.size w1 wr) (fun t _ => 2 - (intOf t).toNat)
    case atStart => exact ⟨0, by omega, rfl, by rw [HST.out]; exact HQB.out, HNB.out, HB1B.out⟩
    case round =>
      obtain ⟨i, hi, rfl, hq, hnx, hb⟩ := hrel
      cases hsi : stP F S o kd i with
      | none =>
        rw [hsi] at hq
        have hq' : Lrow wr qp 92 [.int .i64 0, .int .i64 (-1)] := hq
        have p1 : wr.cell? ⟨qp, 1, none⟩ = some (.int .i64 (-1)) := hq'.cell 1
        by_cases hlt : i < 2
        · have p0 : wr.cell? ⟨qp, 0, none⟩ = some (.int .i64 0) := hq'.cell 0
          obtain ⟨y2, hy2⟩ : ∃ y2, y2 = 2 * kd + i := ⟨_, rfl⟩
          obtain ⟨nk, hnk⟩ : ∃ nk, nk = nxt kd i := ⟨_, rfl⟩
          have hy6 : y2 < 6 := by omega
          have hnc : wr.cell? ⟨nb, y2, none⟩ = some (.int .i64 nk) := by
            rw [hnx.cell, hnk, hy2]
            have h1 : kd = 0 ∨ kd = 1 ∨ kd = 2 := by omega
            have h2 : i = 0 ∨ i = 1 := by omega
            rcases h1 with rfl | rfl | rfl <;> rcases h2 with rfl | rfl <;> rfl
          have s1 : IntKind.i64.wrap (2 * (kd : Int)) = 2 * kd := IntWalk.i64_in _ (by omega)
          have s2 : IntKind.i64.wrap (2 * (kd : Int) + i) = y2 := by rw [IntWalk.i64_in _ (by omega)]; omega
          have hFi := find_great (c := c) (o := o) (kd := nk) (HR1.out.call hb) HNN.out (HA.out.below hb) HPL.out HPF.out
          have hsn : fnd S o nk true (pcs F S) = stP F S o kd (i + 1) := by
            rw [hnk]
            simp only [stP]
            rw [hsi]
          rw [hsn] at hFi
          obtain ⟨t1, t2, ht⟩ : ∃ t1 t2 : Int, fdC (stP F S o kd (i + 1)) = [.int .i64 t1, .int .i64 t2] := by
            cases stP F S o kd (i + 1) with
            | none => exact ⟨_, _, rfl⟩
            | some yy => exact ⟨_, _, rfl⟩
          rw [ht] at hFi
          have HFI : Hid (Calls Tryz.prog 102 #[.pointer (some ⟨z, 0, none⟩), .slice A (pcs F S).length c, .int .i64 o, .int .i64 nk, .bool true] wr fun e w' => e = .returned (.agg #[.int .i64 t1, .int .i64 t2]) ∧ Below wr.heap.size wr w') := hFi
          have HT := Lib.hid ht
          have HQ := Lib.hid hq'
          have HNXT := Lib.hid hnx
          have HBx := Lib.hid hb
          clear hq hq' hnx hb hsi hFi hsn ht hnk hy2
          go_wp2_with fail
          refine HFI.out.mono ?_
          rintro e w3 ⟨rfl, hb3⟩
          have hq3 := HQ.out.call hb3
          have hn3 := HNXT.out.call hb3
          have hb13 := HBx.out.trans (hb3.mono HBx.out.size)
          have r0 := hq3.cell 0
          have r1 := hq3.cell 1
          have f0 := hq3.frozen 0
          have f1 := hq3.frozen 1
          have hqn : qp ≠ nb := HQB.out.apart HNB.out (by decide)
          have HQ4 : Hid (Lrow ((w3.setCell ⟨qp, 0, none⟩ (.int .i64 t1)).setCell ⟨qp, 1, none⟩ (.int .i64 t2)) qp 92 (fdC (stP F S o kd (i + 1)))) := by
            show Lrow _ _ _ _
            rw [HT.out]
            exact (hq3.set_ 0 _).set_ 1 _
          have HN4 : Hid (Lrow ((w3.setCell ⟨qp, 0, none⟩ (.int .i64 t1)).setCell ⟨qp, 1, none⟩ (.int .i64 t2)) nb 3 [.int .i64 2, .int .i64 1, .int .i64 2, .int .i64 0, .int .i64 0, .int .i64 1]) := (hn3.far (Ne.symm hqn) _).far (Ne.symm hqn) _
          have HB4 : Hid (Below w1.heap.size w1 ((w3.setCell ⟨qp, 0, none⟩ (.int .i64 t1)).setCell ⟨qp, 1, none⟩ (.int .i64 t2))) := (hb13.setCell (p := ⟨qp, 0, none⟩) HQS.out _).setCell (p := ⟨qp, 1, none⟩) HQS.out _
          clear hb3 hq3 hn3 hb13 p0 p1 hnc s1 s2 hqn
          go_wp2_with fail
          go_roundw
          case rel => exact ⟨i + 1, by omega, by go_num, HQ4.out, HN4.out, HB4.out⟩
          case measure => simp [intOf]; omega
        · obtain rfl : i = 2 := by omega
          have hno := HNONE.out (by rw [chs_fnd]; exact hsi)
          have HNO := Lib.hid hno
          have HRF := Lib.hid (HR1.out.call hb)
          have HBF := Lib.hid (HB1.out.trans (hb.mono HB1.out.size))
          clear hno hq hq' hnx hb hsi
          go_wp2
          go_ret2
          have hno := HNO.out
          exact ⟨by rw [hno.1, hno.2.1]; rfl, by rw [hno.2.2.1, hno.2.2.2]; exact HRF.out, wr, wr, HBF.out, World.grownBy.refl _ _, World.grownBy.refl _ _⟩
      | some b =>
        obtain ⟨f, j⟩ := b
        rw [hsi] at hq
        have hq' : Lrow wr qp 92 [.int .i64 f, .int .i64 j] := hq
        have HKT := Lib.hid (stP_some hi hsi)
        have HOK := Lib.hid (other_kind hk HST.out HKT.out)
        clear HQB HRB HBB HNB HB1B
        have HQB := Lib.hid hq'
        have HRB := Lib.hid (HR1.out.call hb)
        have HBB := Lib.hid (HB1.out.trans (hb.mono HB1.out.size))
        obtain ⟨-, -, -, t4, t5⟩ := ktP_fre HKT.out
        obtain ⟨c1, c2⟩ := chE_take ho t4 t5
        rw [HR.out.ref.len] at t5
        have HC1 := Lib.hid c1
        have HC2 := Lib.hid c2
        have HSOME := Lib.hid (HSM.out _ HKT.out)
        have HFM : Hid (f + M ≤ n) := by show _ ≤ _; rw [HMM.out]; exact t5
        have p1 : wr.cell? ⟨qp, 1, none⟩ = some (.int .i64 j) := hq'.cell 1
        have p0 : wr.cell? ⟨qp, 0, none⟩ = some (.int .i64 f) := hq'.cell 0
        clear t4 t5 c1 c2 hq hq' hnx hb hsi
        obtain ⟨wB, hWB⟩ : ∃ W, W = wr := ⟨_, rfl⟩
        rw [← hWB] at HRB HQB HBB p0 p1 ⊢
        clear hWB
        by_cases hlt : i < 2
        all_goals
          go_wp2_with fail
          clear p0 p1
          by_cases hj3 : 3 ≤ j
          · have HSF : Hid ((if 3 ≤ ((f, j) : Nat × Nat).2 ∧ knd S ((f, j) : Nat × Nat).1 ≠ kd then setS S (((f, j) : Nat × Nat).1 / 8) (upr ((f, j) : Nat × Nat).1 o - ((f, j) : Nat × Nat).1 / 8) kd else S) = trnS S f kd M) := by
              show _ = _
              rw [if_pos ⟨hj3, HOK.out⟩, HMM.out]
              exact (trnS_all HR.out.cnt (by rw [← HMM.out]; exact HFM.out)).symm
            have hfm := HFM.out
            have ofs : IntKind.i64.wrap ((f : Int) + M) = f + M := IntWalk.i64_in _ (by omega)
            have hSq := HSQ.out
            go_loopw [13] (fun t wr => ∃ i : Nat, i ≤ M ∧ t = .int .i64 (f + i : Nat) ∧ RefK wr z x y h n F (trnS S f kd i) ∧ wB.grownBy wr (some h)) (fun t _ => f + M - (intOf t).toNat)
            case atStart => exact ⟨0, Nat.zero_le _, rfl, HRB.out, World.grownBy.refl _ _⟩
            case round =>
              obtain ⟨i, hi, rfl, hRi, hgi⟩ := hrel
              have hqi : Lrow wr qp 92 [.int .i64 f, .int .i64 j] := by
                obtain ⟨r', hr'⟩ := HRB.out.row
                exact HQB.out.grown hgi (by intro e; injection e with e; exact HQB.out.apart hr' (by decide) e)
              have p0 : wr.cell? ⟨qp, 0, none⟩ = some (.int .i64 f) := hqi.cell 0
              have HRI := Lib.hid hRi
              have HGI := Lib.hid hgi
              have HQI := Lib.hid hqi
              clear hRi hgi hqi
              go_wp2_with fail
              go_quiet ((go_at_call 33; exact Calls.quiet_of_same (hSq _)))
              clear p0
              obtain ⟨W3, hW3⟩ : ∃ W3, W3 = wr.drewN nq := ⟨_, rfl⟩
              have HR3 : Hid (RefK W3 z x y h n F (trnS S f kd i)) := by show RefK _ _ _ _ _ _ _ _; rw [hW3]; exact HRI.out.drewN nq
              have HG3 : Hid (wB.grownBy W3 (some h)) := by show World.grownBy _ _ _; rw [hW3]; exact HGI.out.trans (grown_drewN _ nq _)
              have hq3 : Lrow W3 qp 92 [.int .i64 f, .int .i64 j] := by rw [hW3]; exact HQI.out
              have HQ3 := Lib.hid hq3
              rw [← hW3]
              clear hW3 HRI HGI HQI hq3
              by_cases hli : i < M
              · have p1 : W3.cell? ⟨qp, 1, none⟩ = some (.int .i64 j) := HQ3.out.cell 1
                have hj3' : (3 : Int) ≤ j := by omega
                obtain ⟨c1, hc1, hz1⟩ := HR3.out.c1
                rw [trnS_length] at hc1 hz1
                have hs : (f + i) / 8 < S.length := by rw [HRB.out.cnt]; omega
                have hcs := HR3.out.at_ (i := (f + i) / 8) (by rw [trnS_length]; exact hs)
                have hfz := HR3.out.fz ((f + i) / 8)
                obtain ⟨y8, hy8⟩ : ∃ y8, y8 = (f + i) / 8 := ⟨_, rfl⟩
                have hyi : ((f : Int) + i) / 8 = (y8 : Int) := by omega
                have hyi2 : ((f : Int) + i).tdiv 8 = (y8 : Int) := by rw [Int.tdiv_eq_ediv_of_nonneg (by omega)]; omega
                have HR4 : Hid (RefK (W3.setCell ⟨h, y8, none⟩ (.int .i64 kd)) z x y h n F (trnS S f kd (i + 1))) := by
                  show RefK _ _ _ _ _ _ _ _
                  rw [hy8]; exact HR3.out.set_ (by rw [trnS_length]; exact hs) kd
                have HG4 : Hid (wB.grownBy (W3.setCell ⟨h, y8, none⟩ (.int .i64 kd)) (some h)) := HG3.out.trans (grown_set _ _ _ _)
                rw [← hy8] at hs hcs hfz
                obtain ⟨sl, hsl⟩ : ∃ sl, sl = S.length := ⟨_, rfl⟩
                rw [← hsl] at hc1 hz1 hs
                generalize (trnS S f kd i).getD y8 0 = ov at hcs
                clear hy8 hsl
                go_wp2_with fail
                clear p1 hcs hfz hc1 hz1 hyi hyi2
                go_roundw
                case rel => exact ⟨i + 1, by omega, by go_num, HR4.out, HG4.out⟩
                case measure => simp [intOf]; omega
              · obtain rfl : i = M := by omega
                have HCH : Hid (∀ w4, RefAt w4 x y n F → Calls Tryz.prog 81 #[.pointer (some ⟨x, 0, none⟩), .int .i64 f, .int .i64 o, .bool false] w4 (RefChg x y n 0 (setR F f (2 ^ o) false) w4)) := fun w4 h4 => by
                  have := refChange_any h4 f o (by omega) (by omega) false
                  rw [HC1.out, HC2.out] at this
                  exact this
                have hs1 : W3.cell? ⟨z, 0, none⟩ = some (.pointer (some ⟨x, 0, none⟩)) ∧ W3.cell? ⟨qp, 0, none⟩ = some (.int .i64 f) := ⟨HR3.out.c0, HQ3.out.cell 0⟩
                have HR3d := Lib.hid (HR3.out.drewN 1)
                go_wp2_with fail
                go_region_held3 (fun v => v.cell? ⟨z, 0, none⟩ = some (.pointer (some ⟨x, 0, none⟩)) ∧ v.cell? ⟨qp, 0, none⟩ = some (.int .i64 f)) (first | exact hs1 | exact ⟨hs5.c0, q5.cell 0⟩)
                  (first | (go_at_call 81; refine Calls.mono (HCH.out _ HR3d.out.ref) ?_; rintro e w5 ⟨rfl, hr5, hg5⟩; have hs5 := HR3d.out.refGrown hg5 hr5; have q5 := (HQ3.out.drewN 1).grown hg5 (by intro e; injection e with e; exact HQ3.out.apart HR3.out.ref.row (by decide) e)))
                have q0 : w5.cell? ⟨qp, 0, none⟩ = some (.int .i64 f) := q5.cell 0
                have HS5 := Lib.hid hs5
                have HG5 : Hid (W3.grownBy w5 (some y)) := World.grownBy.trans (grown_drewN W3 1 _) hg5
                clear hs5 q5 hr5 hg5 hs1
                go_wp2
                go_ret2
                have hsf := HSOME.out
                exact ⟨by rw [hsf.1, hsf.2.1]; rfl, by rw [hsf.2.2.1, hsf.2.2.2, HSF.out]; exact HS5.out, wB, W3, HBB.out, HG3.out, HG5.out⟩
          · have HSF : Hid ((if 3 ≤ ((f, j) : Nat × Nat).2 ∧ knd S ((f, j) : Nat × Nat).1 ≠ kd then setS S (((f, j) : Nat × Nat).1 / 8) (upr ((f, j) : Nat × Nat).1 o - ((f, j) : Nat × Nat).1 / 8) kd else S) = S) := by show _ = _; rw [if_neg (fun e => hj3 e.1)]
            have hfm := HFM.out
            have ofs : IntKind.i64.wrap ((f : Int) + M) = f + M := IntWalk.i64_in _ (by omega)
            have hSq := HSQ.out
            go_loopw [13] (fun t wr => ∃ i : Nat, i ≤ M ∧ t = .int .i64 (f + i : Nat) ∧ RefK wr z x y h n F S ∧ wB.grownBy wr (some h)) (fun t _ => f + M - (intOf t).toNat)
            case atStart => exact ⟨0, Nat.zero_le _, rfl, HRB.out, World.grownBy.refl _ _⟩
            case round =>
              obtain ⟨i, hi, rfl, hRi, hgi⟩ := hrel
              have hqi : Lrow wr qp 92 [.int .i64 f, .int .i64 j] := by
                obtain ⟨r', hr'⟩ := HRB.out.row
                exact HQB.out.grown hgi (by intro e; injection e with e; exact HQB.out.apart hr' (by decide) e)
              have p0 : wr.cell? ⟨qp, 0, none⟩ = some (.int .i64 f) := hqi.cell 0
              have HRI := Lib.hid hRi
              have HGI := Lib.hid hgi
              have HQI := Lib.hid hqi
              clear hRi hgi hqi
              go_wp2_with fail
              go_quiet ((go_at_call 33; exact Calls.quiet_of_same (hSq _)))
              clear p0
              obtain ⟨W3, hW3⟩ : ∃ W3, W3 = wr.drewN nq := ⟨_, rfl⟩
              have HR3 : Hid (RefK W3 z x y h n F S) := by show RefK _ _ _ _ _ _ _ _; rw [hW3]; exact HRI.out.drewN nq
              have HG3 : Hid (wB.grownBy W3 (some h)) := by show World.grownBy _ _ _; rw [hW3]; exact HGI.out.trans (grown_drewN _ nq _)
              have hq3 : Lrow W3 qp 92 [.int .i64 f, .int .i64 j] := by rw [hW3]; exact HQI.out
              have HQ3 := Lib.hid hq3
              rw [← hW3]
              clear hW3 HRI HGI HQI hq3
              by_cases hli : i < M
              · have p1 : W3.cell? ⟨qp, 1, none⟩ = some (.int .i64 j) := HQ3.out.cell 1
                have hj3' : ¬ (3 : Int) ≤ j := by omega
                go_wp2_with fail
                clear p1
                go_roundw
                case rel => exact ⟨i + 1, by omega, by go_num, HR3.out, HG3.out⟩
                case measure => simp [intOf]; omega
              · obtain rfl : i = M := by omega
                have HCH : Hid (∀ w4, RefAt w4 x y n F → Calls Tryz.prog 81 #[.pointer (some ⟨x, 0, none⟩), .int .i64 f, .int .i64 o, .bool false] w4 (RefChg x y n 0 (setR F f (2 ^ o) false) w4)) := fun w4 h4 => by
                  have := refChange_any h4 f o (by omega) (by omega) false
                  rw [HC1.out, HC2.out] at this
                  exact this
                have hs1 : W3.cell? ⟨z, 0, none⟩ = some (.pointer (some ⟨x, 0, none⟩)) ∧ W3.cell? ⟨qp, 0, none⟩ = some (.int .i64 f) := ⟨HR3.out.c0, HQ3.out.cell 0⟩
                have HR3d := Lib.hid (HR3.out.drewN 1)
                go_wp2_with fail
                go_region_held3 (fun v => v.cell? ⟨z, 0, none⟩ = some (.pointer (some ⟨x, 0, none⟩)) ∧ v.cell? ⟨qp, 0, none⟩ = some (.int .i64 f)) (first | exact hs1 | exact ⟨hs5.c0, q5.cell 0⟩)
                  (first | (go_at_call 81; refine Calls.mono (HCH.out _ HR3d.out.ref) ?_; rintro e w5 ⟨rfl, hr5, hg5⟩; have hs5 := HR3d.out.refGrown hg5 hr5; have q5 := (HQ3.out.drewN 1).grown hg5 (by intro e; injection e with e; exact HQ3.out.apart HR3.out.ref.row (by decide) e)))
                have q0 : w5.cell? ⟨qp, 0, none⟩ = some (.int .i64 f) := q5.cell 0
                have HS5 := Lib.hid hs5
                have HG5 : Hid (W3.grownBy w5 (some y)) := World.grownBy.trans (grown_drewN W3 1 _) hg5
                clear hs5 q5 hr5 hg5 hs1
                go_wp2
                go_ret2
                have hsf := HSOME.out
                exact ⟨by rw [hsf.1, hsf.2.1]; rfl, by rw [hsf.2.2.1, hsf.2.2.2, HSF.out]; exact HS5.out, wB, W3, HBB.out, HG3.out, HG5.out⟩
theorem refKTake_any (hR : RefK w z x y h n F S) (hn : n ≤ 1024) (o kd : Int) : Calls Tryz.prog 79 #[.pointer (some ⟨z, 0, none⟩), .int .i64 o, .int .i64 kd] w (RefKTook z x y h n (ktV F S o kd) (ktE F S o kd) (ktF F S o kd) (ktS F S o kd) w) := by
  cases hb : okB o kd with
  | false =>
    obtain ⟨r1, r2, r3, r4⟩ := ktk_bad (F := F) (S := S) hb
    rw [r1, r2, r3, r4]
    exact refKTake_bad hR hb
  | true =>
    unfold okB at hb
    rw [decide_eq_true_eq] at hb
    obtain ⟨o, rfl⟩ : ∃ x : Nat, o = x := ⟨o.toNat, by omega⟩
    obtain ⟨kd, rfl⟩ : ∃ x : Nat, kd = x := ⟨kd.toNat, by omega⟩
    exact refKTake_good hR hn (by omega) (by omega)
end
end Go.Proofs.YtklhcgekagimkaaGreat
