/- The reference by kinds: find. -/
import Derived.Test.YtklhcgekagimkaaGreatMg24
namespace Go.Proofs.YtklhcgekagimkaaGreat
open Go.RowKit

/-- A piece, or the sign that there is none, as two cells. -/
def fdC : Option (Nat × Nat) → List Value
  | some x => [.int .i64 x.1, .int .i64 x.2]
  | none => [.int .i64 0, .int .i64 (-1)]
theorem fnd_step {S : List Nat} {o kd : Nat} {great : Bool} {M : List (Nat × Nat)} {j : Nat} (h : j < M.length) : fnd S o kd great (M.take (j + 1)) = fnd1 S o kd great (fnd S o kd great (M.take j)) M[j] := by rw [List.take_succ_eq_append_getElem h, fnd_snoc]
section
variable {w : World} {z x y h n : Nat} {F : List Bool} {S : List Nat} {A : Option Addr} {M : List (Nat × Nat)} {c o kd : Nat}
set_option maxHeartbeats 2000000 in
set_option maxRecDepth 100000 in
theorem find_least (hR : RefK w z x y h n F S) (hn : n ≤ 1024) (hM : BlkRow w A M) (hm : M.length ≤ 1024) (hf : ∀ b ∈ M, b.1 < n) :
    Calls Tryz.prog 102 #[.pointer (some ⟨z, 0, none⟩), .slice A M.length c, .int .i64 o, .int .i64 kd, .bool false] w fun e w' => e = .returned (.agg (fdC (fnd S o kd false M)).toArray) ∧ Below w.heap.size w w' := by
  obtain ⟨q0, hq0⟩ : ∃ q, q = w.heap.size := ⟨_, rfl⟩
  obtain ⟨q1, hq1⟩ : ∃ q, q = w.heap.size + 1 := ⟨_, rfl⟩
  have HQ0 := Lib.hid hq0
  have HQ1 := Lib.hid hq1
  have HRM := Lib.hid hM
  have HF := Lib.hid hf
  have HRR := Lib.hid hR
  obtain ⟨m, em⟩ : ∃ m, m = M.length := ⟨_, rfl⟩
  rw [← em] at hm ⊢
  have HMM := Lib.hid em
  clear hM hf hR em
  go_enter Tryz.func102, Tryz.ntmps102
  go_wp2_with fail
  obtain ⟨W, hW⟩ : ∃ W, W = (w.alloc (.cells #[.int .i64 0, .int .i64 0] 92)).alloc (.cells #[.int .i64 0, .int .i64 (-1)] 92) := ⟨_, rfl⟩
  rw [← hW, ← hq1, ← hq0]
  have hB : Below w.heap.size w W := by rw [hW]; exact ((Below.refl _ _).alloc (Nat.le_refl _) _).alloc (by simp) _
  have hr0 : Lrow W q0 92 [.int .i64 0, .int .i64 0] := by rw [hW, hq0]; exact (Lrow.new w _ _).alloc _
  have hr1 : Lrow W q1 92 [.int .i64 0, .int .i64 (-1)] := by
    rw [hW, hq1]
    have := Lrow.new (w.alloc (.cells #[.int .i64 0, .int .i64 0] 92)) 92 [.int .i64 0, .int .i64 (-1)]
    rw [World.size_alloc] at this
    exact this
  have HB0 := Lib.hid hB
  have H0 := Lib.hid hr0
  have H1 := Lib.hid hr1
  clear hW hB hr0 hr1 hq0 hq1
  go_loopw [12] (fun t wr => ∃ j : Nat, j ≤ m ∧ t = .int .i64 j ∧ Lrow wr q1 92 (fdC (fnd S o kd false (M.take j))) ∧ Lrow wr q0 92 [.int .i64 0, .int .i64 0] ∧ Below w.heap.size w wr) (fun t _ => m - (intOf t).toNat)
  case atStart => exact ⟨0, Nat.zero_le _, rfl, H1.out, H0.out, HB0.out⟩
  case round =>
    obtain ⟨j, hj, rfl, hr1, hr0, hb⟩ := hrel
    by_cases hlt : j < m
    · have hjl : j < M.length := by rw [← HMM.out]; exact hlt
      obtain ⟨gA, hAe, hgA, d0, d1⟩ := blk_cell (HRM.out.below hb) hjl
      subst hAe
      have hbn := HF.out _ (List.getElem_mem hjl)
      have HST := Lib.hid (fnd_step (S := S) (o := o) (kd := kd) (great := false) hjl)
      have hO := fun W' (hb' : Below w.heap.size w W') => refOf_any (HRR.out.call hb') hbn hn
      obtain ⟨b, hb9⟩ : ∃ b, b = M[j] := ⟨_, rfl⟩
      rw [← hb9] at d0 d1 hbn HST hO
      obtain ⟨b1, b2⟩ := b
      dsimp only at d0 d1 hbn hO
      obtain ⟨v, hv⟩ : ∃ v : Nat, v = knd S b1 := ⟨_, rfl⟩
      rw [← hv] at hO
      have HV := Lib.hid hv
      have HR1 := Lib.hid hr1
      have HR0 := Lib.hid hr0
      have HB := Lib.hid hb
      have hO1 := hO _ hb
      have HO := Lib.hid hO
      clear hb9 hv hr1 hr0 hb hO hbn
      by_cases ho : b2 < o
      · have HS2 : Hid (fnd S o kd false (M.take (j + 1)) = fnd S o kd false (M.take j)) := by show _ = _; rw [HST.out]; unfold fnd1; rw [if_pos (Or.inl ho)]
        have ho' : (b2 : Int) < o := by omega
        clear ho hO1
        go_wp2_with fail
        go_roundw
        case rel => exact ⟨j + 1, by omega, by go_num, by rw [HS2.out]; exact HR1.out, HR0.out, HB.out⟩
        case measure => simp [intOf]; omega
      · have ho' : ¬ (b2 : Int) < o := by omega
        by_cases hvk : v = kd
        · subst hvk
          have hvb : ((v : Int) != v) = false := by simp
          have HNG : Hid (¬ (b2 < o ∨ knd S b1 ≠ v)) := by show ¬ _; rintro (e | e); exact ho e; exact e HV.out.symm
          obtain ⟨fj, hfj⟩ : ∃ fj, fj = fnd S o v false (M.take j) := ⟨_, rfl⟩
          rw [← hfj] at HST HR1
          clear hfj
          cases fj with
          | none =>
            have HS4 : Hid (fnd S o v false (M.take (j + 1)) = some (b1, b2)) := by show _ = _; rw [HST.out]; unfold fnd1; rw [if_neg HNG.out]
            have p0 : wr.cell? ⟨q1, 0, none⟩ = some (.int .i64 0) := HR1.out.cell 0
            have p1 : wr.cell? ⟨q1, 1, none⟩ = some (.int .i64 (-1)) := HR1.out.cell 1
            clear ho
            go_wp2_with (go_at_call 13; refine hO1.mono ?_; rintro e w' ⟨rfl, rfl⟩)
            go_quiet (fail)
            clear hO1 p0 p1
            obtain ⟨W2, hW2⟩ : ∃ W2, W2 = wr.drewN nq := ⟨_, rfl⟩
            have hk2 : Lrow W2 q1 92 [.int .i64 0, .int .i64 (-1)] := by rw [hW2]; exact HR1.out
            have hz2 : Lrow W2 q0 92 [.int .i64 0, .int .i64 0] := by rw [hW2]; exact HR0.out
            have hB2 : Below w.heap.size w W2 := by rw [hW2]; exact below_dN HB.out _
            have u0 : W2.cell? ⟨gA, j * 2, none⟩ = some (.int .i64 b1) := by rw [hW2]; exact d0
            have u1 : W2.cell? ⟨gA, j * 2 + 1, none⟩ = some (.int .i64 b2) := by rw [hW2]; exact d1
            have x0 := hk2.cell 0
            have x1 := hk2.cell 1
            have f0 := hk2.frozen 0
            have f1 := hk2.frozen 1
            have hgA2 : gA < W2.heap.size := by rw [hW2]; exact hgA
            rw [← hW2]
            have hq01 : q0 ≠ q1 := by have := HQ0.out; have := HQ1.out; omega
            have HK3 : Hid (Lrow ((W2.setCell ⟨q1, 0, none⟩ (.int .i64 b1)).setCell ⟨q1, 1, none⟩ (.int .i64 b2)) q1 92 [.int .i64 b1, .int .i64 b2]) := (hk2.set_ 0 _).set_ 1 _
            have HZ3 : Hid (Lrow ((W2.setCell ⟨q1, 0, none⟩ (.int .i64 b1)).setCell ⟨q1, 1, none⟩ (.int .i64 b2)) q0 92 [.int .i64 0, .int .i64 0]) := (hz2.far hq01 _).far hq01 _
            have HB3 : Hid (Below w.heap.size w ((W2.setCell ⟨q1, 0, none⟩ (.int .i64 b1)).setCell ⟨q1, 1, none⟩ (.int .i64 b2))) := (hB2.setCell (p := ⟨q1, 0, none⟩) (by show w.heap.size ≤ q1; have := HQ1.out; omega) _).setCell (p := ⟨q1, 1, none⟩) (by show w.heap.size ≤ q1; have := HQ1.out; omega) _
            clear hW2 hk2 hz2 hB2 hq01 d0 d1 hgA
            go_wp2
            go_roundw
            case rel => exact ⟨j + 1, by omega, by go_num, by rw [HS4.out]; exact HK3.out, HZ3.out, HB3.out⟩
            case measure => simp [intOf]; omega
          | some yy =>
            obtain ⟨y1, y2⟩ := yy
            simp only [fdC] at HR1
            have p0 : wr.cell? ⟨q1, 0, none⟩ = some (.int .i64 y1) := HR1.out.cell 0
            have p1 : wr.cell? ⟨q1, 1, none⟩ = some (.int .i64 y2) := HR1.out.cell 1
            have hd0 : decide ((y2 : Int) < 0) = false := by simp
            clear ho
            by_cases hc : b2 < y2
            · have HS4 : Hid (fnd S o v false (M.take (j + 1)) = some (b1, b2)) := by
                show _ = _
                rw [HST.out]; unfold fnd1; rw [if_neg HNG.out]; show (if false = true ∧ y2 < b2 ∨ false = false ∧ b2 < y2 then some (b1, b2) else some (y1, y2)) = _; rw [if_pos (Or.inr ⟨rfl, hc⟩)]
              have hd1 : decide ((b2 : Int) < y2) = true := by simp; omega
              have hd2 : ((b2 : Int) < y2) := by omega
              have hd3 : decide ((b2 : Int) < y2) = true := by simp; omega
              clear hc HST
              go_wp2_with (go_at_call 13; refine hO1.mono ?_; rintro e w' ⟨rfl, rfl⟩)
              go_quiet (fail)
              clear hO1 p0 p1
              obtain ⟨W2, hW2⟩ : ∃ W2, W2 = wr.drewN nq := ⟨_, rfl⟩
              have hk2 : Lrow W2 q1 92 [.int .i64 y1, .int .i64 y2] := by rw [hW2]; exact HR1.out
              have hz2 : Lrow W2 q0 92 [.int .i64 0, .int .i64 0] := by rw [hW2]; exact HR0.out
              have hB2 : Below w.heap.size w W2 := by rw [hW2]; exact below_dN HB.out _
              have u0 : W2.cell? ⟨gA, j * 2, none⟩ = some (.int .i64 b1) := by rw [hW2]; exact d0
              have u1 : W2.cell? ⟨gA, j * 2 + 1, none⟩ = some (.int .i64 b2) := by rw [hW2]; exact d1
              have x0 := hk2.cell 0
              have x1 := hk2.cell 1
              have f0 := hk2.frozen 0
              have f1 := hk2.frozen 1
              have hgA2 : gA < W2.heap.size := by rw [hW2]; exact hgA
              rw [← hW2]
              have hq01 : q0 ≠ q1 := by have := HQ0.out; have := HQ1.out; omega
              have HK3 : Hid (Lrow ((W2.setCell ⟨q1, 0, none⟩ (.int .i64 b1)).setCell ⟨q1, 1, none⟩ (.int .i64 b2)) q1 92 [.int .i64 b1, .int .i64 b2]) := (hk2.set_ 0 _).set_ 1 _
              have HZ3 : Hid (Lrow ((W2.setCell ⟨q1, 0, none⟩ (.int .i64 b1)).setCell ⟨q1, 1, none⟩ (.int .i64 b2)) q0 92 [.int .i64 0, .int .i64 0]) := (hz2.far hq01 _).far hq01 _
              have HB3 : Hid (Below w.heap.size w ((W2.setCell ⟨q1, 0, none⟩ (.int .i64 b1)).setCell ⟨q1, 1, none⟩ (.int .i64 b2))) := (hB2.setCell (p := ⟨q1, 0, none⟩) (by show w.heap.size ≤ q1; have := HQ1.out; omega) _).setCell (p := ⟨q1, 1, none⟩) (by show w.heap.size ≤ q1; have := HQ1.out; omega) _
              clear hW2 hk2 hz2 hB2 hq01 d0 d1 hgA
              go_wp2
              go_roundw
              case rel => exact ⟨j + 1, by omega, by go_num, by rw [HS4.out]; exact HK3.out, HZ3.out, HB3.out⟩
              case measure => simp [intOf]; omega
            · have HS4 : Hid (fnd S o v false (M.take (j + 1)) = some (y1, y2)) := by
                show _ = _
                rw [HST.out]; unfold fnd1; rw [if_neg HNG.out]; show (if false = true ∧ y2 < b2 ∨ false = false ∧ b2 < y2 then some (b1, b2) else some (y1, y2)) = _; rw [if_neg (by rintro (⟨e, _⟩ | ⟨_, e⟩); cases e; exact hc e)]
              have hd1 : decide ((b2 : Int) < y2) = false := by simp; omega
              have hd3 : decide ((b2 : Int) < y2) = false := by simp; omega
              have hd4 : decide (b2 < y2) = false := decide_eq_false hc
              have hd2 : ¬ ((b2 : Int) < y2) := by omega
              clear hc HST
              go_wp2_with (go_at_call 13; refine hO1.mono ?_; rintro e w' ⟨rfl, rfl⟩)
              go_quiet (fail)
              clear hO1 p0 p1
              go_wp2
              go_roundw
              case rel => exact ⟨j + 1, by omega, by go_num, by rw [HS4.out]; exact HR1.out, HR0.out, below_dN HB.out _⟩
              case measure => simp [intOf]; omega
        · have HS2 : Hid (fnd S o kd false (M.take (j + 1)) = fnd S o kd false (M.take j)) := by show _ = _; rw [HST.out]; unfold fnd1; rw [if_pos (Or.inr (by rw [← HV.out]; exact hvk))]
          have hvb : ((v : Int) != kd) = true := by simp; omega
          have hvb2 : ((v : Int) == kd) = false := by simp; omega
          clear ho hvk
          go_wp2_with (go_at_call 13; refine hO1.mono ?_; rintro e w' ⟨rfl, rfl⟩)
          go_roundw
          case rel => exact ⟨j + 1, by omega, by go_num, by rw [HS2.out]; exact HR1.out, HR0.out, HB.out⟩
          case measure => simp [intOf]; omega
    · obtain rfl : j = m := by omega
      rw [HMM.out, List.take_length] at hr1
      obtain ⟨fm, hfm⟩ : ∃ fm, fm = fnd S o kd false M := ⟨_, rfl⟩
      rw [← hfm] at hr1
      obtain ⟨t1, t2, ht⟩ : ∃ t1 t2 : Int, fdC fm = [.int .i64 t1, .int .i64 t2] := by
        cases fm with
        | none => exact ⟨_, _, rfl⟩
        | some yy => exact ⟨_, _, rfl⟩
      have HFM : Hid (fdC (fnd S o kd false M) = [.int .i64 t1, .int .i64 t2]) := by show _ = _; rw [← hfm, ht]
      rw [ht] at hr1
      have hc0 := hr1.cell 0
      have hc1 := hr1.cell 1
      have e0 := hr0.cell 0
      have e1 := hr0.cell 1
      have f0 := hr0.frozen 0
      have f1 := hr0.frozen 1
      have hq01 : q0 ≠ q1 := by have := HQ0.out; have := HQ1.out; omega
      have HB3 : Hid (Below w.heap.size w ((wr.setCell ⟨q0, 0, none⟩ (.int .i64 t1)).setCell ⟨q0, 1, none⟩ (.int .i64 t2))) := (hb.setCell (p := ⟨q0, 0, none⟩) (by show w.heap.size ≤ q0; have := HQ0.out; omega) _).setCell (p := ⟨q0, 1, none⟩) (by show w.heap.size ≤ q0; have := HQ0.out; omega) _
      have k3 : Lrow ((wr.setCell ⟨q0, 0, none⟩ (.int .i64 t1)).setCell ⟨q0, 1, none⟩ (.int .i64 t2)) q0 92 [.int .i64 t1, .int .i64 t2] := (hr0.set_ 0 _).set_ 1 _
      have K3 := Lib.hid k3
      clear hfm ht hb hr1 hr0 k3
      go_wp2
      have k0 := K3.out.cell 0
      have k1 := K3.out.cell 1
      clear hc0 hc1 e0 e1 f0 f1
      generalize (wr.setCell ⟨q0, 0, none⟩ (.int .i64 t1)).setCell ⟨q0, 1, none⟩ (.int .i64 t2) = w9 at HB3 k0 k1 ⊢
      exact bodyPost_ret (v := .agg #[.int .i64 t1, .int .i64 t2]) (by simp [results, Tryz.results102, go_sem, *]) rfl ⟨by rw [HFM.out], HB3.out⟩
set_option maxHeartbeats 2000000 in
set_option maxRecDepth 100000 in
theorem find_great (hR : RefK w z x y h n F S) (hn : n ≤ 1024) (hM : BlkRow w A M) (hm : M.length ≤ 1024) (hf : ∀ b ∈ M, b.1 < n) :
    Calls Tryz.prog 102 #[.pointer (some ⟨z, 0, none⟩), .slice A M.length c, .int .i64 o, .int .i64 kd, .bool true] w fun e w' => e = .returned (.agg (fdC (fnd S o kd true M)).toArray) ∧ Below w.heap.size w w' := by
  obtain ⟨q0, hq0⟩ : ∃ q, q = w.heap.size := ⟨_, rfl⟩
  obtain ⟨q1, hq1⟩ : ∃ q, q = w.heap.size + 1 := ⟨_, rfl⟩
  have HQ0 := Lib.hid hq0
  have HQ1 := Lib.hid hq1
  have HRM := Lib.hid hM
  have HF := Lib.hid hf
  have HRR := Lib.hid hR
  obtain ⟨m, em⟩ : ∃ m, m = M.length := ⟨_, rfl⟩
  rw [← em] at hm ⊢
  have HMM := Lib.hid em
  clear hM hf hR em
  go_enter Tryz.func102, Tryz.ntmps102
  go_wp2_with fail
  obtain ⟨W, hW⟩ : ∃ W, W = (w.alloc (.cells #[.int .i64 0, .int .i64 0] 92)).alloc (.cells #[.int .i64 0, .int .i64 (-1)] 92) := ⟨_, rfl⟩
  rw [← hW, ← hq1, ← hq0]
  have hB : Below w.heap.size w W := by rw [hW]; exact ((Below.refl _ _).alloc (Nat.le_refl _) _).alloc (by simp) _
  have hr0 : Lrow W q0 92 [.int .i64 0, .int .i64 0] := by rw [hW, hq0]; exact (Lrow.new w _ _).alloc _
  have hr1 : Lrow W q1 92 [.int .i64 0, .int .i64 (-1)] := by
    rw [hW, hq1]
    have := Lrow.new (w.alloc (.cells #[.int .i64 0, .int .i64 0] 92)) 92 [.int .i64 0, .int .i64 (-1)]
    rw [World.size_alloc] at this
    exact this
  have HB0 := Lib.hid hB
  have H0 := Lib.hid hr0
  have H1 := Lib.hid hr1
  clear hW hB hr0 hr1 hq0 hq1
  go_loopw [12] (fun t wr => ∃ j : Nat, j ≤ m ∧ t = .int .i64 j ∧ Lrow wr q1 92 (fdC (fnd S o kd true (M.take j))) ∧ Lrow wr q0 92 [.int .i64 0, .int .i64 0] ∧ Below w.heap.size w wr) (fun t _ => m - (intOf t).toNat)
  case atStart => exact ⟨0, Nat.zero_le _, rfl, H1.out, H0.out, HB0.out⟩
  case round =>
    obtain ⟨j, hj, rfl, hr1, hr0, hb⟩ := hrel
    by_cases hlt : j < m
    · have hjl : j < M.length := by rw [← HMM.out]; exact hlt
      obtain ⟨gA, hAe, hgA, d0, d1⟩ := blk_cell (HRM.out.below hb) hjl
      subst hAe
      have hbn := HF.out _ (List.getElem_mem hjl)
      have HST := Lib.hid (fnd_step (S := S) (o := o) (kd := kd) (great := true) hjl)
      have hO := fun W' (hb' : Below w.heap.size w W') => refOf_any (HRR.out.call hb') hbn hn
      obtain ⟨b, hb9⟩ : ∃ b, b = M[j] := ⟨_, rfl⟩
      rw [← hb9] at d0 d1 hbn HST hO
      obtain ⟨b1, b2⟩ := b
      dsimp only at d0 d1 hbn hO
      obtain ⟨v, hv⟩ : ∃ v : Nat, v = knd S b1 := ⟨_, rfl⟩
      rw [← hv] at hO
      have HV := Lib.hid hv
      have HR1 := Lib.hid hr1
      have HR0 := Lib.hid hr0
      have HB := Lib.hid hb
      have hO1 := hO _ hb
      have HO := Lib.hid hO
      clear hb9 hv hr1 hr0 hb hO hbn
      by_cases ho : b2 < o
      · have HS2 : Hid (fnd S o kd true (M.take (j + 1)) = fnd S o kd true (M.take j)) := by show _ = _; rw [HST.out]; unfold fnd1; rw [if_pos (Or.inl ho)]
        have ho' : (b2 : Int) < o := by omega
        clear ho hO1
        go_wp2_with fail
        go_roundw
        case rel => exact ⟨j + 1, by omega, by go_num, by rw [HS2.out]; exact HR1.out, HR0.out, HB.out⟩
        case measure => simp [intOf]; omega
      · have ho' : ¬ (b2 : Int) < o := by omega
        by_cases hvk : v = kd
        · subst hvk
          have hvb : ((v : Int) != v) = false := by simp
          have HNG : Hid (¬ (b2 < o ∨ knd S b1 ≠ v)) := by show ¬ _; rintro (e | e); exact ho e; exact e HV.out.symm
          obtain ⟨fj, hfj⟩ : ∃ fj, fj = fnd S o v true (M.take j) := ⟨_, rfl⟩
          rw [← hfj] at HST HR1
          clear hfj
          cases fj with
          | none =>
            have HS4 : Hid (fnd S o v true (M.take (j + 1)) = some (b1, b2)) := by show _ = _; rw [HST.out]; unfold fnd1; rw [if_neg HNG.out]
            have p0 : wr.cell? ⟨q1, 0, none⟩ = some (.int .i64 0) := HR1.out.cell 0
            have p1 : wr.cell? ⟨q1, 1, none⟩ = some (.int .i64 (-1)) := HR1.out.cell 1
            clear ho
            go_wp2_with (go_at_call 13; refine hO1.mono ?_; rintro e w' ⟨rfl, rfl⟩)
            go_quiet (fail)
            clear hO1 p0 p1
            obtain ⟨W2, hW2⟩ : ∃ W2, W2 = wr.drewN nq := ⟨_, rfl⟩
            have hk2 : Lrow W2 q1 92 [.int .i64 0, .int .i64 (-1)] := by rw [hW2]; exact HR1.out
            have hz2 : Lrow W2 q0 92 [.int .i64 0, .int .i64 0] := by rw [hW2]; exact HR0.out
            have hB2 : Below w.heap.size w W2 := by rw [hW2]; exact below_dN HB.out _
            have u0 : W2.cell? ⟨gA, j * 2, none⟩ = some (.int .i64 b1) := by rw [hW2]; exact d0
            have u1 : W2.cell? ⟨gA, j * 2 + 1, none⟩ = some (.int .i64 b2) := by rw [hW2]; exact d1
            have x0 := hk2.cell 0
            have x1 := hk2.cell 1
            have f0 := hk2.frozen 0
            have f1 := hk2.frozen 1
            have hgA2 : gA < W2.heap.size := by rw [hW2]; exact hgA
            rw [← hW2]
            have hq01 : q0 ≠ q1 := by have := HQ0.out; have := HQ1.out; omega
            have HK3 : Hid (Lrow ((W2.setCell ⟨q1, 0, none⟩ (.int .i64 b1)).setCell ⟨q1, 1, none⟩ (.int .i64 b2)) q1 92 [.int .i64 b1, .int .i64 b2]) := (hk2.set_ 0 _).set_ 1 _
            have HZ3 : Hid (Lrow ((W2.setCell ⟨q1, 0, none⟩ (.int .i64 b1)).setCell ⟨q1, 1, none⟩ (.int .i64 b2)) q0 92 [.int .i64 0, .int .i64 0]) := (hz2.far hq01 _).far hq01 _
            have HB3 : Hid (Below w.heap.size w ((W2.setCell ⟨q1, 0, none⟩ (.int .i64 b1)).setCell ⟨q1, 1, none⟩ (.int .i64 b2))) := (hB2.setCell (p := ⟨q1, 0, none⟩) (by show w.heap.size ≤ q1; have := HQ1.out; omega) _).setCell (p := ⟨q1, 1, none⟩) (by show w.heap.size ≤ q1; have := HQ1.out; omega) _
            clear hW2 hk2 hz2 hB2 hq01 d0 d1 hgA
            go_wp2
            go_roundw
            case rel => exact ⟨j + 1, by omega, by go_num, by rw [HS4.out]; exact HK3.out, HZ3.out, HB3.out⟩
            case measure => simp [intOf]; omega
          | some yy =>
            obtain ⟨y1, y2⟩ := yy
            simp only [fdC] at HR1
            have p0 : wr.cell? ⟨q1, 0, none⟩ = some (.int .i64 y1) := HR1.out.cell 0
            have p1 : wr.cell? ⟨q1, 1, none⟩ = some (.int .i64 y2) := HR1.out.cell 1
            have hd0 : decide ((y2 : Int) < 0) = false := by simp
            clear ho
            by_cases hc : y2 < b2
            · have HS4 : Hid (fnd S o v true (M.take (j + 1)) = some (b1, b2)) := by
                show _ = _
                rw [HST.out]; unfold fnd1; rw [if_neg HNG.out]; show (if true = true ∧ y2 < b2 ∨ true = false ∧ b2 < y2 then some (b1, b2) else some (y1, y2)) = _; rw [if_pos (Or.inl ⟨rfl, hc⟩)]
              have hd1 : decide ((b2 : Int) > y2) = true := by simp; omega
              have hd2 : ((y2 : Int) < b2) := by omega
              have hd3 : decide ((y2 : Int) < b2) = true := by simp; omega
              clear hc HST
              go_wp2_with (go_at_call 13; refine hO1.mono ?_; rintro e w' ⟨rfl, rfl⟩)
              go_quiet (fail)
              clear hO1 p0 p1
              obtain ⟨W2, hW2⟩ : ∃ W2, W2 = wr.drewN nq := ⟨_, rfl⟩
              have hk2 : Lrow W2 q1 92 [.int .i64 y1, .int .i64 y2] := by rw [hW2]; exact HR1.out
              have hz2 : Lrow W2 q0 92 [.int .i64 0, .int .i64 0] := by rw [hW2]; exact HR0.out
              have hB2 : Below w.heap.size w W2 := by rw [hW2]; exact below_dN HB.out _
              have u0 : W2.cell? ⟨gA, j * 2, none⟩ = some (.int .i64 b1) := by rw [hW2]; exact d0
              have u1 : W2.cell? ⟨gA, j * 2 + 1, none⟩ = some (.int .i64 b2) := by rw [hW2]; exact d1
              have x0 := hk2.cell 0
              have x1 := hk2.cell 1
              have f0 := hk2.frozen 0
              have f1 := hk2.frozen 1
              have hgA2 : gA < W2.heap.size := by rw [hW2]; exact hgA
              rw [← hW2]
              have hq01 : q0 ≠ q1 := by have := HQ0.out; have := HQ1.out; omega
              have HK3 : Hid (Lrow ((W2.setCell ⟨q1, 0, none⟩ (.int .i64 b1)).setCell ⟨q1, 1, none⟩ (.int .i64 b2)) q1 92 [.int .i64 b1, .int .i64 b2]) := (hk2.set_ 0 _).set_ 1 _
              have HZ3 : Hid (Lrow ((W2.setCell ⟨q1, 0, none⟩ (.int .i64 b1)).setCell ⟨q1, 1, none⟩ (.int .i64 b2)) q0 92 [.int .i64 0, .int .i64 0]) := (hz2.far hq01 _).far hq01 _
              have HB3 : Hid (Below w.heap.size w ((W2.setCell ⟨q1, 0, none⟩ (.int .i64 b1)).setCell ⟨q1, 1, none⟩ (.int .i64 b2))) := (hB2.setCell (p := ⟨q1, 0, none⟩) (by show w.heap.size ≤ q1; have := HQ1.out; omega) _).setCell (p := ⟨q1, 1, none⟩) (by show w.heap.size ≤ q1; have := HQ1.out; omega) _
              clear hW2 hk2 hz2 hB2 hq01 d0 d1 hgA
              go_wp2
              go_roundw
              case rel => exact ⟨j + 1, by omega, by go_num, by rw [HS4.out]; exact HK3.out, HZ3.out, HB3.out⟩
              case measure => simp [intOf]; omega
            · have HS4 : Hid (fnd S o v true (M.take (j + 1)) = some (y1, y2)) := by
                show _ = _
                rw [HST.out]; unfold fnd1; rw [if_neg HNG.out]; show (if true = true ∧ y2 < b2 ∨ true = false ∧ b2 < y2 then some (b1, b2) else some (y1, y2)) = _; rw [if_neg (by rintro (⟨_, e⟩ | ⟨e, _⟩); exact hc e; cases e)]
              have hd1 : decide ((b2 : Int) > y2) = false := by simp; omega
              have hd3 : decide ((y2 : Int) < b2) = false := by simp; omega
              have hd4 : decide (y2 < b2) = false := decide_eq_false hc
              have hd2 : ¬ ((y2 : Int) < b2) := by omega
              clear hc HST
              go_wp2_with (go_at_call 13; refine hO1.mono ?_; rintro e w' ⟨rfl, rfl⟩)
              go_quiet (fail)
              clear hO1 p0 p1
              go_wp2
              go_roundw
              case rel => exact ⟨j + 1, by omega, by go_num, by rw [HS4.out]; exact HR1.out, HR0.out, below_dN HB.out _⟩
              case measure => simp [intOf]; omega
        · have HS2 : Hid (fnd S o kd true (M.take (j + 1)) = fnd S o kd true (M.take j)) := by show _ = _; rw [HST.out]; unfold fnd1; rw [if_pos (Or.inr (by rw [← HV.out]; exact hvk))]
          have hvb : ((v : Int) != kd) = true := by simp; omega
          have hvb2 : ((v : Int) == kd) = false := by simp; omega
          clear ho hvk
          go_wp2_with (go_at_call 13; refine hO1.mono ?_; rintro e w' ⟨rfl, rfl⟩)
          go_roundw
          case rel => exact ⟨j + 1, by omega, by go_num, by rw [HS2.out]; exact HR1.out, HR0.out, HB.out⟩
          case measure => simp [intOf]; omega
    · obtain rfl : j = m := by omega
      rw [HMM.out, List.take_length] at hr1
      obtain ⟨fm, hfm⟩ : ∃ fm, fm = fnd S o kd true M := ⟨_, rfl⟩
      rw [← hfm] at hr1
      obtain ⟨t1, t2, ht⟩ : ∃ t1 t2 : Int, fdC fm = [.int .i64 t1, .int .i64 t2] := by
        cases fm with
        | none => exact ⟨_, _, rfl⟩
        | some yy => exact ⟨_, _, rfl⟩
      have HFM : Hid (fdC (fnd S o kd true M) = [.int .i64 t1, .int .i64 t2]) := by show _ = _; rw [← hfm, ht]
      rw [ht] at hr1
      have hc0 := hr1.cell 0
      have hc1 := hr1.cell 1
      have e0 := hr0.cell 0
      have e1 := hr0.cell 1
      have f0 := hr0.frozen 0
      have f1 := hr0.frozen 1
      have hq01 : q0 ≠ q1 := by have := HQ0.out; have := HQ1.out; omega
      have HB3 : Hid (Below w.heap.size w ((wr.setCell ⟨q0, 0, none⟩ (.int .i64 t1)).setCell ⟨q0, 1, none⟩ (.int .i64 t2))) := (hb.setCell (p := ⟨q0, 0, none⟩) (by show w.heap.size ≤ q0; have := HQ0.out; omega) _).setCell (p := ⟨q0, 1, none⟩) (by show w.heap.size ≤ q0; have := HQ0.out; omega) _
      have k3 : Lrow ((wr.setCell ⟨q0, 0, none⟩ (.int .i64 t1)).setCell ⟨q0, 1, none⟩ (.int .i64 t2)) q0 92 [.int .i64 t1, .int .i64 t2] := (hr0.set_ 0 _).set_ 1 _
      have K3 := Lib.hid k3
      clear hfm ht hb hr1 hr0 k3
      go_wp2
      have k0 := K3.out.cell 0
      have k1 := K3.out.cell 1
      clear hc0 hc1 e0 e1 f0 f1
      generalize (wr.setCell ⟨q0, 0, none⟩ (.int .i64 t1)).setCell ⟨q0, 1, none⟩ (.int .i64 t2) = w9 at HB3 k0 k1 ⊢
      exact bodyPost_ret (v := .agg #[.int .i64 t1, .int .i64 t2]) (by simp [results, Tryz.results102, go_sem, *]) rfl ⟨by rw [HFM.out], HB3.out⟩
end
end Go.Proofs.YtklhcgekagimkaaGreat
