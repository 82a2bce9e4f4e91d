/- The reference of stretches: Cut. -/
import Derived.Test.YtekfkglielmfaaaTrD
namespace Go.Proofs.Ytekfkglielmfaaa
open Go.RowKit
theorem ct1_two (a b : Nat) (y : Nat × Nat) : (ct1 a b y).length ≤ 2 := by unfold ct1; split <;> (try split) <;> (try split) <;> simp
theorem ct_len2 (a b : Nat) : ∀ P : List (Nat × Nat), (P.flatMap (ct1 a b)).length ≤ 2 * P.length
  | [] => Nat.le_refl _
  | y :: r => by
    have h1 := ct1_two a b y
    have h2 := ct_len2 a b r
    rw [List.flatMap_cons, List.length_append, List.length_cons]
    omega
theorem ct1_keep {a b : Nat} {y : Nat × Nat} (h : b ≤ y.1 ∨ y.2 ≤ a) : ct1 a b y = [y] := by unfold ct1; rw [if_pos h]
theorem ct1_part {a b : Nat} {y : Nat × Nat} (h : ¬ (b ≤ y.1 ∨ y.2 ≤ a)) : ct1 a b y = (if y.1 < a then [(y.1, a)] else []) ++ (if b < y.2 then [(b, y.2)] else []) := by unfold ct1; rw [if_neg h]
theorem flat_one {a b : Nat} {L : List (Nat × Nat)} {j : Nat} {y : Nat × Nat} (h : L.take (j + 1) = L.take j ++ [y]) : (L.take (j + 1)).flatMap (ct1 a b) = (L.take j).flatMap (ct1 a b) ++ ct1 a b y := by
  rw [h, List.flatMap_append, List.flatMap_cons, List.flatMap_nil, List.append_nil]
section
variable {w w' : World} {B x : Nat} {v v' : Value} {L L' : List (Nat × Nat)} {f t : Int}
theorem rcut_no (h : RtT B w x v L) (hw : wrS f t ≠ 0) : Calls Try.prog 44 #[.pointer (some ⟨x, 0, none⟩), .int .i64 f, .int .i64 t] w fun e w' => e = .returned (.int .i64 3) ∧ DidT B x v L w w' := by
  have hW := wrong_r f t w
  rw [wrS_no hw] at hW
  have HD : Hid (DidT B x v L w w) := DidT.same h (Below.refl _ _)
  clear h hw
  go_enter Try.func44, Try.ntmps44
  go_wp2_with (go_at_call 48; (with_reducible refine hW.mono ?_); rintro e w1 ⟨rfl, rfl⟩)
  go_ret
  exact ⟨rfl, HD.out⟩
set_option maxHeartbeats 4000000 in
set_option maxRecDepth 100000 in
theorem rcut_yes (h : RtT B w x v L) (hl : L.length ≤ 1000) {a b : Nat} (hw : wrS a b = 0) : Calls Try.prog 44 #[.pointer (some ⟨x, 0, none⟩), .int .i64 a, .int .i64 b] w fun e w' => e = .returned (.int .i64 0) ∧ DidT B x v (ctS L a b) w w' := by
  obtain ⟨A, c, hv⟩ := h.2.1.form
  subst hv
  have hW := wrong_r a b w
  rw [hw] at hW
  have hS : ctS L a b = L.flatMap (ct1 a b) := by unfold ctS; rw [if_neg (by rw [hw]; simp), Int.toNat_natCast, Int.toNat_natCast]
  obtain ⟨n, hn⟩ : ∃ n, n = L.length := ⟨_, rfl⟩
  rw [← hn] at h ⊢
  rw [hS]
  have HX := Lib.hid (And.intro h hn)
  have c0 : w.cell? ⟨x, 0, none⟩ = some (.slice A n c) := h.1.cell 0
  have hD : w.heap.size ≤ w.heap.size := Nat.le_refl _
  rw [← hn] at hl
  clear h hS hn hw
  go_enter Try.func44, Try.ntmps44
  go_wp2_with (go_at_call 48; (with_reducible refine hW.mono ?_); rintro e w1 ⟨rfl, rfl⟩)
  clear c0 hW
  go_loopw [8, 9] (fun ov i wr => ∃ (j lo co : Nat) (Ao : Option Addr), j ≤ n ∧ i = .int .i64 j ∧ ov = .slice Ao lo co ∧ lo = ((L.take j).flatMap (ct1 a b)).length ∧ ETr.Own w.heap.size wr (.slice Ao lo co) ((L.take j).flatMap (ct1 a b)) ∧ Below w.heap.size w wr) (fun _ i _ => n - (RowKit.intOf i).toNat)
  case atStart => exact ⟨0, 0, 0, none, Nat.zero_le _, rfl, rfl, rfl, Enc.Own.nil _ _, Below.refl _ _⟩
  case round =>
    obtain ⟨j, lo, co, Ao, hj, rfl, rfl, hlo, hown, hb⟩ := hrel
    have hrt := HX.out.1.call hb
    have c0 : wr.cell? ⟨x, 0, none⟩ = some (.slice A n c) := hrt.1.cell 0
    have htk : ((L.take j).flatMap (ct1 a b)).length ≤ 2 * n := by
      have h1 := ct_len2 a b (L.take j)
      rw [List.length_take] at h1
      have := HX.out.2
      omega
    by_cases hlt : j < n
    · have hjL : j < L.length := by have := HX.out.2; omega
      obtain ⟨g, rfl, -, hg, d0, d1⟩ := hrt.at_ hjL
      have htk1 := take_one L hjL
      obtain ⟨y, hy⟩ : ∃ y, y = L[j] := ⟨_, rfl⟩
      rw [← hy] at d0 d1 htk1
      have hfl := flat_one (a := a) (b := b) htk1
      obtain ⟨y0, y1⟩ := y
      dsimp only at d0 d1
      have j1 : (j : Int) < n := by omega
      have j0 : (0 : Int) ≤ j := by omega
      have hw3 : IntKind.i64.wrap ((j : Int) + 1) = (j : Int) + 1 := IntWalk.i64_in _ (by omega)
      obtain ⟨W1, hW1⟩ : ∃ W1, W1 = wr.alloc (.cells #[.int .i64 y0, .int .i64 y1] 31) := ⟨_, rfl⟩
      obtain ⟨q, hq⟩ : ∃ q, q = wr.heap.size := ⟨_, rfl⟩
      have hb1 : Below w.heap.size w W1 := by rw [hW1]; exact hb.alloc hb.size _
      have hrow : Lrow W1 q 31 [.int .i64 y0, .int .i64 y1] := by rw [hW1, hq]; exact Lrow.new wr _ _
      have hown1 : ETr.Own w.heap.size W1 (.slice Ao lo co) ((L.take j).flatMap (ct1 a b)) := by rw [hW1]; exact hown.call (below_new _ _)
      have hnb : some q ≠ (Value.slice Ao lo co).ownBlock := fun e => by
        obtain ⟨vs, r, _⟩ := hown.block e.symm
        have := r.lt
        omega
      have e0 := hrow.cell 0
      have e1 := hrow.cell 1
      have HW := Lib.hid (And.intro hW1 hq)
      have HJ := Lib.hid hlt
      have hsz : w.heap.size ≤ W1.heap.size := hb1.size
      by_cases hkp : b ≤ y0 ∨ y1 ≤ a
      · obtain ⟨A3, c3, w3, r3, o3, b3, k3⟩ := app_step hb1 hsz hown1 (by omega) (y0, y1)
        rw [← hlo] at r3 o3
        rw [ct1_keep hkp] at hfl
        rw [← hfl] at o3
        have HN := Lib.hid (And.intro o3 (And.intro b3 (show lo + 1 = ((L.take (j + 1)).flatMap (ct1 a b)).length by rw [hfl, List.length_append, ← hlo]; rfl)))
        have hgd : ((y0 : Int) ≥ b) ∨ (¬ (y0 : Int) ≥ b ∧ (y1 : Int) ≤ a) := by omega
        clear hW1 hq hb1 hrow hown1 hnb htk1 hfl hy hjL hrt hb hown hlo hj hlt htk o3 b3 k3 hkp hsz
        rcases hgd with g1 | ⟨g1, g2⟩
        all_goals
          go_upto_region 10 with (fail)
          rw [← HW.out.1, ← HW.out.2]
          go_wp2_with (at_builtin; refine wpList_append_run rfl _ _ 32 rfl (.slice Ao lo co) (.slice (some ⟨W1.heap.size, 0, none⟩) 1 1) rfl rfl r3 ?_)
          go_roundw
          case rel => exact ⟨j + 1, _, _, _, HJ.out, by go_num, rfl, HN.out.2.2, HN.out.1, HN.out.2.1⟩
          case measure => simp [RowKit.intOf]; have := HJ.out; omega
      · rw [ct1_part hkp] at hfl
        dsimp only at hfl
        have g1 : ¬ (y0 : Int) ≥ b := by omega
        have g2 : ¬ (y1 : Int) ≤ a := by omega
        by_cases p1 : y0 < a
        · obtain ⟨A3, c3, w3, r3, o3, b3, k3⟩ := app_step hb1 hsz hown1 (by omega) (y0, a)
          have hrow3 := k3 hrow hnb
          have f0 := hrow3.cell 0
          have f1 := hrow3.cell 1
          have i1 : (y0 : Int) < a := by omega
          rw [if_pos p1] at hfl
          have hl3 : ((L.take j).flatMap (ct1 a b) ++ [(y0, a)]).length = lo + 1 := by rw [List.length_append, ← hlo]; rfl
          by_cases p2 : b < y1
          · obtain ⟨A4, c4, w4, r4, o4, b4, k4⟩ := app_step b3 b3.size o3 (by omega) (b, y1)
            rw [hl3] at r4 o4
            rw [← hlo] at r3 r4
            have i2 : (y1 : Int) > b := by omega
            rw [if_pos p2, ← List.append_assoc] at hfl
            rw [← hfl] at o4
            have HN := Lib.hid (And.intro o4 (And.intro b4 (show lo + 1 + 1 = ((L.take (j + 1)).flatMap (ct1 a b)).length by rw [hfl, List.length_append, hl3]; rfl)))
            clear hW1 hq hb1 hrow hown1 hnb htk1 hfl hy hjL hrt hb hown hlo hj hlt htk o3 b3 k3 hkp hsz p1 p2 hl3 hrow3 o4 b4 k4
            go_upto_if 50 with (fail)
            rw [← HW.out.1, ← HW.out.2]
            go_wp2_with (at_builtin; first | (refine wpList_append_run rfl _ _ 32 rfl (.slice Ao lo co) (.slice (some ⟨W1.heap.size, 0, none⟩) 1 1) rfl rfl r3 ?_) | (refine wpList_append_run rfl _ _ 32 rfl (.slice A3 (lo + 1) c3) (.slice (some ⟨w3.heap.size, 0, none⟩) 1 1) rfl rfl r4 ?_))
            go_roundw
            case rel => exact ⟨j + 1, _, _, _, HJ.out, by go_num, rfl, HN.out.2.2, HN.out.1, HN.out.2.1⟩
            case measure => simp [RowKit.intOf]; have := HJ.out; omega
          · rw [← hlo] at r3 o3
            have i2 : ¬ (y1 : Int) > b := by omega
            rw [if_neg p2, List.append_nil] at hfl
            rw [← hfl] at o3
            have HN := Lib.hid (And.intro o3 (And.intro b3 (show lo + 1 = ((L.take (j + 1)).flatMap (ct1 a b)).length by rw [hfl, hl3])))
            clear hW1 hq hb1 hrow hown1 hnb htk1 hfl hy hjL hrt hb hown hlo hj hlt htk o3 b3 k3 hkp hsz p1 p2 hl3 hrow3
            go_upto_if 50 with (fail)
            rw [← HW.out.1, ← HW.out.2]
            go_wp2_with (at_builtin; refine wpList_append_run rfl _ _ 32 rfl (.slice Ao lo co) (.slice (some ⟨W1.heap.size, 0, none⟩) 1 1) rfl rfl r3 ?_)
            go_roundw
            case rel => exact ⟨j + 1, _, _, _, HJ.out, by go_num, rfl, HN.out.2.2, HN.out.1, HN.out.2.1⟩
            case measure => simp [RowKit.intOf]; have := HJ.out; omega
        · have i1 : ¬ (y0 : Int) < a := by omega
          rw [if_neg p1, List.nil_append] at hfl
          by_cases p2 : b < y1
          · obtain ⟨A3, c3, w3, r3, o3, b3, k3⟩ := app_step hb1 hsz hown1 (by omega) (b, y1)
            rw [← hlo] at r3 o3
            have i2 : (y1 : Int) > b := by omega
            rw [if_pos p2] at hfl
            rw [← hfl] at o3
            have HN := Lib.hid (And.intro o3 (And.intro b3 (show lo + 1 = ((L.take (j + 1)).flatMap (ct1 a b)).length by rw [hfl, List.length_append, ← hlo]; rfl)))
            clear hW1 hq hb1 hrow hown1 hnb htk1 hfl hy hjL hrt hb hown hlo hj hlt htk o3 b3 k3 hkp hsz p1 p2
            go_upto_if 50 with (fail)
            rw [← HW.out.1, ← HW.out.2]
            go_wp2_with (at_builtin; refine wpList_append_run rfl _ _ 32 rfl (.slice Ao lo co) (.slice (some ⟨W1.heap.size, 0, none⟩) 1 1) rfl rfl r3 ?_)
            go_roundw
            case rel => exact ⟨j + 1, _, _, _, HJ.out, by go_num, rfl, HN.out.2.2, HN.out.1, HN.out.2.1⟩
            case measure => simp [RowKit.intOf]; have := HJ.out; omega
          · have i2 : ¬ (y1 : Int) > b := by omega
            rw [if_neg p2, List.append_nil] at hfl
            rw [← hfl] at hown1
            have HN := Lib.hid (And.intro hown1 (And.intro hb1 (show lo = ((L.take (j + 1)).flatMap (ct1 a b)).length by rw [hfl, ← hlo])))
            clear hW1 hq hb1 hrow hown1 hnb htk1 hfl hy hjL hrt hb hown hlo hj hlt htk hkp hsz p1 p2
            go_upto_if 50 with (fail)
            rw [← HW.out.1, ← HW.out.2]
            go_wp2_with fail
            go_roundw
            case rel => exact ⟨j + 1, _, _, _, HJ.out, by go_num, rfl, HN.out.2.2, HN.out.1, HN.out.2.1⟩
            case measure => simp [RowKit.intOf]; have := HJ.out; omega
    · obtain rfl : j = n := by omega
      have hall : L.take j = L := List.take_of_length_le (by have := HX.out.2; omega)
      rw [hall] at hown hlo htk
      have y0 := hrt.1.frozen 0
      have j1 : ¬ (j : Int) < j := by omega
      have HD := Lib.hid (HX.out.1.laid hb hown)
      clear hrt hb hown hlo hj htk hall
      go_wp2_with fail
      go_ret
      exact ⟨ret_int rfl, HD.out⟩
theorem rcut (h : RtT B w x v L) (hl : L.length ≤ 1000) (f t : Int) : Calls Try.prog 44 #[.pointer (some ⟨x, 0, none⟩), .int .i64 f, .int .i64 t] w fun e w' => e = .returned (.int .i64 (wrS f t)) ∧ DidT B x v (ctS L f t) w w' := by
  by_cases hw : wrS f t = 0
  · obtain ⟨a, b, rfl, rfl, -, -, -⟩ := wrS_ok hw
    rw [hw]
    exact rcut_yes h hl hw
  · have hs : ctS L f t = L := by unfold ctS; rw [if_pos hw]
    rw [wrS_no hw, hs]
    exact rcut_no h hw
end
end Go.Proofs.Ytekfkglielmfaaa
