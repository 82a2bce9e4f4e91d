/- GapBalanced, walked. -/
import Derived.Test.YtekfkglielmfaaaThA
namespace Go.Proofs.Ytekfkglielmfaaa
open Go.RowKit
theorem fbS_mono {a : Nat} : ∀ {b : Nat}, a ≤ b → fbS a ≤ fbS b
  | 0, h => by obtain rfl : a = 0 := by omega
               exact Nat.le_refl _
  | b + 1, h => by
    rcases Nat.lt_or_ge b a with c | c
    · obtain rfl : a = b + 1 := by omega
      exact Nat.le_refl _
    · exact Nat.le_trans (fbS_mono c) (fbS_up b)
theorem ht_small {n h : Nat} (hh : HtIs n h) (hn : n ≤ 90) : h ≤ 9 := by
  apply Classical.byContradiction
  intro hc
  have h1 : fbS 10 ≤ fbS h := fbS_mono (by omega)
  have h2 : fbS 10 = 143 := by decide
  have := hh.1
  omega
theorem fb_next (i : Nat) : (fbS (i + 2) : Int) = fbS i + fbS (i + 1) + 1 := by rw [fbS_two]; omega
theorem fb_small {i : Nat} (h : i ≤ 10) : fbS i ≤ 143 := Nat.le_trans (fbS_mono h) (by decide)
set_option maxHeartbeats 16000000 in
set_option maxRecDepth 100000 in
theorem balanced_walk (A : Option Addr) (n c : Nat) (w : World) (hA : Acs w w.heap.size A n) : Calls Try.prog 6 #[.slice A n c] w fun e w' => e = .returned (.bool true) ∧ Below w.heap.size w w' := by
  obtain ⟨M, hM, hA⟩ := hA.list
  have hmade := made_any A n c w.heap.size M w hM hA (Nat.le_refl _)
  clear hA hM
  go_enter Try.func6, Try.ntmps6
  go_wp2_with fail
  refine hmade.mono ?_
  rintro e w1 ⟨t, x, rfl, L, hlen, hst, b1⟩
  have HS1 := Lib.hid (And.intro hst b1)
  have HLN := Lib.hid hlen
  have h2 := awake_any w1
  clear hmade hst hlen b1
  go_wp2_with fail
  refine h2.mono ?_
  rintro e w2 ⟨rfl, b2⟩
  have HB2 := Lib.hid (HS1.out.2.trans (b2.mono HS1.out.2.size))
  have hst := HS1.out.1.call b2
  have HS2 := Lib.hid hst
  clear h2 b2 HS1
  have hH := height_p hst.1
  obtain ⟨v, hv⟩ := hst.2.1
  obtain ⟨A2, c2, hv2⟩ := hv.2.1.form
  subst hv2
  have x0 : w2.cell? ⟨x, 0, none⟩ = some (.slice A2 L.length c2) := hv.1.cell 0
  have HX := Lib.hid x0
  obtain ⟨K, hK⟩ : ∃ K, K = L.length := ⟨_, rfl⟩
  rw [← hK] at hH HX HLN
  clear hst hv x0 hK
  go_upto_region 7 with (first | (go_at_call 24; (with_reducible refine hH.mono ?_); rintro e w3 ⟨h, rfl, hh, rfl⟩) | fail)
  have h9 := ht_small hh HLN.out
  have HH := Lib.hid hh
  clear hh hH
  go_loopw [7, 8, 9] (fun a b i wr => ∃ j : Nat, j ≤ h ∧ a = .int .i64 (fbS j : Nat) ∧ b = .int .i64 (fbS (j + 1) : Nat) ∧ i = .int .i64 j ∧ wr = w3) (fun _ _ i _ => h - (RowKit.intOf i).toNat)
  case atStart => exact ⟨0, Nat.zero_le _, rfl, rfl, rfl, rfl⟩
  case round =>
    obtain ⟨j, hj, rfl, rfl, rfl, rfl⟩ := hrel
    by_cases hlt : j < h
    · have c1 : (j : Int) < h := by omega
      have f1 := fb_small (i := j) (by omega)
      have f2 := fb_small (i := j + 1) (by omega)
      have hn := fb_next j
      obtain ⟨Z, hZ⟩ : ∃ Z : Int, Z = (fbS (j + 1 + 1) : Nat) := ⟨_, rfl⟩
      obtain ⟨F1, hF1⟩ : ∃ F : Nat, F = fbS j := ⟨_, rfl⟩
      obtain ⟨F2, hF2⟩ : ∃ F : Nat, F = fbS (j + 1) := ⟨_, rfl⟩
      rw [← hF1] at f1 hn ⊢
      rw [← hF2] at f2 hn ⊢
      have e1 : IntKind.i64.wrap ((F1 : Int) + F2) = (F1 : Int) + F2 := IntWalk.i64_in _ (by omega)
      have e2 : IntKind.i64.wrap ((F1 : Int) + F2 + 1) = Z := by rw [hZ, hn]; exact IntWalk.i64_in _ (by omega)
      have hw3 : IntKind.i64.wrap ((j : Int) + 1) = (j : Int) + 1 := IntWalk.i64_in _ (by omega)
      have HZ := Lib.hid (And.intro hZ hF2)
      clear hZ hF1 hF2 hn
      go_wp2_with fail
      go_roundw
      case rel => exact ⟨j + 1, by omega, by rw [HZ.out.2], by rw [HZ.out.1], by go_num, trivial⟩
      case measure => simp [RowKit.intOf]; omega
    · obtain rfl : j = h := by omega
      have c1 : ¬ (j : Int) < j := by omega
      have HJ : Hid (fbS j ≤ K) := HH.out.1
      have f1 := fb_small (i := j) (by omega)
      generalize fbS (j + 1) = F2
      generalize fbS j = F1 at HJ f1 ⊢
      clear hlt hj
      obtain ⟨w3, hn3⟩ : ∃ x, x = wr := ⟨_, rfl⟩
      subst hn3
      go_upto_region 12 with (fail)
      go_loopw [10, 11] (fun a i wr => ∃ k m : Nat, k ≤ j ∧ a = .int .i64 k ∧ i = .int .i64 k ∧ wr = w3.drewN m) (fun _ i _ => j - (RowKit.intOf i).toNat)
      case atStart => exact ⟨0, 0, Nat.zero_le _, rfl, rfl, rfl⟩
      case round =>
        obtain ⟨k, m, hk, rfl, rfl, hwr⟩ := hrel
        have HWR := Lib.hid hwr
        have x0 : wr.cell? ⟨x, 0, none⟩ = some (.slice A2 K c2) := by rw [hwr]; exact HX.out
        have hK2 : 2 ^ k ≤ 512 := Nat.pow_le_pow_right (by omega : 0 < 2) (by omega : k ≤ 9)
        have hK1 : 1 ≤ 2 ^ k := Nat.one_le_two_pow
        have hlt0 : 2 ^ k ≤ K → k < j := fun hc => by
          apply Classical.byContradiction
          intro hn
          obtain rfl : k = j := by omega
          have := HH.out.2
          omega
        obtain ⟨Q, hQ⟩ : ∃ Q : Nat, Q = 2 ^ k := ⟨_, rfl⟩
        have e2 : (2 : Int) ^ k = ((2 ^ k : Nat) : Int) := by push_cast; rfl
        have hsv : Value.int .i64 (wrap64 (2 ^ k)) = Value.int .i64 (Q : Int) := by
          rw [e2, ← hQ]; congr 1; unfold wrap64; omega
        have hsv2 : IntKind.i64.wrap (2 ^ k) = (Q : Int) := by rw [e2, ← hQ]; exact IntWalk.i64_in _ (by omega)
        have k20 : (k : Int) < 20 := by omega
        have k20' : decide ((k : Int) < 20) = true := decide_eq_true k20
        have k0 : ¬ (k : Int) < 0 := by omega
        have e3 : IntKind.i64.wrap ((Q : Int) - 1) = (Q : Int) - 1 := IntWalk.i64_in _ (by omega)
        have hw3 : IntKind.i64.wrap ((k : Int) + 1) = (k : Int) + 1 := IntWalk.i64_in _ (by omega)
        rw [← hQ] at hlt0
        by_cases hc : Q ≤ K
        · have g1 : (Q : Int) - 1 < K := by omega
          have g1' : decide ((Q : Int) - 1 < K) = true := decide_eq_true g1
          have HK := Lib.hid (hlt0 hc)
          clear hlt0 hQ e2 hK1 hK2 hwr hc hk
          go_wp2_with fail
          go_quiet (fail)
          go_wp2_with fail
          go_roundw
          case rel => exact ⟨k + 1, m + nq, HK.out, by go_num, by go_num, by rw [HWR.out, World.drewN_drewN]⟩
          case measure => simp [RowKit.intOf]; have := HK.out; omega
        · have g1 : ¬ (Q : Int) - 1 < K := by omega
          have g1' : decide ((Q : Int) - 1 < K) = false := decide_eq_false g1
          have hj20 : (j : Int) < 20 := by omega
          have hjk : (j : Int) ≥ k := by omega
          have hKF : (K : Int) ≥ F1 := by have := HJ.out; omega
          have hjk' : k ≤ j := hk
          have hKF' : F1 ≤ K := HJ.out
          clear hlt0 hQ e2 hK1 hK2 hwr hc hk
          go_wp2_with fail
          go_quiet (fail)
          go_wp2_with fail
          go_ret
          exact ⟨rfl, by rw [HWR.out, World.drewN_drewN]; exact below_dN HB2.out _⟩
end Go.Proofs.Ytekfkglielmfaaa
