/- The program's object: place. -/
import Derived.Test.YtekfkglielmfaaaTgM
import Derived.Test.YtekfkglielmfaaaGa
namespace Go.Proofs.Ytekfkglielmfaaa
open Go.RowKit
/-- The first even page from f on. -/
def upS (f K : Nat) : Nat := (f + K - 1) - (f + K - 1) % K
theorem upS_spec {f K : Nat} (hf : 1 ≤ f) (hK : 1 ≤ K) : f ≤ upS f K ∧ upS f K ≤ f + K - 1 ∧ upS f K % K = 0 ∧ ∀ j, f ≤ j → j % K = 0 → upS f K ≤ j := by
  unfold upS
  have h1 := Nat.mod_lt (f + K - 1) (by omega : K > 0)
  have h2 := Nat.div_add_mod (f + K - 1) K
  have h3 : (f + K - 1) - (f + K - 1) % K = K * ((f + K - 1) / K) := by omega
  refine ⟨by omega, by omega, by rw [h3]; exact Nat.mul_mod_right _ _, fun j hj hm => ?_⟩
  rw [h3]
  have h4 := Nat.div_add_mod j K
  rw [hm, Nat.add_zero] at h4
  rw [← h4]
  refine Nat.mul_le_mul_left K ?_
  apply Classical.byContradiction
  intro hc
  have h5 : j / K + 1 ≤ (f + K - 1) / K := by omega
  have h6 : K * (j / K + 1) ≤ K * ((f + K - 1) / K) := Nat.mul_le_mul_left K h5
  rw [Nat.mul_add, Nat.mul_one] at h6
  omega
theorem dn_up {f o : Nat} (hf : 1 ≤ f) (ho : o ≤ 8) : dnI ((f : Int) + (2 ^ o : Nat) - 1) o = (upS f (2 ^ o) : Nat) := by
  have hb : ordB (o : Int) = true := by unfold ordB; rw [decide_eq_true_iff]; omega
  have hK : 1 ≤ 2 ^ o := Nat.one_le_two_pow
  unfold dnI upS
  rw [if_pos hb, Int.toNat_natCast]
  have e1 : (f : Int) + (2 ^ o : Nat) - 1 = ((f + 2 ^ o - 1 : Nat) : Int) := by omega
  have e2 : (2 : Int) ^ o = ((2 ^ o : Nat) : Int) := by push_cast; rfl
  rw [e1, e2]
  have := Nat.mod_le (f + 2 ^ o - 1) (2 ^ o)
  omega
/-- What place tells. -/
def PlIs (b U : Nat) (n p er : Int) : Prop := (¬ (b : Int) - U < n → p = U ∧ er = 0) ∧ ((b : Int) - U < n → p = 0 ∧ er = 13)
section
variable {w w' W W' : World}
set_option maxHeartbeats 1000000 in
theorem place_p {f b o : Nat} {n : Int} (hf : 1 ≤ f) (hf2 : f ≤ 4096) (hb : b ≤ 4096) (ho : o ≤ 8) (w : World) : Calls Try.prog 34 #[.int .i64 f, .int .i64 b, .int .i64 n, .int .i64 o] w fun e w' => ∃ p er : Int, e = .returned (.tuple #[.int .i64 p, .int .i64 er]) ∧ PlIs b (upS f (2 ^ o)) n p er ∧ w' = w := by
  have hK2 : 2 ^ o ≤ 256 := Nat.pow_le_pow_right (by omega : 0 < 2) ho
  have hK1 : 1 ≤ 2 ^ o := Nat.one_le_two_pow
  obtain ⟨u1, u2, -, -⟩ := upS_spec (K := 2 ^ o) hf hK1
  have hd := dn_up hf ho
  obtain ⟨U, hU⟩ : ∃ U, U = upS f (2 ^ o) := ⟨_, rfl⟩
  rw [← hU] at u1 u2 hd ⊢
  clear hU
  obtain ⟨K, hK⟩ : ∃ K : Nat, K = 2 ^ o := ⟨_, rfl⟩
  have hsv : Value.int .i64 (wrap64 (2 ^ o)) = Value.int .i64 (K : Int) := by
    have e2 : (2 : Int) ^ o = ((2 ^ o : Nat) : Int) := by push_cast; rfl
    rw [e2, ← hK]; congr 1; unfold wrap64; omega
  have hsv2 : IntKind.i64.wrap (2 ^ o) = (K : Int) := by
    have e2 : (2 : Int) ^ o = ((2 ^ o : Nat) : Int) := by push_cast; rfl
    rw [e2, ← hK]; exact IntWalk.i64_in _ (by omega)
  rw [← hK] at hK1 hK2 u2 hd
  clear hK
  obtain ⟨Z, hZ⟩ : ∃ Z : Int, Z = (f : Int) + (K : Nat) - 1 := ⟨_, rfl⟩
  rw [← hZ] at hd
  have hD := down_any (o := (o : Nat)) Z (by omega) (by omega) w
  rw [hd] at hD
  have e1 : IntKind.i64.wrap ((f : Int) + K) = (f : Int) + K := IntWalk.i64_in _ (by omega)
  have e3 : IntKind.i64.wrap ((f : Int) + K - 1) = Z := by rw [hZ]; exact IntWalk.i64_in _ (by omega)
  have e4 : IntKind.i64.wrap ((b : Int) - U) = (b : Int) - U := IntWalk.i64_in _ (by omega)
  have o0 : ¬ (o : Int) < 0 := by omega
  have HZ := Lib.hid hZ
  clear hZ hd
  by_cases hc : (b : Int) - U < n
  · have HC := Lib.hid hc
    go_enter Try.func34, Try.ntmps34
    go_wp2_with (first | (go_at_call 45; (with_reducible refine hD.mono ?_); rintro e w1 ⟨rfl, rfl⟩) | fail)
    go_ret2
    exact ⟨0, 13, rfl, ⟨fun h => absurd HC.out h, fun _ => ⟨rfl, rfl⟩⟩, rfl⟩
  · have HC := Lib.hid hc
    go_enter Try.func34, Try.ntmps34
    go_wp2_with (first | (go_at_call 45; (with_reducible refine hD.mono ?_); rintro e w1 ⟨rfl, rfl⟩) | fail)
    go_ret2
    exact ⟨_, 0, rfl, ⟨fun _ => ⟨rfl, rfl⟩, fun h => absurd h (by have := HC.out; omega)⟩, rfl⟩
end
end Go.Proofs.Ytekfkglielmfaaa
