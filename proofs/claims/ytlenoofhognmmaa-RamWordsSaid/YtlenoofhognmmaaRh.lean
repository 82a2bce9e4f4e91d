/- The walk of the law RamEnds: a word's bytes are its bits, the lowest first. -/
import Derived.Test.YtlenoofhognmmaaRg
namespace Go.Proofs.Ytlenoofhognmmaa
open Go.RowKit

theorem byV_stL (ws : List Int) (q i : Nat) (v : Int) (hq : q < ws.length) (hi : i < 8) : byV (stL ws ((q : Int) * 8) v) ((q : Int) * 8 + i) = v / 2 ^ (8 * i) % 256 := by
  have he : errW ws.length ((q : Int) * 8) = 0 := errW_ok _ _ (by omega) (by omega) (by omega)
  have hb : errB ws.length ((q : Int) * 8 + i) = 0 := by unfold errB; rw [if_neg (by omega)]
  have e1 : ((q : Int) * 8 + i).toNat / 8 = q := by omega
  have e2 : ((q : Int) * 8 + i).toNat % 8 * 8 = 8 * i := by omega
  have e3 : ((q : Int) * 8).toNat / 8 = q := by omega
  unfold byV
  rw [stL_length, if_pos hb, e1, e2]
  unfold stL
  rw [if_pos he, e3, List.getD_eq_getElem?_getD, List.getElem?_set, if_pos rfl, if_pos hq]
  rfl
theorem errB_ok (n : Nat) (i : Int) (h0 : 0 ≤ i) (h1 : i < n * 8) : errB n i = 0 := by
  unfold errB
  rw [if_neg (by omega)]
section
variable {w : World} {a b n : Nat} {T : TypeId} {ws : List Int}
theorem byte_ok (h : RamAt w a b T n ws) (i x : Int) (he : errB n i = 0) (hx : byV ws i = x) : Calls Try.prog 15 #[.pointer (some ⟨a, 0, none⟩), .int .i64 i] w fun e w' => e = .returned (.tuple #[.int .u8 x, .int .i64 0]) ∧ w = w' := by
  have k := byte_any h i
  rwa [he, hx] at k
end

set_option maxHeartbeats 1000000 in
set_option maxRecDepth 100000 in
theorem ends_walk (V T : Int) (W : World) (hV0 : 0 ≤ V) (hV1 : V < 18446744073709551616) (hT0 : 0 ≤ T) (hT1 : T < 256) :
    Calls Try.prog 4 #[.int .u64 V, .int .u8 T] W fun e W' => e = .returned (.bool true) ∧ Below W.heap.size W W' := by
  obtain ⟨t, rfl⟩ : ∃ t : Nat, T = t := ⟨T.toNat, by omega⟩
  have ht : t % 64 < 64 := Nat.mod_lt _ (by omega)
  have ex : errW 64 ((t : Int) % 64 * 8) = 0 := errW_ok _ _ (by omega) (by omega) (by omega)
  obtain ⟨ws0, hws0⟩ : ∃ l : List Int, List.replicate 64 (0 : Int) = l := ⟨_, rfl⟩
  have l0 : ws0.length = 64 := by rw [← hws0]; exact List.length_replicate
  have HB : ∀ i : Nat, i < 8 → byV (stL ws0 ((t : Int) % 64 * 8) V) ((t : Int) % 64 * 8 + i) = V / 2 ^ (8 * i) % 256 := fun i hi => by
    have := byV_stL ws0 (t % 64) i V (by omega) hi
    rwa [show ((t % 64 : Nat) : Int) = (t : Int) % 64 from by omega] at this
  have HBH := Lib.hid HB
  have HW := Lib.hid hws0
  have EX := Lib.hid ex
  clear HB hws0 ex l0 ht
  go_enter Try.func4, Try.ntmps4
  go_wp2_with fail
  refine (new_8 _).mono ?_
  rintro e w1 ⟨rfl, h1, b1, z1⟩
  rw [HW.out] at h1
  have Z1 : Hid (W.heap.size ≤ w1.heap.size) := b1.size
  clear z1
  go_wp2_with fail
  refine (awake_any _).mono ?_
  rintro e w2 ⟨rfl, b2⟩
  have h2 := h1.below b2 h1.top.lt h1.row.lt
  have B2 := b1.trans (b2.mono Z1.out)
  have Z2 : Hid (W.heap.size ≤ w2.heap.size) := Nat.le_trans Z1.out b2.size
  clear b2 h1 b1 Z1
  go_wp2_with fail
  refine (store_ok h2 _ V hV0 hV1 EX.out).mono ?_
  rintro e w3 ⟨rfl, h3, g3⟩
  have B3 := below_grown B2 g3 Z2.out (Nat.le_refl _)
  clear h2 B2 Z2 g3
  go_wp2_with fail
  go_loop [8] (fun i => ∃ k : Nat, k ≤ 8 ∧ i = .int .i64 k) (fun i => 8 - (intOf i).toNat)
  case atStart => exact ⟨0, by omega, rfl⟩
  case round =>
    obtain ⟨k, hk, rfl⟩ := hrel
    by_cases hlt : k < 8
    · have hx : Hid (byV (stL ws0 ((t : Int) % 64 * 8) V) ((t : Int) % 64 * 8 + k) = V / 2 ^ (8 * k) % 256) := HBH.out k hlt
      have he : Hid (errB 64 ((t : Int) % 64 * 8 + k) = 0) := errB_ok _ _ (by omega) (by omega)
      go_wp2_with (go_at_call 15; refine (byte_ok h3 _ _ he.out hx.out).mono ?_; rintro e w' ⟨rfl, rfl⟩)
      go_round
      case rel => exact ⟨k + 1, by omega, by go_num⟩
      case measure => simp [intOf]; omega
    · go_wp2
      go_ret
      exact ⟨rfl, B3⟩
end Go.Proofs.Ytlenoofhognmmaa
