/- awake. -/
import Derived.Test.YtekfkglielmfaaaTgT
namespace Go.Proofs.Ytekfkglielmfaaa
open Go.RowKit
def aw2 : List (Nat × Nat) := [(8, 16), (24, 32)]
theorem aw_mem {P : Nat × Nat → Prop} : (∀ x ∈ aw2, P x) ↔ P (8, 16) ∧ P (24, 32) := by simp [aw2]
theorem aw_ok : OkS aw2 := ⟨by simp [aw2], by rw [aw_mem]; simp⟩
theorem aw_free {p n : Nat} (hn : 1 ≤ n) : RmS aw2 p n ↔ 1 ≤ p ∧ p + n ≤ 4096 ∧ (16 ≤ p ∨ p + n ≤ 8) ∧ (32 ≤ p ∨ p + n ≤ 24) := by
  rw [free_iff aw_ok hn]
  unfold FreeI
  rw [aw_mem]
theorem aw_r1 : RoomIs aw2 0 8 0 16 0 := Or.inr ⟨by omega, Or.inl ⟨16, rfl, rfl, by omega, by omega, by decide, (aw_free (by decide)).2 (by show 1 ≤ 16 ∧ 16 + 8 ≤ 4096 ∧ (16 ≤ 16 ∨ 16 + 8 ≤ 8) ∧ (32 ≤ 16 ∨ 16 + 8 ≤ 24); omega), fun j h1 _ h3 _ h => by
  have : 1 ≤ j ∧ j + 8 ≤ 4096 ∧ (16 ≤ j ∨ j + 8 ≤ 8) ∧ (32 ≤ j ∨ j + 8 ≤ 24) := (aw_free (n := 8) (by decide)).1 h
  omega⟩⟩
theorem aw_r2 : RoomIs aw2 0 9 3 32 0 := Or.inr ⟨by omega, Or.inl ⟨32, rfl, rfl, by omega, by omega, by decide, (aw_free (by decide)).2 (by show 1 ≤ 32 ∧ 32 + 9 ≤ 4096 ∧ (16 ≤ 32 ∨ 32 + 9 ≤ 8) ∧ (32 ≤ 32 ∨ 32 + 9 ≤ 24); omega), fun j h1 _ h3 h4 h => by
  have : 1 ≤ j ∧ j + 9 ≤ 4096 ∧ (16 ≤ j ∨ j + 9 ≤ 8) ∧ (32 ≤ j ∨ j + 9 ≤ 24) := (aw_free (n := 9) (by decide)).1 h
  have h5 : j % 8 = 0 := h4
  omega⟩⟩
theorem aw_g : GrIs aw2 4064 := by
  refine ⟨⟨32, (aw_free (by decide)).2 (by omega)⟩, fun p n h => ?_⟩
  by_cases hn : 1 ≤ n
  · have := (aw_free hn).1 h
    omega
  · omega
section
variable {w w' w1 w2 W W' : World} {B t x : Nat} {v : Value} {L L' : List (Nat × Nat)}
theorem foot_blw (h : Foot (fun k => k = t) w1 w2) (hb : Below B w w1) (hB : B ≤ w1.heap.size) (ht : B ≤ t) : Below B w w2 := hb.trans (h.below hB fun _ e => by omega)
set_option maxHeartbeats 2000000 in
set_option maxRecDepth 100000 in
theorem awake_any (w : World) : Calls Try.prog 11 #[] w fun e w' => e = .returned (.bool true) ∧ Below w.heap.size w w' := by
  have hN := new_p w
  go_enter Try.func11, Try.ntmps11
  go_upto_region 2 with (first | (go_at_call 25; (with_reducible refine hN.mono ?_); rintro e w1 ⟨t, rfl, h1, b1⟩) | fail)
  have hP := put_p h1 8 16
  have e1 : ptE [] 8 16 = 0 := by decide
  have e2 : ptS [] 8 16 = [(8, 16)] := by decide
  rw [e1, e2] at hP
  have HB := Lib.hid b1
  have HT : Hid (w.heap.size ≤ t) := by obtain ⟨_, _, _, _, _, _, _, h⟩ := h1; exact h
  clear e1 e2 h1 b1 hN
  go_upto_region 4 with (first | (go_at_call 23; (with_reducible refine hP.mono ?_); rintro e w2 ⟨rfl, h2, f2⟩; have hP2 := put_p h2 24 32; have e1 : ptE [(8, 16)] 24 32 = 0 := (by decide); have e2 : ptS [(8, 16)] 24 32 = aw2 := (by decide); rw [e1, e2] at hP2; clear e1 e2) | (go_at_call 23; (with_reducible refine hP2.mono ?_); rintro e w3 ⟨rfl, h3, f3⟩) | fail)
  have b2 := foot_blw f2 HB.out HB.out.size HT.out
  have HB3 := Lib.hid (foot_blw f3 b2 b2.size HT.out)
  have HX := Lib.hid h3
  have hR1 := room_t h3 0 8 0
  clear hP hP2 h2 f2 f3 h3 b2
  go_upto_region 5 with (first | (go_at_call 19; (with_reducible refine hR1.mono ?_); rintro e w4 ⟨p, er, rfl, r1, b4⟩) | fail)
  obtain ⟨rfl, rfl⟩ := r1.one aw_r1
  have HB4 := Lib.hid (HB3.out.trans (b4.mono HB3.out.size))
  have h4 := HX.out.call b4
  have HX4 := Lib.hid h4
  have hR2 := room_t h4 0 9 3
  clear hR1 r1 b4 h4
  go_upto_region 6 with (first | (go_at_call 19; (with_reducible refine hR2.mono ?_); rintro e w5 ⟨p, er, rfl, r2, b5⟩) | fail)
  obtain ⟨rfl, rfl⟩ := r2.one aw_r2
  have HB5 := Lib.hid (HB4.out.trans (b5.mono HB4.out.size))
  have h5 := HX4.out.call b5
  have HX5 := Lib.hid h5
  have hG := greatest_p h5
  clear hR2 r2 b5 h5
  go_wp2_with (first | (go_at_call 17; (with_reducible refine hG.mono ?_); rintro e w6 ⟨g, rfl, hg, n6, rfl⟩; obtain rfl := hg.one aw_g; clear hg hG; have hL := len_p (HX5.out.call (below_dN (Below.refl _ _) n6))) | (go_at_call 16; (with_reducible refine hL.mono ?_); rintro e w7 ⟨rfl, b7⟩) | fail)
  go_ret
  exact ⟨rfl, (below_dN HB5.out n6).trans (b7.mono HB5.out.size)⟩
end
end Go.Proofs.Ytekfkglielmfaaa
