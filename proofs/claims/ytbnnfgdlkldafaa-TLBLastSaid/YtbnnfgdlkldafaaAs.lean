/- Both sides behind some calls; TLBNone. -/
import Derived.Test.YtbnnfgdlkldafaaAr
namespace Go.Proofs.Ytbnnfgdlkldafaa
open Go.RowKit
/-- Both sides as the laws see them. -/
def Going (B ta xa z : Nat) (w0 w : World) : Prop := ∃ tv xv L, St B w ta xa z tv xv L ∧ Below B w0 w
theorem kl_now {W w : World} {b n i : Nat} {A : Option Addr} (h : Kls W b A n) (hb : Below b W w) (hi : i < n) :
    ∃ ad, A = some ad ∧ (ad.add (i * 9)).block < b ∧ ∃ l, IsKl l ∧ KlAt w (ad.add (i * 9)) l := by
  obtain ⟨p, e, hlt, hc⟩ := (h.below hb) (by omega)
  obtain ⟨l, ok, hat⟩ := hc i hi
  exact ⟨p, e, by rw [add_blk]; exact hlt, l, ok, hat⟩
theorem Rb.new (w : World) (z : Nat) {B : Nat} (hB : B ≤ w.heap.size) : Rb B (w.alloc (.cells #[.int .i64 z, .slice none 0 0] 38)) w.heap.size z (.slice none 0 0) [] :=
  ⟨Lrow.new w _ _, Cs.nil _ _, hB, by simp; omega⟩
set_option maxHeartbeats 4000000 in
set_option maxRecDepth 100000 in
theorem made_any (z : Nat) (h1 : 1 ≤ z) (h64 : z ≤ 64) (A : Option Addr) (n c b : Nat) (w : World) (hA : Kls w b A n) (hb : b ≤ w.heap.size) :
    Calls Try.prog 9 #[.int .i64 z, .slice A n c] w fun e w' => ∃ ta xa, e = .returned (.tuple #[.pointer (some ⟨ta, 0, none⟩), .pointer (some ⟨xa, 0, none⟩), .bool true]) ∧ Going w.heap.size ta xa z w w' := by
  have hnew := (new_any (z : Int) w).1 ⟨by omega, by omega⟩
  have z1 : (1 : Int) ≤ z := by omega
  have z64 : (z : Int) ≤ 64 := by omega
  have zn1 : ¬ (z : Int) < 1 := by omega
  have zn2 : ¬ (64 : Int) < z := by omega
  have HA := Lib.hid hA
  have HB := Lib.hid hb
  clear hA hb h1 h64
  go_enter Try.func9, Try.ntmps9
  go_wp2_with fail
  refine hnew.mono ?_
  rintro e w1 ⟨ta, rfl, hT, hb1⟩
  obtain ⟨xa, hxa⟩ : ∃ xa, xa = w1.heap.size := ⟨_, rfl⟩
  obtain ⟨W2, hW2⟩ : ∃ W2, W2 = w1.alloc (.cells #[.int .i64 z, .slice none 0 0] 38) := ⟨_, rfl⟩
  have HG : Hid (Going w.heap.size ta xa z w W2) := ⟨.slice none 0 0, .slice none 0 0, [], ⟨by rw [hW2]; exact hT.call (below_new w1 _), by rw [hW2, hxa]; exact Rb.new w1 z hb1.size, fun g e => by cases e⟩, by rw [hW2]; exact hb1.alloc hb1.size _⟩
  have HW := Lib.hid (And.intro hW2 hxa)
  clear hnew hT hb1 hW2 hxa
  go_upto_region 8 with (fail)
  rw [← HW.out.1, ← HW.out.2]
  go_wp2_with fail
  go_loopw [11] (fun i wr => ∃ j : Nat, j ≤ n ∧ j ≤ 60 ∧ i = .int .i64 j ∧ Going w.heap.size ta xa z w wr) (fun i _ => n - (intOf i).toNat)
  case atStart => exact ⟨0, by omega, by omega, rfl, HG.out⟩
  case round =>
    obtain ⟨j, hj, hj60, rfl, tv, xv, L, hst, hb⟩ := hrel
    have HST := Lib.hid hst
    have HBL := Lib.hid hb
    clear HG hst
    by_cases hboth : j < n ∧ j < 60
    · obtain ⟨hlt, hlim⟩ := hboth
      obtain ⟨ad, rfl, hab, l, ok, hat⟩ := kl_now HA.out (Below.mono hb HB.out) hlt
      have hdo := do_any HST.out ok
      have c0 := hat.c0
      have c1 := hat.c1
      have c2 := hat.c2
      have c3 := hat.c3
      have c4 := hat.c4
      have c5 := hat.c5
      have c6 := hat.c6
      have c7 := hat.c7
      have c8 := hat.c8
      have hjl : (j : Int) < n := by omega
      have hjm : (j : Int) < 60 := by omega
      have hj0 : (0 : Int) ≤ j := by omega
      clear hat hb hab ok
      obtain ⟨K, S, P, N, sp, p, o, f, bb⟩ := l
      dsimp only at c0 c1 c2 c3 c4 c5 c6 c7 c8 hdo
      go_wp2_with fail
      refine hdo.mono ?_
      rintro e w3 ⟨rfl, tv3, xv3, L3, hst3, hb3⟩
      have HZ : Hid (Going w.heap.size ta xa z w w3) := ⟨tv3, xv3, L3, hst3, HBL.out.trans hb3⟩
      clear hdo hst3 hb3
      go_wp2_with fail
      go_roundw
      case rel => exact ⟨j + 1, by omega, by omega, by go_num, HZ.out⟩
      case measure => simp [intOf]; omega
    · by_cases hlt : j < n
      case' pos => have hlim : ¬ (j : Int) < 60 := by omega
      all_goals
        clear hboth hb
        go_wp2_with fail
        go_ret3
        exact ⟨ta, xa, rfl, tv, xv, L, HST.out, HBL.out⟩
set_option maxHeartbeats 4000000 in
theorem made_bad {z : Int} (h : ¬ (1 ≤ z ∧ z ≤ 64)) (A : Option Addr) (n c : Nat) (w : World) :
    Calls Try.prog 9 #[.int .i64 z, .slice A n c] w fun e w' => e = .returned (.tuple #[.pointer none, .pointer none, .bool true]) ∧ w = w' := by
  have hnew := (new_any z w).2 h
  by_cases h1 : z < 1
  · clear h
    go_enter Try.func9, Try.ntmps9
    go_wp2_with (go_at_call 22; refine hnew.mono ?_; rintro e w1 ⟨rfl, rfl⟩)
    go_ret3
    exact ⟨rfl, rfl⟩
  · have h2 : 64 < z := by omega
    have h3 : 1 ≤ z := by omega
    clear h
    go_enter Try.func9, Try.ntmps9
    go_wp2_with (go_at_call 22; refine hnew.mono ?_; rintro e w1 ⟨rfl, rfl⟩)
    go_ret3
    exact ⟨rfl, rfl⟩
end Go.Proofs.Ytbnnfgdlkldafaa
