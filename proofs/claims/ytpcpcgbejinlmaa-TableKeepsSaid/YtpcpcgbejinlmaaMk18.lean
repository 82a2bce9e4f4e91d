/- The reference of package table: sizes, what is wrong with a block, which leaf a page has. -/
import Derived.Test.YtpcpcgbejinlmaaMk16
import Derived.Test.YtpcpcgbejinlmaaMk06
import Derived.Deep.QuietTactic
import Derived.BigQuiet
import Derived.IntWalk
import Derived.Test.YtpcpcgbejinlmaaMk17
import Derived.Deep.RegionHeld3
namespace Go.Proofs.Ytpcpcgbejinlmaa
open Go.RowKit
theorem size8_any (o : Int) (w : World) : Calls Try.prog 79 #[.int .i64 o] w fun e w' => e = .returned (.int .i64 (szO o)) ∧ w = w' := by
  by_cases h3 : o = 3
  · subst h3
    go_enter Try.func79, Try.ntmps79
    go_wp2
    go_ret
    exact ⟨rfl, rfl⟩
  · by_cases h6 : o = 6
    · subst h6
      go_enter Try.func79, Try.ntmps79
      go_wp2
      go_ret
      exact ⟨rfl, rfl⟩
    · have hs : szO o = 1 := by simp [szO, h3, h6]
      rw [hs]
      have k3 : (o == 3) = false := by simpa using h3
      have k6 : (o == 6) = false := by simpa using h6
      clear hs h3 h6
      go_enter Try.func79, Try.ntmps79
      go_wp2
      go_ret
      exact ⟨rfl, rfl⟩
theorem size8_q (o : Int) (w : World) : Calls Try.prog 79 #[.int .i64 o] w fun e w' => e = .returned (.int .i64 (szO o)) ∧ w' = w := (size8_any o w).mono fun _ _ h => ⟨h.1, h.2.symm⟩
def szL (l : Nat) : Int := if l = 0 then 1 else if l = 1 then 8 else if l = 2 then 64 else 512
theorem szL_pos (l : Nat) : 1 ≤ szL l ∧ szL l ≤ 512 := by unfold szL; split <;> (try split) <;> (try split) <;> omega
theorem sizeL_any (l : Nat) (hl : l ≤ 3) (w : World) : Calls Try.prog 95 #[.int .i64 l] w fun e w' => e = .returned (.int .i64 (szL l)) ∧ w = w' := by
  go_enter Try.func95, Try.ntmps95
  go_wp2
  go_loop [3, 4] (fun n i => ∃ k : Nat, k ≤ l ∧ i = .int .i64 k ∧ n = .int .i64 (szL k)) (fun _ i => l - (intOf i).toNat)
  case atStart => exact ⟨0, Nat.zero_le _, rfl, rfl⟩
  case round =>
    obtain ⟨k, hk, rfl, rfl⟩ := hrel
    by_cases hlt : k < l
    · have hb := szL_pos k
      have hn : Hid (szL k * 8 = szL (k + 1)) := by
        show _ = _
        have : k = 0 ∨ k = 1 ∨ k = 2 := by omega
        rcases this with rfl | rfl | rfl <;> rfl
      obtain ⟨z, hz⟩ : ∃ z, z = szL k := ⟨_, rfl⟩
      rw [← hz] at hb hn ⊢
      obtain ⟨b0, b1⟩ := hb
      clear hz
      go_wp2
      go_round
      case rel => exact ⟨k + 1, by omega, by go_num, by rw [hn.out]⟩
      case measure => simp [intOf]; omega
    · obtain rfl : k = l := by omega
      go_wp2
      go_ret
      exact ⟨rfl, rfl⟩
def wrO (g o : Int) : Int := if ¬ (o = 0 ∨ o = 3 ∨ o = 6) then 2 else if g < 0 ∨ 4095 < g then 3 else if g % szO o = 0 then 0 else 2
theorem wrO_ok {g o : Int} (h : wrO g o = 0) : (o = 0 ∨ o = 3 ∨ o = 6) ∧ 0 ≤ g ∧ g ≤ 4095 ∧ g % szO o = 0 := by
  unfold wrO at h
  split at h
  · omega
  rename_i h1
  split at h
  · omega
  rename_i h2
  split at h
  · rename_i h3
    exact ⟨Classical.not_not.1 h1, by omega, by omega, h3⟩
  · omega
theorem wrong8_any (g o : Int) (w : World) : Calls Try.prog 60 #[.int .i64 g, .int .i64 o] w fun e w' => e = .returned (.int .i64 (wrO g o)) ∧ w = w' := by
  by_cases ho : o = 0 ∨ o = 3 ∨ o = 6
  · by_cases h0 : g < 0
    · have hw : wrO g o = 3 := by simp [wrO, ho, h0]
      rw [hw]
      clear hw
      rcases ho with rfl | rfl | rfl
      all_goals
        go_enter Try.func60, Try.ntmps60
        go_wp2
        go_ret
        exact ⟨rfl, rfl⟩
    · by_cases h1 : 4095 < g
      · have hw : wrO g o = 3 := by simp [wrO, ho, h1]
        have h0' : 0 ≤ g := by omega
        rw [hw]
        clear hw h0
        rcases ho with rfl | rfl | rfl
        all_goals
          go_enter Try.func60, Try.ntmps60
          go_wp2
          go_ret
          exact ⟨rfl, rfl⟩
      · obtain ⟨n, rfl⟩ : ∃ n : Nat, g = n := ⟨g.toNat, by omega⟩
        have hn : (n : Int) ≤ 4095 := by omega
        have hw : Hid (wrO n o = if (n : Int) % szO o = 0 then 0 else 2) := by show _ = _; unfold wrO; rw [if_neg (fun k => k ho), if_neg (by omega)]
        rw [hw.out]
        clear h0 h1
        cases hz : ((n : Int) % szO o != 0)
        · rw [if_pos (by simpa using hz)]
          rcases ho with rfl | rfl | rfl
          all_goals
            go_enter Try.func60, Try.ntmps60
            go_wp2_with (go_at_call 79; refine (size8_any _ _).mono ?_; rintro e w' ⟨rfl, rfl⟩)
            go_ret
            exact ⟨rfl, rfl⟩
        · rw [if_neg (by simpa using hz)]
          rcases ho with rfl | rfl | rfl
          all_goals
            go_enter Try.func60, Try.ntmps60
            go_wp2_with (go_at_call 79; refine (size8_any _ _).mono ?_; rintro e w' ⟨rfl, rfl⟩)
            go_ret
            exact ⟨rfl, rfl⟩
  · have hw : wrO g o = 2 := by simp [wrO, ho]
    rw [hw]
    have k0 : (o != 0) = true := by simp; omega
    have k3 : (o != 3) = true := by simp; omega
    have k6 : (o != 6) = true := by simp; omega
    clear hw ho
    go_enter Try.func60, Try.ntmps60
    go_wp2
    go_ret
    exact ⟨rfl, rfl⟩
structure RefT (w : World) (C x : Nat) (v : Value) (L : List Mp) : Prop where
  top : Row w x 65 [v]
  ms : Ms w C v L
  ok : ∀ m ∈ L, MOk m
  len : L.length ≤ 5000
section
variable {w : World} {C x : Nat} {v : Value} {L : List Mp}
end
end Go.Proofs.Ytpcpcgbejinlmaa
/- The contracts of package table's checks. -/
namespace Go.Proofs.Ytpcpcgbejinlmaa
open Go.RowKit
def rtE (R : List Int) (r : Int) : Int := if r ∈ R then 0 else 3
section
variable {w : World} {s : Seat} {v : Value} {ws L R : List Int}
theorem Tab.cells (h : Tab w s v ws L R) : w.cell? ⟨s.x, 0, none⟩ = some (.pointer (some ⟨s.a, 0, none⟩)) ∧ w.cell? ⟨s.x, 1, none⟩ = some (bagV s) ∧ w.cell? ⟨s.x, 2, none⟩ = some (.map (some s.m)) :=
  ⟨h.top.cell 0, h.top.cell 1, h.top.cell 2⟩
theorem checkRoot_any (h : Tab w s v ws L R) (r : Int) (hr : Fits r) : Calls Try.prog 24 #[.pointer (some ⟨s.x, 0, none⟩), .int .i64 r] w fun e w' => e = .returned (.int .i64 (rtE R r)) ∧ Below w.heap.size w w' := by
  obtain ⟨-, -, hc⟩ := h.cells
  have hl := h.set.look hr
  unfold rtE
  clear h hr
  by_cases hm : r ∈ R
  · rw [if_pos hm]
    have hd : decide (r ∈ R) = true := by simpa using hm
    rw [hd] at hl
    clear hm hd
    go_enter Try.func24, Try.ntmps24
    go_wp2
    go_ret
    exact ⟨rfl, (Below.refl _ _).alloc (Nat.le_refl _) _⟩
  · rw [if_neg hm]
    have hd : decide (r ∈ R) = false := by simpa using hm
    rw [hd] at hl
    clear hm hd
    go_enter Try.func24, Try.ntmps24
    go_wp2
    go_ret
    exact ⟨rfl, (Below.refl _ _).alloc (Nat.le_refl _) _⟩
end
def tto (o : Int) : Int := 4 - o / 3
theorem tablesTo_any {o : Int} (ho : o = 0 ∨ o = 3 ∨ o = 6) (w : World) : Calls Try.prog 41 #[.int .i64 o] w fun e w' => e = .returned (.int .i64 (tto o)) ∧ w = w' := by
  rcases ho with rfl | rfl | rfl
  all_goals
    go_enter Try.func41, Try.ntmps41
    go_wp2
    go_ret
    exact ⟨rfl, rfl⟩
def frE (f o : Int) : Int := if 0 ≤ f ∧ f + szO o ≤ 512 then 0 else 3
section
variable {w : World} {s : Seat} {v : Value} {ws L R : List Int}
theorem checkFrames_at (h : Tab w s v ws L R) (f o : Int) (ho : o = 0 ∨ o = 3 ∨ o = 6) : Calls Try.prog 48 #[.pointer (some ⟨s.x, 0, none⟩), .int .i64 f, .int .i64 o] w fun e w' => e = .returned (.int .i64 (frE f o)) ∧ ∃ n, w' = w.drewN n := by
  obtain ⟨hc, -, -⟩ := h.cells
  have hF : ∀ n : Nat, Calls Try.prog 65 #[.pointer (some ⟨s.a, 0, none⟩)] (w.drewN n) fun e w' => e = .returned (.int .i64 512) ∧ w' = w.drewN n := fun n => (frames_any (w := w.drewN n) (h.ram.drewN n)).mono fun _ _ k => ⟨by rw [k.1]; rfl, k.2.symm⟩
  clear h
  unfold frE
  by_cases h0 : f < 0
  · rw [if_neg (by omega)]
    have d0 : decide (f < 0) = true := by simpa using h0
    clear h0
    go_enter Try.func48, Try.ntmps48
    go_wp2
    go_quiet (fail)
    go_wp2
    go_ret
    exact ⟨rfl, _, rfl⟩
  · have d0 : decide (f < 0) = false := by simpa using h0
    have h0' : 0 ≤ f := by omega
    clear h0
    rcases ho with rfl | rfl | rfl
    · by_cases h1 : 511 < f
      · rw [if_neg (by simp [szO]; omega)]
        have d1 : decide (511 < f) = true := by simpa using h1
        clear h1
        go_enter Try.func48, Try.ntmps48
        go_wp2
        go_quiet ((go_at_call 65; exact Calls.quiet_of_same (hF _)))
        go_wp2
        go_ret
        exact ⟨rfl, _, rfl⟩
      · rw [if_pos (by simp [szO]; omega)]
        have d1 : decide (511 < f) = false := by simpa using h1
        clear h1
        go_enter Try.func48, Try.ntmps48
        go_wp2
        go_quiet ((go_at_call 65; exact Calls.quiet_of_same (hF _)))
        go_wp2
        go_ret
        exact ⟨rfl, _, rfl⟩
    · by_cases h1 : 504 < f
      · rw [if_neg (by simp [szO]; omega)]
        have d1 : decide (504 < f) = true := by simpa using h1
        clear h1
        go_enter Try.func48, Try.ntmps48
        go_wp2
        go_quiet ((go_at_call 65; exact Calls.quiet_of_same (hF _)))
        go_wp2
        go_ret
        exact ⟨rfl, _, rfl⟩
      · rw [if_pos (by simp [szO]; omega)]
        have d1 : decide (504 < f) = false := by simpa using h1
        clear h1
        go_enter Try.func48, Try.ntmps48
        go_wp2
        go_quiet ((go_at_call 65; exact Calls.quiet_of_same (hF _)))
        go_wp2
        go_ret
        exact ⟨rfl, _, rfl⟩
    · by_cases h1 : 448 < f
      · rw [if_neg (by simp [szO]; omega)]
        have d1 : decide (448 < f) = true := by simpa using h1
        clear h1
        go_enter Try.func48, Try.ntmps48
        go_wp2
        go_quiet ((go_at_call 65; exact Calls.quiet_of_same (hF _)))
        go_wp2
        go_ret
        exact ⟨rfl, _, rfl⟩
      · rw [if_pos (by simp [szO]; omega)]
        have d1 : decide (448 < f) = false := by simpa using h1
        clear h1
        go_enter Try.func48, Try.ntmps48
        go_wp2
        go_quiet ((go_at_call 65; exact Calls.quiet_of_same (hF _)))
        go_wp2
        go_ret
        exact ⟨rfl, _, rfl⟩
end
end Go.Proofs.Ytpcpcgbejinlmaa
