/- The contracts of Page and of the reference's Digits and Page; the reference's look at two lists of numbers that are the same. -/
import Derived.Test.YtbieecclnjpnpaaGb
namespace Go.Proofs.Ytbieecclnjpnpaa
open Go.RowKit

theorem digits_any (p : Int) (w : World) : Calls Try.prog 9 #[.int .i64 p] w (SomeInts w (dgL p) (dgE p)) := by
  by_cases h : 0 ≤ p ∧ p ≤ 4095
  · exact digits_good p h.1 h.2 w
  · exact digits_bad p h w
theorem refDigits_any (p : Int) (w : World) : Calls Try.prog 10 #[.int .i64 p] w (SomeInts w (dgL p) (dgE p)) := by
  by_cases h : 0 ≤ p ∧ p ≤ 4095
  · have hl : dgL p = [p / 512, p / 64 % 8, p / 8 % 8, p % 8] := by simp only [dgL, if_pos h]
    have he : dgE p = 0 := by simp only [dgE, if_pos h]
    rw [hl, he]
    clear hl he
    obtain ⟨h0, h1⟩ := h
    have HR := Lib.hid ((Row.new w 3 #[.int .i64 (p / 512), .int .i64 (p / 64 % 8), .int .i64 (p / 8 % 8), .int .i64 (p % 8)]).ints [p / 512, p / 64 % 8, p / 8 % 8, p % 8] 4 rfl (fun j hj => by
      have : j = 0 ∨ j = 1 ∨ j = 2 ∨ j = 3 := by omega
      rcases this with rfl | rfl | rfl | rfl <;> rfl))
    go_enter Try.func10, Try.ntmps10
    go_wp2
    go_ret2
    exact ⟨_, _, _, rfl, HR.out, (Below.refl _ _).alloc (Nat.le_refl _) _⟩
  · have hl : dgL p = [] := by simp only [dgL, if_neg h]
    have he : dgE p = 3 := by simp only [dgE, if_neg h]
    rw [hl, he]
    clear hl he
    by_cases h0 : p < 0
    · clear h
      go_enter Try.func10, Try.ntmps10
      go_wp2
      go_ret2
      exact ⟨none, 0, 0, rfl, IntsAt.nil _ _ _, Below.refl _ _⟩
    · have h1 : 4095 < p := by omega
      have h0' : 0 ≤ p := by omega
      clear h h0
      go_enter Try.func10, Try.ntmps10
      go_wp2
      go_ret2
      exact ⟨none, 0, 0, rfl, IntsAt.nil _ _ _, Below.refl _ _⟩

section
variable {w : World} {B n c : Nat} {A : Option Addr} {l : List Int}
theorem page_len (h : n ≠ 4) : Calls Try.prog 11 #[.slice A n c] w fun e w' => e = .returned (.tuple #[.int .i64 0, .int .i64 2]) ∧ w = w' := by
  have hb : ((n : Int) != 4) = true := by simp; omega
  go_enter Try.func11, Try.ntmps11
  go_wp2
  go_ret2
  exact ⟨rfl, rfl⟩
theorem page_four (h : IntsAt w B A 4 l) (hi : ∀ d ∈ l, -9223372036854775808 ≤ d ∧ d ≤ 9223372036854775807) : Calls Try.prog 11 #[.slice A 4 c] w fun e w' => e = .returned (.tuple #[.int .i64 (pgI l), .int .i64 (pgE l)]) ∧ w = w' := by
  obtain ⟨a, rfl, _, hc⟩ := h.at_ (by omega)
  have HL := Lib.hid h.len
  have HC := Lib.hid hc
  have HI := Lib.hid hi
  clear h hc hi
  go_enter Try.func11, Try.ntmps11
  go_wp2
  go_loop [4, 12] (fun pg i => ∃ j : Nat, j ≤ 4 ∧ i = .int .i64 j ∧ pg = .int .i64 (hor (l.take j)) ∧ Hid ((l.take j).all okD = true)) (fun _ i => 4 - (intOf i).toNat)
  case atStart => exact ⟨0, by omega, rfl, rfl, rfl⟩
  case round =>
    obtain ⟨j, hj, rfl, rfl, HA⟩ := hrel
    by_cases hlt : j < 4
    · have hl : j < l.length := by rw [HL.out]; exact hlt
      have hb := hor_bound j (l.take j) (by rw [List.length_take]; omega) HA.out
      have hp : (8 : Int) ^ j ≤ 512 := by
        have : j = 0 ∨ j = 1 ∨ j = 2 ∨ j = 3 := by omega
        rcases this with rfl | rfl | rfl | rfl <;> decide
      have hz : 0 ≤ hor (l.take j) ∧ hor (l.take j) < 512 := ⟨hb.1, by omega⟩
      obtain ⟨z, ez⟩ : ∃ z, z = hor (l.take j) := ⟨_, rfl⟩
      obtain ⟨d, ed⟩ : ∃ d, d = l.getD j 0 := ⟨_, rfl⟩
      have hd := HI.out _ (getD_mem l 0 j hl)
      have hc := HC.out j hlt
      have HS : Hid (okD d = true → z * 8 + d = hor (l.take (j + 1)) ∧ (l.take (j + 1)).all okD = true) := fun hk => by
        refine ⟨?_, all_snoc hl HA.out (by rw [← ed]; exact hk)⟩
        rw [take_snoc l 0 j hl, hor_snoc, ez, ed]
      have HB : Hid (okD d = false → 0 = pgI l ∧ 2 = pgE l) := fun hk => by
        have := pg_bad j hl (by rw [← ed]; exact hk)
        exact ⟨this.1.symm, this.2.symm⟩
      rw [← ed] at hd hc
      rw [← ez] at hz ⊢
      obtain ⟨hz0, hz1⟩ := hz
      obtain ⟨hd0, hd1⟩ := hd
      clear ez ed hb hp hl
      by_cases h0 : d < 0
      · have HX := Lib.hid (HB.out (by simp [okD]; omega))
        clear HB HS
        go_wp2
        go_ret2
        exact ⟨ret2_int HX.out.1 HX.out.2, rfl⟩
      · by_cases h8 : 8 ≤ d
        · have HX := Lib.hid (HB.out (by simp [okD]; omega))
          clear HB HS h0
          go_wp2
          go_ret2
          exact ⟨ret2_int HX.out.1 HX.out.2, rfl⟩
        · have HX := Lib.hid (HS.out (by simp [okD]; omega))
          have h0' : 0 ≤ d := by omega
          have h8' : d < 8 := by omega
          clear HB HS h0 h8
          go_wp2
          go_round
          case rel => exact ⟨j + 1, by omega, by go_num, by rw [HX.out.1], HX.out.2⟩
          case measure => simp [intOf]; omega
    · obtain rfl : j = 4 := by omega
      have ht : l.take 4 = l := List.take_of_length_le (by rw [HL.out]; omega)
      have HX := Lib.hid (pg_good HL.out (by rw [← ht]; exact HA.out))
      have HT := Lib.hid ht
      clear ht
      go_wp2
      go_ret2
      exact ⟨ret2_int (by rw [HX.out.1, HT.out]) HX.out.2.symm, rfl⟩
theorem page_any (h : IntsAt w B A n l) (hi : ∀ d ∈ l, -9223372036854775808 ≤ d ∧ d ≤ 9223372036854775807) : Calls Try.prog 11 #[.slice A n c] w fun e w' => e = .returned (.tuple #[.int .i64 (pgI l), .int .i64 (pgE l)]) ∧ w = w' := by
  by_cases h4 : n = 4
  · subst h4; exact page_four h hi
  · have := pg_len (l := l) (by rw [h.len]; exact h4)
    rw [this.1, this.2]; exact page_len h4
theorem refPage_len (h : n ≠ 4) : Calls Try.prog 12 #[.slice A n c] w (Drawn (.tuple #[.int .i64 0, .int .i64 2]) w) := by
  have hb : ((n : Int) != 4) = true := by simp; omega
  go_enter Try.func12, Try.ntmps12
  go_wp2
  go_ret2
  exact ⟨rfl, 0, rfl⟩
set_option maxHeartbeats 400000 in
theorem refPage_four (h : IntsAt w B A 4 l) : Calls Try.prog 12 #[.slice A 4 c] w (Drawn (.tuple #[.int .i64 (pgI l), .int .i64 (pgE l)]) w) := by
  obtain ⟨a, rfl, _, hc⟩ := h.at_ (by omega)
  have HL := Lib.hid h.len
  have HC := Lib.hid hc
  clear h hc
  go_enter Try.func12, Try.ntmps12
  go_wp2
  go_loop [4] (fun i => ∃ j : Nat, j ≤ 4 ∧ i = .int .i64 j ∧ Hid ((l.take j).all okD = true)) (fun i => 4 - (intOf i).toNat)
  case atStart => exact ⟨0, by omega, rfl, rfl⟩
  case round =>
    obtain ⟨j, hj, rfl, HA⟩ := hrel
    by_cases hlt : j < 4
    · have hl : j < l.length := by rw [HL.out]; exact hlt
      obtain ⟨d, ed⟩ : ∃ d, d = l.getD j 0 := ⟨_, rfl⟩
      have hc := HC.out j hlt
      have HS : Hid (okD d = true → (l.take (j + 1)).all okD = true) := fun hk => all_snoc hl HA.out (by rw [← ed]; exact hk)
      have HB : Hid (okD d = false → 0 = pgI l ∧ 2 = pgE l) := fun hk => by
        have := pg_bad j hl (by rw [← ed]; exact hk)
        exact ⟨this.1.symm, this.2.symm⟩
      rw [← ed] at hc
      clear ed hl
      by_cases h0 : d < 0
      · have HX := Lib.hid (HB.out (by simp [okD]; omega))
        clear HB HS
        go_wp2
        go_ret2
        exact ⟨ret2_int HX.out.1 HX.out.2, 0, rfl⟩
      · by_cases h8 : 7 < d
        · have HX := Lib.hid (HB.out (by simp [okD]; omega))
          have h0' : 0 ≤ d := by omega
          clear HB HS h0
          go_wp2
          go_ret2
          exact ⟨ret2_int HX.out.1 HX.out.2, 0, rfl⟩
        · have HX := Lib.hid (HS.out (by simp [okD]; omega))
          have h0' : 0 ≤ d := by omega
          have h8' : d ≤ 7 := by omega
          clear HB HS h0 h8
          go_wp2
          go_round
          case rel => exact ⟨j + 1, by omega, by go_num, HX.out⟩
          case measure => simp [intOf]; omega
    · obtain rfl : j = 4 := by omega
      have ht : l.take 4 = l := List.take_of_length_le (by rw [HL.out]; omega)
      have HX := Lib.hid (pg_good HL.out (by rw [← ht]; exact HA.out))
      obtain ⟨d0, d1, d2, d3, rfl⟩ : ∃ d0 d1 d2 d3, l = [d0, d1, d2, d3] := by
        have := HL.out
        match l, this with
        | [d0, d1, d2, d3], _ => exact ⟨d0, d1, d2, d3, rfl⟩
      have hk := HA.out
      simp [okD] at hk
      have c0 : w.cell? a = some (.int .i64 d0) := HC.out 0 (by omega)
      have c1 : w.cell? ⟨a.block, a.off + 1, none⟩ = some (.int .i64 d1) := HC.out 1 (by omega)
      have c2 : w.cell? ⟨a.block, a.off + 2, none⟩ = some (.int .i64 d2) := HC.out 2 (by omega)
      have c3 : w.cell? ⟨a.block, a.off + 3, none⟩ = some (.int .i64 d3) := HC.out 3 (by omega)
      have HE : Hid (d0 * 512 + d1 * 64 + d2 * 8 + d3 = pgI [d0, d1, d2, d3]) := by
        show _ = _
        rw [HX.out.1]; simp only [hor, List.foldl]; omega
      have HE2 : Hid (0 = pgE [d0, d1, d2, d3]) := HX.out.2.symm
      obtain ⟨⟨k0, k0'⟩, ⟨k1, k1'⟩, ⟨k2, k2'⟩, k3, k3'⟩ := hk
      have s0 : IntKind.i64.wrap (d0 * 512) = d0 * 512 := IntWalk.i64_in _ (by omega)
      have s1 : IntKind.i64.wrap (d1 * 64) = d1 * 64 := IntWalk.i64_in _ (by omega)
      have s2 : IntKind.i64.wrap (d2 * 8) = d2 * 8 := IntWalk.i64_in _ (by omega)
      have s3 : IntKind.i64.wrap (d0 * 512 + d1 * 64) = d0 * 512 + d1 * 64 := IntWalk.i64_in _ (by omega)
      have s4 : IntKind.i64.wrap (d0 * 512 + d1 * 64 + d2 * 8) = d0 * 512 + d1 * 64 + d2 * 8 := IntWalk.i64_in _ (by omega)
      have s5 : IntKind.i64.wrap (d0 * 512 + d1 * 64 + d2 * 8 + d3) = d0 * 512 + d1 * 64 + d2 * 8 + d3 := IntWalk.i64_in _ (by omega)
      clear ht HX HL HA HC
      go_wp2_with fail
      go_quiet (fail)
      go_wp2_with fail
      go_ret2
      exact ⟨ret2_int HE.out HE2.out, _, rfl⟩
theorem refPage_any (h : IntsAt w B A n l) : Calls Try.prog 12 #[.slice A n c] w (Drawn (.tuple #[.int .i64 (pgI l), .int .i64 (pgE l)]) w) := by
  by_cases h4 : n = 4
  · subst h4; exact refPage_four h
  · have := pg_len (l := l) (by rw [h.len]; exact h4)
    rw [this.1, this.2]; exact refPage_len h4
end
section
variable {w : World} {B B' n c c' : Nat} {A A' : Option Addr} {l : List Int}
theorem numbers_same (h : IntsAt w B A n l) (h' : IntsAt w B' A' n l) (hm : n ≤ maxLen) : Calls Try.prog 14 #[.slice A n c, .slice A' n c'] w (Drawn (.bool true) w) := by
  unfold maxLen at hm
  have H := Lib.hid h
  have H' := Lib.hid h'
  clear h h'
  go_enter Try.func14, Try.ntmps14
  go_wp2
  go_loopw [5] (fun i wr => ∃ j k : Nat, j ≤ n ∧ i = .int .i64 j ∧ wr = w.drewN k) (fun i _ => n - (intOf i).toNat)
  case atStart => exact ⟨0, 0, Nat.zero_le _, rfl, rfl⟩
  case round =>
    obtain ⟨j, k, hj, rfl, rfl⟩ := hrel
    by_cases hlt : j < n
    · obtain ⟨a, rfl, _, hc⟩ := (H.out.drewN k).cell hlt
      obtain ⟨a', rfl, _, hc'⟩ := (H'.out.drewN k).cell hlt
      obtain ⟨d, ed⟩ : ∃ d, d = l.getD j 0 := ⟨_, rfl⟩
      rw [← ed] at hc hc'
      obtain ⟨w1, ew⟩ : ∃ w1, w1 = w.drewN k := ⟨_, rfl⟩
      rw [← ew] at hc hc' ⊢
      have HW := Lib.hid ew
      clear ed ew
      go_wp2_with fail
      go_quiet (fail)
      go_wp2_with fail
      go_roundw
      case rel => exact ⟨j + 1, k + _, by omega, by go_num, by rw [HW.out, drewN_add]⟩
      case measure => simp [intOf]; omega
    · go_wp2
      go_ret
      exact ⟨rfl, k, rfl⟩
end
end Go.Proofs.Ytbieecclnjpnpaa
