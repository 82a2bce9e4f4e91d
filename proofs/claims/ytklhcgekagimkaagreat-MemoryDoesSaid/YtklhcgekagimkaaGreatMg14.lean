/- The reference: the memory of a list of frames; Size, All, set, New, Free. -/
import Derived.Test.YtklhcgekagimkaaGreatMg13
namespace Go.Proofs.YtklhcgekagimkaaGreat
variable {Xc : Nat → Prop}
open Go.RowKit

def bcl (F : List Bool) : List Value := F.map Value.bool
theorem bcl_get (F : List Bool) (i : Nat) : (bcl F)[i]? = F[i]?.map Value.bool := by simp [bcl]
theorem bcl_set (F : List Bool) (i : Nat) (v : Bool) : (bcl F).set i (.bool v) = bcl (F.set i v) := by simp [bcl, List.map_set]
/-- The reference's frames in memory: the struct in block x, the frames in block y. -/
structure RefAt (w : World) (x y n : Nat) (F : List Bool) : Prop where
  len : F.length = n
  hi : n ≤ 1024
  top : Lrow w x 90 [.slice (some ⟨y, 0, none⟩) n n]
  row : Lrow w y 4 (bcl F)
section
variable {w w' : World} {x y n : Nat} {F G : List Bool}
theorem RefAt.field (h : RefAt w x y n F) : w.cell? ⟨x, 0, none⟩ = some (.slice (some ⟨y, 0, none⟩) n n) := by rw [h.top.cell]; rfl
theorem RefAt.ne (h : RefAt w x y n F) : x ≠ y := h.top.apart h.row (by decide)
theorem RefAt.at_ (h : RefAt w x y n F) {i : Nat} (hi : i < n) : ∃ v, F[i]? = some v ∧ w.cell? ⟨y, i, none⟩ = some (.bool v) := by
  have hl := h.len
  refine ⟨F[i]'(by omega), List.getElem?_eq_getElem _, ?_⟩
  rw [h.row.cell, bcl_get, List.getElem?_eq_getElem (by omega)]; rfl
theorem RefAt.call (h : RefAt w x y n F) (hb : Below w.heap.size w w') : RefAt w' x y n F := ⟨h.len, h.hi, h.top.call hb, h.row.call hb⟩
theorem RefAt.turn {B : Nat} (h : RefAt w x y n F) (ht : Turn Xc B w w') : RefAt w' x y n F := ⟨h.len, h.hi, ht.row _ _ _ h.top (by decide) (by decide), ht.row _ _ _ h.row (by decide) (by decide)⟩
theorem RefAt.alloc (h : RefAt w x y n F) (o : Obj) : RefAt (w.alloc o) x y n F := ⟨h.len, h.hi, h.top.alloc o, h.row.alloc o⟩
theorem RefAt.drewN (h : RefAt w x y n F) (q : Nat) : RefAt (w.drewN q) x y n F := ⟨h.len, h.hi, h.top, h.row⟩
theorem RefAt.grown {row : Option Nat} (h : RefAt w x y n F) (hg : w.grownBy w' row) (h1 : some x ≠ row) (h2 : some y ≠ row) : RefAt w' x y n F := ⟨h.len, h.hi, h.top.grown hg h1, h.row.grown hg h2⟩
theorem RefAt.turned (h : RefAt w x y n F) (hg : w.grownBy w' (some y)) (hr : Lrow w' y 4 (bcl G)) (hl : G.length = n) : RefAt w' x y n G :=
  ⟨hl, h.hi, h.top.grown hg (by simpa using h.ne), hr⟩

theorem size_any {k : Nat} (hk : k ≤ 8) (w : World) : Calls Tryz.prog 33 #[.int .i64 k] w fun e w' => e = .returned (.int .i64 (2 ^ k : Nat)) ∧ w = w' := by
  go_enter Tryz.func33, Tryz.ntmps33
  go_wp2
  go_loop [3, 4] (fun s i => ∃ j : Nat, j ≤ k ∧ i = .int .i64 j ∧ s = .int .i64 (2 ^ j : Nat)) (fun _ i => k - (intOf i).toNat)
  case atStart => exact ⟨0, Nat.zero_le _, rfl, rfl⟩
  case round =>
    obtain ⟨j, hj, rfl, rfl⟩ := hrel
    have hp := Nat.pow_le_pow_right (by omega : 0 < 2) (show j ≤ 8 by omega)
    have HE := Lib.hid (show ((2 ^ (j + 1) : Nat) : Int) = (2 ^ j : Nat) * 2 by rw [Nat.pow_succ]; simp)
    obtain ⟨m, hm⟩ : ∃ m, m = 2 ^ j := ⟨_, rfl⟩
    rw [← hm] at hp HE ⊢
    have HM := Lib.hid hm
    clear hm
    by_cases hlt : j < k
    · go_wp2
      go_round
      case rel => exact ⟨j + 1, by omega, by go_num, by rw [HE.out]⟩
      case measure => simp [intOf]; omega
    · obtain rfl : j = k := by omega
      go_wp2
      go_ret
      exact ⟨ret_int (by rw [HM.out]; simp), rfl⟩
theorem allB_no {F : List Bool} {a m i : Nat} {v : Bool} (hi : i < m) (h : F[a + i]? ≠ some v) : allB F a m v = false := by
  rw [← Bool.not_eq_true, allB_iff]
  intro hq
  exact h (hq (a + i) (by omega) (by omega))
theorem all_any (h : RefAt w x y n F) {a k : Nat} (hk : k ≤ 8) (ha : a ≤ 4096) (v : Bool) :
    Calls Tryz.prog 48 #[.pointer (some ⟨x, 0, none⟩), .int .i64 a, .int .i64 k, .bool v] w fun e w' => e = .returned (.bool (allB F a (2 ^ k) v)) ∧ w = w' := by
  have hc := h.field
  have hn := h.hi
  have HX := Lib.hid h
  have hS := fun W => size_any hk W
  have hp := Nat.pow_le_pow_right (by omega : 0 < 2) hk
  obtain ⟨m, hm⟩ : ∃ m, m = 2 ^ k := ⟨_, rfl⟩
  rw [← hm] at hS hp ⊢
  have HM := Lib.hid hm
  clear hm h
  go_enter Tryz.func48, Tryz.ntmps48
  go_wp2
  go_loop [9] (fun s => ∃ i : Nat, i ≤ m ∧ s = .int .i64 i ∧ (∀ j, j < i → F[a + j]? = some v)) (fun s => m - (intOf s).toNat)
  case atStart => exact ⟨0, Nat.zero_le _, rfl, fun j hj => by omega⟩
  case round =>
    obtain ⟨i, hi, rfl, hq⟩ := hrel
    have HQ := Lib.hid hq
    clear hq
    by_cases hlt : i < m
    · by_cases hin : a + i < n
      · obtain ⟨u, hu, hcu⟩ := HX.out.at_ hin
        have HU := Lib.hid hu
        clear hu
        by_cases hv : u = v
        · subst hv
          go_wp2_with (go_at_call 33; refine (hS _).mono ?_; rintro e w' ⟨rfl, rfl⟩)
          go_round
          case rel => exact ⟨i + 1, by omega, by go_num, fun j hj => by
              rcases Nat.lt_or_ge j i with g | g
              · exact HQ.out j g
              · rw [show j = i by omega]; exact HU.out⟩
          case measure => simp [intOf]; omega
        · have HF := Lib.hid (allB_no (F := F) (a := a) (v := v) hlt (by rw [HU.out]; intro e; injection e with e; exact hv e))
          have hb : (u != v) = true := by simpa using hv
          have hb2 : (u == v) = false := by simpa using hv
          clear hv
          go_wp2_with (go_at_call 33; refine (hS _).mono ?_; rintro e w' ⟨rfl, rfl⟩)
          go_ret
          exact ⟨ret_bool HF.out.symm, rfl⟩
      · have HF := Lib.hid (allB_no (F := F) (a := a) (v := v) hlt (by rw [List.getElem?_eq_none (by rw [HX.out.len]; omega)]; simp))
        have hge : (n : Int) ≤ a + i := by omega
        go_wp2_with (go_at_call 33; refine (hS _).mono ?_; rintro e w' ⟨rfl, rfl⟩)
        go_ret
        exact ⟨ret_bool HF.out.symm, rfl⟩
    · obtain rfl : i = m := by omega
      have HF : Hid (true = allB F a i v) := (allB_iff.2 (fun j h1 h2 => by
        have := HQ.out (j - a) (by omega)
        rwa [show a + (j - a) = j by omega] at this)).symm
      go_wp2_with (go_at_call 33; refine (hS _).mono ?_; rintro e w' ⟨rfl, rfl⟩)
      go_ret
      exact ⟨ret_bool HF.out, rfl⟩
theorem set_any (h : RefAt w x y n F) {a k : Nat} (hk : k ≤ 8) (ha : a + 2 ^ k ≤ n) (v : Bool) :
    Calls Tryz.prog 104 #[.pointer (some ⟨x, 0, none⟩), .int .i64 a, .int .i64 k, .bool v] w fun e w' => e = .returned (.tuple #[]) ∧ RefAt w' x y n (setR F a (2 ^ k) v) ∧ w.grownBy w' (some y) := by
  have hn := h.hi
  have HX := Lib.hid h
  have hS := fun W => size_any hk W
  obtain ⟨m, hm⟩ : ∃ m, m = 2 ^ k := ⟨_, rfl⟩
  rw [← hm] at hS ha ⊢
  have HM := Lib.hid hm
  clear hm h
  go_enter Tryz.func104, Tryz.ntmps104
  go_wp2
  go_loopw [8] (fun s wr => ∃ i : Nat, i ≤ m ∧ s = .int .i64 i ∧ RefAt wr x y n (setR F a i v) ∧ w.grownBy wr (some y)) (fun s _ => m - (intOf s).toNat)
  case atStart => exact ⟨0, Nat.zero_le _, rfl, HX.out, World.grownBy.refl _ _⟩
  case round =>
    obtain ⟨i, hi, rfl, hX, hG⟩ := hrel
    have hc := hX.field
    by_cases hlt : i < m
    · have hf := hX.row.frozen (a + i)
      obtain ⟨u, _, hcu⟩ := hX.at_ (show a + i < n by omega)
      have HX2 := Lib.hid (hX.turned (grown_set wr y (a + i) (.bool v)) (G := setR F a (i + 1) v) (by have := hX.row.set_ (a + i) (.bool v); rw [bcl_set] at this; exact this) (by rw [setR_length]; exact HX.out.len))
      have HG2 := Lib.hid (hG.trans (grown_set wr y (a + i) (.bool v)))
      clear hX hG
      go_wp2_with (go_at_call 33; refine (hS _).mono ?_; rintro e w' ⟨rfl, rfl⟩)
      go_roundw
      case rel => exact ⟨i + 1, by omega, by go_num, HX2.out, HG2.out⟩
      case measure => simp [intOf]; omega
    · obtain rfl : i = m := by omega
      have HX2 := Lib.hid hX
      have HG2 := Lib.hid hG
      clear hX hG
      go_wp2_with (go_at_call 33; refine (hS _).mono ?_; rintro e w' ⟨rfl, rfl⟩)
      go_end0
      exact ⟨rfl, HX2.out, HG2.out⟩
theorem count_take {F : List Bool} {i : Nat} {v : Bool} (h : F[i]? = some v) : (F.take (i + 1)).count true = (F.take i).count true + (if v = true then 1 else 0) := by
  have hl : i < F.length := by
    rcases Nat.lt_or_ge i F.length with g | g
    · exact g
    · rw [List.getElem?_eq_none g] at h; cases h
  rw [List.take_succ_eq_append_getElem hl, List.count_append]
  rw [List.getElem?_eq_getElem hl] at h
  injection h with h
  rw [h]
  cases v <;> rfl
theorem refFree_any (h : RefAt w x y n F) : Calls Tryz.prog 21 #[.pointer (some ⟨x, 0, none⟩)] w fun e w' => e = .returned (.int .i64 (F.count true : Nat)) ∧ w = w' := by
  have hc := h.field
  have hn := h.hi
  have HX := Lib.hid h
  clear h
  go_enter Tryz.func21, Tryz.ntmps21
  go_wp2
  go_loop [3, 4] (fun s i => ∃ j : Nat, j ≤ n ∧ i = .int .i64 j ∧ s = .int .i64 ((F.take j).count true : Nat)) (fun _ i => n - (intOf i).toNat)
  case atStart => exact ⟨0, Nat.zero_le _, rfl, by simp⟩
  case round =>
    obtain ⟨j, hj, rfl, rfl⟩ := hrel
    have hle : (F.take j).count true ≤ j := by
      have h1 : (F.take j).count true ≤ (F.take j).length := List.count_le_length
      rw [List.length_take] at h1; omega
    by_cases hlt : j < n
    · obtain ⟨u, hu, hcu⟩ := HX.out.at_ hlt
      have HU := Lib.hid (count_take hu)
      clear hu
      obtain ⟨m, hm⟩ : ∃ m, m = (F.take j).count true := ⟨_, rfl⟩
      rw [← hm] at hle HU ⊢
      clear hm
      cases u with
      | true =>
        go_wp2
        go_round
        case rel => exact ⟨j + 1, by omega, by go_num, by rw [HU.out]; go_num⟩
        case measure => simp [intOf]; omega
      | false =>
        go_wp2
        go_round
        case rel => exact ⟨j + 1, by omega, by go_num, by rw [HU.out]; rfl⟩
        case measure => simp [intOf]; omega
    · obtain rfl : j = n := by omega
      have HL := Lib.hid (show F.take j = F from List.take_of_length_le (by rw [HX.out.len]; exact Nat.le_refl _))
      go_wp2
      go_ret
      exact ⟨ret_int (by rw [HL.out]), rfl⟩
theorem refNew_bad {f : Int} (h : f < 8 ∨ 1024 < f) (w : World) : Calls Tryz.prog 31 #[.int .i64 f] w fun e w' => e = .returned (.tuple #[.pointer none, .int .i64 2]) ∧ w = w' := by
  rcases h with h | h
  · go_enter Tryz.func31, Tryz.ntmps31
    go_wp2
    go_ret2
    exact ⟨rfl, rfl⟩
  · have h8 : ¬ f < 8 := by omega
    go_enter Tryz.func31, Tryz.ntmps31
    go_wp2
    go_ret2
    exact ⟨rfl, rfl⟩
end
end Go.Proofs.YtklhcgekagimkaaGreat
