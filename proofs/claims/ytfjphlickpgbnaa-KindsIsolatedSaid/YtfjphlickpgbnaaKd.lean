/- Sections turned; the calls that go to the layer below; Set. -/
import Derived.Test.YtfjphlickpgbnaaKc
import Derived.Test.YtfjphlickpgbnaaCm
namespace Go.Proofs.Ytfjphlickpgbnaa
variable {Xc : Nat → Prop}
open Go.RowKit

/-- A stretch of numbers laid anew. -/
def setS (S : List Nat) (a : Nat) : Nat → Nat → List Nat
  | 0, _ => S
  | m + 1, v => (setS S a m v).set (a + m) v
theorem setS_length (S : List Nat) (a m v : Nat) : (setS S a m v).length = S.length := by
  induction m with
  | zero => rfl
  | succ m ih => simp [setS, ih]
theorem setS_get (S : List Nat) (a m v : Nat) (h : a + m ≤ S.length) (i : Nat) : (setS S a m v)[i]? = if a ≤ i ∧ i < a + m then some v else S[i]? := by
  induction m with
  | zero => rw [if_neg (by omega)]; rfl
  | succ m ih =>
    simp only [setS, List.getElem?_set, setS_length, ih (by omega)]
    by_cases h1 : a + m = i
    · rw [if_pos h1, if_pos (by omega), if_pos (by omega)]
    · rw [if_neg h1]
      by_cases h2 : a ≤ i ∧ i < a + m
      · rw [if_pos h2, if_pos (by omega)]
      · rw [if_neg h2, if_neg (by omega)]
theorem setS_le {S : List Nat} (h : ∀ x ∈ S, x ≤ 3) {a m v : Nat} (hv : v ≤ 3) : ∀ x ∈ setS S a m v, x ≤ 3 := by
  induction m with
  | zero => exact h
  | succ m ih =>
    intro x hx
    rcases List.mem_or_eq_of_mem_set hx with g | g
    · exact ih x g
    · omega
section
variable {w w' : World} {B k a g n : Nat} {F F' : List Bool} {S S' : List Nat}
/-- What a call that changes something comes to. -/
def KChg (Xc : Nat → Prop) (B k a g n : Nat) (r : Value) (G : List Bool) (S : List Nat) (w : World) (e : Ending) (w' : World) : Prop := e = .returned r ∧ Turn Xc B w w' ∧ KinX Xc B w' k a g n G S
set_option maxHeartbeats 1000000 in
set_option maxRecDepth 100000 in
theorem turn_any (h : KinX Xc B w k a g n F S) {f o kd : Nat} (ho : o ≤ 8) (hf : f + 2 ^ o ≤ n) (hk : kd ≤ 3) :
    Calls Try.prog 38 #[.pointer (some ⟨k, 0, none⟩), .agg #[.int .i64 f, .int .i64 o], .int .i64 kd] w (KChg Xc B k a g n (.tuple #[]) F (setS S (f / 8) (upr f o - f / 8) kd) w) := by
  obtain ⟨W, hW⟩ : ∃ W, W = w.alloc (.cells #[.int .i64 f, .int .i64 o] 53) := ⟨_, rfl⟩
  have hB : Below w.heap.size w W := by rw [hW]; exact (Below.refl _ _).alloc (Nat.le_refl _) _
  have hU := under_any (h.call hB) ho hf
  have hu := upr_gt f o
  have hv := upr_le hf
  rw [← h.cnt] at hv
  obtain ⟨m, em⟩ : ∃ m, m = upr f o - f / 8 := ⟨_, rfl⟩
  obtain ⟨s, es⟩ : ∃ s, s = f / 8 := ⟨_, rfl⟩
  rw [← es] at em
  rw [← es, ← em] at hU ⊢
  have hsm : s + m ≤ S.length := by omega
  have hS8 : S.length ≤ 128 := by have := h.cnt; have := h.hi; omega
  have HU := Lib.hid hU
  have HX := Lib.hid (h.call hB)
  have HB := Lib.hid hB
  have HW := Lib.hid hW
  have hlo := h.lo
  clear hU hB hW h em es hu hv
  go_enter Try.func38, Try.ntmps38
  go_wp2_with fail
  rw [← HW.out]
  refine HU.out.mono ?_
  rintro e w1 ⟨rfl, hb1⟩
  have HX1 := Lib.hid (HX.out.call hb1)
  have HT1 := Lib.hid (Turn.of_below (Xc := Xc) (B := B) (HB.out.trans (hb1.mono HB.out.size)) hlo)
  clear hb1 HX HB HU HW
  go_wp2_with fail
  go_loopw [13] (fun i wr => ∃ j : Nat, j ≤ m ∧ i = .int .i64 j ∧ Lrow wr g 3 (kcl (setS S s j kd)) ∧ w1.grownBy wr (some g)) (fun i _ => m - (intOf i).toNat)
  case atStart => exact ⟨0, Nat.zero_le _, rfl, HX1.out.row, World.grownBy.refl _ _⟩
  case round =>
    obtain ⟨j, hj, rfl, hr, hg⟩ := hrel
    by_cases hlt : j < m
    · have hcl : (kcl (setS S s j kd))[s + j]? = some (.int .i64 ((setS S s j kd).getD (s + j) 0 : Nat)) := by
        rw [kcl_get, getD_of _ 0 _ (by rw [setS_length]; omega)]; rfl
      have hc := (hr.cell (s + j)).trans hcl
      have hz := hr.frozen (s + j)
      have HR2 : Hid (Lrow (wr.setCell ⟨g, s + j, none⟩ (.int .i64 kd)) g 3 (kcl (setS S s (j + 1) kd))) := by
        have := hr.set_ (s + j) (.int .i64 kd)
        rw [kcl_set] at this
        exact this
      have HG2 := Lib.hid (hg.trans (grown_set wr g (s + j) (.int .i64 kd)))
      clear hr hg hcl
      go_wp2
      go_roundw
      case rel => exact ⟨j + 1, by omega, by go_num, HR2.out, HG2.out⟩
      case measure => simp [intOf]; omega
    · obtain rfl : j = m := by omega
      have HR2 := Lib.hid hr
      have HG2 := Lib.hid hg
      clear hr hg
      go_wp2
      go_end0
      exact ⟨rfl, HT1.out.grown HX1.out.row (Or.inl rfl) HX1.out.lg HX1.out.exg HG2.out, HX1.out.secTurn HG2.out HR2.out (setS_length _ _ _ _) (setS_le HX1.out.kin hk)⟩
theorem lower_nil (w : World) : Calls Try.prog 39 #[.pointer none] w fun e w' => e = .returned (.pointer none) ∧ w = w' := by
  go_enter Try.func39, Try.ntmps39
  go_wp2
  go_ret
  exact ⟨rfl, rfl⟩
theorem lower_any (h : KinX Xc B w k a g n F S) : Calls Try.prog 39 #[.pointer (some ⟨k, 0, none⟩)] w fun e w' => e = .returned (.pointer (some ⟨a, 0, none⟩)) ∧ w = w' := by
  have hc := h.c1
  clear h
  go_enter Try.func39, Try.ntmps39
  go_wp2
  go_ret
  exact ⟨rfl, rfl⟩
theorem kTakeAt_nil (f o : Int) (w : World) : Calls Try.prog 22 #[.pointer none, .int .i64 f, .int .i64 o] w fun e w' => e = .returned (.int .i64 1) ∧ ∃ q, w' = w.drewN q := by
  go_enter Try.func22, Try.ntmps22
  go_wp2_with (first | (go_at_call 39; refine (lower_nil _).mono ?_; rintro e w' ⟨rfl, rfl⟩) | (go_at_call 37; refine (takeAt_nil _ _ _).mono ?_; rintro e w' ⟨rfl, q, rfl⟩))
  go_ret
  exact ⟨rfl, q, rfl⟩
theorem kGive_nil (f o : Int) (w : World) : Calls Try.prog 23 #[.pointer none, .int .i64 f, .int .i64 o] w fun e w' => e = .returned (.int .i64 1) ∧ ∃ q, w' = w.drewN q := by
  go_enter Try.func23, Try.ntmps23
  go_wp2_with (first | (go_at_call 39; refine (lower_nil _).mono ?_; rintro e w' ⟨rfl, rfl⟩) | (go_at_call 42; refine (give_nil _ _ _).mono ?_; rintro e w' ⟨rfl, q, rfl⟩))
  go_ret
  exact ⟨rfl, q, rfl⟩
theorem kFree_nil (w : World) : Calls Try.prog 21 #[.pointer none] w fun e w' => e = .returned (.int .i64 0) ∧ w = w' := by
  go_enter Try.func21, Try.ntmps21
  go_wp2_with (first | (go_at_call 39; refine (lower_nil _).mono ?_; rintro e w' ⟨rfl, rfl⟩) | (go_at_call 41; refine (free_nil _).mono ?_; rintro e w' ⟨rfl, rfl⟩))
  go_ret
  exact ⟨rfl, rfl⟩
theorem kBlocks_nil (w : World) : Calls Try.prog 19 #[.pointer none] w fun e w' => e = .returned (.slice none 0 0) ∧ w = w' := by
  go_enter Try.func19, Try.ntmps19
  go_wp2_with (first | (go_at_call 39; refine (lower_nil _).mono ?_; rintro e w' ⟨rfl, rfl⟩) | (go_at_call 40; refine (blocks_nil _).mono ?_; rintro e w' ⟨rfl, rfl⟩))
  go_ret
  exact ⟨rfl, rfl⟩
theorem kHas_nil (f : Int) (w : World) : Calls Try.prog 26 #[.pointer none, .int .i64 f] w fun e w' => e = .returned (.bool false) ∧ w = w' := by
  go_enter Try.func26, Try.ntmps26
  go_wp2_with (first | (go_at_call 39; refine (lower_nil _).mono ?_; rintro e w' ⟨rfl, rfl⟩) | (go_at_call 44; refine (has_nil _ _).mono ?_; rintro e w' ⟨rfl, rfl⟩))
  go_ret
  exact ⟨rfl, rfl⟩
theorem kFreeOf_nil (t : Int) (w : World) : Calls Try.prog 25 #[.pointer none, .int .i64 t] w fun e w' => e = .returned (.int .i64 0) ∧ w = w' := by
  go_enter Try.func25, Try.ntmps25
  go_wp2_with (go_at_call 19; refine (kBlocks_nil _).mono ?_; rintro e w' ⟨rfl, rfl⟩)
  go_loop [5, 13] (fun a b => a = .int .i64 0 ∧ b = .int .i64 0) (fun _ _ => 0)
  case atStart => exact ⟨rfl, rfl⟩
  case round =>
    obtain ⟨rfl, rfl⟩ := hrel
    go_wp2
    go_ret
    exact ⟨rfl, rfl⟩
theorem kSet_nil (s t : Int) (w : World) : Calls Try.prog 24 #[.pointer none, .int .i64 s, .int .i64 t] w fun e w' => e = .returned (.int .i64 1) ∧ w = w' := by
  go_enter Try.func24, Try.ntmps24
  go_wp2
  go_ret
  exact ⟨rfl, rfl⟩
theorem kTake_nil (o t : Int) (w : World) : Calls Try.prog 15 #[.pointer none, .int .i64 o, .int .i64 t] w fun e w' => e = .returned (.tuple #[.int .i64 0, .int .i64 1]) ∧ w = w' := by
  go_enter Try.func15, Try.ntmps15
  go_wp2
  go_ret2
  exact ⟨rfl, rfl⟩
end
end Go.Proofs.Ytfjphlickpgbnaa
