/- The reference: Blocks, Greatest. -/
import Derived.Test.YtklhcgekagimkaaGreatMg15
import Derived.Test.YtklhcgekagimkaaGreatMg08
namespace Go.Proofs.YtklhcgekagimkaaGreat
open Go.RowKit

/-- An order that may be none. -/
def kI : Option Nat → Int
  | none => -1
  | some k => k
theorem kb_succ (F : List Bool) (a j : Nat) : kb F a (j + 1) = if a % 2 ^ j = 0 ∧ allB F a (2 ^ j) true = true then some j else kb F a j := by
  have e : (freB F a j = true) ↔ (a % 2 ^ j = 0 ∧ allB F a (2 ^ j) true = true) := by
    unfold freB; rw [Bool.and_eq_true, decide_eq_true_eq]
  conv => lhs; unfold kb
  by_cases h : freB F a j = true
  · rw [if_pos h, if_pos (e.1 h)]
  · rw [if_neg h, if_neg (fun g => h (e.2 g))]
theorem kb_range {F : List Bool} {a j : Nat} : kb F a j = none ∨ ∃ k, kb F a j = some k ∧ k < j := by
  cases h : kb F a j with
  | none => exact Or.inl rfl
  | some k => exact Or.inr ⟨k, rfl, (kb_some h).1⟩
theorem blF_none {F : List Bool} {a : Nat} (h : a < F.length) (hk : kb F a 9 = none) : blF F (F.length - a) a = blF F (F.length - (a + 1)) (a + 1) := by
  obtain ⟨f, hf⟩ : ∃ f, F.length - a = f + 1 := ⟨F.length - a - 1, by omega⟩
  rw [hf]
  conv => lhs; unfold blF
  rw [if_pos h, hk]
  exact blF_more F _ _ _ (by omega) (by omega)
theorem blF_some {F : List Bool} {a k : Nat} (h : a < F.length) (hk : kb F a 9 = some k) : blF F (F.length - a) a = (a, k) :: blF F (F.length - (a + 2 ^ k)) (a + 2 ^ k) ∧ a + 2 ^ k ≤ F.length := by
  obtain ⟨f, hf⟩ : ∃ f, F.length - a = f + 1 := ⟨F.length - a - 1, by omega⟩
  have h1 := kb_some hk
  have hp := two_pos k
  have h2 : a + 2 ^ k ≤ F.length := by
    have := h1.2.1.2 (a + 2 ^ k - 1) (by omega) (by omega)
    rcases Nat.lt_or_ge (a + 2 ^ k - 1) F.length with g | g
    · omega
    · rw [List.getElem?_eq_none g] at this; cases this
  refine ⟨?_, h2⟩
  rw [hf]
  conv => lhs; unfold blF
  rw [if_pos h, hk]
  simp only
  rw [blF_more F f (F.length - (a + 2 ^ k)) (a + 2 ^ k) (by omega) (by omega)]
theorem own_form {W : World} {C n : Nat} {v : Value} {xs : List Value} (h : W.ownsRow C 92 2 v n xs) : ∃ A c, v = .slice A n c := by
  rcases h.2 with ⟨h1, h2⟩ | ⟨g, cap, cur, h1, _⟩
  · exact ⟨none, 0, by rw [h1, h2]⟩
  · exact ⟨_, _, h1⟩
section
variable {w : World} {x y n : Nat} {F : List Bool}
set_option maxHeartbeats 1000000 in
theorem refBlocks_any (h : RefAt w x y n F) : Calls Tryz.prog 24 #[.pointer (some ⟨x, 0, none⟩)] w (Lists (bk F) w) := by
  have hn := h.hi
  have hlen := h.len
  obtain ⟨i0, hi0, hz0, hz1, hz2⟩ := info_parts info_block
  have HI := Lib.hid (And.intro hi0 (And.intro hz0 (And.intro hz1 hz2)))
  have HX := Lib.hid h
  have HLN := Lib.hid hlen
  clear h hi0 hz0 hz1 hz2 hlen
  go_enter Tryz.func24, Tryz.ntmps24
  go_wp2
  go_loopw [3, 4] (fun v s wr => ∃ (a : Nat) (M : List (Nat × Nat)), a ≤ n ∧ s = .int .i64 a ∧ bk F = M ++ blF F (F.length - a) a ∧ M.length ≤ a ∧ wr.ownsRow w.heap.size 92 2 v M.length (bcells M) ∧ Below w.heap.size w wr) (fun _ s _ => n - (intOf s).toNat)
  case atStart => exact ⟨0, [], Nat.zero_le _, rfl, rfl, Nat.le_refl _, World.ownsRow_nil _ _ _ _, Below.refl _ _⟩
  case round =>
    obtain ⟨a, M, ha, rfl, hbk, hMa, hown, hb⟩ := hrel
    have hc := (HX.out.call hb).field
    have HBK := Lib.hid hbk
    have HO := Lib.hid hown
    have HB := Lib.hid hb
    have HXr := Lib.hid (HX.out.call hb)
    clear hbk hown hb
    by_cases hlt : a < n
    · have haF : a < F.length := by rw [HLN.out]; exact hlt
      have HAF := Lib.hid haF
      clear haF
      go_wp2
      clear hc
      go_loop [5, 6] (fun s t => ∃ j : Nat, j ≤ 9 ∧ t = .int .i64 j ∧ s = .int .i64 (kI (kb F a j))) (fun _ t => 9 - (intOf t).toNat)
      case atStart => exact ⟨0, by omega, rfl, rfl⟩
      case round =>
        obtain ⟨j, hj, rfl, rfl⟩ := hrel
        by_cases hlj : j < 9
        · have hj8 : j ≤ 8 := by omega
          have hS := fun W => size_any hj8 W
          have hAll := all_any HXr.out hj8 (show a ≤ 4096 by omega) true
          have HK := Lib.hid (kb_succ F a j)
          have hp := Nat.pow_le_pow_right (by omega : 0 < 2) hj8
          have hp0 := two_pos j
          obtain ⟨m, hm⟩ : ∃ m, m = 2 ^ j := ⟨_, rfl⟩
          rw [← hm] at hS hp hp0 HK hAll
          clear hm
          by_cases hr : a % m = 0
          · have hrb : ((a : Int) % m == 0) = true := by
              have e : ((a : Int) % m) = ((a % m : Nat) : Int) := by simp
              rw [e, hr]; rfl
            cases hab : allB F a m true with
            | true =>
              rw [hab] at hAll
              have HK2 : Hid (kb F a (j + 1) = some j) := by
                show _ = _
                rw [HK.out, if_pos ⟨hr, hab⟩]
              clear hr hab
              go_wp2_with (first | (go_at_call 33; refine (hS _).mono ?_; rintro e w' ⟨rfl, rfl⟩) | (go_at_call 48; refine Calls.mono hAll ?_; rintro e w' ⟨rfl, rfl⟩))
              go_round
              case rel => exact ⟨j + 1, by omega, by go_num, by rw [HK2.out]; rfl⟩
              case measure => simp [intOf]; omega
            | false =>
              rw [hab] at hAll
              have HK2 : Hid (kb F a (j + 1) = kb F a j) := by
                show _ = _
                rw [HK.out, if_neg (by rw [hab]; simp)]
              clear hr hab
              go_wp2_with (first | (go_at_call 33; refine (hS _).mono ?_; rintro e w' ⟨rfl, rfl⟩) | (go_at_call 48; refine Calls.mono hAll ?_; rintro e w' ⟨rfl, rfl⟩))
              go_round
              case rel => exact ⟨j + 1, by omega, by go_num, by rw [HK2.out]⟩
              case measure => simp [intOf]; omega
          · have hrb : ((a : Int) % m == 0) = false := by
              have e : ((a : Int) % m) = ((a % m : Nat) : Int) := by simp
              rw [e]; simp; omega
            have HK2 : Hid (kb F a (j + 1) = kb F a j) := by
              show _ = _
              rw [HK.out, if_neg (fun g => hr g.1)]
            clear hr
            go_wp2_with (first | (go_at_call 33; refine (hS _).mono ?_; rintro e w' ⟨rfl, rfl⟩) | (go_at_call 48; refine Calls.mono hAll ?_; rintro e w' ⟨rfl, rfl⟩))
            go_round
            case rel => exact ⟨j + 1, by omega, by go_num, by rw [HK2.out]⟩
            case measure => simp [intOf]; omega
        · obtain rfl : j = 9 := by omega
          cases hkb : kb F a 9 with
          | none =>
            have HKB := Lib.hid (blF_none HAF.out hkb)
            clear hkb
            go_wp2
            go_roundw
            case rel => exact ⟨a + 1, M, by omega, by go_num, by rw [← HKB.out]; exact HBK.out, by omega, HO.out, HB.out⟩
            case measure => simp [intOf]; omega
          | some k =>
            obtain ⟨hb1, hb2⟩ := blF_some HAF.out hkb
            have hk8 : k ≤ 8 := by have := (kb_some hkb).1; omega
            have HKB := Lib.hid hb1
            rw [HLN.out] at hb2
            have hS := fun W => size_any hk8 W
            have hp0 := two_pos k
            obtain ⟨m, hm⟩ : ∃ m, m = 2 ^ k := ⟨_, rfl⟩
            rw [← hm] at hS hp0 hb2
            have HM := Lib.hid hm
            clear hm hkb hb1
            have e0 : kI (some k) = (k : Int) := rfl
            rw [e0]
            clear e0
            have k0 : ¬ (k : Int) < 0 := by omega
            obtain ⟨hi0, hz0, hz1, hz2⟩ := HI.out
            have hown := HO.out
            have hsz := HB.out.size
            have HB2 := Lib.hid (HB.out.alloc hsz (.cells #[.int .i64 a, .int .i64 k] 92))
            go_wp2_with (at_builtin; refine wpList_append_own _ rfl _ _ 50 rfl w.heap.size 92 i0 (.agg #[.int .i64 0, .int .i64 0]) 2 16 Tryz.underlying50 hi0 hz0 hz1 hz2 rfl (by decide) _ M.length (bcells M) rfl (hown.alloc _) ⟨wr.heap.size, 0, none⟩ 1 1 [.int .i64 a, .int .i64 k] rfl rfl (new_cells wr a k) (two_one a k) (by unfold maxLen; omega) (by omega) (by simp; omega) ?_; intro v' w2 hown2 hgr hn2)
            have HO2 := Lib.hid hown2
            have HB3 := Lib.hid (own_below HB2.out HB2.out.size (hown.alloc _) hgr)
            clear hown hown2 hgr hn2 HB2 hsz hi0 hz0 hz1 hz2
            go_wp2_with (go_at_call 33; refine (hS _).mono ?_; rintro e w' ⟨rfl, rfl⟩)
            go_roundw
            case rel => exact ⟨a + m, M ++ [(a, k)], by omega, by go_num, by rw [HBK.out, HKB.out, HM.out]; simp, by simp; omega, by
                have h1 := HO2.out
                rw [bcells_append]
                simpa [bcells] using h1, HB3.out⟩
            case measure => simp [intOf]; omega
    · obtain rfl : a = n := by omega
      obtain ⟨A, cc, hv⟩ := own_form HO.out
      subst hv
      obtain ⟨_, hrow, _⟩ := own_row HO.out
      have HR := Lib.hid hrow
      have HE : Hid (bk F = M) := by
        show _ = _
        rw [HBK.out, HLN.out, Nat.sub_self]; simp [blF]
      clear hrow
      go_wp2
      go_ret
      refine ⟨A, cc, ?_, by rw [HE.out]; exact HR.out, HB.out⟩
      show Ending.returned (.slice A M.length cc) = _
      rw [HE.out]
end
end Go.Proofs.YtklhcgekagimkaaGreat
/- Sections turned; the calls that go to the layer below; Set. -/
namespace Go.Proofs.YtklhcgekagimkaaGreat
variable {Xc : Nat → Prop}
open Go.RowKit

/-- A stretch of numbers laid anew. -/
def setS (S : List Nat) (a : Nat) : Nat → Nat → List Nat
  | 0, _ => S
  | m + 1, v => (setS S a m v).set (a + m) v
theorem setS_length (S : List Nat) (a m v : Nat) : (setS S a m v).length = S.length := by
  induction m with
  | zero => rfl
  | succ m ih => simp [setS, ih]
theorem setS_get (S : List Nat) (a m v : Nat) (h : a + m ≤ S.length) (i : Nat) : (setS S a m v)[i]? = if a ≤ i ∧ i < a + m then some v else S[i]? := by
  induction m with
  | zero => rw [if_neg (by omega)]; rfl
  | succ m ih =>
    simp only [setS, List.getElem?_set, setS_length, ih (by omega)]
    by_cases h1 : a + m = i
    · rw [if_pos h1, if_pos (by omega), if_pos (by omega)]
    · rw [if_neg h1]
      by_cases h2 : a ≤ i ∧ i < a + m
      · rw [if_pos h2, if_pos (by omega)]
      · rw [if_neg h2, if_neg (by omega)]
theorem setS_le {S : List Nat} (h : ∀ x ∈ S, x ≤ 3) {a m v : Nat} (hv : v ≤ 3) : ∀ x ∈ setS S a m v, x ≤ 3 := by
  induction m with
  | zero => exact h
  | succ m ih =>
    intro x hx
    rcases List.mem_or_eq_of_mem_set hx with g | g
    · exact ih x g
    · omega
section
variable {w w' : World} {B k a g n : Nat} {F F' : List Bool} {S S' : List Nat}
/-- What a call that changes something comes to. -/
def KChg (Xc : Nat → Prop) (B k a g n : Nat) (r : Value) (G : List Bool) (S : List Nat) (w : World) (e : Ending) (w' : World) : Prop := e = .returned r ∧ Turn Xc B w w' ∧ KinX Xc B w' k a g n G S
set_option maxHeartbeats 1000000 in
set_option maxRecDepth 100000 in
theorem turn_any (h : KinX Xc B w k a g n F S) {f o kd : Nat} (ho : o ≤ 8) (hf : f + 2 ^ o ≤ n) (hk : kd ≤ 3) :
    Calls Tryz.prog 94 #[.pointer (some ⟨k, 0, none⟩), .agg #[.int .i64 f, .int .i64 o], .int .i64 kd] w (KChg Xc B k a g n (.tuple #[]) F (setS S (f / 8) (upr f o - f / 8) kd) w) := by
  obtain ⟨W, hW⟩ : ∃ W, W = w.alloc (.cells #[.int .i64 f, .int .i64 o] 92) := ⟨_, rfl⟩
  have hB : Below w.heap.size w W := by rw [hW]; exact (Below.refl _ _).alloc (Nat.le_refl _) _
  have hU := under_any (h.call hB) ho hf
  have hu := upr_gt f o
  have hv := upr_le hf
  rw [← h.cnt] at hv
  obtain ⟨m, em⟩ : ∃ m, m = upr f o - f / 8 := ⟨_, rfl⟩
  obtain ⟨s, es⟩ : ∃ s, s = f / 8 := ⟨_, rfl⟩
  rw [← es] at em
  rw [← es, ← em] at hU ⊢
  have hsm : s + m ≤ S.length := by omega
  have hS8 : S.length ≤ 128 := by have := h.cnt; have := h.hi; omega
  have HU := Lib.hid hU
  have HX := Lib.hid (h.call hB)
  have HB := Lib.hid hB
  have HW := Lib.hid hW
  have hlo := h.lo
  clear hU hB hW h em es hu hv
  go_enter Tryz.func94, Tryz.ntmps94
  go_wp2_with fail
  rw [← HW.out]
  refine HU.out.mono ?_
  rintro e w1 ⟨rfl, hb1⟩
  have HX1 := Lib.hid (HX.out.call hb1)
  have HT1 := Lib.hid (Turn.of_below (Xc := Xc) (B := B) (HB.out.trans (hb1.mono HB.out.size)) hlo)
  clear hb1 HX HB HU HW
  go_wp2_with fail
  go_loopw [13] (fun i wr => ∃ j : Nat, j ≤ m ∧ i = .int .i64 j ∧ Lrow wr g 3 (kcl (setS S s j kd)) ∧ w1.grownBy wr (some g)) (fun i _ => m - (intOf i).toNat)
  case atStart => exact ⟨0, Nat.zero_le _, rfl, HX1.out.row, World.grownBy.refl _ _⟩
  case round =>
    obtain ⟨j, hj, rfl, hr, hg⟩ := hrel
    by_cases hlt : j < m
    · have hcl : (kcl (setS S s j kd))[s + j]? = some (.int .i64 ((setS S s j kd).getD (s + j) 0 : Nat)) := by
        rw [kcl_get, getD_of _ 0 _ (by rw [setS_length]; omega)]; rfl
      have hc := (hr.cell (s + j)).trans hcl
      have hz := hr.frozen (s + j)
      have HR2 : Hid (Lrow (wr.setCell ⟨g, s + j, none⟩ (.int .i64 kd)) g 3 (kcl (setS S s (j + 1) kd))) := by
        have := hr.set_ (s + j) (.int .i64 kd)
        rw [kcl_set] at this
        exact this
      have HG2 := Lib.hid (hg.trans (grown_set wr g (s + j) (.int .i64 kd)))
      clear hr hg hcl
      go_wp2
      go_roundw
      case rel => exact ⟨j + 1, by omega, by go_num, HR2.out, HG2.out⟩
      case measure => simp [intOf]; omega
    · obtain rfl : j = m := by omega
      have HR2 := Lib.hid hr
      have HG2 := Lib.hid hg
      clear hr hg
      go_wp2
      go_end0
      exact ⟨rfl, HT1.out.grown HX1.out.row (Or.inl rfl) HX1.out.lg HX1.out.exg HG2.out, HX1.out.secTurn HG2.out HR2.out (setS_length _ _ _ _) (setS_le HX1.out.kin hk)⟩
theorem lower_nil (w : World) : Calls Tryz.prog 74 #[.pointer none] w fun e w' => e = .returned (.pointer none) ∧ w = w' := by
  go_enter Tryz.func74, Tryz.ntmps74
  go_wp2
  go_ret
  exact ⟨rfl, rfl⟩
theorem lower_any (h : KinX Xc B w k a g n F S) : Calls Tryz.prog 74 #[.pointer (some ⟨k, 0, none⟩)] w fun e w' => e = .returned (.pointer (some ⟨a, 0, none⟩)) ∧ w = w' := by
  have hc := h.c1
  clear h
  go_enter Tryz.func74, Tryz.ntmps74
  go_wp2
  go_ret
  exact ⟨rfl, rfl⟩
theorem kTakeAt_nil (f o : Int) (w : World) : Calls Tryz.prog 68 #[.pointer none, .int .i64 f, .int .i64 o] w fun e w' => e = .returned (.int .i64 1) ∧ ∃ q, w' = w.drewN q := by
  go_enter Tryz.func68, Tryz.ntmps68
  go_wp2_with (first | (go_at_call 74; refine (lower_nil _).mono ?_; rintro e w' ⟨rfl, rfl⟩) | (go_at_call 93; refine (takeAt_nil _ _ _).mono ?_; rintro e w' ⟨rfl, q, rfl⟩))
  go_ret
  exact ⟨rfl, q, rfl⟩
theorem kGive_nil (f o : Int) (w : World) : Calls Tryz.prog 63 #[.pointer none, .int .i64 f, .int .i64 o] w fun e w' => e = .returned (.int .i64 1) ∧ ∃ q, w' = w.drewN q := by
  go_enter Tryz.func63, Tryz.ntmps63
  go_wp2_with (first | (go_at_call 74; refine (lower_nil _).mono ?_; rintro e w' ⟨rfl, rfl⟩) | (go_at_call 85; refine (give_nil _ _ _).mono ?_; rintro e w' ⟨rfl, q, rfl⟩))
  go_ret
  exact ⟨rfl, q, rfl⟩
theorem kFree_nil (w : World) : Calls Tryz.prog 46 #[.pointer none] w fun e w' => e = .returned (.int .i64 0) ∧ w = w' := by
  go_enter Tryz.func46, Tryz.ntmps46
  go_wp2_with (first | (go_at_call 74; refine (lower_nil _).mono ?_; rintro e w' ⟨rfl, rfl⟩) | (go_at_call 75; refine (free_nil _).mono ?_; rintro e w' ⟨rfl, rfl⟩))
  go_ret
  exact ⟨rfl, rfl⟩
theorem kBlocks_nil (w : World) : Calls Tryz.prog 47 #[.pointer none] w fun e w' => e = .returned (.slice none 0 0) ∧ w = w' := by
  go_enter Tryz.func47, Tryz.ntmps47
  go_wp2_with (first | (go_at_call 74; refine (lower_nil _).mono ?_; rintro e w' ⟨rfl, rfl⟩) | (go_at_call 76; refine (blocks_nil _).mono ?_; rintro e w' ⟨rfl, rfl⟩))
  go_ret
  exact ⟨rfl, rfl⟩
theorem kHas_nil (f : Int) (w : World) : Calls Tryz.prog 62 #[.pointer none, .int .i64 f] w fun e w' => e = .returned (.bool false) ∧ w = w' := by
  go_enter Tryz.func62, Tryz.ntmps62
  go_wp2_with (first | (go_at_call 74; refine (lower_nil _).mono ?_; rintro e w' ⟨rfl, rfl⟩) | (go_at_call 84; refine (has_nil _ _).mono ?_; rintro e w' ⟨rfl, rfl⟩))
  go_ret
  exact ⟨rfl, rfl⟩
theorem kFreeOf_nil (t : Int) (w : World) : Calls Tryz.prog 44 #[.pointer none, .int .i64 t] w fun e w' => e = .returned (.int .i64 0) ∧ w = w' := by
  go_enter Tryz.func44, Tryz.ntmps44
  go_wp2_with (go_at_call 47; refine (kBlocks_nil _).mono ?_; rintro e w' ⟨rfl, rfl⟩)
  go_loop [5, 13] (fun a b => a = .int .i64 0 ∧ b = .int .i64 0) (fun _ _ => 0)
  case atStart => exact ⟨rfl, rfl⟩
  case round =>
    obtain ⟨rfl, rfl⟩ := hrel
    go_wp2
    go_ret
    exact ⟨rfl, rfl⟩
theorem kSet_nil (s t : Int) (w : World) : Calls Tryz.prog 69 #[.pointer none, .int .i64 s, .int .i64 t] w fun e w' => e = .returned (.int .i64 1) ∧ w = w' := by
  go_enter Tryz.func69, Tryz.ntmps69
  go_wp2
  go_ret
  exact ⟨rfl, rfl⟩
theorem kTake_nil (o t : Int) (w : World) : Calls Tryz.prog 67 #[.pointer none, .int .i64 o, .int .i64 t] w fun e w' => e = .returned (.tuple #[.int .i64 0, .int .i64 1]) ∧ w = w' := by
  go_enter Tryz.func67, Tryz.ntmps67
  go_wp2
  go_ret2
  exact ⟨rfl, rfl⟩
end
end Go.Proofs.YtklhcgekagimkaaGreat
/- The calls that go to the layer below, of a live one; Set. -/
namespace Go.Proofs.YtklhcgekagimkaaGreat
variable {Xc : Nat → Prop}
open Go.RowKit

/-- What Set answers, and the sections' kinds behind it. -/
def stE (m : Nat) (s t : Int) : Int := if s < 0 ∨ (m : Int) ≤ s then 3 else if t < 0 ∨ 3 < t then 2 else 0
def stS (S : List Nat) (s t : Int) : List Nat := if stE S.length s t = 0 then S.set s.toNat t.toNat else S
theorem stS_length (S : List Nat) (s t : Int) : (stS S s t).length = S.length := by unfold stS; split <;> simp
theorem stE_ok {m : Nat} {s t : Int} (h : stE m s t = 0) : 0 ≤ s ∧ s < m ∧ 0 ≤ t ∧ t ≤ 3 := by
  unfold stE at h
  split at h
  · omega
  · split at h <;> omega
theorem stS_le {S : List Nat} (h : ∀ x ∈ S, x ≤ 3) (s t : Int) : ∀ x ∈ stS S s t, x ≤ 3 := by
  unfold stS
  split
  · rename_i he
    have := stE_ok he
    intro x hx
    rcases List.mem_or_eq_of_mem_set hx with g | g
    · exact h x g
    · omega
  · exact h
section
variable {w w' : World} {B k a g n : Nat} {F F' : List Bool} {S S' : List Nat}
theorem kTakeAt_any (h : KinX Xc B w k a g n F S) (f o : Int) (hl : -9223372036854775808 ≤ f) (hh : f ≤ 9223372036854775807) :
    Calls Tryz.prog 68 #[.pointer (some ⟨k, 0, none⟩), .int .i64 f, .int .i64 o] w (KChg Xc B k a g n (.int .i64 (chE F f o false)) (chL F f o false) S w) := by
  have hL := lower_any h
  obtain ⟨L, h1, h2⟩ := h.bud
  have hT := takeAt_any h1 h2 h.len h.hi f o hl hh
  have hl2 : (chL F f o false).length = n := by rw [chL_length]; exact h.len
  generalize chE F f o false = E at hT ⊢
  generalize chL F f o false = G at hT hl2 ⊢
  have HX := Lib.hid h
  have HT := Lib.hid hT
  clear h h1 h2 hT
  go_enter Tryz.func68, Tryz.ntmps68
  go_wp2_with (first | (go_at_call 74; refine hL.mono ?_; rintro e w' ⟨rfl, rfl⟩))
  refine Calls.mono HT.out ?_
  rintro e w1 ⟨rfl, ht, L', hb, hg⟩
  have HX2 := Lib.hid (HX.out.budTurn ht hb hg hl2)
  have HT2 := Lib.hid (ht.weak (Y := Xc) fun b hb => Or.inl hb)
  clear ht hb hg
  go_wp2
  go_ret
  exact ⟨rfl, HT2.out, HX2.out⟩
theorem kGive_any (h : KinX Xc B w k a g n F S) (f o : Int) (hl : -9223372036854775808 ≤ f) (hh : f ≤ 9223372036854775807) :
    Calls Tryz.prog 63 #[.pointer (some ⟨k, 0, none⟩), .int .i64 f, .int .i64 o] w (KChg Xc B k a g n (.int .i64 (chE F f o true)) (chL F f o true) S w) := by
  have hL := lower_any h
  obtain ⟨L, h1, h2⟩ := h.bud
  have hT := give_any h1 h2 h.len h.hi f o hl hh
  have hl2 : (chL F f o true).length = n := by rw [chL_length]; exact h.len
  generalize chE F f o true = E at hT ⊢
  generalize chL F f o true = G at hT hl2 ⊢
  have HX := Lib.hid h
  have HT := Lib.hid hT
  clear h h1 h2 hT
  go_enter Tryz.func63, Tryz.ntmps63
  go_wp2_with (first | (go_at_call 74; refine hL.mono ?_; rintro e w' ⟨rfl, rfl⟩))
  refine Calls.mono HT.out ?_
  rintro e w1 ⟨rfl, ht, L', hb, hg⟩
  have HX2 := Lib.hid (HX.out.budTurn ht hb hg hl2)
  have HT2 := Lib.hid (ht.weak (Y := Xc) fun b hb => Or.inl hb)
  clear ht hb hg
  go_wp2
  go_ret
  exact ⟨rfl, HT2.out, HX2.out⟩
theorem kFree_any (h : KinX Xc B w k a g n F S) : Calls Tryz.prog 46 #[.pointer (some ⟨k, 0, none⟩)] w fun e w' => e = .returned (.int .i64 (F.count true : Nat)) ∧ w = w' := by
  have hL := lower_any h
  obtain ⟨L, h1, h2⟩ := h.bud
  have hT := free_any h1 h2 (by rw [h.len]; exact h.hi)
  generalize ((F.count true : Nat) : Int) = E at hT ⊢
  clear h h1 h2
  go_enter Tryz.func46, Tryz.ntmps46
  go_wp2_with (first | (go_at_call 74; refine hL.mono ?_; rintro e w' ⟨rfl, rfl⟩) | (go_at_call 75; refine hT.mono ?_; rintro e w' ⟨rfl, rfl⟩))
  go_ret
  exact ⟨rfl, rfl⟩
theorem kBlocks_any (h : KinX Xc B w k a g n F S) : Calls Tryz.prog 47 #[.pointer (some ⟨k, 0, none⟩)] w (Lists (bk F) w) := by
  have hL := lower_any h
  obtain ⟨L, h1, h2⟩ := h.bud
  have hT := blocks_any h1 h2 (by rw [h.len]; exact h.hi)
  generalize bk F = M at hT ⊢
  have HT := Lib.hid hT
  clear h h1 h2 hT
  go_enter Tryz.func47, Tryz.ntmps47
  go_wp2_with (first | (go_at_call 74; refine hL.mono ?_; rintro e w' ⟨rfl, rfl⟩))
  refine Calls.mono HT.out ?_
  rintro e w1 ⟨A, c, rfl, hr, hb⟩
  have HR := Lib.hid hr
  have HB := Lib.hid hb
  clear hr hb
  go_wp2
  go_ret
  exact ⟨A, c, rfl, HR.out, HB.out⟩
theorem kHas_any (h : KinX Xc B w k a g n F S) (f : Int) (hl : -9223372036854775808 ≤ f) (hh : f ≤ 9223372036854775807) : Calls Tryz.prog 62 #[.pointer (some ⟨k, 0, none⟩), .int .i64 f] w fun e w' => e = .returned (.bool (hasB F f)) ∧ Below w.heap.size w w' := by
  have hL := lower_any h
  obtain ⟨L, h1, h2⟩ := h.bud
  have hT := has_frame h1 h2 (by rw [h.len]; exact h.hi) f hl hh
  generalize hasB F f = v at hT ⊢
  have HT := Lib.hid hT
  clear h h1 h2 hT
  go_enter Tryz.func62, Tryz.ntmps62
  go_wp2_with (first | (go_at_call 74; refine hL.mono ?_; rintro e w' ⟨rfl, rfl⟩))
  refine Calls.mono HT.out ?_
  rintro e w1 ⟨rfl, hb⟩
  have HB := Lib.hid hb
  clear hb
  go_wp2
  go_ret
  exact ⟨rfl, HB.out⟩
theorem kSet_any (h : KinX Xc B w k a g n F S) (s t : Int) : Calls Tryz.prog 69 #[.pointer (some ⟨k, 0, none⟩), .int .i64 s, .int .i64 t] w (KChg Xc B k a g n (.int .i64 (stE S.length s t)) F (stS S s t) w) := by
  have hc := h.c2
  have hm : S.length ≤ 128 := by have := h.cnt; have := h.hi; omega
  have HX := Lib.hid h
  by_cases h1 : s < 0
  · have HE : Hid (3 = stE S.length s t) := by show _ = _; unfold stE; rw [if_pos (Or.inl h1)]
    have HS : Hid (S = stS S s t) := by show _ = _; unfold stS; rw [if_neg (by rw [← HE.out]; decide)]
    generalize stE S.length s t = E at HE ⊢
    generalize stS S s t = S2 at HS ⊢
    clear h
    go_enter Tryz.func69, Tryz.ntmps69
    go_wp2
    go_ret
    exact ⟨ret_int HE.out, Turn.refl B w, by rw [← HS.out]; exact HX.out⟩
  · by_cases h2 : (S.length : Int) ≤ s
    · have HE : Hid (3 = stE S.length s t) := by show _ = _; unfold stE; rw [if_pos (Or.inr h2)]
      have HS : Hid (S = stS S s t) := by show _ = _; unfold stS; rw [if_neg (by rw [← HE.out]; decide)]
      generalize stE S.length s t = E at HE ⊢
      generalize stS S s t = S2 at HS ⊢
      clear h
      go_enter Tryz.func69, Tryz.ntmps69
      go_wp2
      go_ret
      exact ⟨ret_int HE.out, Turn.refl B w, by rw [← HS.out]; exact HX.out⟩
    · by_cases h3 : t < 0
      · have HE : Hid (2 = stE S.length s t) := by show _ = _; unfold stE; rw [if_neg (by omega), if_pos (Or.inl h3)]
        have HS : Hid (S = stS S s t) := by show _ = _; unfold stS; rw [if_neg (by rw [← HE.out]; decide)]
        generalize stE S.length s t = E at HE ⊢
        generalize stS S s t = S2 at HS ⊢
        clear h
        go_enter Tryz.func69, Tryz.ntmps69
        go_wp2
        go_ret
        exact ⟨ret_int HE.out, Turn.refl B w, by rw [← HS.out]; exact HX.out⟩
      · by_cases h4 : 3 < t
        · have HE : Hid (2 = stE S.length s t) := by show _ = _; unfold stE; rw [if_neg (by omega), if_pos (Or.inr h4)]
          have HS : Hid (S = stS S s t) := by show _ = _; unfold stS; rw [if_neg (by rw [← HE.out]; decide)]
          generalize stE S.length s t = E at HE ⊢
          generalize stS S s t = S2 at HS ⊢
          clear h
          go_enter Tryz.func69, Tryz.ntmps69
          go_wp2
          go_ret
          exact ⟨ret_int HE.out, Turn.refl B w, by rw [← HS.out]; exact HX.out⟩
        · have HE : Hid (0 = stE S.length s t) := by show _ = _; unfold stE; rw [if_neg (by omega), if_neg (by omega)]
          have HS : Hid (S.set s.toNat t.toNat = stS S s t) := by show _ = _; unfold stS; rw [if_pos HE.out.symm]
          have HL := Lib.hid (stS_length S s t)
          have HK := Lib.hid (stS_le h.kin s t)
          generalize stE S.length s t = E at HE ⊢
          generalize stS S s t = S2 at HS HL HK ⊢
          obtain ⟨s, rfl⟩ : ∃ x : Nat, s = x := ⟨s.toNat, by omega⟩
          obtain ⟨t, rfl⟩ : ∃ x : Nat, t = x := ⟨t.toNat, by omega⟩
          simp only [Int.toNat_natCast] at HS
          have hsl : s < S.length := by omega
          have hcs := h.at_ hsl
          have hz := h.row.frozen s
          have HR : Hid (Lrow (w.setCell ⟨g, s, none⟩ (.int .i64 t)) g 3 (kcl S2)) := by
            have := h.row.set_ s (.int .i64 t)
            rw [kcl_set, HS.out] at this
            exact this
          obtain ⟨m, em⟩ : ∃ m, m = S.length := ⟨_, rfl⟩
          rw [← em] at hc hm h2 hsl
          have HM := Lib.hid em
          clear h em h1 h3
          go_enter Tryz.func69, Tryz.ntmps69
          go_wp2
          go_ret
          exact ⟨ret_int HE.out, (Turn.refl B w).grown HX.out.row (Or.inl rfl) HX.out.lg HX.out.exg (grown_set _ _ _ _), HX.out.secTurn (grown_set _ _ _ _) HR.out HL.out HK.out⟩
end
end Go.Proofs.YtklhcgekagimkaaGreat
