/- The reference: New and Change. -/
import Derived.Test.YtklhcgekagimkaaGreatMg14
namespace Go.Proofs.YtklhcgekagimkaaGreat
open Go.RowKit

theorem info_bool : (Tryz.prog.info? 4).map (fun i => (i.zero, i.size, i.bytes)) = some (some (.bool false), 1, 1) := by kernel_rfl
theorem made_bools (n : Nat) : (madeCells #[Value.bool false] n).toList = bcl (List.replicate n false) := by
  apply List.ext_getElem?
  intro i
  rw [bcl_get, List.getElem?_replicate]
  simp only [madeCells, Array.getElem?_toList, Array.getElem?_map]
  by_cases hi : i < n
  · rw [if_pos hi]
    simp [hi, Nat.mod_one]
  · rw [if_neg hi]
    simp; omega
section
variable {w w' : World} {x y n : Nat} {F G : List Bool}
/-- A new reference of n frames, all of them free. -/
def RefNewly (n : Nat) (w : World) (e : Ending) (w' : World) : Prop :=
  e = .returned (.tuple #[.pointer (some ⟨w.heap.size + 1, 0, none⟩), .int .i64 0]) ∧ Below w.heap.size w w' ∧ RefAt w' (w.heap.size + 1) w.heap.size n (List.replicate n true)
theorem refNew_any (n : Nat) (h1 : 8 ≤ n) (h2 : n ≤ 1024) (w : World) : Calls Tryz.prog 31 #[.int .i64 n] w (RefNewly n w) := by
  have hmk : ∀ w : World, (Instr.makeSlice 88 (.int .i64 (n : Int)) (.int .i64 (n : Int))).run Tryz.prog w = .ok (.slice (some ⟨w.heap.size, 0, none⟩) n n) (w.alloc (.cells (madeCells #[.bool false] n) 4)) := fun w =>
    run_make_row' (P := Tryz.prog) 88 4 (.bool false) 1 Tryz.underlying88 info_bool rfl .i64 .i64 n (by omega) (by omega) w
  have hr : RefAt ((w.alloc (.cells (madeCells #[.bool false] n) 4)).alloc (.cells #[.slice (some ⟨w.heap.size, 0, none⟩) n n] 90)) (w.heap.size + 1) w.heap.size n (upto n 0) := by
    refine ⟨upto_len (Nat.zero_le _), h2, ?_, ?_⟩
    · have := Lrow.new (w.alloc (.cells (madeCells #[.bool false] n) 4)) 90 [.slice (some ⟨w.heap.size, 0, none⟩) n n]
      rw [World.size_alloc] at this; exact this
    · have := Lrow.new w 4 (bcl (List.replicate n false))
      rw [← made_bools] at this
      rw [upto_zero, ← made_bools]
      simpa using this.alloc _
  have HR := Lib.hid hr
  have HB := Lib.hid (((Below.refl w.heap.size w).alloc (Nat.le_refl _) (.cells (madeCells #[.bool false] n) 4)).alloc (by simp) (.cells #[.slice (some ⟨w.heap.size, 0, none⟩) n n] 90))
  clear hr
  go_enter Tryz.func31, Tryz.ntmps31
  go_wp2
  clear hmk
  generalize (w.alloc (.cells (madeCells #[.bool false] n) 4)).alloc (.cells #[.slice (some ⟨w.heap.size, 0, none⟩) n n] 90) = w1 at HR HB ⊢
  go_loopw [5] (fun s wr => ∃ i : Nat, i ≤ n ∧ s = .int .i64 i ∧ RefAt wr (w.heap.size + 1) w.heap.size n (upto n i) ∧ Below w.heap.size w wr) (fun s _ => n - (intOf s).toNat)
  case atStart => exact ⟨0, Nat.zero_le _, rfl, HR.out, HB.out⟩
  case round =>
    obtain ⟨i, hi, rfl, hX, hB⟩ := hrel
    have hc := hX.field
    have hsz := hB.size
    have hgt : w.heap.size + 1 < wr.heap.size := hX.top.lt
    by_cases hlt : i < n
    · have hf := hX.row.frozen i
      obtain ⟨u, _, hcu⟩ := hX.at_ hlt
      have hj := (upto_join hlt).eq
      have hs1 : setR (upto n i) i 1 true = (upto n i).set i true := rfl
      rw [Nat.pow_zero, hs1] at hj
      have HX2 := Lib.hid (hX.turned (grown_set wr w.heap.size i (.bool true)) (G := upto n (i + 1)) (by have := hX.row.set_ i (.bool true); rw [bcl_set, hj] at this; exact this) (upto_len (by omega)))
      have HB2 := Lib.hid (hB.setCell (p := ⟨w.heap.size, i, none⟩) (Nat.le_refl _) (.bool true))
      clear hX hB hj hs1
      go_wp2
      go_roundw
      case rel => exact ⟨i + 1, by omega, by go_num, HX2.out, HB2.out⟩
      case measure => simp [intOf]; omega
    · obtain rfl : i = n := by omega
      have HX2 := Lib.hid hX
      have HB2 := Lib.hid hB
      clear hX hB
      go_wp2
      go_ret2
      exact ⟨rfl, HB2.out, by rw [← upto_all]; exact HX2.out⟩
theorem tmod_zero (f : Int) (M : Nat) : f.tmod M = 0 ↔ f % M = 0 := by
  rw [← Int.dvd_iff_tmod_eq_zero, ← Int.dvd_iff_emod_eq_zero]
/-- A change of the reference. -/
def RefChg (x y n : Nat) (E : Int) (G : List Bool) (w : World) (e : Ending) (w' : World) : Prop := e = .returned (.int .i64 E) ∧ RefAt w' x y n G ∧ w.grownBy w' (some y)
theorem refChange_any (h : RefAt w x y n F) (f o : Int) (hl : -9223372036854775808 ≤ f) (hh : f ≤ 9223372036854775807) (v : Bool) :
    Calls Tryz.prog 81 #[.pointer (some ⟨x, 0, none⟩), .int .i64 f, .int .i64 o, .bool v] w (RefChg x y n (chE F f o v) (chL F f o v) w) := by
  have hn := h.hi
  have HX := Lib.hid h
  have hlen := h.len
  by_cases hk : ckE n f o = 0
  · obtain ⟨a, k, rfl, rfl, hk8, hal, hfit⟩ := ckE_ok hk
    have hce : chE F a k v = (if allB F a (2 ^ k) (!v) = true then 0 else 12) := chE_good v (by rw [hlen]; exact hk)
    have hc := h.field
    have ha4 : a ≤ 4096 := by have := two_pos k; omega
    have HA : Hid (∀ W, RefAt W x y n F → Calls Tryz.prog 48 #[.pointer (some ⟨x, 0, none⟩), .int .i64 a, .int .i64 k, .bool (!v)] W fun e w' => e = .returned (.bool (allB F a (2 ^ k) (!v))) ∧ W = w') := fun W hW => all_any hW hk8 ha4 (!v)
    have HST : Hid (∀ W, RefAt W x y n F → Calls Tryz.prog 104 #[.pointer (some ⟨x, 0, none⟩), .int .i64 a, .int .i64 k, .bool v] W fun e w' => e = .returned (.tuple #[]) ∧ RefAt w' x y n (setR F a (2 ^ k) v) ∧ W.grownBy w' (some y)) := fun W hW => set_any hW hk8 hfit v
    have HLn : Hid (chE F a k v = 0 → chL F a k v = setR F a (2 ^ k) v) := fun e => by
      have := chL_of e
      simpa using this
    have HLf : Hid (chE F a k v = 12 → chL F a k v = F) := fun e => by
      unfold chL; rw [e, if_neg (by decide)]
    have hS := fun W => size_any hk8 W
    have hp := Nat.pow_le_pow_right (by omega : 0 < 2) hk8
    have hp0 := two_pos k
    generalize chE F a k v = E at hce HLn HLf ⊢
    generalize chL F a k v = G at HLn HLf ⊢
    generalize allB F a (2 ^ k) (!v) = ab at hce HA
    generalize setR F a (2 ^ k) v = F' at HST HLn
    obtain ⟨m, hm⟩ : ∃ m, m = 2 ^ k := ⟨_, rfl⟩
    rw [← hm] at hS hp hp0 hfit hal
    clear hm
    have hSq : ∀ W, Calls Tryz.prog 33 #[.int .i64 k] W fun e w' => e = .returned (.int .i64 m) ∧ w' = W := fun W => (hS W).mono fun _ _ ⟨h1, h2⟩ => ⟨h1, h2.symm⟩
    have hr : (a : Int) % m = 0 := by
      have e : ((a : Int) % m) = ((a % m : Nat) : Int) := by simp
      rw [e, hal]; rfl
    have hrb : ((a : Int) % m != 0) = false := by simp [hr]
    have h0 : (0 : Int) ≤ a := by omega
    have hd1 : decide ((a : Int) < 0) = false := by simp
    have hd2 : decide ((n : Int) ≤ a) = false := by simp; omega
    have hd3 : decide (n ≤ a) = false := by simp; omega
    have hd4 : decide ((n : Int) - a < m) = false := by simp; omega
    have hsb : IntKind.i64.wrap ((n : Int) - a) = n - a := IntWalk.i64_in _ (by omega)
    have hgt : ¬ (n : Int) - a < m := by omega
    have HR := Lib.hid hr
    clear hr h hk hal
    cases ab with
    | true =>
      have HE : Hid (0 = E ∧ G = F') := ⟨by rw [hce]; rfl, HLn.out (by rw [hce]; rfl)⟩
      clear hce HLn HLf
      go_enter Tryz.func81, Tryz.ntmps81
      go_wp2_with (go_at_call 33; refine (hS _).mono ?_; rintro e w' ⟨rfl, rfl⟩)
      go_quiet ((go_at_call 33; exact Calls.quiet_of_same (hSq _)))
      go_wp2_with fail
      refine Calls.mono (HA.out _ (HX.out.drewN _)) ?_
      rintro e w1 ⟨rfl, rfl⟩
      go_wp2_with fail
      refine Calls.mono (HST.out _ (HX.out.drewN _)) ?_
      rintro e w2 ⟨rfl, hx2, hg2⟩
      have HX2 := Lib.hid hx2
      have HG2 := Lib.hid ((grown_drewN w _ _).trans hg2)
      clear hx2 hg2
      go_wp2
      go_ret
      exact ⟨ret_int HE.out.1, by rw [HE.out.2]; exact HX2.out, HG2.out⟩
    | false =>
      have HE : Hid (12 = E ∧ G = F) := ⟨by rw [hce]; rfl, HLf.out (by rw [hce]; rfl)⟩
      clear hce HLn HLf
      go_enter Tryz.func81, Tryz.ntmps81
      go_wp2_with (go_at_call 33; refine (hS _).mono ?_; rintro e w' ⟨rfl, rfl⟩)
      go_quiet ((go_at_call 33; exact Calls.quiet_of_same (hSq _)))
      go_wp2_with fail
      refine Calls.mono (HA.out _ (HX.out.drewN _)) ?_
      rintro e w1 ⟨rfl, rfl⟩
      go_wp2
      go_ret
      exact ⟨ret_int HE.out.1, by rw [HE.out.2]; exact HX.out.drewN _, grown_drewN w _ _⟩
  · obtain ⟨e1, e2⟩ := chE_bad (F := F) v (by rw [hlen]; exact hk)
    rw [e1, e2, hlen]
    clear e1 e2
    have hc := h.field
    rcases Bool.eq_false_or_eq_true (orB o) with ho | ho
    · have h1 : 0 ≤ o ∧ o ≤ 8 := by simpa [orB] using ho
      obtain ⟨k, rfl⟩ : ∃ k : Nat, o = k := ⟨o.toNat, by omega⟩
      have hk8 : k ≤ 8 := by omega
      have hS := fun W => size_any hk8 W
      have hp := Nat.pow_le_pow_right (by omega : 0 < 2) hk8
      have hp0 := two_pos k
      have hE : ckE n f k = if f % 2 ^ k = 0 then (if f < 0 ∨ (n : Int) < f + 2 ^ k then 3 else 0) else 2 := by
        unfold ckE
        rw [if_neg (by rw [ho]; decide), Int.toNat_natCast]
      rw [two_zpow] at hE
      obtain ⟨m, hm⟩ : ∃ m, m = 2 ^ k := ⟨_, rfl⟩
      rw [← hm] at hS hp hp0 hE
      clear hm
      have hSq : ∀ W, Calls Tryz.prog 33 #[.int .i64 k] W fun e w' => e = .returned (.int .i64 m) ∧ w' = W := fun W => (hS W).mono fun _ _ ⟨h1, h2⟩ => ⟨h1, h2.symm⟩
      by_cases hr : f % m = 0
      · rw [if_pos hr] at hE
        have h3 : f < 0 ∨ (n : Int) < f + m := by
          rcases Classical.em (f < 0 ∨ (n : Int) < f + m) with g | g
          · exact g
          · rw [if_neg g] at hE; exact absurd hE hk
        rw [if_pos h3] at hE
        have HE := Lib.hid hE
        have ht := (tmod_zero f m).2 hr
        have ht1 : (f.tmod (m : Int) != 0) = false := by simp [ht]
        have ht2 : (f % (m : Int) != 0) = false := by simp [hr]
        have HT := Lib.hid ht
        have HR := Lib.hid hr
        clear ht hr hE ho h1 hk h
        by_cases h0 : f < 0
        · clear h3
          go_enter Tryz.func81, Tryz.ntmps81
          go_wp2_with (go_at_call 33; refine (hS _).mono ?_; rintro e w' ⟨rfl, rfl⟩)
          go_quiet ((go_at_call 33; exact Calls.quiet_of_same (hSq _)))
          go_wp2
          go_ret
          exact ⟨ret_int HE.out.symm, HX.out.drewN _, grown_drewN w _ _⟩
        · obtain ⟨a, rfl⟩ : ∃ a : Nat, f = a := ⟨f.toNat, by omega⟩
          have h0' : (0 : Int) ≤ a := by omega
          have hd1 : decide ((a : Int) < 0) = false := by simp
          clear h0
          by_cases h4 : n ≤ a
          · have hd2 : decide ((n : Int) ≤ a) = true := by simpa using h4
            have hd3 : decide (n ≤ a) = true := by simpa using h4
            clear h3
            go_enter Tryz.func81, Tryz.ntmps81
            go_wp2_with (go_at_call 33; refine (hS _).mono ?_; rintro e w' ⟨rfl, rfl⟩)
            go_quiet ((go_at_call 33; exact Calls.quiet_of_same (hSq _)))
            go_wp2
            go_ret
            exact ⟨ret_int HE.out.symm, HX.out.drewN _, grown_drewN w _ _⟩
          · have hd2 : decide ((n : Int) ≤ a) = false := by simp; omega
            have hd3 : decide (n ≤ a) = false := by simp; omega
            have hd4 : decide ((n : Int) - a < m) = true := by simp; omega
            have hgt : (n : Int) - a < m := by omega
            have hsb : IntKind.i64.wrap ((n : Int) - a) = n - a := IntWalk.i64_in _ (by omega)
            clear h3
            go_enter Tryz.func81, Tryz.ntmps81
            go_wp2_with (go_at_call 33; refine (hS _).mono ?_; rintro e w' ⟨rfl, rfl⟩)
            go_quiet ((go_at_call 33; exact Calls.quiet_of_same (hSq _)))
            go_wp2
            go_ret
            exact ⟨ret_int HE.out.symm, HX.out.drewN _, grown_drewN w _ _⟩
      · rw [if_neg hr] at hE
        have HE := Lib.hid hE
        have ht : ¬ f.tmod m = 0 := fun e => hr ((tmod_zero f m).1 e)
        have ht1 : (f.tmod (m : Int) != 0) = true := by simpa using ht
        have ht2 : (f % (m : Int) != 0) = true := by simpa using hr
        clear ht hr hE ho h1 hk h
        by_cases h0 : 0 ≤ f
        · go_enter Tryz.func81, Tryz.ntmps81
          go_wp2_with (go_at_call 33; refine (hS _).mono ?_; rintro e w' ⟨rfl, rfl⟩)
          go_ret
          exact ⟨ret_int HE.out.symm, HX.out, World.grownBy.refl _ _⟩
        · go_enter Tryz.func81, Tryz.ntmps81
          go_wp2_with (go_at_call 33; refine (hS _).mono ?_; rintro e w' ⟨rfl, rfl⟩)
          go_ret
          exact ⟨ret_int HE.out.symm, HX.out, World.grownBy.refl _ _⟩
    · have HE : Hid (ckE n f o = 2) := by
        show _ = _
        unfold ckE; rw [if_pos ho]
      have h1 : ¬ (0 ≤ o ∧ o ≤ 8) := by simpa [orB] using ho
      have h2 : o < 0 ∨ 8 < o := by omega
      clear ho h1 hk h
      rcases h2 with h2 | h2
      · go_enter Tryz.func81, Tryz.ntmps81
        go_wp2
        go_ret
        exact ⟨ret_int HE.out.symm, HX.out, World.grownBy.refl _ _⟩
      · have h3 : ¬ o < 0 := by omega
        go_enter Tryz.func81, Tryz.ntmps81
        go_wp2
        go_ret
        exact ⟨ret_int HE.out.symm, HX.out, World.grownBy.refl _ _⟩
end
end Go.Proofs.YtklhcgekagimkaaGreat
