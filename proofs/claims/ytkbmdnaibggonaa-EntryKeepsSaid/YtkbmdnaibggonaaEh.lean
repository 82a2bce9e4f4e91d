/- The walks of the laws EntryBack, EntryKeeps and EntryApart of package entry: each returns true and writes to new memory alone. -/
import Derived.Test.YtkbmdnaibggonaaEq
import Derived.Test.YtkbmdnaibggonaaEf
namespace Go.Proofs.Ytkbmdnaibggonaa
open Go.RowKit

theorem unpack_word (f : Int) (p w h k u d : Bool) (W : World) (hc : chkI f p w h k u d = 0) :
    Calls Try.prog 14 #[.int .u64 (wordI f p w h k u d)] W fun e W' => e = .returned (.tuple #[.agg #[.int .i64 f, .bool p, .bool w, .bool h, .bool k, .bool u, .bool d], .int .i64 0]) ∧ Below W.heap.size W W' := by
  have hr := chk_range hc
  have hb := word_bounds f p w h k u d hr.1 hr.2
  have g := unpack_any _ W hb.1 hb.2
  have ho := word_ok f p w h k u d hc
  obtain ⟨a0, a1, a2, a3, a4, a5, a6⟩ := word_bits f p w h k u d
  rw [unE_ok ho, unErr, ho, a0, a1, a2, a3, a4, a5, a6] at g
  exact g
theorem unpack_good (n : Int) (W : World) (h0 : 0 ≤ n) (h1 : n < 18446744073709551616) (ho : unOK n = true) :
    Calls Try.prog 14 #[.int .u64 n] W fun e W' => e = .returned (.tuple #[.agg #[.int .i64 (n / 4096), .bool (onB n 0), .bool (onB n 1), .bool (onB n 7), .bool (onB n 9), .bool (onB n 5), .bool (onB n 6)], .int .i64 0]) ∧ Below W.heap.size W W' := by
  have g := unpack_any n W h0 h1
  rw [unE_ok ho, unErr, ho] at g
  exact g
theorem unpack_none (n : Int) (W : World) (h0 : 0 ≤ n) (h1 : n < 18446744073709551616) (ho : unOK n = false) :
    Calls Try.prog 14 #[.int .u64 n] W fun e W' => e = .returned (.tuple #[.agg #[.int .i64 0, .bool false, .bool false, .bool false, .bool false, .bool false, .bool false], .int .i64 5]) ∧ Below W.heap.size W W' := by
  have g := unpack_any n W h0 h1
  rw [unE_bad ho, unErr, ho] at g
  exact g
theorem pack_good (n : Int) (W : World) (ho : unOK n = true) :
    Calls Try.prog 9 #[.agg #[.int .i64 (n / 4096), .bool (onB n 0), .bool (onB n 1), .bool (onB n 7), .bool (onB n 9), .bool (onB n 5), .bool (onB n 6)]] W fun e W' => e = .returned (.tuple #[.int .u64 n, .int .i64 0]) ∧ Below W.heap.size W W' := by
  have g := pack_any (n / 4096) (onB n 0) (onB n 1) (onB n 7) (onB n 9) (onB n 5) (onB n 6) W
  simp [unOK] at ho
  have e1 : packI (n / 4096) (onB n 0) (onB n 1) (onB n 7) (onB n 9) (onB n 5) (onB n 6) = n := ho.2
  have e2 : chkI (n / 4096) (onB n 0) (onB n 1) (onB n 7) (onB n 9) (onB n 5) (onB n 6) = 0 := ho.1
  rwa [e1, e2] at g
theorem pack_word (f : Int) (p w h k u d : Bool) (W : World) (hc : chkI f p w h k u d = 0) :
    Calls Try.prog 9 #[.agg #[.int .i64 f, .bool p, .bool w, .bool h, .bool k, .bool u, .bool d]] W fun e W' => e = .returned (.tuple #[.int .u64 (wordI f p w h k u d), .int .i64 0]) ∧ Below W.heap.size W W' := by
  have g := pack_any f p w h k u d W
  have e1 : packI f p w h k u d = wordI f p w h k u d := packI_ok (by simp [hc])
  rwa [e1, hc] at g
theorem pack_none (f : Int) (p w h k u d : Bool) (W : World) (hc : (chkI f p w h k u d != 0) = true) :
    Calls Try.prog 9 #[.agg #[.int .i64 f, .bool p, .bool w, .bool h, .bool k, .bool u, .bool d]] W fun e W' => e = .returned (.tuple #[.int .u64 0, .int .i64 (chkI f p w h k u d)]) ∧ Below W.heap.size W W' := pack_bad f p w h k u d W hc

set_option maxHeartbeats 1000000 in
theorem back_bad_good (f : Int) (p w h k u d : Bool) (n : Int) (W : World) (h0 : 0 ≤ n) (h1 : n < 18446744073709551616) (hc : (chkI f p w h k u d != 0) = true) (ho : unOK n = true) :
    Calls Try.prog 6 #[.agg #[.int .i64 f, .bool p, .bool w, .bool h, .bool k, .bool u, .bool d], .int .u64 n] W fun e W' => e = .returned (.bool true) ∧ Below W.heap.size W W' := by
  have hc2 : (chkI f p w h k u d == 0) = false := by simpa using hc
  go_enter Try.func6, Try.ntmps6
  go_wp2_with fail
  refine (pack_none _ _ _ _ _ _ _ _ hc).mono ?_
  rintro e w1 ⟨rfl, hb1⟩
  have B1 := (((Below.refl W.heap.size W).alloc (Nat.le_refl _) _).trans (hb1.mono (by simp)))
  go_wp2_with fail
  refine (unpack_good n _ h0 h1 ho).mono ?_
  rintro e w2 ⟨rfl, hb2⟩
  have B2 := B1.trans (hb2.mono B1.size)
  go_wp2_with fail
  refine (pack_good n _ ho).mono ?_
  rintro e w3 ⟨rfl, hb3⟩
  have B3 := (B2.alloc B2.size _).trans (hb3.mono (by have := B2.size; simp; omega))
  go_wp2_with fail
  refine (awake_any _).mono ?_
  rintro e w4 ⟨rfl, hb4⟩
  have B4 := B3.trans (hb4.mono B3.size)
  go_wp2
  go_ret
  exact ⟨rfl, B4⟩

set_option maxHeartbeats 1000000 in
theorem back_ok_good (f : Int) (p w h k u d : Bool) (n : Int) (W : World) (h0 : 0 ≤ n) (h1 : n < 18446744073709551616) (hc : Hid (chkI f p w h k u d = 0)) (ho : unOK n = true) :
    Calls Try.prog 6 #[.agg #[.int .i64 f, .bool p, .bool w, .bool h, .bool k, .bool u, .bool d], .int .u64 n] W fun e W' => e = .returned (.bool true) ∧ Below W.heap.size W W' := by
  go_enter Try.func6, Try.ntmps6
  go_wp2_with fail
  refine (pack_word _ _ _ _ _ _ _ _ hc.out).mono ?_
  rintro e w1 ⟨rfl, hb1⟩
  have XB := (Has7.new W (.int .i64 f) (.bool p) (.bool w) (.bool h) (.bool k) (.bool u) (.bool d) 23).call hb1
  have B1 := (((Below.refl W.heap.size W).alloc (Nat.le_refl _) _).trans (hb1.mono (by simp)))
  go_wp2_with fail
  refine (unpack_word _ _ _ _ _ _ _ _ hc.out).mono ?_
  rintro e w2 ⟨rfl, hb2⟩
  have XC := XB.call hb2
  have B2 := B1.trans (hb2.mono B1.size)
  obtain ⟨c0, c1, c2, c3, c4, c5, c6, cz⟩ := XC
  go_wp2_with fail
  refine (unpack_good n _ h0 h1 ho).mono ?_
  rintro e w3 ⟨rfl, hb3⟩
  have B3 := (B2.alloc B2.size _).trans (hb3.mono (by have := B2.size; simp; omega))
  go_wp2_with fail
  refine (pack_good n _ ho).mono ?_
  rintro e w4 ⟨rfl, hb4⟩
  have B4 := (B3.alloc B3.size _).trans (hb4.mono (by have := B3.size; simp; omega))
  go_wp2_with fail
  refine (awake_any _).mono ?_
  rintro e w5 ⟨rfl, hb5⟩
  have B5 := B4.trans (hb5.mono B4.size)
  go_wp2
  go_ret
  exact ⟨rfl, B5⟩

set_option maxHeartbeats 1000000 in
theorem back_bad_none (f : Int) (p w h k u d : Bool) (n : Int) (W : World) (h0 : 0 ≤ n) (h1 : n < 18446744073709551616) (hc : (chkI f p w h k u d != 0) = true) (ho : unOK n = false) :
    Calls Try.prog 6 #[.agg #[.int .i64 f, .bool p, .bool w, .bool h, .bool k, .bool u, .bool d], .int .u64 n] W fun e W' => e = .returned (.bool true) ∧ Below W.heap.size W W' := by
  have hc2 : (chkI f p w h k u d == 0) = false := by simpa using hc
  go_enter Try.func6, Try.ntmps6
  go_wp2_with fail
  refine (pack_none _ _ _ _ _ _ _ _ hc).mono ?_
  rintro e w1 ⟨rfl, hb1⟩
  have B1 := (((Below.refl W.heap.size W).alloc (Nat.le_refl _) _).trans (hb1.mono (by simp)))
  go_wp2_with fail
  refine (unpack_none n _ h0 h1 ho).mono ?_
  rintro e w2 ⟨rfl, hb2⟩
  have B2 := B1.trans (hb2.mono B1.size)
  go_wp2_with fail
  refine (pack_any _ _ _ _ _ _ _ _).mono ?_
  rintro e w3 ⟨rfl, hb3⟩
  have B3 := (B2.alloc B2.size _).trans (hb3.mono (by have := B2.size; simp; omega))
  go_wp2_with fail
  refine (awake_any _).mono ?_
  rintro e w4 ⟨rfl, hb4⟩
  have B4 := B3.trans (hb4.mono B3.size)
  go_wp2
  go_ret
  exact ⟨rfl, B4⟩

set_option maxHeartbeats 1000000 in
theorem back_ok_none (f : Int) (p w h k u d : Bool) (n : Int) (W : World) (h0 : 0 ≤ n) (h1 : n < 18446744073709551616) (hc : Hid (chkI f p w h k u d = 0)) (ho : unOK n = false) :
    Calls Try.prog 6 #[.agg #[.int .i64 f, .bool p, .bool w, .bool h, .bool k, .bool u, .bool d], .int .u64 n] W fun e W' => e = .returned (.bool true) ∧ Below W.heap.size W W' := by
  go_enter Try.func6, Try.ntmps6
  go_wp2_with fail
  refine (pack_word _ _ _ _ _ _ _ _ hc.out).mono ?_
  rintro e w1 ⟨rfl, hb1⟩
  have XB := (Has7.new W (.int .i64 f) (.bool p) (.bool w) (.bool h) (.bool k) (.bool u) (.bool d) 23).call hb1
  have B1 := (((Below.refl W.heap.size W).alloc (Nat.le_refl _) _).trans (hb1.mono (by simp)))
  go_wp2_with fail
  refine (unpack_word _ _ _ _ _ _ _ _ hc.out).mono ?_
  rintro e w2 ⟨rfl, hb2⟩
  have XC := XB.call hb2
  have B2 := B1.trans (hb2.mono B1.size)
  obtain ⟨c0, c1, c2, c3, c4, c5, c6, cz⟩ := XC
  go_wp2_with fail
  refine (unpack_none n _ h0 h1 ho).mono ?_
  rintro e w3 ⟨rfl, hb3⟩
  have B3 := (B2.alloc B2.size _).trans (hb3.mono (by have := B2.size; simp; omega))
  go_wp2_with fail
  refine (pack_any _ _ _ _ _ _ _ _).mono ?_
  rintro e w4 ⟨rfl, hb4⟩
  have B4 := (B3.alloc B3.size _).trans (hb4.mono (by have := B3.size; simp; omega))
  go_wp2_with fail
  refine (awake_any _).mono ?_
  rintro e w5 ⟨rfl, hb5⟩
  have B5 := B4.trans (hb5.mono B4.size)
  go_wp2
  go_ret
  exact ⟨rfl, B5⟩

theorem back_walk (f : Int) (p w h k u d : Bool) (n : Int) (W : World) (h0 : 0 ≤ n) (h1 : n < 18446744073709551616) :
    Calls Try.prog 6 #[.agg #[.int .i64 f, .bool p, .bool w, .bool h, .bool k, .bool u, .bool d], .int .u64 n] W fun e W' => e = .returned (.bool true) ∧ Below W.heap.size W W' := by
  by_cases hc : (chkI f p w h k u d != 0) = true
  · by_cases ho : unOK n = true
    · exact back_bad_good f p w h k u d n W h0 h1 hc ho
    · exact back_bad_none f p w h k u d n W h0 h1 hc (by simpa using ho)
  · have hc' : chkI f p w h k u d = 0 := by simpa using hc
    by_cases ho : unOK n = true
    · exact back_ok_good f p w h k u d n W h0 h1 hc' ho
    · exact back_ok_none f p w h k u d n W h0 h1 hc' (by simpa using ho)

theorem allow_none' (f : Int) (p w h k u d : Bool) (q : Int) (W : World) (hn : (alErr f p w h k u d q != 0) = true) :
    Calls Try.prog 16 #[.agg #[.int .i64 f, .bool p, .bool w, .bool h, .bool k, .bool u, .bool d], .int .i64 q] W fun e W' => e = .returned (.tuple #[.agg #[.int .i64 0, .bool false, .bool false, .bool false, .bool false, .bool false, .bool false], .int .i64 (alErr f p w h k u d q)]) ∧ Below W.heap.size W W' := by
  have g := allow_any f p w h k u d q W
  rw [alE_bad (by simpa using hn)] at g
  exact g
set_option maxHeartbeats 1000000 in
theorem keeps_bad (f : Int) (p w h k u d : Bool) (q : Int) (W : World) (hn : (alErr f p w h k u d q != 0) = true) :
    Calls Try.prog 7 #[.agg #[.int .i64 f, .bool p, .bool w, .bool h, .bool k, .bool u, .bool d], .int .i64 q] W fun e W' => e = .returned (.bool true) ∧ Below W.heap.size W W' := by
  go_enter Try.func7, Try.ntmps7
  go_wp2_with fail
  refine (allow_none' _ _ _ _ _ _ _ _ _ hn).mono ?_
  rintro e w1 ⟨rfl, hb1⟩
  have B1 := (((Below.refl W.heap.size W).alloc (Nat.le_refl _) _).trans (hb1.mono (by simp)))
  go_wp2_with fail
  refine (awake_any _).mono ?_
  rintro e w2 ⟨rfl, hb2⟩
  have B2 := (B1.alloc B1.size _).trans (hb2.mono (by have := B1.size; simp; omega))
  have X2 := (Has7.new w1 (.int .i64 0) (.bool false) (.bool false) (.bool false) (.bool false) (.bool false) (.bool false) 23).call hb2
  go_wp2_with fail
  refine (awake_any _).mono ?_
  rintro e w3 ⟨rfl, hb3⟩
  have B3 := B2.trans (hb3.mono B2.size)
  have X3 := X2.call hb3
  obtain ⟨c0, c1, c2, c3, c4, c5, c6, cz⟩ := X3
  go_wp2
  go_ret
  exact ⟨rfl, B3⟩

theorem allow_held' (f : Int) (p w k u d : Bool) (W : World) (h3 : (chkI f p w false k u d != 0) = false) (hn : noB f p w false k u d = false) :
    Calls Try.prog 16 #[.agg #[.int .i64 f, .bool p, .bool w, .bool false, .bool k, .bool u, .bool d], .int .i64 0] W fun e W' => e = .returned (.tuple #[.agg #[.int .i64 f, .bool false, .bool false, .bool false, .bool true, .bool false, .bool false], .int .i64 0]) ∧ Below W.heap.size W W' := by
  have g := allow_held f p w k u d W h3 hn
  simpa using g
theorem prot_held' (f : Int) (W : World) :
    Calls Try.prog 18 #[.agg #[.int .i64 f, .bool false, .bool false, .bool false, .bool true, .bool false, .bool false]] W fun e W' => e = .returned (.int .i64 0) ∧ Below W.heap.size W W' := prot_any f false false false true false false W
theorem check_held' (f : Int) (W : World) (hc : chkI f false false false true false false = 0) :
    Calls Try.prog 12 #[.agg #[.int .i64 f, .bool false, .bool false, .bool false, .bool true, .bool false, .bool false]] W fun e W' => e = .returned (.int .i64 0) ∧ Below W.heap.size W W' := by
  have g := check_any f false false false true false false W
  rwa [hc] at g
set_option maxHeartbeats 1000000 in
theorem keepsW_held (f : Int) (p w k u d : Bool) (W : World) (h3 : (chkI f p w false k u d != 0) = false) (hn : noB f p w false k u d = false) :
    Calls Try.prog 7 #[.agg #[.int .i64 f, .bool p, .bool w, .bool false, .bool k, .bool u, .bool d], .int .i64 0] W fun e W' => e = .returned (.bool true) ∧ Below W.heap.size W W' := by
  have HC := Lib.hid (keeps_held h3)
  have H3 := Lib.hid h3
  have HN := Lib.hid hn
  clear h3 hn
  go_enter Try.func7, Try.ntmps7
  go_wp2_with fail
  refine (allow_held' _ _ _ _ _ _ _ H3.out HN.out).mono ?_
  rintro e w1 ⟨rfl, hb1⟩
  have XB := (Has7.new W (.int .i64 f) (.bool p) (.bool w) (.bool false) (.bool k) (.bool u) (.bool d) 23).call hb1
  have B1 := (((Below.refl W.heap.size W).alloc (Nat.le_refl _) _).trans (hb1.mono (by simp)))
  go_wp2_with fail
  refine (awake_any _).mono ?_
  rintro e w2 ⟨rfl, hb2⟩
  have B2 := (B1.alloc B1.size _).trans (hb2.mono (by have := B1.size; simp; omega))
  have X2 := (Has7.new w1 (.int .i64 f) (.bool false) (.bool false) (.bool false) (.bool true) (.bool false) (.bool false) 23).call hb2
  have XC := (XB.alloc _).call hb2
  clear hb1 hb2
  obtain ⟨c0, c1, c2, c3, c4, c5, c6, cz⟩ := X2
  go_wp2_with fail
  refine (prot_held' _ _).mono ?_
  rintro e w3 ⟨rfl, hb3⟩
  have B3 := B2.trans (hb3.mono B2.size)
  have X3 := Has7.call (⟨c0, c1, c2, c3, c4, c5, c6, cz⟩ : Has7 w2 w1.heap.size (.int .i64 f) (.bool false) (.bool false) (.bool false) (.bool true) (.bool false) (.bool false)) hb3
  have XD := XC.call hb3
  clear c0 c1 c2 c3 c4 c5 c6 cz hb3
  obtain ⟨c0, c1, c2, c3, c4, c5, c6, cz⟩ := X3
  obtain ⟨d0, d1, d2, d3, d4, d5, d6, dz⟩ := XD
  go_wp2_with fail
  refine (check_held' _ _ HC.out).mono ?_
  rintro e w4 ⟨rfl, hb4⟩
  have B4 := B3.trans (hb4.mono B3.size)
  have X4 := Has7.call (⟨c0, c1, c2, c3, c4, c5, c6, cz⟩ : Has7 w3 w1.heap.size (.int .i64 f) (.bool false) (.bool false) (.bool false) (.bool true) (.bool false) (.bool false)) hb4
  have XE := Has7.call (⟨d0, d1, d2, d3, d4, d5, d6, dz⟩ : Has7 w3 W.heap.size (.int .i64 f) (.bool p) (.bool w) (.bool false) (.bool k) (.bool u) (.bool d)) hb4
  clear c0 c1 c2 c3 c4 c5 c6 cz d0 d1 d2 d3 d4 d5 d6 dz hb4
  obtain ⟨c0, c1, c2, c3, c4, c5, c6, cz⟩ := X4
  obtain ⟨d0, d1, d2, d3, d4, d5, d6, dz⟩ := XE
  go_wp2
  all_goals
    go_ret
    exact ⟨ret_bool (by first | rfl | simp), B4⟩

theorem allow_one' (f : Int) (p w h k u d : Bool) (W : World) (h3 : (chkI f p w h k u d != 0) = false) (hn : noB f p w h k u d = false) :
    Calls Try.prog 16 #[.agg #[.int .i64 f, .bool p, .bool w, .bool h, .bool k, .bool u, .bool d], .int .i64 1] W fun e W' => e = .returned (.tuple #[.agg #[.int .i64 f, .bool true, .bool false, .bool h, .bool false, .bool u, .bool false], .int .i64 0]) ∧ Below W.heap.size W W' := by
  have g := allow_1 f p w h k u d W h3 hn
  simpa using g
theorem prot_one' (f : Int) (h u : Bool) (W : World) :
    Calls Try.prog 18 #[.agg #[.int .i64 f, .bool true, .bool false, .bool h, .bool false, .bool u, .bool false]] W fun e W' => e = .returned (.int .i64 1) ∧ Below W.heap.size W W' := prot_any f true false h false u false W
theorem check_one' (f : Int) (h u : Bool) (W : World) (hc : chkI f true false h false u false = 0) :
    Calls Try.prog 12 #[.agg #[.int .i64 f, .bool true, .bool false, .bool h, .bool false, .bool u, .bool false]] W fun e W' => e = .returned (.int .i64 0) ∧ Below W.heap.size W W' := by
  have g := check_any f true false h false u false W
  rwa [hc] at g
set_option maxHeartbeats 1000000 in
theorem keepsW_one (f : Int) (p w h k u d : Bool) (W : World) (h3 : (chkI f p w h k u d != 0) = false) (hn : noB f p w h k u d = false) :
    Calls Try.prog 7 #[.agg #[.int .i64 f, .bool p, .bool w, .bool h, .bool k, .bool u, .bool d], .int .i64 1] W fun e W' => e = .returned (.bool true) ∧ Below W.heap.size W W' := by
  have HC := Lib.hid (keeps_chk false u false h3)
  have H3 := Lib.hid h3
  have HN := Lib.hid hn
  clear h3 hn
  go_enter Try.func7, Try.ntmps7
  go_wp2_with fail
  refine (allow_one' _ _ _ _ _ _ _ _ H3.out HN.out).mono ?_
  rintro e w1 ⟨rfl, hb1⟩
  have XB := (Has7.new W (.int .i64 f) (.bool p) (.bool w) (.bool h) (.bool k) (.bool u) (.bool d) 23).call hb1
  have B1 := (((Below.refl W.heap.size W).alloc (Nat.le_refl _) _).trans (hb1.mono (by simp)))
  go_wp2_with fail
  refine (awake_any _).mono ?_
  rintro e w2 ⟨rfl, hb2⟩
  have B2 := (B1.alloc B1.size _).trans (hb2.mono (by have := B1.size; simp; omega))
  have X2 := (Has7.new w1 (.int .i64 f) (.bool true) (.bool false) (.bool h) (.bool false) (.bool u) (.bool false) 23).call hb2
  have XC := (XB.alloc _).call hb2
  clear hb1 hb2
  obtain ⟨c0, c1, c2, c3, c4, c5, c6, cz⟩ := X2
  go_wp2_with fail
  refine (prot_one' _ _ _ _).mono ?_
  rintro e w3 ⟨rfl, hb3⟩
  have B3 := B2.trans (hb3.mono B2.size)
  have X3 := Has7.call (⟨c0, c1, c2, c3, c4, c5, c6, cz⟩ : Has7 w2 w1.heap.size (.int .i64 f) (.bool true) (.bool false) (.bool h) (.bool false) (.bool u) (.bool false)) hb3
  have XD := XC.call hb3
  clear c0 c1 c2 c3 c4 c5 c6 cz hb3
  obtain ⟨c0, c1, c2, c3, c4, c5, c6, cz⟩ := X3
  obtain ⟨d0, d1, d2, d3, d4, d5, d6, dz⟩ := XD
  go_wp2_with fail
  refine (check_one' _ _ _ _ HC.out).mono ?_
  rintro e w4 ⟨rfl, hb4⟩
  have B4 := B3.trans (hb4.mono B3.size)
  have X4 := Has7.call (⟨c0, c1, c2, c3, c4, c5, c6, cz⟩ : Has7 w3 w1.heap.size (.int .i64 f) (.bool true) (.bool false) (.bool h) (.bool false) (.bool u) (.bool false)) hb4
  have XE := Has7.call (⟨d0, d1, d2, d3, d4, d5, d6, dz⟩ : Has7 w3 W.heap.size (.int .i64 f) (.bool p) (.bool w) (.bool h) (.bool k) (.bool u) (.bool d)) hb4
  clear c0 c1 c2 c3 c4 c5 c6 cz d0 d1 d2 d3 d4 d5 d6 dz hb4
  obtain ⟨c0, c1, c2, c3, c4, c5, c6, cz⟩ := X4
  obtain ⟨d0, d1, d2, d3, d4, d5, d6, dz⟩ := XE
  go_wp2
  all_goals
    go_ret
    exact ⟨ret_bool (by first | rfl | simp), B4⟩

theorem allow_three' (f : Int) (p w h k u d : Bool) (W : World) (h3 : (chkI f p w h k u d != 0) = false) (hn : noB f p w h k u d = false) :
    Calls Try.prog 16 #[.agg #[.int .i64 f, .bool p, .bool w, .bool h, .bool k, .bool u, .bool d], .int .i64 3] W fun e W' => e = .returned (.tuple #[.agg #[.int .i64 f, .bool true, .bool true, .bool h, .bool false, .bool u, .bool d], .int .i64 0]) ∧ Below W.heap.size W W' := by
  have g := allow_3 f p w h k u d W h3 hn
  simpa using g
theorem prot_three' (f : Int) (h u d : Bool) (W : World) :
    Calls Try.prog 18 #[.agg #[.int .i64 f, .bool true, .bool true, .bool h, .bool false, .bool u, .bool d]] W fun e W' => e = .returned (.int .i64 3) ∧ Below W.heap.size W W' := prot_any f true true h false u d W
theorem check_three' (f : Int) (h u d : Bool) (W : World) (hc : chkI f true true h false u d = 0) :
    Calls Try.prog 12 #[.agg #[.int .i64 f, .bool true, .bool true, .bool h, .bool false, .bool u, .bool d]] W fun e W' => e = .returned (.int .i64 0) ∧ Below W.heap.size W W' := by
  have g := check_any f true true h false u d W
  rwa [hc] at g
set_option maxHeartbeats 1000000 in
theorem keepsW_three (f : Int) (p w h k u d : Bool) (W : World) (h3 : (chkI f p w h k u d != 0) = false) (hn : noB f p w h k u d = false) :
    Calls Try.prog 7 #[.agg #[.int .i64 f, .bool p, .bool w, .bool h, .bool k, .bool u, .bool d], .int .i64 3] W fun e W' => e = .returned (.bool true) ∧ Below W.heap.size W W' := by
  have HC := Lib.hid (keeps_chk true u d h3)
  have H3 := Lib.hid h3
  have HN := Lib.hid hn
  clear h3 hn
  go_enter Try.func7, Try.ntmps7
  go_wp2_with fail
  refine (allow_three' _ _ _ _ _ _ _ _ H3.out HN.out).mono ?_
  rintro e w1 ⟨rfl, hb1⟩
  have XB := (Has7.new W (.int .i64 f) (.bool p) (.bool w) (.bool h) (.bool k) (.bool u) (.bool d) 23).call hb1
  have B1 := (((Below.refl W.heap.size W).alloc (Nat.le_refl _) _).trans (hb1.mono (by simp)))
  go_wp2_with fail
  refine (awake_any _).mono ?_
  rintro e w2 ⟨rfl, hb2⟩
  have B2 := (B1.alloc B1.size _).trans (hb2.mono (by have := B1.size; simp; omega))
  have X2 := (Has7.new w1 (.int .i64 f) (.bool true) (.bool true) (.bool h) (.bool false) (.bool u) (.bool d) 23).call hb2
  have XC := (XB.alloc _).call hb2
  clear hb1 hb2
  obtain ⟨c0, c1, c2, c3, c4, c5, c6, cz⟩ := X2
  go_wp2_with fail
  refine (prot_three' _ _ _ _ _).mono ?_
  rintro e w3 ⟨rfl, hb3⟩
  have B3 := B2.trans (hb3.mono B2.size)
  have X3 := Has7.call (⟨c0, c1, c2, c3, c4, c5, c6, cz⟩ : Has7 w2 w1.heap.size (.int .i64 f) (.bool true) (.bool true) (.bool h) (.bool false) (.bool u) (.bool d)) hb3
  have XD := XC.call hb3
  clear c0 c1 c2 c3 c4 c5 c6 cz hb3
  obtain ⟨c0, c1, c2, c3, c4, c5, c6, cz⟩ := X3
  obtain ⟨d0, d1, d2, d3, d4, d5, d6, dz⟩ := XD
  go_wp2_with fail
  refine (check_three' _ _ _ _ _ HC.out).mono ?_
  rintro e w4 ⟨rfl, hb4⟩
  have B4 := B3.trans (hb4.mono B3.size)
  have X4 := Has7.call (⟨c0, c1, c2, c3, c4, c5, c6, cz⟩ : Has7 w3 w1.heap.size (.int .i64 f) (.bool true) (.bool true) (.bool h) (.bool false) (.bool u) (.bool d)) hb4
  have XE := Has7.call (⟨d0, d1, d2, d3, d4, d5, d6, dz⟩ : Has7 w3 W.heap.size (.int .i64 f) (.bool p) (.bool w) (.bool h) (.bool k) (.bool u) (.bool d)) hb4
  clear c0 c1 c2 c3 c4 c5 c6 cz d0 d1 d2 d3 d4 d5 d6 dz hb4
  obtain ⟨c0, c1, c2, c3, c4, c5, c6, cz⟩ := X4
  obtain ⟨d0, d1, d2, d3, d4, d5, d6, dz⟩ := XE
  go_wp2
  all_goals
    go_ret
    exact ⟨ret_bool (by first | rfl | simp), B4⟩

theorem keeps_walk (f : Int) (p w h k u d : Bool) (q : Int) (W : World) :
    Calls Try.prog 7 #[.agg #[.int .i64 f, .bool p, .bool w, .bool h, .bool k, .bool u, .bool d], .int .i64 q] W fun e W' => e = .returned (.bool true) ∧ Below W.heap.size W W' := by
  by_cases he : (alErr f p w h k u d q != 0) = true
  · exact keeps_bad f p w h k u d q W he
  · have h0 : alErr f p w h k u d q = 0 := by simpa using he
    have h3 : (chkI f p w h k u d != 0) = false := by
      by_cases g : (chkI f p w h k u d != 0) = true
      · rw [alErr_chk g] at h0
        simp [h0] at g
      · simpa using g
    by_cases hq : q = 0 ∨ q = 1 ∨ q = 3
    · have hn : noB f p w h k u d = false := by
        by_cases g : noB f p w h k u d = true
        · have : alErr f p w h k u d q = 6 := by simp at h3; simp [alErr, h3, hq, g]
          omega
        · simpa using g
      rcases hq with rfl | rfl | rfl
      · cases h
        · exact keepsW_held f p w k u d W h3 hn
        · have : alErr f p w true k u d 0 = 5 := by simp at h3; simp [alErr, h3, hn]
          omega
      · exact keepsW_one f p w h k u d W h3 hn
      · exact keepsW_three f p w h k u d W h3 hn
    · have := alErr_arg (q := q) h3 (by simp; omega) (by simp; omega) (by simp; omega)
      omega

set_option maxHeartbeats 1000000 in
theorem apart_a (f : Int) (p w h k u d : Bool) (f' : Int) (p' w' h' k' u' d' : Bool) (W : World) (h3 : (chkI f p w h k u d != 0) = true) :
    Calls Try.prog 8 #[.agg #[.int .i64 f, .bool p, .bool w, .bool h, .bool k, .bool u, .bool d], .agg #[.int .i64 f', .bool p', .bool w', .bool h', .bool k', .bool u', .bool d']] W fun e W' => e = .returned (.bool true) ∧ Below W.heap.size W W' := by
  go_enter Try.func8, Try.ntmps8
  go_wp2_with fail
  refine (pack_none _ _ _ _ _ _ _ _ h3).mono ?_
  rintro e w1 ⟨rfl, hb1⟩
  have B1 := ((((Below.refl W.heap.size W).alloc (Nat.le_refl _) _).alloc (by simp) _).trans (hb1.mono (by simp; omega)))
  have XA := (Has7.new W (.int .i64 f) (.bool p) (.bool w) (.bool h) (.bool k) (.bool u) (.bool d) 23).alloc (.cells #[.int .i64 f', .bool p', .bool w', .bool h', .bool k', .bool u', .bool d'] 23) |>.call hb1
  have XB : Has7 w1 (W.heap.size + 1) (.int .i64 f') (.bool p') (.bool w') (.bool h') (.bool k') (.bool u') (.bool d') := by
    have g := (Has7.new (W.alloc (.cells #[.int .i64 f, .bool p, .bool w, .bool h, .bool k, .bool u, .bool d] 23)) (.int .i64 f') (.bool p') (.bool w') (.bool h') (.bool k') (.bool u') (.bool d') 23).call hb1
    simpa using g
  clear hb1
  obtain ⟨d0, d1, d2, d3, d4, d5, d6, dz⟩ := XB
  go_wp2_with fail
  refine (pack_any _ _ _ _ _ _ _ _).mono ?_
  rintro e w2 ⟨rfl, hb2⟩
  have B2 := B1.trans (hb2.mono B1.size)
  have XA2 := XA.call hb2
  have XB2 := Has7.call (⟨d0, d1, d2, d3, d4, d5, d6, dz⟩ : Has7 w1 (W.heap.size + 1) (.int .i64 f') (.bool p') (.bool w') (.bool h') (.bool k') (.bool u') (.bool d')) hb2
  clear hb2 XA d0 d1 d2 d3 d4 d5 d6 dz
  go_wp2_with fail
  refine (awake_any _).mono ?_
  rintro e w3 ⟨rfl, hb3⟩
  have B3 := B2.trans (hb3.mono B2.size)
  have XA3 := XA2.call hb3
  have XB3 := XB2.call hb3
  clear hb3 XA2 XB2
  obtain ⟨c0, c1, c2, c3, c4, c5, c6, cz⟩ := XA3
  obtain ⟨d0, d1, d2, d3, d4, d5, d6, dz⟩ := XB3
  go_wp2
  all_goals
    go_ret
    exact ⟨ret_bool (by first | rfl | simp), B3⟩

set_option maxHeartbeats 1000000 in
theorem apart_b (f : Int) (p w h k u d : Bool) (f' : Int) (p' w' h' k' u' d' : Bool) (W : World) (h3 : Hid (chkI f p w h k u d = 0)) (h4 : (chkI f' p' w' h' k' u' d' != 0) = true) :
    Calls Try.prog 8 #[.agg #[.int .i64 f, .bool p, .bool w, .bool h, .bool k, .bool u, .bool d], .agg #[.int .i64 f', .bool p', .bool w', .bool h', .bool k', .bool u', .bool d']] W fun e W' => e = .returned (.bool true) ∧ Below W.heap.size W W' := by
  go_enter Try.func8, Try.ntmps8
  go_wp2_with fail
  refine (pack_word _ _ _ _ _ _ _ _ h3.out).mono ?_
  rintro e w1 ⟨rfl, hb1⟩
  have B1 := ((((Below.refl W.heap.size W).alloc (Nat.le_refl _) _).alloc (by simp) _).trans (hb1.mono (by simp; omega)))
  have XA := (Has7.new W (.int .i64 f) (.bool p) (.bool w) (.bool h) (.bool k) (.bool u) (.bool d) 23).alloc (.cells #[.int .i64 f', .bool p', .bool w', .bool h', .bool k', .bool u', .bool d'] 23) |>.call hb1
  have XB : Has7 w1 (W.heap.size + 1) (.int .i64 f') (.bool p') (.bool w') (.bool h') (.bool k') (.bool u') (.bool d') := by
    have g := (Has7.new (W.alloc (.cells #[.int .i64 f, .bool p, .bool w, .bool h, .bool k, .bool u, .bool d] 23)) (.int .i64 f') (.bool p') (.bool w') (.bool h') (.bool k') (.bool u') (.bool d') 23).call hb1
    simpa using g
  clear hb1
  obtain ⟨d0, d1, d2, d3, d4, d5, d6, dz⟩ := XB
  go_wp2_with fail
  refine (pack_none _ _ _ _ _ _ _ _ h4).mono ?_
  rintro e w2 ⟨rfl, hb2⟩
  have B2 := B1.trans (hb2.mono B1.size)
  have XA2 := XA.call hb2
  have XB2 := Has7.call (⟨d0, d1, d2, d3, d4, d5, d6, dz⟩ : Has7 w1 (W.heap.size + 1) (.int .i64 f') (.bool p') (.bool w') (.bool h') (.bool k') (.bool u') (.bool d')) hb2
  clear hb2 XA d0 d1 d2 d3 d4 d5 d6 dz
  go_wp2_with fail
  refine (awake_any _).mono ?_
  rintro e w3 ⟨rfl, hb3⟩
  have B3 := B2.trans (hb3.mono B2.size)
  have XA3 := XA2.call hb3
  have XB3 := XB2.call hb3
  clear hb3 XA2 XB2
  obtain ⟨c0, c1, c2, c3, c4, c5, c6, cz⟩ := XA3
  obtain ⟨d0, d1, d2, d3, d4, d5, d6, dz⟩ := XB3
  go_wp2
  all_goals
    go_ret
    exact ⟨ret_bool (by first | rfl | simp), B3⟩

set_option maxHeartbeats 1000000 in
theorem apart_same (f : Int) (p w h k u d : Bool) (W : World) (h3 : Hid (chkI f p w h k u d = 0)) :
    Calls Try.prog 8 #[.agg #[.int .i64 f, .bool p, .bool w, .bool h, .bool k, .bool u, .bool d], .agg #[.int .i64 f, .bool p, .bool w, .bool h, .bool k, .bool u, .bool d]] W fun e W' => e = .returned (.bool true) ∧ Below W.heap.size W W' := by
  go_enter Try.func8, Try.ntmps8
  go_wp2_with fail
  refine (pack_word _ _ _ _ _ _ _ _ h3.out).mono ?_
  rintro e w1 ⟨rfl, hb1⟩
  have B1 := ((((Below.refl W.heap.size W).alloc (Nat.le_refl _) _).alloc (by simp) _).trans (hb1.mono (by simp; omega)))
  have XA := (Has7.new W (.int .i64 f) (.bool p) (.bool w) (.bool h) (.bool k) (.bool u) (.bool d) 23).alloc (.cells #[.int .i64 f, .bool p, .bool w, .bool h, .bool k, .bool u, .bool d] 23) |>.call hb1
  have XB : Has7 w1 (W.heap.size + 1) (.int .i64 f) (.bool p) (.bool w) (.bool h) (.bool k) (.bool u) (.bool d) := by
    have g := (Has7.new (W.alloc (.cells #[.int .i64 f, .bool p, .bool w, .bool h, .bool k, .bool u, .bool d] 23)) (.int .i64 f) (.bool p) (.bool w) (.bool h) (.bool k) (.bool u) (.bool d) 23).call hb1
    simpa using g
  clear hb1
  obtain ⟨d0, d1, d2, d3, d4, d5, d6, dz⟩ := XB
  go_wp2_with fail
  refine (pack_word _ _ _ _ _ _ _ _ h3.out).mono ?_
  rintro e w2 ⟨rfl, hb2⟩
  have B2 := B1.trans (hb2.mono B1.size)
  have XA2 := XA.call hb2
  have XB2 := Has7.call (⟨d0, d1, d2, d3, d4, d5, d6, dz⟩ : Has7 w1 (W.heap.size + 1) (.int .i64 f) (.bool p) (.bool w) (.bool h) (.bool k) (.bool u) (.bool d)) hb2
  clear hb2 XA d0 d1 d2 d3 d4 d5 d6 dz
  go_wp2_with fail
  refine (awake_any _).mono ?_
  rintro e w3 ⟨rfl, hb3⟩
  have B3 := B2.trans (hb3.mono B2.size)
  have XA3 := XA2.call hb3
  have XB3 := XB2.call hb3
  clear hb3 XA2 XB2
  obtain ⟨c0, c1, c2, c3, c4, c5, c6, cz⟩ := XA3
  obtain ⟨d0, d1, d2, d3, d4, d5, d6, dz⟩ := XB3
  go_wp2
  all_goals
    go_ret
    exact ⟨ret_bool (by first | rfl | simp), B3⟩

set_option maxHeartbeats 2000000 in
theorem apart_other (f : Int) (p w h k u d : Bool) (f' : Int) (p' w' h' k' u' d' : Bool) (W : World) (h3 : Hid (chkI f p w h k u d = 0)) (h4 : Hid (chkI f' p' w' h' k' u' d' = 0)) (hne : (wordI f p w h k u d == wordI f' p' w' h' k' u' d') = false) :
    Calls Try.prog 8 #[.agg #[.int .i64 f, .bool p, .bool w, .bool h, .bool k, .bool u, .bool d], .agg #[.int .i64 f', .bool p', .bool w', .bool h', .bool k', .bool u', .bool d']] W fun e W' => e = .returned (.bool true) ∧ Below W.heap.size W W' := by
  go_enter Try.func8, Try.ntmps8
  go_wp2_with fail
  refine (pack_word _ _ _ _ _ _ _ _ h3.out).mono ?_
  rintro e w1 ⟨rfl, hb1⟩
  have B1 := ((((Below.refl W.heap.size W).alloc (Nat.le_refl _) _).alloc (by simp) _).trans (hb1.mono (by simp; omega)))
  have XA := (Has7.new W (.int .i64 f) (.bool p) (.bool w) (.bool h) (.bool k) (.bool u) (.bool d) 23).alloc (.cells #[.int .i64 f', .bool p', .bool w', .bool h', .bool k', .bool u', .bool d'] 23) |>.call hb1
  have XB : Has7 w1 (W.heap.size + 1) (.int .i64 f') (.bool p') (.bool w') (.bool h') (.bool k') (.bool u') (.bool d') := by
    have g := (Has7.new (W.alloc (.cells #[.int .i64 f, .bool p, .bool w, .bool h, .bool k, .bool u, .bool d] 23)) (.int .i64 f') (.bool p') (.bool w') (.bool h') (.bool k') (.bool u') (.bool d') 23).call hb1
    simpa using g
  clear hb1
  obtain ⟨d0, d1, d2, d3, d4, d5, d6, dz⟩ := XB
  go_wp2_with fail
  refine (pack_word _ _ _ _ _ _ _ _ h4.out).mono ?_
  rintro e w2 ⟨rfl, hb2⟩
  have B2 := B1.trans (hb2.mono B1.size)
  have XA2 := XA.call hb2
  have XB2 := Has7.call (⟨d0, d1, d2, d3, d4, d5, d6, dz⟩ : Has7 w1 (W.heap.size + 1) (.int .i64 f') (.bool p') (.bool w') (.bool h') (.bool k') (.bool u') (.bool d')) hb2
  clear hb2 XA d0 d1 d2 d3 d4 d5 d6 dz
  go_wp2_with fail
  refine (awake_any _).mono ?_
  rintro e w3 ⟨rfl, hb3⟩
  have B3 := B2.trans (hb3.mono B2.size)
  have XA3 := XA2.call hb3
  have XB3 := XB2.call hb3
  clear hb3 XA2 XB2
  obtain ⟨c0, c1, c2, c3, c4, c5, c6, cz⟩ := XA3
  obtain ⟨d0, d1, d2, d3, d4, d5, d6, dz⟩ := XB3
  go_wp2
  all_goals
    go_ret
    exact ⟨ret_bool (by first | rfl | (subst_vars; simp at hne; done) | simp), B3⟩

theorem apart_walk (f : Int) (p w h k u d : Bool) (f' : Int) (p' w' h' k' u' d' : Bool) (W : World) :
    Calls Try.prog 8 #[.agg #[.int .i64 f, .bool p, .bool w, .bool h, .bool k, .bool u, .bool d], .agg #[.int .i64 f', .bool p', .bool w', .bool h', .bool k', .bool u', .bool d']] W fun e W' => e = .returned (.bool true) ∧ Below W.heap.size W W' := by
  by_cases h3 : (chkI f p w h k u d != 0) = true
  · exact apart_a f p w h k u d f' p' w' h' k' u' d' W h3
  · have h3' : chkI f p w h k u d = 0 := by simpa using h3
    by_cases h4 : (chkI f' p' w' h' k' u' d' != 0) = true
    · exact apart_b f p w h k u d f' p' w' h' k' u' d' W h3' h4
    · have h4' : chkI f' p' w' h' k' u' d' = 0 := by simpa using h4
      by_cases hw : wordI f p w h k u d = wordI f' p' w' h' k' u' d'
      · obtain ⟨rfl, rfl, rfl, rfl, rfl, rfl, rfl⟩ := word_apart hw
        exact apart_same f p w h k u d W h3'
      · exact apart_other f p w h k u d f' p' w' h' k' u' d' W h3' h4' (by simpa using hw)

end Go.Proofs.Ytkbmdnaibggonaa
