/- The contracts of Prot, open and Allow, of package entry and of its reference. -/
import Derived.Test.YtkbmdnaibggonaaEb
namespace Go.Proofs.Ytkbmdnaibggonaa
open Go.RowKit

set_option maxHeartbeats 400000 in
theorem prot_any (f : Int) (p w h k u d : Bool) (W : World) :
    Calls Try.prog 18 #[.agg #[.int .i64 f, .bool p, .bool w, .bool h, .bool k, .bool u, .bool d]] W fun e W' => e = .returned (.int .i64 (protI p w)) ∧ Below W.heap.size W W' := by
  cases p
  · go_enter Try.func18, Try.ntmps18
    go_wp2
    go_ret
    exact ⟨rfl, (Below.refl _ _).alloc (Nat.le_refl _) _⟩
  · cases w
    all_goals
      go_enter Try.func18, Try.ntmps18
      go_wp2
      go_ret
      exact ⟨rfl, (Below.refl _ _).alloc (Nat.le_refl _) _⟩

set_option maxHeartbeats 400000 in
theorem rprot_any (f : Int) (p w h k u d : Bool) (W : World) :
    Calls Try.prog 19 #[.agg #[.int .i64 f, .bool p, .bool w, .bool h, .bool k, .bool u, .bool d]] W fun e W' => e = .returned (.int .i64 (protI p w)) ∧ Below W.heap.size W W' := by
  cases p
  · go_enter Try.func19, Try.ntmps19
    go_wp2
    go_ret
    exact ⟨rfl, (Below.refl _ _).alloc (Nat.le_refl _) _⟩
  · cases w
    all_goals
      go_enter Try.func19, Try.ntmps19
      go_wp2
      go_ret
      exact ⟨rfl, (Below.refl _ _).alloc (Nat.le_refl _) _⟩

set_option maxHeartbeats 400000 in
theorem open_any (f : Int) (p w h k u d b : Bool) (W : World) :
    Calls Try.prog 26 #[.agg #[.int .i64 f, .bool p, .bool w, .bool h, .bool k, .bool u, .bool d], .bool b] W fun e W' => e = .returned (.agg #[.int .i64 f, .bool true, .bool b, .bool h, .bool false, .bool u, .bool (d && b)]) ∧ Below W.heap.size W W' := by
  cases d
  · go_enter Try.func26, Try.ntmps26
    go_wp2
    exact bodyPost_ret (v := .agg #[.int .i64 f, .bool true, .bool b, .bool h, .bool false, .bool u, .bool false]) (by simp [results, Try.results26, go_sem]) rfl ⟨rfl, ((Below.refl _ _).alloc (Nat.le_refl _) _).alloc (by simp) _⟩
  · go_enter Try.func26, Try.ntmps26
    go_wp2
    exact bodyPost_ret (v := .agg #[.int .i64 f, .bool true, .bool b, .bool h, .bool false, .bool u, .bool b]) (by simp [results, Try.results26, go_sem]) rfl ⟨rfl, ((Below.refl _ _).alloc (Nat.le_refl _) _).alloc (by simp) _⟩

set_option maxHeartbeats 400000 in
theorem allow_chk (f : Int) (p w h k u d : Bool) (q : Int) (W : World) (h3 : (chkI f p w h k u d != 0) = true) :
    Calls Try.prog 16 #[.agg #[.int .i64 f, .bool p, .bool w, .bool h, .bool k, .bool u, .bool d], .int .i64 q] W fun e W' => e = .returned (.tuple #[agg0, .int .i64 (chkI f p w h k u d)]) ∧ Below W.heap.size W W' := by
  go_enter Try.func16, Try.ntmps16
  go_wp2_with fail
  refine (check_any _ _ _ _ _ _ _ _).mono ?_
  rintro e w1 ⟨rfl, hb⟩
  obtain ⟨hc, hf⟩ := bcell hb
  have hz : W.heap.size < w1.heap.size := by have := hb.size; simp at this; omega
  have hz1 : W.heap.size + 1 < w1.heap.size := by have := hb.size; simp at this; omega
  go_wp2_with fail
  exact bodyPost_ret (v := .tuple #[.agg #[.int .i64 0, .bool false, .bool false, .bool false, .bool false, .bool false, .bool false], .int .i64 (chkI f p w h k u d)]) (by simp [results, Try.results16, go_sem, *]) rfl ⟨rfl, (((((((((((Below.refl _ _).alloc (Nat.le_refl _) _).alloc (by simp) _).trans (hb.mono (by simp; omega))).setCell (Nat.le_succ _) _).setCell (Nat.le_succ _) _).setCell (Nat.le_succ _) _).setCell (Nat.le_succ _) _).setCell (Nat.le_succ _) _).setCell (Nat.le_succ _) _).setCell (Nat.le_succ _) _)⟩

set_option maxHeartbeats 400000 in
theorem allow_arg (f : Int) (p w h k u d : Bool) (q : Int) (W : World) (h3 : (chkI f p w h k u d != 0) = false) (q0 : (q != 0) = true) (q1 : (q != 1) = true) (q3 : (q != 3) = true) :
    Calls Try.prog 16 #[.agg #[.int .i64 f, .bool p, .bool w, .bool h, .bool k, .bool u, .bool d], .int .i64 q] W fun e W' => e = .returned (.tuple #[agg0, .int .i64 2]) ∧ Below W.heap.size W W' := by
  go_enter Try.func16, Try.ntmps16
  go_wp2_with fail
  refine (check_any _ _ _ _ _ _ _ _).mono ?_
  rintro e w1 ⟨rfl, hb⟩
  obtain ⟨hc, hf⟩ := bcell hb
  have hz : W.heap.size < w1.heap.size := by have := hb.size; simp at this; omega
  have hz1 : W.heap.size + 1 < w1.heap.size := by have := hb.size; simp at this; omega
  go_wp2_with fail
  exact bodyPost_ret (v := .tuple #[.agg #[.int .i64 0, .bool false, .bool false, .bool false, .bool false, .bool false, .bool false], .int .i64 2]) (by simp [results, Try.results16, go_sem, *]) rfl ⟨rfl, (((((((((((Below.refl _ _).alloc (Nat.le_refl _) _).alloc (by simp) _).trans (hb.mono (by simp; omega))).setCell (Nat.le_succ _) _).setCell (Nat.le_succ _) _).setCell (Nat.le_succ _) _).setCell (Nat.le_succ _) _).setCell (Nat.le_succ _) _).setCell (Nat.le_succ _) _).setCell (Nat.le_succ _) _)⟩

set_option maxHeartbeats 400000 in
theorem allow_none (f : Int) (p w h k u d : Bool) (q : Int) (W : World) (h3 : (chkI f p w h k u d != 0) = false) (hq : q = 0 ∨ q = 1 ∨ q = 3) (hn : noB f p w h k u d = true) :
    Calls Try.prog 16 #[.agg #[.int .i64 f, .bool p, .bool w, .bool h, .bool k, .bool u, .bool d], .int .i64 q] W fun e W' => e = .returned (.tuple #[agg0, .int .i64 6]) ∧ Below W.heap.size W W' := by
  rcases hq with rfl | rfl | rfl
  all_goals
    go_enter Try.func16, Try.ntmps16
    go_wp2_with fail
    refine (check_any _ _ _ _ _ _ _ _).mono ?_
    rintro e w1 ⟨rfl, hb⟩
    obtain ⟨hc, hf⟩ := bcell hb
    have hz : W.heap.size < w1.heap.size := by have := hb.size; simp at this; omega
    have hz1 : W.heap.size + 1 < w1.heap.size := by have := hb.size; simp at this; omega
    go_wp2_with fail
    refine (nothing_any _ _ _ _ _ _ _ _).mono ?_
    rintro e w2 ⟨rfl, hb2⟩
    obtain ⟨hc2, hf2⟩ := bcell hb2
    have hz2 : W.heap.size < w2.heap.size := by have := hb2.size; omega
    have hz3 : W.heap.size + 1 < w2.heap.size := by have := hb2.size; omega
    go_wp2_with fail
    exact bodyPost_ret (v := .tuple #[.agg #[.int .i64 0, .bool false, .bool false, .bool false, .bool false, .bool false, .bool false], .int .i64 6]) (by simp [results, Try.results16, go_sem, *]) rfl ⟨rfl, ((((((((((((Below.refl _ _).alloc (Nat.le_refl _) _).alloc (by simp) _).trans (hb.mono (by simp; omega))).trans (hb2.mono (by omega))).setCell (Nat.le_succ _) _).setCell (Nat.le_succ _) _).setCell (Nat.le_succ _) _).setCell (Nat.le_succ _) _).setCell (Nat.le_succ _) _).setCell (Nat.le_succ _) _).setCell (Nat.le_succ _) _)⟩

set_option maxHeartbeats 800000 in
theorem allow_huge (f : Int) (p w k u d : Bool) (W : World) (h3 : (chkI f p w true k u d != 0) = false) (hn : noB f p w true k u d = false) :
    Calls Try.prog 16 #[.agg #[.int .i64 f, .bool p, .bool w, .bool true, .bool k, .bool u, .bool d], .int .i64 0] W fun e W' => e = .returned (.tuple #[.agg #[.int .i64 0, .bool false, .bool false, .bool false, .bool false, .bool false, .bool false], .int .i64 5]) ∧ Below W.heap.size W W' := by
  go_enter Try.func16, Try.ntmps16
  go_wp2_with fail
  refine (check_any _ _ _ _ _ _ _ _).mono ?_
  rintro e w1 ⟨rfl, hb⟩
  obtain ⟨hc, hf⟩ := bcell hb
  have hz : W.heap.size < w1.heap.size := by have := hb.size; simp at this; omega
  have hz1 : W.heap.size + 1 < w1.heap.size := by have := hb.size; simp at this; omega
  go_wp2_with fail
  refine (nothing_any _ _ _ _ _ _ _ _).mono ?_
  rintro e w2 ⟨rfl, hb2⟩
  obtain ⟨hc2, hf2⟩ := bcell hb2
  have hz2 : W.heap.size < w2.heap.size := by have := hb2.size; omega
  have hz3 : W.heap.size + 1 < w2.heap.size := by have := hb2.size; omega
  go_wp2_with fail
  exact bodyPost_ret (v := .tuple #[.agg #[.int .i64 0, .bool false, .bool false, .bool false, .bool false, .bool false, .bool false], .int .i64 5]) (by simp [results, Try.results16, go_sem, *]) rfl ⟨rfl, ((((((((((((Below.refl _ _).alloc (Nat.le_refl _) _).alloc (by simp) _).trans (hb.mono (by simp; omega))).trans (hb2.mono (by omega))).setCell (Nat.le_succ _) _).setCell (Nat.le_succ _) _).setCell (Nat.le_succ _) _).setCell (Nat.le_succ _) _).setCell (Nat.le_succ _) _).setCell (Nat.le_succ _) _).setCell (Nat.le_succ _) _)⟩

set_option maxHeartbeats 800000 in
theorem allow_held (f : Int) (p w k u d : Bool) (W : World) (h3 : (chkI f p w false k u d != 0) = false) (hn : noB f p w false k u d = false) :
    Calls Try.prog 16 #[.agg #[.int .i64 f, .bool p, .bool w, .bool false, .bool k, .bool u, .bool d], .int .i64 0] W fun e W' => e = .returned (.tuple #[.agg #[.int .i64 f, .bool false, .bool false, .bool false, .bool true, .bool false, .bool false], .int .i64 0]) ∧ Below W.heap.size W W' := by
  go_enter Try.func16, Try.ntmps16
  go_wp2_with fail
  refine (check_any _ _ _ _ _ _ _ _).mono ?_
  rintro e w1 ⟨rfl, hb⟩
  obtain ⟨hc, hf⟩ := bcell hb
  have hz : W.heap.size < w1.heap.size := by have := hb.size; simp at this; omega
  have hz1 : W.heap.size + 1 < w1.heap.size := by have := hb.size; simp at this; omega
  go_wp2_with fail
  refine (nothing_any _ _ _ _ _ _ _ _).mono ?_
  rintro e w2 ⟨rfl, hb2⟩
  obtain ⟨hc2, hf2⟩ := bcell hb2
  have hz2 : W.heap.size < w2.heap.size := by have := hb2.size; omega
  have hz3 : W.heap.size + 1 < w2.heap.size := by have := hb2.size; omega
  go_wp2_with fail
  exact bodyPost_ret (v := .tuple #[.agg #[.int .i64 f, .bool false, .bool false, .bool false, .bool true, .bool false, .bool false], .int .i64 0]) (by simp [results, Try.results16, go_sem, *]) rfl ⟨rfl, ((((((((((((Below.refl _ _).alloc (Nat.le_refl _) _).alloc (by simp) _).trans (hb.mono (by simp; omega))).trans (hb2.mono (by omega))).setCell (Nat.le_succ _) _).setCell (Nat.le_succ _) _).setCell (Nat.le_succ _) _).setCell (Nat.le_succ _) _).setCell (Nat.le_succ _) _).setCell (Nat.le_succ _) _).setCell (Nat.le_succ _) _)⟩

set_option maxHeartbeats 800000 in
theorem allow_1 (f : Int) (p w h k u d : Bool) (W : World) (h3 : (chkI f p w h k u d != 0) = false) (hn : noB f p w h k u d = false) :
    Calls Try.prog 16 #[.agg #[.int .i64 f, .bool p, .bool w, .bool h, .bool k, .bool u, .bool d], .int .i64 1] W fun e W' => e = .returned (.tuple #[.agg #[.int .i64 f, .bool true, .bool false, .bool h, .bool false, .bool u, .bool (d && false)], .int .i64 0]) ∧ Below W.heap.size W W' := by
  go_enter Try.func16, Try.ntmps16
  go_wp2_with fail
  refine (check_any _ _ _ _ _ _ _ _).mono ?_
  rintro e w1 ⟨rfl, hb⟩
  obtain ⟨hc, hf⟩ := bcell hb
  have hz : W.heap.size < w1.heap.size := by have := hb.size; simp at this; omega
  have hz1 : W.heap.size + 1 < w1.heap.size := by have := hb.size; simp at this; omega
  go_wp2_with fail
  refine (nothing_any _ _ _ _ _ _ _ _).mono ?_
  rintro e w2 ⟨rfl, hb2⟩
  obtain ⟨hc2, hf2⟩ := bcell hb2
  have hz2 : W.heap.size < w2.heap.size := by have := hb2.size; omega
  have hz3 : W.heap.size + 1 < w2.heap.size := by have := hb2.size; omega
  go_wp2_with fail
  refine (open_any _ _ _ _ _ _ _ _ _).mono ?_
  rintro e w3 ⟨rfl, hb3⟩
  obtain ⟨hc3, hf3⟩ := bcell hb3
  have hz4 : W.heap.size < w3.heap.size := by have := hb3.size; omega
  have hz5 : W.heap.size + 1 < w3.heap.size := by have := hb3.size; omega
  go_wp2_with fail
  exact bodyPost_ret (v := .tuple #[.agg #[.int .i64 f, .bool true, .bool false, .bool h, .bool false, .bool u, .bool (d && false)], .int .i64 0]) (by simp [results, Try.results16, go_sem, *]) rfl ⟨rfl, (((((((((((((Below.refl _ _).alloc (Nat.le_refl _) _).alloc (by simp) _).trans (hb.mono (by simp; omega))).trans (hb2.mono (by omega))).trans (hb3.mono (by omega))).setCell (Nat.le_succ _) _).setCell (Nat.le_succ _) _).setCell (Nat.le_succ _) _).setCell (Nat.le_succ _) _).setCell (Nat.le_succ _) _).setCell (Nat.le_succ _) _).setCell (Nat.le_succ _) _)⟩

set_option maxHeartbeats 800000 in
theorem allow_3 (f : Int) (p w h k u d : Bool) (W : World) (h3 : (chkI f p w h k u d != 0) = false) (hn : noB f p w h k u d = false) :
    Calls Try.prog 16 #[.agg #[.int .i64 f, .bool p, .bool w, .bool h, .bool k, .bool u, .bool d], .int .i64 3] W fun e W' => e = .returned (.tuple #[.agg #[.int .i64 f, .bool true, .bool true, .bool h, .bool false, .bool u, .bool (d && true)], .int .i64 0]) ∧ Below W.heap.size W W' := by
  go_enter Try.func16, Try.ntmps16
  go_wp2_with fail
  refine (check_any _ _ _ _ _ _ _ _).mono ?_
  rintro e w1 ⟨rfl, hb⟩
  obtain ⟨hc, hf⟩ := bcell hb
  have hz : W.heap.size < w1.heap.size := by have := hb.size; simp at this; omega
  have hz1 : W.heap.size + 1 < w1.heap.size := by have := hb.size; simp at this; omega
  go_wp2_with fail
  refine (nothing_any _ _ _ _ _ _ _ _).mono ?_
  rintro e w2 ⟨rfl, hb2⟩
  obtain ⟨hc2, hf2⟩ := bcell hb2
  have hz2 : W.heap.size < w2.heap.size := by have := hb2.size; omega
  have hz3 : W.heap.size + 1 < w2.heap.size := by have := hb2.size; omega
  go_wp2_with fail
  refine (open_any _ _ _ _ _ _ _ _ _).mono ?_
  rintro e w3 ⟨rfl, hb3⟩
  obtain ⟨hc3, hf3⟩ := bcell hb3
  have hz4 : W.heap.size < w3.heap.size := by have := hb3.size; omega
  have hz5 : W.heap.size + 1 < w3.heap.size := by have := hb3.size; omega
  go_wp2_with fail
  exact bodyPost_ret (v := .tuple #[.agg #[.int .i64 f, .bool true, .bool true, .bool h, .bool false, .bool u, .bool (d && true)], .int .i64 0]) (by simp [results, Try.results16, go_sem, *]) rfl ⟨rfl, (((((((((((((Below.refl _ _).alloc (Nat.le_refl _) _).alloc (by simp) _).trans (hb.mono (by simp; omega))).trans (hb2.mono (by omega))).trans (hb3.mono (by omega))).setCell (Nat.le_succ _) _).setCell (Nat.le_succ _) _).setCell (Nat.le_succ _) _).setCell (Nat.le_succ _) _).setCell (Nat.le_succ _) _).setCell (Nat.le_succ _) _).setCell (Nat.le_succ _) _)⟩

theorem allow_any (f : Int) (p w h k u d : Bool) (q : Int) (W : World) :
    Calls Try.prog 16 #[.agg #[.int .i64 f, .bool p, .bool w, .bool h, .bool k, .bool u, .bool d], .int .i64 q] W fun e W' => e = .returned (.tuple #[alE f p w h k u d q, .int .i64 (alErr f p w h k u d q)]) ∧ Below W.heap.size W W' := by
  by_cases h3 : (chkI f p w h k u d != 0) = true
  · have he := alErr_chk (q := q) h3
    have hne : alErr f p w h k u d q ≠ 0 := by rw [he]; simpa using h3
    rw [alE_bad hne, he]
    exact allow_chk f p w h k u d q W h3
  · simp only [Bool.not_eq_true] at h3
    by_cases hq : q = 0 ∨ q = 1 ∨ q = 3
    · by_cases hn : noB f p w h k u d = true
      · have he : alErr f p w h k u d q = 6 := by simp at h3; simp [alErr, h3, hq, hn]
        rw [alE_bad (by rw [he]; omega), he]
        exact allow_none f p w h k u d q W h3 hq hn
      · simp only [Bool.not_eq_true] at hn
        rcases hq with rfl | rfl | rfl
        · cases h
          · have he : alErr f p w false k u d 0 = 0 := by simp at h3; simp [alErr, h3, hn]
            have := allow_held f p w k u d W h3 hn
            simpa [alE, alF, alP, alW, alH, alK, alU, alD, he] using this
          · have he : alErr f p w true k u d 0 = 5 := by simp at h3; simp [alErr, h3, hn]
            rw [alE_bad (by rw [he]; omega), he]
            exact allow_huge f p w k u d W h3 hn
        · have he : alErr f p w h k u d 1 = 0 := by simp at h3; simp [alErr, h3, hn]
          have := allow_1 f p w h k u d W h3 hn
          simpa [alE, alF, alP, alW, alH, alK, alU, alD, he] using this
        · have he : alErr f p w h k u d 3 = 0 := by simp at h3; simp [alErr, h3, hn]
          have := allow_3 f p w h k u d W h3 hn
          simpa [alE, alF, alP, alW, alH, alK, alU, alD, he] using this
    · have q0 : (q != 0) = true := by simp; omega
      have q1 : (q != 1) = true := by simp; omega
      have q3 : (q != 3) = true := by simp; omega
      have he := alErr_arg h3 q0 q1 q3
      rw [alE_bad (by rw [he]; omega), he]
      exact allow_arg f p w h k u d q W h3 q0 q1 q3

set_option maxHeartbeats 400000 in
theorem rallow_chk (f : Int) (p w h k u d : Bool) (q : Int) (W : World) (h3 : (chkI f p w h k u d != 0) = true) :
    Calls Try.prog 17 #[.agg #[.int .i64 f, .bool p, .bool w, .bool h, .bool k, .bool u, .bool d], .int .i64 q] W fun e W' => e = .returned (.tuple #[agg0, .int .i64 (chkI f p w h k u d)]) ∧ Below W.heap.size W W' := by
  go_enter Try.func17, Try.ntmps17
  go_wp2_with fail
  refine (rcheck_any _ _ _ _ _ _ _ _).mono ?_
  rintro e w1 ⟨rfl, hb⟩
  obtain ⟨hc, hf⟩ := bcell hb
  have hz : W.heap.size < w1.heap.size := by have := hb.size; simp at this; omega
  have hz1 : W.heap.size + 1 < w1.heap.size := by have := hb.size; simp at this; omega
  go_wp2_with fail
  exact bodyPost_ret (v := .tuple #[.agg #[.int .i64 0, .bool false, .bool false, .bool false, .bool false, .bool false, .bool false], .int .i64 (chkI f p w h k u d)]) (by simp [results, Try.results17, go_sem, *]) rfl ⟨rfl, (((((((((((Below.refl _ _).alloc (Nat.le_refl _) _).alloc (by simp) _).trans (hb.mono (by simp; omega))).setCell (Nat.le_succ _) _).setCell (Nat.le_succ _) _).setCell (Nat.le_succ _) _).setCell (Nat.le_succ _) _).setCell (Nat.le_succ _) _).setCell (Nat.le_succ _) _).setCell (Nat.le_succ _) _)⟩

set_option maxHeartbeats 400000 in
theorem rallow_arg (f : Int) (p w h k u d : Bool) (q : Int) (W : World) (h3 : (chkI f p w h k u d != 0) = false) (q0 : (q != 0) = true) (q1 : (q != 1) = true) (q3 : (q != 3) = true) :
    Calls Try.prog 17 #[.agg #[.int .i64 f, .bool p, .bool w, .bool h, .bool k, .bool u, .bool d], .int .i64 q] W fun e W' => e = .returned (.tuple #[agg0, .int .i64 2]) ∧ Below W.heap.size W W' := by
  go_enter Try.func17, Try.ntmps17
  go_wp2_with fail
  refine (rcheck_any _ _ _ _ _ _ _ _).mono ?_
  rintro e w1 ⟨rfl, hb⟩
  obtain ⟨hc, hf⟩ := bcell hb
  have hz : W.heap.size < w1.heap.size := by have := hb.size; simp at this; omega
  have hz1 : W.heap.size + 1 < w1.heap.size := by have := hb.size; simp at this; omega
  go_wp2_with fail
  exact bodyPost_ret (v := .tuple #[.agg #[.int .i64 0, .bool false, .bool false, .bool false, .bool false, .bool false, .bool false], .int .i64 2]) (by simp [results, Try.results17, go_sem, *]) rfl ⟨rfl, (((((((((((Below.refl _ _).alloc (Nat.le_refl _) _).alloc (by simp) _).trans (hb.mono (by simp; omega))).setCell (Nat.le_succ _) _).setCell (Nat.le_succ _) _).setCell (Nat.le_succ _) _).setCell (Nat.le_succ _) _).setCell (Nat.le_succ _) _).setCell (Nat.le_succ _) _).setCell (Nat.le_succ _) _)⟩

set_option maxHeartbeats 400000 in
theorem rallow_none0 (f : Int) (w h u d : Bool) (q : Int) (W : World) (h3 : (chkI f false w h false u d != 0) = false) (hq : q = 0 ∨ q = 1 ∨ q = 3) :
    Calls Try.prog 17 #[.agg #[.int .i64 f, .bool false, .bool w, .bool h, .bool false, .bool u, .bool d], .int .i64 q] W fun e W' => e = .returned (.tuple #[agg0, .int .i64 6]) ∧ Below W.heap.size W W' := by
  rcases hq with rfl | rfl | rfl
  all_goals
    go_enter Try.func17, Try.ntmps17
    go_wp2_with fail
    refine (rcheck_any _ _ _ _ _ _ _ _).mono ?_
    rintro e w1 ⟨rfl, hb⟩
    obtain ⟨hc, hf⟩ := bcell hb
    have hz : W.heap.size < w1.heap.size := by have := hb.size; simp at this; omega
    have hz1 : W.heap.size + 1 < w1.heap.size := by have := hb.size; simp at this; omega
    go_wp2_with fail
    exact bodyPost_ret (v := .tuple #[.agg #[.int .i64 0, .bool false, .bool false, .bool false, .bool false, .bool false, .bool false], .int .i64 6]) (by simp [results, Try.results17, go_sem, *]) rfl ⟨rfl, (((((((((((Below.refl _ _).alloc (Nat.le_refl _) _).alloc (by simp) _).trans (hb.mono (by simp; omega))).setCell (Nat.le_succ _) _).setCell (Nat.le_succ _) _).setCell (Nat.le_succ _) _).setCell (Nat.le_succ _) _).setCell (Nat.le_succ _) _).setCell (Nat.le_succ _) _).setCell (Nat.le_succ _) _)⟩
theorem rallow_none (f : Int) (p w h k u d : Bool) (q : Int) (W : World) (h3 : (chkI f p w h k u d != 0) = false) (hq : q = 0 ∨ q = 1 ∨ q = 3) (hn : noB f p w h k u d = true) :
    Calls Try.prog 17 #[.agg #[.int .i64 f, .bool p, .bool w, .bool h, .bool k, .bool u, .bool d], .int .i64 q] W fun e W' => e = .returned (.tuple #[agg0, .int .i64 6]) ∧ Below W.heap.size W W' := by
  have hp : p = false := by cases p <;> simp [noB] at hn ⊢
  have hk : k = false := by cases k <;> simp [noB] at hn ⊢
  subst hp hk
  exact rallow_none0 f w h u d q W h3 hq

set_option maxHeartbeats 800000 in
theorem rallow_huge (f : Int) (p w k u d : Bool) (W : World) (h3 : (chkI f p w true k u d != 0) = false) (hn : noB f p w true k u d = false) :
    Calls Try.prog 17 #[.agg #[.int .i64 f, .bool p, .bool w, .bool true, .bool k, .bool u, .bool d], .int .i64 0] W fun e W' => e = .returned (.tuple #[.agg #[.int .i64 0, .bool false, .bool false, .bool false, .bool false, .bool false, .bool false], .int .i64 5]) ∧ Below W.heap.size W W' := by
  have hpk : p = true ∨ (p = false ∧ k = true) := no_cases h3 hn
  rcases hpk with rfl | ⟨rfl, rfl⟩
  all_goals
    go_enter Try.func17, Try.ntmps17
    go_wp2_with fail
    refine (rcheck_any _ _ _ _ _ _ _ _).mono ?_
    rintro e w1 ⟨rfl, hb⟩
    obtain ⟨hc, hf⟩ := bcell hb
    have hz : W.heap.size < w1.heap.size := by have := hb.size; simp at this; omega
    have hz1 : W.heap.size + 1 < w1.heap.size := by have := hb.size; simp at this; omega
    go_wp2_with fail
    exact bodyPost_ret (v := .tuple #[.agg #[.int .i64 0, .bool false, .bool false, .bool false, .bool false, .bool false, .bool false], .int .i64 5]) (by simp [results, Try.results17, go_sem, *]) rfl ⟨rfl, (((((((((((Below.refl _ _).alloc (Nat.le_refl _) _).alloc (by simp) _).trans (hb.mono (by simp; omega))).setCell (Nat.le_succ _) _).setCell (Nat.le_succ _) _).setCell (Nat.le_succ _) _).setCell (Nat.le_succ _) _).setCell (Nat.le_succ _) _).setCell (Nat.le_succ _) _).setCell (Nat.le_succ _) _)⟩

set_option maxHeartbeats 800000 in
theorem rallow_held (f : Int) (p w k u d : Bool) (W : World) (h3 : (chkI f p w false k u d != 0) = false) (hn : noB f p w false k u d = false) :
    Calls Try.prog 17 #[.agg #[.int .i64 f, .bool p, .bool w, .bool false, .bool k, .bool u, .bool d], .int .i64 0] W fun e W' => e = .returned (.tuple #[.agg #[.int .i64 f, .bool false, .bool false, .bool false, .bool true, .bool false, .bool false], .int .i64 0]) ∧ Below W.heap.size W W' := by
  have hpk : p = true ∨ (p = false ∧ k = true) := no_cases h3 hn
  rcases hpk with rfl | ⟨rfl, rfl⟩
  all_goals
    go_enter Try.func17, Try.ntmps17
    go_wp2_with fail
    refine (rcheck_any _ _ _ _ _ _ _ _).mono ?_
    rintro e w1 ⟨rfl, hb⟩
    obtain ⟨hc, hf⟩ := bcell hb
    have hz : W.heap.size < w1.heap.size := by have := hb.size; simp at this; omega
    have hz1 : W.heap.size + 1 < w1.heap.size := by have := hb.size; simp at this; omega
    go_wp2_with fail
    exact bodyPost_ret (v := .tuple #[.agg #[.int .i64 f, .bool false, .bool false, .bool false, .bool true, .bool false, .bool false], .int .i64 0]) (by simp [results, Try.results17, go_sem, *]) rfl ⟨rfl, (((((((((((Below.refl _ _).alloc (Nat.le_refl _) _).alloc (by simp) _).trans (hb.mono (by simp; omega))).setCell (Nat.le_succ _) _).setCell (Nat.le_succ _) _).setCell (Nat.le_succ _) _).setCell (Nat.le_succ _) _).setCell (Nat.le_succ _) _).setCell (Nat.le_succ _) _).setCell (Nat.le_succ _) _)⟩

set_option maxHeartbeats 800000 in
theorem rallow_1 (f : Int) (p w h k u d : Bool) (W : World) (h3 : (chkI f p w h k u d != 0) = false) (hn : noB f p w h k u d = false) :
    Calls Try.prog 17 #[.agg #[.int .i64 f, .bool p, .bool w, .bool h, .bool k, .bool u, .bool d], .int .i64 1] W fun e W' => e = .returned (.tuple #[.agg #[.int .i64 f, .bool true, .bool false, .bool h, .bool false, .bool u, .bool (d && false)], .int .i64 0]) ∧ Below W.heap.size W W' := by
  have hpk : p = true ∨ (p = false ∧ k = true) := no_cases h3 hn
  rcases hpk with rfl | ⟨rfl, rfl⟩
  all_goals
    cases d
    · go_enter Try.func17, Try.ntmps17
      go_wp2_with fail
      refine (rcheck_any _ _ _ _ _ _ _ _).mono ?_
      rintro e w1 ⟨rfl, hb⟩
      obtain ⟨hc, hf⟩ := bcell hb
      have hz : W.heap.size < w1.heap.size := by have := hb.size; simp at this; omega
      have hz1 : W.heap.size + 1 < w1.heap.size := by have := hb.size; simp at this; omega
      go_wp2_with fail
      exact bodyPost_ret (v := .tuple #[.agg #[.int .i64 f, .bool true, .bool false, .bool h, .bool false, .bool u, .bool (false && false)], .int .i64 0]) (by simp [results, Try.results17, go_sem, *]) rfl ⟨rfl, (((((((((((Below.refl _ _).alloc (Nat.le_refl _) _).alloc (by simp) _).trans (hb.mono (by simp; omega))).setCell (Nat.le_succ _) _).setCell (Nat.le_succ _) _).setCell (Nat.le_succ _) _).setCell (Nat.le_succ _) _).setCell (Nat.le_succ _) _).setCell (Nat.le_succ _) _).setCell (Nat.le_succ _) _)⟩
    · go_enter Try.func17, Try.ntmps17
      go_wp2_with fail
      refine (rcheck_any _ _ _ _ _ _ _ _).mono ?_
      rintro e w1 ⟨rfl, hb⟩
      obtain ⟨hc, hf⟩ := bcell hb
      have hz : W.heap.size < w1.heap.size := by have := hb.size; simp at this; omega
      have hz1 : W.heap.size + 1 < w1.heap.size := by have := hb.size; simp at this; omega
      go_wp2_with fail
      exact bodyPost_ret (v := .tuple #[.agg #[.int .i64 f, .bool true, .bool false, .bool h, .bool false, .bool u, .bool (true && false)], .int .i64 0]) (by simp [results, Try.results17, go_sem, *]) rfl ⟨rfl, (((((((((((Below.refl _ _).alloc (Nat.le_refl _) _).alloc (by simp) _).trans (hb.mono (by simp; omega))).setCell (Nat.le_succ _) _).setCell (Nat.le_succ _) _).setCell (Nat.le_succ _) _).setCell (Nat.le_succ _) _).setCell (Nat.le_succ _) _).setCell (Nat.le_succ _) _).setCell (Nat.le_succ _) _)⟩

set_option maxHeartbeats 800000 in
theorem rallow_3 (f : Int) (p w h k u d : Bool) (W : World) (h3 : (chkI f p w h k u d != 0) = false) (hn : noB f p w h k u d = false) :
    Calls Try.prog 17 #[.agg #[.int .i64 f, .bool p, .bool w, .bool h, .bool k, .bool u, .bool d], .int .i64 3] W fun e W' => e = .returned (.tuple #[.agg #[.int .i64 f, .bool true, .bool true, .bool h, .bool false, .bool u, .bool (d && true)], .int .i64 0]) ∧ Below W.heap.size W W' := by
  have hpk : p = true ∨ (p = false ∧ k = true) := no_cases h3 hn
  rcases hpk with rfl | ⟨rfl, rfl⟩
  all_goals
    cases d
    · go_enter Try.func17, Try.ntmps17
      go_wp2_with fail
      refine (rcheck_any _ _ _ _ _ _ _ _).mono ?_
      rintro e w1 ⟨rfl, hb⟩
      obtain ⟨hc, hf⟩ := bcell hb
      have hz : W.heap.size < w1.heap.size := by have := hb.size; simp at this; omega
      have hz1 : W.heap.size + 1 < w1.heap.size := by have := hb.size; simp at this; omega
      go_wp2_with fail
      exact bodyPost_ret (v := .tuple #[.agg #[.int .i64 f, .bool true, .bool true, .bool h, .bool false, .bool u, .bool (false && true)], .int .i64 0]) (by simp [results, Try.results17, go_sem, *]) rfl ⟨rfl, (((((((((((Below.refl _ _).alloc (Nat.le_refl _) _).alloc (by simp) _).trans (hb.mono (by simp; omega))).setCell (Nat.le_succ _) _).setCell (Nat.le_succ _) _).setCell (Nat.le_succ _) _).setCell (Nat.le_succ _) _).setCell (Nat.le_succ _) _).setCell (Nat.le_succ _) _).setCell (Nat.le_succ _) _)⟩
    · go_enter Try.func17, Try.ntmps17
      go_wp2_with fail
      refine (rcheck_any _ _ _ _ _ _ _ _).mono ?_
      rintro e w1 ⟨rfl, hb⟩
      obtain ⟨hc, hf⟩ := bcell hb
      have hz : W.heap.size < w1.heap.size := by have := hb.size; simp at this; omega
      have hz1 : W.heap.size + 1 < w1.heap.size := by have := hb.size; simp at this; omega
      go_wp2_with fail
      exact bodyPost_ret (v := .tuple #[.agg #[.int .i64 f, .bool true, .bool true, .bool h, .bool false, .bool u, .bool (true && true)], .int .i64 0]) (by simp [results, Try.results17, go_sem, *]) rfl ⟨rfl, (((((((((((Below.refl _ _).alloc (Nat.le_refl _) _).alloc (by simp) _).trans (hb.mono (by simp; omega))).setCell (Nat.le_succ _) _).setCell (Nat.le_succ _) _).setCell (Nat.le_succ _) _).setCell (Nat.le_succ _) _).setCell (Nat.le_succ _) _).setCell (Nat.le_succ _) _).setCell (Nat.le_succ _) _)⟩

theorem rallow_any (f : Int) (p w h k u d : Bool) (q : Int) (W : World) :
    Calls Try.prog 17 #[.agg #[.int .i64 f, .bool p, .bool w, .bool h, .bool k, .bool u, .bool d], .int .i64 q] W fun e W' => e = .returned (.tuple #[alE f p w h k u d q, .int .i64 (alErr f p w h k u d q)]) ∧ Below W.heap.size W W' := by
  by_cases h3 : (chkI f p w h k u d != 0) = true
  · have he := alErr_chk (q := q) h3
    have hne : alErr f p w h k u d q ≠ 0 := by rw [he]; simpa using h3
    rw [alE_bad hne, he]
    exact rallow_chk f p w h k u d q W h3
  · simp only [Bool.not_eq_true] at h3
    by_cases hq : q = 0 ∨ q = 1 ∨ q = 3
    · by_cases hn : noB f p w h k u d = true
      · have he : alErr f p w h k u d q = 6 := by simp at h3; simp [alErr, h3, hq, hn]
        rw [alE_bad (by rw [he]; omega), he]
        exact rallow_none f p w h k u d q W h3 hq hn
      · simp only [Bool.not_eq_true] at hn
        rcases hq with rfl | rfl | rfl
        · cases h
          · have he : alErr f p w false k u d 0 = 0 := by simp at h3; simp [alErr, h3, hn]
            have := rallow_held f p w k u d W h3 hn
            simpa [alE, alF, alP, alW, alH, alK, alU, alD, he] using this
          · have he : alErr f p w true k u d 0 = 5 := by simp at h3; simp [alErr, h3, hn]
            rw [alE_bad (by rw [he]; omega), he]
            exact rallow_huge f p w k u d W h3 hn
        · have he : alErr f p w h k u d 1 = 0 := by simp at h3; simp [alErr, h3, hn]
          have := rallow_1 f p w h k u d W h3 hn
          simpa [alE, alF, alP, alW, alH, alK, alU, alD, he] using this
        · have he : alErr f p w h k u d 3 = 0 := by simp at h3; simp [alErr, h3, hn]
          have := rallow_3 f p w h k u d W h3 hn
          simpa [alE, alF, alP, alW, alH, alK, alU, alD, he] using this
    · have q0 : (q != 0) = true := by simp; omega
      have q1 : (q != 1) = true := by simp; omega
      have q3 : (q != 3) = true := by simp; omega
      have he := alErr_arg h3 q0 q1 q3
      rw [alE_bad (by rw [he]; omega), he]
      exact rallow_arg f p w h k u d q W h3 q0 q1 q3
end Go.Proofs.Ytkbmdnaibggonaa
