/- The contracts of a walk's look at one entry: what an entry says at a level; and of the leaf as it is for one page. -/
import Derived.Test.YtaphihoomipdaaaWb
namespace Go.Proofs.Ytaphihoomipdaaa
open Go.RowKit
theorem ev0 (f : Int) : evB f 0 = true := by simp [evB, ordB]
section
variable {w : World} {a b n : Nat} {T : TypeId} {ws : List Int} {rb fb : Nat}
set_option maxHeartbeats 800000 in
theorem ask_bad (h : RamAt w a b T n ws) (hr : w.cell? ⟨rb, 0, none⟩ = some (.pointer (some ⟨a, 0, none⟩))) (hF : w.cell? ⟨fb, 0, none⟩ = some (.int .i64 ((n : Int) / 8))) (hrb : rb < w.heap.size) (hfb : fb < w.heap.size) (t i l er : Int) (hE : unE (wd ws t i) = .agg #[.int .i64 0, .bool false, .bool false, .bool false, .bool false, .bool false, .bool false]) (he : wdE n (wd ws t i) t i = er) (hz : (er != 0) = true) :
    Calls Try.prog 44 #[.int .i64 t, .int .i64 i, .int .i64 l, .pointer (some ⟨rb, 0, none⟩), .pointer (some ⟨fb, 0, none⟩)] w fun e w' => e = .returned (.tuple #[.agg #[.int .i64 0, .bool false, .bool false, .bool false, .bool false, .bool false, .bool false], .int .i64 0]) ∧ Below w.heap.size w w' := by
  have hn := h.hi
  go_enter Try.func44, Try.ntmps44
  go_wp2_with fail
  refine (word_any (h.alloc _) t i).mono ?_
  rw [hE, he]
  rintro e w2 ⟨rfl, hb⟩
  have hs : w.heap.size < w2.heap.size := by have := hb.size; simp at this; omega
  have hfb2 : fb < w2.heap.size := by omega
  have hF2 : w2.cell? ⟨fb, 0, none⟩ = some (.int .i64 ((n : Int) / 8)) := by rw [(bcell hb).1 _ _ (by simp; omega)]; simp [go_sem, hF, hfb]
  have r2 := (Row.new w 24 [.int .i64 0, .bool false, .bool false, .bool false, .bool false, .bool false, .bool false]).below hb (by simp)
  have B2 : Hid (Below w.heap.size w (w2.alloc (.cells #[.int .i64 0, .bool false, .bool false, .bool false, .bool false, .bool false, .bool false] 24))) := (((Below.refl _ _).alloc (Nat.le_refl _) _).trans (hb.mono (by simp))).alloc (Nat.le_of_lt hs) _
  obtain ⟨w3, hw3⟩ : ∃ w3, w3 = w2.alloc (.cells #[.int .i64 0, .bool false, .bool false, .bool false, .bool false, .bool false, .bool false] 24) := ⟨_, rfl⟩
  have HW := Lib.hid hw3
  rw [← hw3] at B2
  have r3 : Row w3 w.heap.size 24 [.int .i64 0, .bool false, .bool false, .bool false, .bool false, .bool false, .bool false] := hw3 ▸ r2.alloc _
  have e3 : Row w3 w2.heap.size 24 [.int .i64 0, .bool false, .bool false, .bool false, .bool false, .bool false, .bool false] := hw3 ▸ Row.new w2 _ _
  have hF3 : w3.cell? ⟨fb, 0, none⟩ = some (.int .i64 ((n : Int) / 8)) := by rw [hw3]; simp [go_sem, hF2, hfb2]
  obtain ⟨⟨c0, c1, c2, c3, c4, c5, c6⟩, hf⟩ := r3.seven
  obtain ⟨⟨e0, e1, e2, e3, e4, e5, e6⟩, -⟩ := e3.seven
  have hne : ¬ w.heap.size = w2.heap.size := Nat.ne_of_lt hs
  have hne2 : ¬ w2.heap.size = w.heap.size := fun e => hne e.symm
  clear h hr hF hb hE he hrb hfb hw3 r2 hfb2 hF2 hs r3
  go_upto_region 2 with (fail)
  rw [← HW.out]
  go_wp2_with (go_at_call 45; refine (leafOrder_any _ (by omega) (by omega) _).mono ?_; rintro e w' ⟨rfl, rfl⟩)
  exact bodyPost_ret (v := .tuple #[.agg #[.int .i64 0, .bool false, .bool false, .bool false, .bool false, .bool false, .bool false], .int .i64 0]) (by simp [results, Try.results44, go_sem, *]) rfl ⟨rfl, below_7 B2.out (Nat.le_refl _)⟩
set_option maxHeartbeats 800000 in
theorem ask_none (h : RamAt w a b T n ws) (hr : w.cell? ⟨rb, 0, none⟩ = some (.pointer (some ⟨a, 0, none⟩))) (hF : w.cell? ⟨fb, 0, none⟩ = some (.int .i64 ((n : Int) / 8))) (hrb : rb < w.heap.size) (hfb : fb < w.heap.size) (t i l : Int) (hE : unE (wd ws t i) = .agg #[.int .i64 0, .bool false, .bool false, .bool false, .bool false, .bool false, .bool false]) (he : wdE n (wd ws t i) t i = 0) :
    Calls Try.prog 44 #[.int .i64 t, .int .i64 i, .int .i64 l, .pointer (some ⟨rb, 0, none⟩), .pointer (some ⟨fb, 0, none⟩)] w fun e w' => e = .returned (.tuple #[.agg #[.int .i64 0, .bool false, .bool false, .bool false, .bool false, .bool false, .bool false], .int .i64 1]) ∧ Below w.heap.size w w' := by
  have hn := h.hi
  go_enter Try.func44, Try.ntmps44
  go_wp2_with fail
  refine (word_any (h.alloc _) t i).mono ?_
  rw [hE, he]
  rintro e w2 ⟨rfl, hb⟩
  have hs : w.heap.size < w2.heap.size := by have := hb.size; simp at this; omega
  have hfb2 : fb < w2.heap.size := by omega
  have hF2 : w2.cell? ⟨fb, 0, none⟩ = some (.int .i64 ((n : Int) / 8)) := by rw [(bcell hb).1 _ _ (by simp; omega)]; simp [go_sem, hF, hfb]
  have r2 := (Row.new w 24 [.int .i64 0, .bool false, .bool false, .bool false, .bool false, .bool false, .bool false]).below hb (by simp)
  have B2 : Hid (Below w.heap.size w (w2.alloc (.cells #[.int .i64 0, .bool false, .bool false, .bool false, .bool false, .bool false, .bool false] 24))) := (((Below.refl _ _).alloc (Nat.le_refl _) _).trans (hb.mono (by simp))).alloc (Nat.le_of_lt hs) _
  obtain ⟨w3, hw3⟩ : ∃ w3, w3 = w2.alloc (.cells #[.int .i64 0, .bool false, .bool false, .bool false, .bool false, .bool false, .bool false] 24) := ⟨_, rfl⟩
  have HW := Lib.hid hw3
  rw [← hw3] at B2
  have r3 : Row w3 w.heap.size 24 [.int .i64 0, .bool false, .bool false, .bool false, .bool false, .bool false, .bool false] := hw3 ▸ r2.alloc _
  have e3 : Row w3 w2.heap.size 24 [.int .i64 0, .bool false, .bool false, .bool false, .bool false, .bool false, .bool false] := hw3 ▸ Row.new w2 _ _
  have hF3 : w3.cell? ⟨fb, 0, none⟩ = some (.int .i64 ((n : Int) / 8)) := by rw [hw3]; simp [go_sem, hF2, hfb2]
  obtain ⟨⟨c0, c1, c2, c3, c4, c5, c6⟩, hf⟩ := r3.seven
  obtain ⟨⟨e0, e1, e2, e3, e4, e5, e6⟩, -⟩ := e3.seven
  have hne : ¬ w.heap.size = w2.heap.size := Nat.ne_of_lt hs
  have hne2 : ¬ w2.heap.size = w.heap.size := fun e => hne e.symm
  clear h hr hF hb hE he hrb hfb hw3 r2 hfb2 hF2 hs r3
  go_upto_region 2 with (fail)
  rw [← HW.out]
  go_wp2_with (go_at_call 45; refine (leafOrder_any _ (by omega) (by omega) _).mono ?_; rintro e w' ⟨rfl, rfl⟩)
  exact bodyPost_ret (v := .tuple #[.agg #[.int .i64 0, .bool false, .bool false, .bool false, .bool false, .bool false, .bool false], .int .i64 1]) (by simp [results, Try.results44, go_sem, *]) rfl ⟨rfl, below_7 B2.out (Nat.le_refl _)⟩
set_option maxHeartbeats 800000 in
theorem ask_held_up (h : RamAt w a b T n ws) (hr : w.cell? ⟨rb, 0, none⟩ = some (.pointer (some ⟨a, 0, none⟩))) (hF : w.cell? ⟨fb, 0, none⟩ = some (.int .i64 ((n : Int) / 8))) (hrb : rb < w.heap.size) (hfb : fb < w.heap.size) (u d : Bool) (t i l f : Int) (hE : unE (wd ws t i) = .agg #[.int .i64 f, .bool false, .bool false, .bool false, .bool true, .bool u, .bool d]) (he : wdE n (wd ws t i) t i = 0) (l0 : 0 < l) :
    Calls Try.prog 44 #[.int .i64 t, .int .i64 i, .int .i64 l, .pointer (some ⟨rb, 0, none⟩), .pointer (some ⟨fb, 0, none⟩)] w fun e w' => e = .returned (.tuple #[.agg #[.int .i64 f, .bool false, .bool false, .bool false, .bool true, .bool u, .bool d], .int .i64 0]) ∧ Below w.heap.size w w' := by
  have hn := h.hi
  go_enter Try.func44, Try.ntmps44
  go_wp2_with fail
  refine (word_any (h.alloc _) t i).mono ?_
  rw [hE, he]
  rintro e w2 ⟨rfl, hb⟩
  have hs : w.heap.size < w2.heap.size := by have := hb.size; simp at this; omega
  have hfb2 : fb < w2.heap.size := by omega
  have hF2 : w2.cell? ⟨fb, 0, none⟩ = some (.int .i64 ((n : Int) / 8)) := by rw [(bcell hb).1 _ _ (by simp; omega)]; simp [go_sem, hF, hfb]
  have r2 := (Row.new w 24 [.int .i64 0, .bool false, .bool false, .bool false, .bool false, .bool false, .bool false]).below hb (by simp)
  have B2 : Hid (Below w.heap.size w (w2.alloc (.cells #[.int .i64 f, .bool false, .bool false, .bool false, .bool true, .bool u, .bool d] 24))) := (((Below.refl _ _).alloc (Nat.le_refl _) _).trans (hb.mono (by simp))).alloc (Nat.le_of_lt hs) _
  obtain ⟨w3, hw3⟩ : ∃ w3, w3 = w2.alloc (.cells #[.int .i64 f, .bool false, .bool false, .bool false, .bool true, .bool u, .bool d] 24) := ⟨_, rfl⟩
  have HW := Lib.hid hw3
  rw [← hw3] at B2
  have r3 : Row w3 w.heap.size 24 [.int .i64 0, .bool false, .bool false, .bool false, .bool false, .bool false, .bool false] := hw3 ▸ r2.alloc _
  have e3 : Row w3 w2.heap.size 24 [.int .i64 f, .bool false, .bool false, .bool false, .bool true, .bool u, .bool d] := hw3 ▸ Row.new w2 _ _
  have hF3 : w3.cell? ⟨fb, 0, none⟩ = some (.int .i64 ((n : Int) / 8)) := by rw [hw3]; simp [go_sem, hF2, hfb2]
  obtain ⟨⟨c0, c1, c2, c3, c4, c5, c6⟩, hf⟩ := r3.seven
  obtain ⟨⟨e0, e1, e2, e3, e4, e5, e6⟩, -⟩ := e3.seven
  have hne : ¬ w.heap.size = w2.heap.size := Nat.ne_of_lt hs
  have hne2 : ¬ w2.heap.size = w.heap.size := fun e => hne e.symm
  clear h hr hF hb hE he hrb hfb hw3 r2 hfb2 hF2 hs r3
  go_upto_region 2 with (fail)
  rw [← HW.out]
  go_wp2_with (go_at_call 45; refine (leafOrder_any _ (by omega) (by omega) _).mono ?_; rintro e w' ⟨rfl, rfl⟩)
  exact bodyPost_ret (v := .tuple #[.agg #[.int .i64 f, .bool false, .bool false, .bool false, .bool true, .bool u, .bool d], .int .i64 0]) (by simp [results, Try.results44, go_sem, *]) rfl ⟨rfl, below_7 B2.out (Nat.le_refl _)⟩
set_option maxHeartbeats 800000 in
theorem ask_held_far (h : RamAt w a b T n ws) (hr : w.cell? ⟨rb, 0, none⟩ = some (.pointer (some ⟨a, 0, none⟩))) (hF : w.cell? ⟨fb, 0, none⟩ = some (.int .i64 ((n : Int) / 8))) (hrb : rb < w.heap.size) (hfb : fb < w.heap.size) (u d : Bool) (t i f : Int) (hE : unE (wd ws t i) = .agg #[.int .i64 f, .bool false, .bool false, .bool false, .bool true, .bool u, .bool d]) (he : wdE n (wd ws t i) t i = 0) (f0 : 0 ≤ f) (f1 : f < 1048576) (hb : (n : Int) / 8 - 1 < f) :
    Calls Try.prog 44 #[.int .i64 t, .int .i64 i, .int .i64 0, .pointer (some ⟨rb, 0, none⟩), .pointer (some ⟨fb, 0, none⟩)] w fun e w' => e = .returned (.tuple #[.agg #[.int .i64 f, .bool false, .bool false, .bool false, .bool true, .bool u, .bool d], .int .i64 0]) ∧ Below w.heap.size w w' := by
  have hn := h.hi
  have HV : Hid (evB f 0 = true) := ev0 _
  go_enter Try.func44, Try.ntmps44
  go_wp2_with fail
  refine (word_any (h.alloc _) t i).mono ?_
  rw [hE, he]
  rintro e w2 ⟨rfl, hb⟩
  have hs : w.heap.size < w2.heap.size := by have := hb.size; simp at this; omega
  have hfb2 : fb < w2.heap.size := by omega
  have hF2 : w2.cell? ⟨fb, 0, none⟩ = some (.int .i64 ((n : Int) / 8)) := by rw [(bcell hb).1 _ _ (by simp; omega)]; simp [go_sem, hF, hfb]
  have r2 := (Row.new w 24 [.int .i64 0, .bool false, .bool false, .bool false, .bool false, .bool false, .bool false]).below hb (by simp)
  have B2 : Hid (Below w.heap.size w (w2.alloc (.cells #[.int .i64 f, .bool false, .bool false, .bool false, .bool true, .bool u, .bool d] 24))) := (((Below.refl _ _).alloc (Nat.le_refl _) _).trans (hb.mono (by simp))).alloc (Nat.le_of_lt hs) _
  obtain ⟨w3, hw3⟩ : ∃ w3, w3 = w2.alloc (.cells #[.int .i64 f, .bool false, .bool false, .bool false, .bool true, .bool u, .bool d] 24) := ⟨_, rfl⟩
  have HW := Lib.hid hw3
  rw [← hw3] at B2
  have r3 : Row w3 w.heap.size 24 [.int .i64 0, .bool false, .bool false, .bool false, .bool false, .bool false, .bool false] := hw3 ▸ r2.alloc _
  have e3 : Row w3 w2.heap.size 24 [.int .i64 f, .bool false, .bool false, .bool false, .bool true, .bool u, .bool d] := hw3 ▸ Row.new w2 _ _
  have hF3 : w3.cell? ⟨fb, 0, none⟩ = some (.int .i64 ((n : Int) / 8)) := by rw [hw3]; simp [go_sem, hF2, hfb2]
  obtain ⟨⟨c0, c1, c2, c3, c4, c5, c6⟩, hf⟩ := r3.seven
  obtain ⟨⟨e0, e1, e2, e3, e4, e5, e6⟩, -⟩ := e3.seven
  have hne : ¬ w.heap.size = w2.heap.size := Nat.ne_of_lt hs
  have hne2 : ¬ w2.heap.size = w.heap.size := fun e => hne e.symm
  clear h hr hF hb hE he hrb hfb hw3 r2 hfb2 hF2 hs r3
  go_upto_region 2 with (fail)
  rw [← HW.out]
  go_wp2_with (first | (go_at_call 45; refine (leafOrder_any _ (by omega) (by omega) _).mono ?_; rintro e w' ⟨rfl, rfl⟩) | (go_at_call 46; refine (even_any _ (by omega) (by omega) _).mono ?_; rw [HV.out]; rintro e w' ⟨rfl, rfl⟩))
  all_goals
    go_quiet (fail)
    go_wp2_with fail
    exact bodyPost_ret (v := .tuple #[.agg #[.int .i64 f, .bool false, .bool false, .bool false, .bool true, .bool u, .bool d], .int .i64 0]) (by simp [results, Try.results44, go_sem, *]) rfl ⟨rfl, below_7 (drewN_below B2.out _) (Nat.le_refl _)⟩
set_option maxHeartbeats 800000 in
theorem ask_held_leaf (h : RamAt w a b T n ws) (hr : w.cell? ⟨rb, 0, none⟩ = some (.pointer (some ⟨a, 0, none⟩))) (hF : w.cell? ⟨fb, 0, none⟩ = some (.int .i64 ((n : Int) / 8))) (hrb : rb < w.heap.size) (hfb : fb < w.heap.size) (u d : Bool) (t i f : Int) (hE : unE (wd ws t i) = .agg #[.int .i64 f, .bool false, .bool false, .bool false, .bool true, .bool u, .bool d]) (he : wdE n (wd ws t i) t i = 0) (f0 : 0 ≤ f) (f1 : f < 1048576) (hb : f ≤ (n : Int) / 8 - 1) :
    Calls Try.prog 44 #[.int .i64 t, .int .i64 i, .int .i64 0, .pointer (some ⟨rb, 0, none⟩), .pointer (some ⟨fb, 0, none⟩)] w fun e w' => e = .returned (.tuple #[.agg #[.int .i64 f, .bool false, .bool false, .bool false, .bool true, .bool u, .bool d], .int .i64 3]) ∧ Below w.heap.size w w' := by
  have hn := h.hi
  have HV : Hid (evB f 0 = true) := ev0 _
  go_enter Try.func44, Try.ntmps44
  go_wp2_with fail
  refine (word_any (h.alloc _) t i).mono ?_
  rw [hE, he]
  rintro e w2 ⟨rfl, hb⟩
  have hs : w.heap.size < w2.heap.size := by have := hb.size; simp at this; omega
  have hfb2 : fb < w2.heap.size := by omega
  have hF2 : w2.cell? ⟨fb, 0, none⟩ = some (.int .i64 ((n : Int) / 8)) := by rw [(bcell hb).1 _ _ (by simp; omega)]; simp [go_sem, hF, hfb]
  have r2 := (Row.new w 24 [.int .i64 0, .bool false, .bool false, .bool false, .bool false, .bool false, .bool false]).below hb (by simp)
  have B2 : Hid (Below w.heap.size w (w2.alloc (.cells #[.int .i64 f, .bool false, .bool false, .bool false, .bool true, .bool u, .bool d] 24))) := (((Below.refl _ _).alloc (Nat.le_refl _) _).trans (hb.mono (by simp))).alloc (Nat.le_of_lt hs) _
  obtain ⟨w3, hw3⟩ : ∃ w3, w3 = w2.alloc (.cells #[.int .i64 f, .bool false, .bool false, .bool false, .bool true, .bool u, .bool d] 24) := ⟨_, rfl⟩
  have HW := Lib.hid hw3
  rw [← hw3] at B2
  have r3 : Row w3 w.heap.size 24 [.int .i64 0, .bool false, .bool false, .bool false, .bool false, .bool false, .bool false] := hw3 ▸ r2.alloc _
  have e3 : Row w3 w2.heap.size 24 [.int .i64 f, .bool false, .bool false, .bool false, .bool true, .bool u, .bool d] := hw3 ▸ Row.new w2 _ _
  have hF3 : w3.cell? ⟨fb, 0, none⟩ = some (.int .i64 ((n : Int) / 8)) := by rw [hw3]; simp [go_sem, hF2, hfb2]
  obtain ⟨⟨c0, c1, c2, c3, c4, c5, c6⟩, hf⟩ := r3.seven
  obtain ⟨⟨e0, e1, e2, e3, e4, e5, e6⟩, -⟩ := e3.seven
  have hne : ¬ w.heap.size = w2.heap.size := Nat.ne_of_lt hs
  have hne2 : ¬ w2.heap.size = w.heap.size := fun e => hne e.symm
  clear h hr hF hb hE he hrb hfb hw3 r2 hfb2 hF2 hs r3
  go_upto_region 2 with (fail)
  rw [← HW.out]
  go_wp2_with (first | (go_at_call 45; refine (leafOrder_any _ (by omega) (by omega) _).mono ?_; rintro e w' ⟨rfl, rfl⟩) | (go_at_call 46; refine (even_any _ (by omega) (by omega) _).mono ?_; rw [HV.out]; rintro e w' ⟨rfl, rfl⟩))
  all_goals
    go_quiet (fail)
    go_wp2_with fail
    exact bodyPost_ret (v := .tuple #[.agg #[.int .i64 f, .bool false, .bool false, .bool false, .bool true, .bool u, .bool d], .int .i64 3]) (by simp [results, Try.results44, go_sem, *]) rfl ⟨rfl, below_7 (drewN_below B2.out _) (Nat.le_refl _)⟩
set_option maxHeartbeats 800000 in
theorem ask_far (h : RamAt w a b T n ws) (hr : w.cell? ⟨rb, 0, none⟩ = some (.pointer (some ⟨a, 0, none⟩))) (hF : w.cell? ⟨fb, 0, none⟩ = some (.int .i64 ((n : Int) / 8))) (hrb : rb < w.heap.size) (hfb : fb < w.heap.size) (wr u d : Bool) (t i l f : Int) (hE : unE (wd ws t i) = .agg #[.int .i64 f, .bool true, .bool wr, .bool false, .bool false, .bool u, .bool d]) (he : wdE n (wd ws t i) t i = 0) (f0 : 0 ≤ f) (f1 : f < 1048576) (hb : (n : Int) / 8 - 1 < f) :
    Calls Try.prog 44 #[.int .i64 t, .int .i64 i, .int .i64 l, .pointer (some ⟨rb, 0, none⟩), .pointer (some ⟨fb, 0, none⟩)] w fun e w' => e = .returned (.tuple #[.agg #[.int .i64 f, .bool true, .bool wr, .bool false, .bool false, .bool u, .bool d], .int .i64 0]) ∧ Below w.heap.size w w' := by
  have hn := h.hi
  have HV : Hid (evB f 0 = true) := ev0 _
  go_enter Try.func44, Try.ntmps44
  go_wp2_with fail
  refine (word_any (h.alloc _) t i).mono ?_
  rw [hE, he]
  rintro e w2 ⟨rfl, hb⟩
  have hs : w.heap.size < w2.heap.size := by have := hb.size; simp at this; omega
  have hfb2 : fb < w2.heap.size := by omega
  have hF2 : w2.cell? ⟨fb, 0, none⟩ = some (.int .i64 ((n : Int) / 8)) := by rw [(bcell hb).1 _ _ (by simp; omega)]; simp [go_sem, hF, hfb]
  have r2 := (Row.new w 24 [.int .i64 0, .bool false, .bool false, .bool false, .bool false, .bool false, .bool false]).below hb (by simp)
  have B2 : Hid (Below w.heap.size w (w2.alloc (.cells #[.int .i64 f, .bool true, .bool wr, .bool false, .bool false, .bool u, .bool d] 24))) := (((Below.refl _ _).alloc (Nat.le_refl _) _).trans (hb.mono (by simp))).alloc (Nat.le_of_lt hs) _
  obtain ⟨w3, hw3⟩ : ∃ w3, w3 = w2.alloc (.cells #[.int .i64 f, .bool true, .bool wr, .bool false, .bool false, .bool u, .bool d] 24) := ⟨_, rfl⟩
  have HW := Lib.hid hw3
  rw [← hw3] at B2
  have r3 : Row w3 w.heap.size 24 [.int .i64 0, .bool false, .bool false, .bool false, .bool false, .bool false, .bool false] := hw3 ▸ r2.alloc _
  have e3 : Row w3 w2.heap.size 24 [.int .i64 f, .bool true, .bool wr, .bool false, .bool false, .bool u, .bool d] := hw3 ▸ Row.new w2 _ _
  have hF3 : w3.cell? ⟨fb, 0, none⟩ = some (.int .i64 ((n : Int) / 8)) := by rw [hw3]; simp [go_sem, hF2, hfb2]
  obtain ⟨⟨c0, c1, c2, c3, c4, c5, c6⟩, hf⟩ := r3.seven
  obtain ⟨⟨e0, e1, e2, e3, e4, e5, e6⟩, -⟩ := e3.seven
  have hne : ¬ w.heap.size = w2.heap.size := Nat.ne_of_lt hs
  have hne2 : ¬ w2.heap.size = w.heap.size := fun e => hne e.symm
  clear h hr hF hb hE he hrb hfb hw3 r2 hfb2 hF2 hs r3
  go_upto_region 2 with (fail)
  rw [← HW.out]
  go_wp2_with (first | (go_at_call 45; refine (leafOrder_any _ (by omega) (by omega) _).mono ?_; rintro e w' ⟨rfl, rfl⟩) | (go_at_call 46; refine (even_any _ (by omega) (by omega) _).mono ?_; rw [HV.out]; rintro e w' ⟨rfl, rfl⟩))
  all_goals
    go_quiet (fail)
    go_wp2_with fail
    exact bodyPost_ret (v := .tuple #[.agg #[.int .i64 f, .bool true, .bool wr, .bool false, .bool false, .bool u, .bool d], .int .i64 0]) (by simp [results, Try.results44, go_sem, *]) rfl ⟨rfl, below_7 (drewN_below B2.out _) (Nat.le_refl _)⟩
set_option maxHeartbeats 800000 in
theorem ask_leaf (h : RamAt w a b T n ws) (hr : w.cell? ⟨rb, 0, none⟩ = some (.pointer (some ⟨a, 0, none⟩))) (hF : w.cell? ⟨fb, 0, none⟩ = some (.int .i64 ((n : Int) / 8))) (hrb : rb < w.heap.size) (hfb : fb < w.heap.size) (wr u d : Bool) (t i f : Int) (hE : unE (wd ws t i) = .agg #[.int .i64 f, .bool true, .bool wr, .bool false, .bool false, .bool u, .bool d]) (he : wdE n (wd ws t i) t i = 0) (f0 : 0 ≤ f) (f1 : f < 1048576) (hb : f ≤ (n : Int) / 8 - 1) :
    Calls Try.prog 44 #[.int .i64 t, .int .i64 i, .int .i64 0, .pointer (some ⟨rb, 0, none⟩), .pointer (some ⟨fb, 0, none⟩)] w fun e w' => e = .returned (.tuple #[.agg #[.int .i64 f, .bool true, .bool wr, .bool false, .bool false, .bool u, .bool d], .int .i64 3]) ∧ Below w.heap.size w w' := by
  have hn := h.hi
  have HV : Hid (evB f 0 = true) := ev0 _
  go_enter Try.func44, Try.ntmps44
  go_wp2_with fail
  refine (word_any (h.alloc _) t i).mono ?_
  rw [hE, he]
  rintro e w2 ⟨rfl, hb⟩
  have hs : w.heap.size < w2.heap.size := by have := hb.size; simp at this; omega
  have hfb2 : fb < w2.heap.size := by omega
  have hF2 : w2.cell? ⟨fb, 0, none⟩ = some (.int .i64 ((n : Int) / 8)) := by rw [(bcell hb).1 _ _ (by simp; omega)]; simp [go_sem, hF, hfb]
  have r2 := (Row.new w 24 [.int .i64 0, .bool false, .bool false, .bool false, .bool false, .bool false, .bool false]).below hb (by simp)
  have B2 : Hid (Below w.heap.size w (w2.alloc (.cells #[.int .i64 f, .bool true, .bool wr, .bool false, .bool false, .bool u, .bool d] 24))) := (((Below.refl _ _).alloc (Nat.le_refl _) _).trans (hb.mono (by simp))).alloc (Nat.le_of_lt hs) _
  obtain ⟨w3, hw3⟩ : ∃ w3, w3 = w2.alloc (.cells #[.int .i64 f, .bool true, .bool wr, .bool false, .bool false, .bool u, .bool d] 24) := ⟨_, rfl⟩
  have HW := Lib.hid hw3
  rw [← hw3] at B2
  have r3 : Row w3 w.heap.size 24 [.int .i64 0, .bool false, .bool false, .bool false, .bool false, .bool false, .bool false] := hw3 ▸ r2.alloc _
  have e3 : Row w3 w2.heap.size 24 [.int .i64 f, .bool true, .bool wr, .bool false, .bool false, .bool u, .bool d] := hw3 ▸ Row.new w2 _ _
  have hF3 : w3.cell? ⟨fb, 0, none⟩ = some (.int .i64 ((n : Int) / 8)) := by rw [hw3]; simp [go_sem, hF2, hfb2]
  obtain ⟨⟨c0, c1, c2, c3, c4, c5, c6⟩, hf⟩ := r3.seven
  obtain ⟨⟨e0, e1, e2, e3, e4, e5, e6⟩, -⟩ := e3.seven
  have hne : ¬ w.heap.size = w2.heap.size := Nat.ne_of_lt hs
  have hne2 : ¬ w2.heap.size = w.heap.size := fun e => hne e.symm
  clear h hr hF hb hE he hrb hfb hw3 r2 hfb2 hF2 hs r3
  go_upto_region 2 with (fail)
  rw [← HW.out]
  go_wp2_with (first | (go_at_call 45; refine (leafOrder_any _ (by omega) (by omega) _).mono ?_; rintro e w' ⟨rfl, rfl⟩) | (go_at_call 46; refine (even_any _ (by omega) (by omega) _).mono ?_; rw [HV.out]; rintro e w' ⟨rfl, rfl⟩))
  all_goals
    go_quiet (fail)
    go_wp2_with fail
    exact bodyPost_ret (v := .tuple #[.agg #[.int .i64 f, .bool true, .bool wr, .bool false, .bool false, .bool u, .bool d], .int .i64 3]) (by simp [results, Try.results44, go_sem, *]) rfl ⟨rfl, below_7 (drewN_below B2.out _) (Nat.le_refl _)⟩
set_option maxHeartbeats 800000 in
theorem ask_further (h : RamAt w a b T n ws) (hr : w.cell? ⟨rb, 0, none⟩ = some (.pointer (some ⟨a, 0, none⟩))) (hF : w.cell? ⟨fb, 0, none⟩ = some (.int .i64 ((n : Int) / 8))) (hrb : rb < w.heap.size) (hfb : fb < w.heap.size) (wr u d : Bool) (t i l f : Int) (hE : unE (wd ws t i) = .agg #[.int .i64 f, .bool true, .bool wr, .bool false, .bool false, .bool u, .bool d]) (he : wdE n (wd ws t i) t i = 0) (f0 : 0 ≤ f) (f1 : f < 1048576) (hb : f ≤ (n : Int) / 8 - 1) (l0 : (l == 0) = false) :
    Calls Try.prog 44 #[.int .i64 t, .int .i64 i, .int .i64 l, .pointer (some ⟨rb, 0, none⟩), .pointer (some ⟨fb, 0, none⟩)] w fun e w' => e = .returned (.tuple #[.agg #[.int .i64 f, .bool true, .bool wr, .bool false, .bool false, .bool u, .bool d], .int .i64 2]) ∧ Below w.heap.size w w' := by
  have hn := h.hi
  have HV : Hid (evB f 0 = true) := ev0 _
  go_enter Try.func44, Try.ntmps44
  go_wp2_with fail
  refine (word_any (h.alloc _) t i).mono ?_
  rw [hE, he]
  rintro e w2 ⟨rfl, hb⟩
  have hs : w.heap.size < w2.heap.size := by have := hb.size; simp at this; omega
  have hfb2 : fb < w2.heap.size := by omega
  have hF2 : w2.cell? ⟨fb, 0, none⟩ = some (.int .i64 ((n : Int) / 8)) := by rw [(bcell hb).1 _ _ (by simp; omega)]; simp [go_sem, hF, hfb]
  have r2 := (Row.new w 24 [.int .i64 0, .bool false, .bool false, .bool false, .bool false, .bool false, .bool false]).below hb (by simp)
  have B2 : Hid (Below w.heap.size w (w2.alloc (.cells #[.int .i64 f, .bool true, .bool wr, .bool false, .bool false, .bool u, .bool d] 24))) := (((Below.refl _ _).alloc (Nat.le_refl _) _).trans (hb.mono (by simp))).alloc (Nat.le_of_lt hs) _
  obtain ⟨w3, hw3⟩ : ∃ w3, w3 = w2.alloc (.cells #[.int .i64 f, .bool true, .bool wr, .bool false, .bool false, .bool u, .bool d] 24) := ⟨_, rfl⟩
  have HW := Lib.hid hw3
  rw [← hw3] at B2
  have r3 : Row w3 w.heap.size 24 [.int .i64 0, .bool false, .bool false, .bool false, .bool false, .bool false, .bool false] := hw3 ▸ r2.alloc _
  have e3 : Row w3 w2.heap.size 24 [.int .i64 f, .bool true, .bool wr, .bool false, .bool false, .bool u, .bool d] := hw3 ▸ Row.new w2 _ _
  have hF3 : w3.cell? ⟨fb, 0, none⟩ = some (.int .i64 ((n : Int) / 8)) := by rw [hw3]; simp [go_sem, hF2, hfb2]
  obtain ⟨⟨c0, c1, c2, c3, c4, c5, c6⟩, hf⟩ := r3.seven
  obtain ⟨⟨e0, e1, e2, e3, e4, e5, e6⟩, -⟩ := e3.seven
  have hne : ¬ w.heap.size = w2.heap.size := Nat.ne_of_lt hs
  have hne2 : ¬ w2.heap.size = w.heap.size := fun e => hne e.symm
  clear h hr hF hb hE he hrb hfb hw3 r2 hfb2 hF2 hs r3
  go_upto_region 2 with (fail)
  rw [← HW.out]
  go_wp2_with (first | (go_at_call 45; refine (leafOrder_any _ (by omega) (by omega) _).mono ?_; rintro e w' ⟨rfl, rfl⟩) | (go_at_call 46; refine (even_any _ (by omega) (by omega) _).mono ?_; rw [HV.out]; rintro e w' ⟨rfl, rfl⟩))
  all_goals
    go_quiet (fail)
    go_wp2_with fail
    exact bodyPost_ret (v := .tuple #[.agg #[.int .i64 f, .bool true, .bool wr, .bool false, .bool false, .bool u, .bool d], .int .i64 2]) (by simp [results, Try.results44, go_sem, *]) rfl ⟨rfl, below_7 (drewN_below B2.out _) (Nat.le_refl _)⟩
set_option maxHeartbeats 800000 in
theorem ask_huge_low (h : RamAt w a b T n ws) (hr : w.cell? ⟨rb, 0, none⟩ = some (.pointer (some ⟨a, 0, none⟩))) (hF : w.cell? ⟨fb, 0, none⟩ = some (.int .i64 ((n : Int) / 8))) (hrb : rb < w.heap.size) (hfb : fb < w.heap.size) (wr u d : Bool) (t i f : Int) (hE : unE (wd ws t i) = .agg #[.int .i64 f, .bool true, .bool wr, .bool true, .bool false, .bool u, .bool d]) (he : wdE n (wd ws t i) t i = 0) :
    Calls Try.prog 44 #[.int .i64 t, .int .i64 i, .int .i64 0, .pointer (some ⟨rb, 0, none⟩), .pointer (some ⟨fb, 0, none⟩)] w fun e w' => e = .returned (.tuple #[.agg #[.int .i64 f, .bool true, .bool wr, .bool true, .bool false, .bool u, .bool d], .int .i64 0]) ∧ Below w.heap.size w w' := by
  have hn := h.hi
  go_enter Try.func44, Try.ntmps44
  go_wp2_with fail
  refine (word_any (h.alloc _) t i).mono ?_
  rw [hE, he]
  rintro e w2 ⟨rfl, hb⟩
  have hs : w.heap.size < w2.heap.size := by have := hb.size; simp at this; omega
  have hfb2 : fb < w2.heap.size := by omega
  have hF2 : w2.cell? ⟨fb, 0, none⟩ = some (.int .i64 ((n : Int) / 8)) := by rw [(bcell hb).1 _ _ (by simp; omega)]; simp [go_sem, hF, hfb]
  have r2 := (Row.new w 24 [.int .i64 0, .bool false, .bool false, .bool false, .bool false, .bool false, .bool false]).below hb (by simp)
  have B2 : Hid (Below w.heap.size w (w2.alloc (.cells #[.int .i64 f, .bool true, .bool wr, .bool true, .bool false, .bool u, .bool d] 24))) := (((Below.refl _ _).alloc (Nat.le_refl _) _).trans (hb.mono (by simp))).alloc (Nat.le_of_lt hs) _
  obtain ⟨w3, hw3⟩ : ∃ w3, w3 = w2.alloc (.cells #[.int .i64 f, .bool true, .bool wr, .bool true, .bool false, .bool u, .bool d] 24) := ⟨_, rfl⟩
  have HW := Lib.hid hw3
  rw [← hw3] at B2
  have r3 : Row w3 w.heap.size 24 [.int .i64 0, .bool false, .bool false, .bool false, .bool false, .bool false, .bool false] := hw3 ▸ r2.alloc _
  have e3 : Row w3 w2.heap.size 24 [.int .i64 f, .bool true, .bool wr, .bool true, .bool false, .bool u, .bool d] := hw3 ▸ Row.new w2 _ _
  have hF3 : w3.cell? ⟨fb, 0, none⟩ = some (.int .i64 ((n : Int) / 8)) := by rw [hw3]; simp [go_sem, hF2, hfb2]
  obtain ⟨⟨c0, c1, c2, c3, c4, c5, c6⟩, hf⟩ := r3.seven
  obtain ⟨⟨e0, e1, e2, e3, e4, e5, e6⟩, -⟩ := e3.seven
  have hne : ¬ w.heap.size = w2.heap.size := Nat.ne_of_lt hs
  have hne2 : ¬ w2.heap.size = w.heap.size := fun e => hne e.symm
  clear h hr hF hb hE he hrb hfb hw3 r2 hfb2 hF2 hs r3
  go_upto_region 2 with (fail)
  rw [← HW.out]
  go_wp2_with (go_at_call 45; refine (leafOrder_any _ (by omega) (by omega) _).mono ?_; rintro e w' ⟨rfl, rfl⟩)
  exact bodyPost_ret (v := .tuple #[.agg #[.int .i64 f, .bool true, .bool wr, .bool true, .bool false, .bool u, .bool d], .int .i64 0]) (by simp [results, Try.results44, go_sem, *]) rfl ⟨rfl, below_7 B2.out (Nat.le_refl _)⟩
set_option maxHeartbeats 800000 in
theorem ask_huge_top (h : RamAt w a b T n ws) (hr : w.cell? ⟨rb, 0, none⟩ = some (.pointer (some ⟨a, 0, none⟩))) (hF : w.cell? ⟨fb, 0, none⟩ = some (.int .i64 ((n : Int) / 8))) (hrb : rb < w.heap.size) (hfb : fb < w.heap.size) (wr u d : Bool) (t i f : Int) (hE : unE (wd ws t i) = .agg #[.int .i64 f, .bool true, .bool wr, .bool true, .bool false, .bool u, .bool d]) (he : wdE n (wd ws t i) t i = 0) :
    Calls Try.prog 44 #[.int .i64 t, .int .i64 i, .int .i64 3, .pointer (some ⟨rb, 0, none⟩), .pointer (some ⟨fb, 0, none⟩)] w fun e w' => e = .returned (.tuple #[.agg #[.int .i64 f, .bool true, .bool wr, .bool true, .bool false, .bool u, .bool d], .int .i64 0]) ∧ Below w.heap.size w w' := by
  have hn := h.hi
  go_enter Try.func44, Try.ntmps44
  go_wp2_with fail
  refine (word_any (h.alloc _) t i).mono ?_
  rw [hE, he]
  rintro e w2 ⟨rfl, hb⟩
  have hs : w.heap.size < w2.heap.size := by have := hb.size; simp at this; omega
  have hfb2 : fb < w2.heap.size := by omega
  have hF2 : w2.cell? ⟨fb, 0, none⟩ = some (.int .i64 ((n : Int) / 8)) := by rw [(bcell hb).1 _ _ (by simp; omega)]; simp [go_sem, hF, hfb]
  have r2 := (Row.new w 24 [.int .i64 0, .bool false, .bool false, .bool false, .bool false, .bool false, .bool false]).below hb (by simp)
  have B2 : Hid (Below w.heap.size w (w2.alloc (.cells #[.int .i64 f, .bool true, .bool wr, .bool true, .bool false, .bool u, .bool d] 24))) := (((Below.refl _ _).alloc (Nat.le_refl _) _).trans (hb.mono (by simp))).alloc (Nat.le_of_lt hs) _
  obtain ⟨w3, hw3⟩ : ∃ w3, w3 = w2.alloc (.cells #[.int .i64 f, .bool true, .bool wr, .bool true, .bool false, .bool u, .bool d] 24) := ⟨_, rfl⟩
  have HW := Lib.hid hw3
  rw [← hw3] at B2
  have r3 : Row w3 w.heap.size 24 [.int .i64 0, .bool false, .bool false, .bool false, .bool false, .bool false, .bool false] := hw3 ▸ r2.alloc _
  have e3 : Row w3 w2.heap.size 24 [.int .i64 f, .bool true, .bool wr, .bool true, .bool false, .bool u, .bool d] := hw3 ▸ Row.new w2 _ _
  have hF3 : w3.cell? ⟨fb, 0, none⟩ = some (.int .i64 ((n : Int) / 8)) := by rw [hw3]; simp [go_sem, hF2, hfb2]
  obtain ⟨⟨c0, c1, c2, c3, c4, c5, c6⟩, hf⟩ := r3.seven
  obtain ⟨⟨e0, e1, e2, e3, e4, e5, e6⟩, -⟩ := e3.seven
  have hne : ¬ w.heap.size = w2.heap.size := Nat.ne_of_lt hs
  have hne2 : ¬ w2.heap.size = w.heap.size := fun e => hne e.symm
  clear h hr hF hb hE he hrb hfb hw3 r2 hfb2 hF2 hs r3
  go_upto_region 2 with (fail)
  rw [← HW.out]
  go_wp2_with (go_at_call 45; refine (leafOrder_any _ (by omega) (by omega) _).mono ?_; rintro e w' ⟨rfl, rfl⟩)
  exact bodyPost_ret (v := .tuple #[.agg #[.int .i64 f, .bool true, .bool wr, .bool true, .bool false, .bool u, .bool d], .int .i64 0]) (by simp [results, Try.results44, go_sem, *]) rfl ⟨rfl, below_7 B2.out (Nat.le_refl _)⟩
set_option maxHeartbeats 800000 in
theorem ask_huge_odd1 (h : RamAt w a b T n ws) (hr : w.cell? ⟨rb, 0, none⟩ = some (.pointer (some ⟨a, 0, none⟩))) (hF : w.cell? ⟨fb, 0, none⟩ = some (.int .i64 ((n : Int) / 8))) (hrb : rb < w.heap.size) (hfb : fb < w.heap.size) (wr u d : Bool) (t i f : Int) (hE : unE (wd ws t i) = .agg #[.int .i64 f, .bool true, .bool wr, .bool true, .bool false, .bool u, .bool d]) (he : wdE n (wd ws t i) t i = 0) (f0 : 0 ≤ f) (f1 : f < 1048576) (hv : evB f 3 = false) :
    Calls Try.prog 44 #[.int .i64 t, .int .i64 i, .int .i64 1, .pointer (some ⟨rb, 0, none⟩), .pointer (some ⟨fb, 0, none⟩)] w fun e w' => e = .returned (.tuple #[.agg #[.int .i64 f, .bool true, .bool wr, .bool true, .bool false, .bool u, .bool d], .int .i64 0]) ∧ Below w.heap.size w w' := by
  have hn := h.hi
  have HV : Hid (evB f 3 = false) := hv
  go_enter Try.func44, Try.ntmps44
  go_wp2_with fail
  refine (word_any (h.alloc _) t i).mono ?_
  rw [hE, he]
  rintro e w2 ⟨rfl, hb⟩
  have hs : w.heap.size < w2.heap.size := by have := hb.size; simp at this; omega
  have hfb2 : fb < w2.heap.size := by omega
  have hF2 : w2.cell? ⟨fb, 0, none⟩ = some (.int .i64 ((n : Int) / 8)) := by rw [(bcell hb).1 _ _ (by simp; omega)]; simp [go_sem, hF, hfb]
  have r2 := (Row.new w 24 [.int .i64 0, .bool false, .bool false, .bool false, .bool false, .bool false, .bool false]).below hb (by simp)
  have B2 : Hid (Below w.heap.size w (w2.alloc (.cells #[.int .i64 f, .bool true, .bool wr, .bool true, .bool false, .bool u, .bool d] 24))) := (((Below.refl _ _).alloc (Nat.le_refl _) _).trans (hb.mono (by simp))).alloc (Nat.le_of_lt hs) _
  obtain ⟨w3, hw3⟩ : ∃ w3, w3 = w2.alloc (.cells #[.int .i64 f, .bool true, .bool wr, .bool true, .bool false, .bool u, .bool d] 24) := ⟨_, rfl⟩
  have HW := Lib.hid hw3
  rw [← hw3] at B2
  have r3 : Row w3 w.heap.size 24 [.int .i64 0, .bool false, .bool false, .bool false, .bool false, .bool false, .bool false] := hw3 ▸ r2.alloc _
  have e3 : Row w3 w2.heap.size 24 [.int .i64 f, .bool true, .bool wr, .bool true, .bool false, .bool u, .bool d] := hw3 ▸ Row.new w2 _ _
  have hF3 : w3.cell? ⟨fb, 0, none⟩ = some (.int .i64 ((n : Int) / 8)) := by rw [hw3]; simp [go_sem, hF2, hfb2]
  obtain ⟨⟨c0, c1, c2, c3, c4, c5, c6⟩, hf⟩ := r3.seven
  obtain ⟨⟨e0, e1, e2, e3, e4, e5, e6⟩, -⟩ := e3.seven
  have hne : ¬ w.heap.size = w2.heap.size := Nat.ne_of_lt hs
  have hne2 : ¬ w2.heap.size = w.heap.size := fun e => hne e.symm
  clear h hr hF hb hE he hrb hfb hw3 r2 hfb2 hF2 hs r3
  go_upto_region 2 with (fail)
  rw [← HW.out]
  go_wp2_with (first | (go_at_call 45; refine (leafOrder_any _ (by omega) (by omega) _).mono ?_; rintro e w' ⟨rfl, rfl⟩) | (go_at_call 46; refine (even_any _ (by omega) (by omega) _).mono ?_; rw [HV.out]; rintro e w' ⟨rfl, rfl⟩))
  all_goals
    exact bodyPost_ret (v := .tuple #[.agg #[.int .i64 f, .bool true, .bool wr, .bool true, .bool false, .bool u, .bool d], .int .i64 0]) (by simp [results, Try.results44, go_sem, *]) rfl ⟨rfl, below_7 B2.out (Nat.le_refl _)⟩
set_option maxHeartbeats 800000 in
theorem ask_huge_far1 (h : RamAt w a b T n ws) (hr : w.cell? ⟨rb, 0, none⟩ = some (.pointer (some ⟨a, 0, none⟩))) (hF : w.cell? ⟨fb, 0, none⟩ = some (.int .i64 ((n : Int) / 8))) (hrb : rb < w.heap.size) (hfb : fb < w.heap.size) (wr u d : Bool) (t i f : Int) (hE : unE (wd ws t i) = .agg #[.int .i64 f, .bool true, .bool wr, .bool true, .bool false, .bool u, .bool d]) (he : wdE n (wd ws t i) t i = 0) (f0 : 0 ≤ f) (f1 : f < 1048576) (hv : evB f 3 = true) (hb : (n : Int) / 8 - 8 < f) :
    Calls Try.prog 44 #[.int .i64 t, .int .i64 i, .int .i64 1, .pointer (some ⟨rb, 0, none⟩), .pointer (some ⟨fb, 0, none⟩)] w fun e w' => e = .returned (.tuple #[.agg #[.int .i64 f, .bool true, .bool wr, .bool true, .bool false, .bool u, .bool d], .int .i64 0]) ∧ Below w.heap.size w w' := by
  have hn := h.hi
  have HV : Hid (evB f 3 = true) := hv
  go_enter Try.func44, Try.ntmps44
  go_wp2_with fail
  refine (word_any (h.alloc _) t i).mono ?_
  rw [hE, he]
  rintro e w2 ⟨rfl, hb⟩
  have hs : w.heap.size < w2.heap.size := by have := hb.size; simp at this; omega
  have hfb2 : fb < w2.heap.size := by omega
  have hF2 : w2.cell? ⟨fb, 0, none⟩ = some (.int .i64 ((n : Int) / 8)) := by rw [(bcell hb).1 _ _ (by simp; omega)]; simp [go_sem, hF, hfb]
  have r2 := (Row.new w 24 [.int .i64 0, .bool false, .bool false, .bool false, .bool false, .bool false, .bool false]).below hb (by simp)
  have B2 : Hid (Below w.heap.size w (w2.alloc (.cells #[.int .i64 f, .bool true, .bool wr, .bool true, .bool false, .bool u, .bool d] 24))) := (((Below.refl _ _).alloc (Nat.le_refl _) _).trans (hb.mono (by simp))).alloc (Nat.le_of_lt hs) _
  obtain ⟨w3, hw3⟩ : ∃ w3, w3 = w2.alloc (.cells #[.int .i64 f, .bool true, .bool wr, .bool true, .bool false, .bool u, .bool d] 24) := ⟨_, rfl⟩
  have HW := Lib.hid hw3
  rw [← hw3] at B2
  have r3 : Row w3 w.heap.size 24 [.int .i64 0, .bool false, .bool false, .bool false, .bool false, .bool false, .bool false] := hw3 ▸ r2.alloc _
  have e3 : Row w3 w2.heap.size 24 [.int .i64 f, .bool true, .bool wr, .bool true, .bool false, .bool u, .bool d] := hw3 ▸ Row.new w2 _ _
  have hF3 : w3.cell? ⟨fb, 0, none⟩ = some (.int .i64 ((n : Int) / 8)) := by rw [hw3]; simp [go_sem, hF2, hfb2]
  obtain ⟨⟨c0, c1, c2, c3, c4, c5, c6⟩, hf⟩ := r3.seven
  obtain ⟨⟨e0, e1, e2, e3, e4, e5, e6⟩, -⟩ := e3.seven
  have hne : ¬ w.heap.size = w2.heap.size := Nat.ne_of_lt hs
  have hne2 : ¬ w2.heap.size = w.heap.size := fun e => hne e.symm
  clear h hr hF hb hE he hrb hfb hw3 r2 hfb2 hF2 hs r3
  go_upto_region 2 with (fail)
  rw [← HW.out]
  go_wp2_with (first | (go_at_call 45; refine (leafOrder_any _ (by omega) (by omega) _).mono ?_; rintro e w' ⟨rfl, rfl⟩) | (go_at_call 46; refine (even_any _ (by omega) (by omega) _).mono ?_; rw [HV.out]; rintro e w' ⟨rfl, rfl⟩))
  all_goals
    go_quiet (fail)
    go_wp2_with fail
    exact bodyPost_ret (v := .tuple #[.agg #[.int .i64 f, .bool true, .bool wr, .bool true, .bool false, .bool u, .bool d], .int .i64 0]) (by simp [results, Try.results44, go_sem, *]) rfl ⟨rfl, below_7 (drewN_below B2.out _) (Nat.le_refl _)⟩
set_option maxHeartbeats 800000 in
theorem ask_huge_leaf1 (h : RamAt w a b T n ws) (hr : w.cell? ⟨rb, 0, none⟩ = some (.pointer (some ⟨a, 0, none⟩))) (hF : w.cell? ⟨fb, 0, none⟩ = some (.int .i64 ((n : Int) / 8))) (hrb : rb < w.heap.size) (hfb : fb < w.heap.size) (wr u d : Bool) (t i f : Int) (hE : unE (wd ws t i) = .agg #[.int .i64 f, .bool true, .bool wr, .bool true, .bool false, .bool u, .bool d]) (he : wdE n (wd ws t i) t i = 0) (f0 : 0 ≤ f) (f1 : f < 1048576) (hv : evB f 3 = true) (hb : f ≤ (n : Int) / 8 - 8) :
    Calls Try.prog 44 #[.int .i64 t, .int .i64 i, .int .i64 1, .pointer (some ⟨rb, 0, none⟩), .pointer (some ⟨fb, 0, none⟩)] w fun e w' => e = .returned (.tuple #[.agg #[.int .i64 f, .bool true, .bool wr, .bool true, .bool false, .bool u, .bool d], .int .i64 3]) ∧ Below w.heap.size w w' := by
  have hn := h.hi
  have HV : Hid (evB f 3 = true) := hv
  go_enter Try.func44, Try.ntmps44
  go_wp2_with fail
  refine (word_any (h.alloc _) t i).mono ?_
  rw [hE, he]
  rintro e w2 ⟨rfl, hb⟩
  have hs : w.heap.size < w2.heap.size := by have := hb.size; simp at this; omega
  have hfb2 : fb < w2.heap.size := by omega
  have hF2 : w2.cell? ⟨fb, 0, none⟩ = some (.int .i64 ((n : Int) / 8)) := by rw [(bcell hb).1 _ _ (by simp; omega)]; simp [go_sem, hF, hfb]
  have r2 := (Row.new w 24 [.int .i64 0, .bool false, .bool false, .bool false, .bool false, .bool false, .bool false]).below hb (by simp)
  have B2 : Hid (Below w.heap.size w (w2.alloc (.cells #[.int .i64 f, .bool true, .bool wr, .bool true, .bool false, .bool u, .bool d] 24))) := (((Below.refl _ _).alloc (Nat.le_refl _) _).trans (hb.mono (by simp))).alloc (Nat.le_of_lt hs) _
  obtain ⟨w3, hw3⟩ : ∃ w3, w3 = w2.alloc (.cells #[.int .i64 f, .bool true, .bool wr, .bool true, .bool false, .bool u, .bool d] 24) := ⟨_, rfl⟩
  have HW := Lib.hid hw3
  rw [← hw3] at B2
  have r3 : Row w3 w.heap.size 24 [.int .i64 0, .bool false, .bool false, .bool false, .bool false, .bool false, .bool false] := hw3 ▸ r2.alloc _
  have e3 : Row w3 w2.heap.size 24 [.int .i64 f, .bool true, .bool wr, .bool true, .bool false, .bool u, .bool d] := hw3 ▸ Row.new w2 _ _
  have hF3 : w3.cell? ⟨fb, 0, none⟩ = some (.int .i64 ((n : Int) / 8)) := by rw [hw3]; simp [go_sem, hF2, hfb2]
  obtain ⟨⟨c0, c1, c2, c3, c4, c5, c6⟩, hf⟩ := r3.seven
  obtain ⟨⟨e0, e1, e2, e3, e4, e5, e6⟩, -⟩ := e3.seven
  have hne : ¬ w.heap.size = w2.heap.size := Nat.ne_of_lt hs
  have hne2 : ¬ w2.heap.size = w.heap.size := fun e => hne e.symm
  clear h hr hF hb hE he hrb hfb hw3 r2 hfb2 hF2 hs r3
  go_upto_region 2 with (fail)
  rw [← HW.out]
  go_wp2_with (first | (go_at_call 45; refine (leafOrder_any _ (by omega) (by omega) _).mono ?_; rintro e w' ⟨rfl, rfl⟩) | (go_at_call 46; refine (even_any _ (by omega) (by omega) _).mono ?_; rw [HV.out]; rintro e w' ⟨rfl, rfl⟩))
  all_goals
    go_quiet (fail)
    go_wp2_with fail
    exact bodyPost_ret (v := .tuple #[.agg #[.int .i64 f, .bool true, .bool wr, .bool true, .bool false, .bool u, .bool d], .int .i64 3]) (by simp [results, Try.results44, go_sem, *]) rfl ⟨rfl, below_7 (drewN_below B2.out _) (Nat.le_refl _)⟩
set_option maxHeartbeats 800000 in
theorem ask_huge_odd2 (h : RamAt w a b T n ws) (hr : w.cell? ⟨rb, 0, none⟩ = some (.pointer (some ⟨a, 0, none⟩))) (hF : w.cell? ⟨fb, 0, none⟩ = some (.int .i64 ((n : Int) / 8))) (hrb : rb < w.heap.size) (hfb : fb < w.heap.size) (wr u d : Bool) (t i f : Int) (hE : unE (wd ws t i) = .agg #[.int .i64 f, .bool true, .bool wr, .bool true, .bool false, .bool u, .bool d]) (he : wdE n (wd ws t i) t i = 0) (f0 : 0 ≤ f) (f1 : f < 1048576) (hv : evB f 6 = false) :
    Calls Try.prog 44 #[.int .i64 t, .int .i64 i, .int .i64 2, .pointer (some ⟨rb, 0, none⟩), .pointer (some ⟨fb, 0, none⟩)] w fun e w' => e = .returned (.tuple #[.agg #[.int .i64 f, .bool true, .bool wr, .bool true, .bool false, .bool u, .bool d], .int .i64 0]) ∧ Below w.heap.size w w' := by
  have hn := h.hi
  have HV : Hid (evB f 6 = false) := hv
  go_enter Try.func44, Try.ntmps44
  go_wp2_with fail
  refine (word_any (h.alloc _) t i).mono ?_
  rw [hE, he]
  rintro e w2 ⟨rfl, hb⟩
  have hs : w.heap.size < w2.heap.size := by have := hb.size; simp at this; omega
  have hfb2 : fb < w2.heap.size := by omega
  have hF2 : w2.cell? ⟨fb, 0, none⟩ = some (.int .i64 ((n : Int) / 8)) := by rw [(bcell hb).1 _ _ (by simp; omega)]; simp [go_sem, hF, hfb]
  have r2 := (Row.new w 24 [.int .i64 0, .bool false, .bool false, .bool false, .bool false, .bool false, .bool false]).below hb (by simp)
  have B2 : Hid (Below w.heap.size w (w2.alloc (.cells #[.int .i64 f, .bool true, .bool wr, .bool true, .bool false, .bool u, .bool d] 24))) := (((Below.refl _ _).alloc (Nat.le_refl _) _).trans (hb.mono (by simp))).alloc (Nat.le_of_lt hs) _
  obtain ⟨w3, hw3⟩ : ∃ w3, w3 = w2.alloc (.cells #[.int .i64 f, .bool true, .bool wr, .bool true, .bool false, .bool u, .bool d] 24) := ⟨_, rfl⟩
  have HW := Lib.hid hw3
  rw [← hw3] at B2
  have r3 : Row w3 w.heap.size 24 [.int .i64 0, .bool false, .bool false, .bool false, .bool false, .bool false, .bool false] := hw3 ▸ r2.alloc _
  have e3 : Row w3 w2.heap.size 24 [.int .i64 f, .bool true, .bool wr, .bool true, .bool false, .bool u, .bool d] := hw3 ▸ Row.new w2 _ _
  have hF3 : w3.cell? ⟨fb, 0, none⟩ = some (.int .i64 ((n : Int) / 8)) := by rw [hw3]; simp [go_sem, hF2, hfb2]
  obtain ⟨⟨c0, c1, c2, c3, c4, c5, c6⟩, hf⟩ := r3.seven
  obtain ⟨⟨e0, e1, e2, e3, e4, e5, e6⟩, -⟩ := e3.seven
  have hne : ¬ w.heap.size = w2.heap.size := Nat.ne_of_lt hs
  have hne2 : ¬ w2.heap.size = w.heap.size := fun e => hne e.symm
  clear h hr hF hb hE he hrb hfb hw3 r2 hfb2 hF2 hs r3
  go_upto_region 2 with (fail)
  rw [← HW.out]
  go_wp2_with (first | (go_at_call 45; refine (leafOrder_any _ (by omega) (by omega) _).mono ?_; rintro e w' ⟨rfl, rfl⟩) | (go_at_call 46; refine (even_any _ (by omega) (by omega) _).mono ?_; rw [HV.out]; rintro e w' ⟨rfl, rfl⟩))
  all_goals
    exact bodyPost_ret (v := .tuple #[.agg #[.int .i64 f, .bool true, .bool wr, .bool true, .bool false, .bool u, .bool d], .int .i64 0]) (by simp [results, Try.results44, go_sem, *]) rfl ⟨rfl, below_7 B2.out (Nat.le_refl _)⟩
set_option maxHeartbeats 800000 in
theorem ask_huge_far2 (h : RamAt w a b T n ws) (hr : w.cell? ⟨rb, 0, none⟩ = some (.pointer (some ⟨a, 0, none⟩))) (hF : w.cell? ⟨fb, 0, none⟩ = some (.int .i64 ((n : Int) / 8))) (hrb : rb < w.heap.size) (hfb : fb < w.heap.size) (wr u d : Bool) (t i f : Int) (hE : unE (wd ws t i) = .agg #[.int .i64 f, .bool true, .bool wr, .bool true, .bool false, .bool u, .bool d]) (he : wdE n (wd ws t i) t i = 0) (f0 : 0 ≤ f) (f1 : f < 1048576) (hv : evB f 6 = true) (hb : (n : Int) / 8 - 64 < f) :
    Calls Try.prog 44 #[.int .i64 t, .int .i64 i, .int .i64 2, .pointer (some ⟨rb, 0, none⟩), .pointer (some ⟨fb, 0, none⟩)] w fun e w' => e = .returned (.tuple #[.agg #[.int .i64 f, .bool true, .bool wr, .bool true, .bool false, .bool u, .bool d], .int .i64 0]) ∧ Below w.heap.size w w' := by
  have hn := h.hi
  have HV : Hid (evB f 6 = true) := hv
  go_enter Try.func44, Try.ntmps44
  go_wp2_with fail
  refine (word_any (h.alloc _) t i).mono ?_
  rw [hE, he]
  rintro e w2 ⟨rfl, hb⟩
  have hs : w.heap.size < w2.heap.size := by have := hb.size; simp at this; omega
  have hfb2 : fb < w2.heap.size := by omega
  have hF2 : w2.cell? ⟨fb, 0, none⟩ = some (.int .i64 ((n : Int) / 8)) := by rw [(bcell hb).1 _ _ (by simp; omega)]; simp [go_sem, hF, hfb]
  have r2 := (Row.new w 24 [.int .i64 0, .bool false, .bool false, .bool false, .bool false, .bool false, .bool false]).below hb (by simp)
  have B2 : Hid (Below w.heap.size w (w2.alloc (.cells #[.int .i64 f, .bool true, .bool wr, .bool true, .bool false, .bool u, .bool d] 24))) := (((Below.refl _ _).alloc (Nat.le_refl _) _).trans (hb.mono (by simp))).alloc (Nat.le_of_lt hs) _
  obtain ⟨w3, hw3⟩ : ∃ w3, w3 = w2.alloc (.cells #[.int .i64 f, .bool true, .bool wr, .bool true, .bool false, .bool u, .bool d] 24) := ⟨_, rfl⟩
  have HW := Lib.hid hw3
  rw [← hw3] at B2
  have r3 : Row w3 w.heap.size 24 [.int .i64 0, .bool false, .bool false, .bool false, .bool false, .bool false, .bool false] := hw3 ▸ r2.alloc _
  have e3 : Row w3 w2.heap.size 24 [.int .i64 f, .bool true, .bool wr, .bool true, .bool false, .bool u, .bool d] := hw3 ▸ Row.new w2 _ _
  have hF3 : w3.cell? ⟨fb, 0, none⟩ = some (.int .i64 ((n : Int) / 8)) := by rw [hw3]; simp [go_sem, hF2, hfb2]
  obtain ⟨⟨c0, c1, c2, c3, c4, c5, c6⟩, hf⟩ := r3.seven
  obtain ⟨⟨e0, e1, e2, e3, e4, e5, e6⟩, -⟩ := e3.seven
  have hne : ¬ w.heap.size = w2.heap.size := Nat.ne_of_lt hs
  have hne2 : ¬ w2.heap.size = w.heap.size := fun e => hne e.symm
  clear h hr hF hb hE he hrb hfb hw3 r2 hfb2 hF2 hs r3
  go_upto_region 2 with (fail)
  rw [← HW.out]
  go_wp2_with (first | (go_at_call 45; refine (leafOrder_any _ (by omega) (by omega) _).mono ?_; rintro e w' ⟨rfl, rfl⟩) | (go_at_call 46; refine (even_any _ (by omega) (by omega) _).mono ?_; rw [HV.out]; rintro e w' ⟨rfl, rfl⟩))
  all_goals
    go_quiet (fail)
    go_wp2_with fail
    exact bodyPost_ret (v := .tuple #[.agg #[.int .i64 f, .bool true, .bool wr, .bool true, .bool false, .bool u, .bool d], .int .i64 0]) (by simp [results, Try.results44, go_sem, *]) rfl ⟨rfl, below_7 (drewN_below B2.out _) (Nat.le_refl _)⟩
set_option maxHeartbeats 800000 in
theorem ask_huge_leaf2 (h : RamAt w a b T n ws) (hr : w.cell? ⟨rb, 0, none⟩ = some (.pointer (some ⟨a, 0, none⟩))) (hF : w.cell? ⟨fb, 0, none⟩ = some (.int .i64 ((n : Int) / 8))) (hrb : rb < w.heap.size) (hfb : fb < w.heap.size) (wr u d : Bool) (t i f : Int) (hE : unE (wd ws t i) = .agg #[.int .i64 f, .bool true, .bool wr, .bool true, .bool false, .bool u, .bool d]) (he : wdE n (wd ws t i) t i = 0) (f0 : 0 ≤ f) (f1 : f < 1048576) (hv : evB f 6 = true) (hb : f ≤ (n : Int) / 8 - 64) :
    Calls Try.prog 44 #[.int .i64 t, .int .i64 i, .int .i64 2, .pointer (some ⟨rb, 0, none⟩), .pointer (some ⟨fb, 0, none⟩)] w fun e w' => e = .returned (.tuple #[.agg #[.int .i64 f, .bool true, .bool wr, .bool true, .bool false, .bool u, .bool d], .int .i64 3]) ∧ Below w.heap.size w w' := by
  have hn := h.hi
  have HV : Hid (evB f 6 = true) := hv
  go_enter Try.func44, Try.ntmps44
  go_wp2_with fail
  refine (word_any (h.alloc _) t i).mono ?_
  rw [hE, he]
  rintro e w2 ⟨rfl, hb⟩
  have hs : w.heap.size < w2.heap.size := by have := hb.size; simp at this; omega
  have hfb2 : fb < w2.heap.size := by omega
  have hF2 : w2.cell? ⟨fb, 0, none⟩ = some (.int .i64 ((n : Int) / 8)) := by rw [(bcell hb).1 _ _ (by simp; omega)]; simp [go_sem, hF, hfb]
  have r2 := (Row.new w 24 [.int .i64 0, .bool false, .bool false, .bool false, .bool false, .bool false, .bool false]).below hb (by simp)
  have B2 : Hid (Below w.heap.size w (w2.alloc (.cells #[.int .i64 f, .bool true, .bool wr, .bool true, .bool false, .bool u, .bool d] 24))) := (((Below.refl _ _).alloc (Nat.le_refl _) _).trans (hb.mono (by simp))).alloc (Nat.le_of_lt hs) _
  obtain ⟨w3, hw3⟩ : ∃ w3, w3 = w2.alloc (.cells #[.int .i64 f, .bool true, .bool wr, .bool true, .bool false, .bool u, .bool d] 24) := ⟨_, rfl⟩
  have HW := Lib.hid hw3
  rw [← hw3] at B2
  have r3 : Row w3 w.heap.size 24 [.int .i64 0, .bool false, .bool false, .bool false, .bool false, .bool false, .bool false] := hw3 ▸ r2.alloc _
  have e3 : Row w3 w2.heap.size 24 [.int .i64 f, .bool true, .bool wr, .bool true, .bool false, .bool u, .bool d] := hw3 ▸ Row.new w2 _ _
  have hF3 : w3.cell? ⟨fb, 0, none⟩ = some (.int .i64 ((n : Int) / 8)) := by rw [hw3]; simp [go_sem, hF2, hfb2]
  obtain ⟨⟨c0, c1, c2, c3, c4, c5, c6⟩, hf⟩ := r3.seven
  obtain ⟨⟨e0, e1, e2, e3, e4, e5, e6⟩, -⟩ := e3.seven
  have hne : ¬ w.heap.size = w2.heap.size := Nat.ne_of_lt hs
  have hne2 : ¬ w2.heap.size = w.heap.size := fun e => hne e.symm
  clear h hr hF hb hE he hrb hfb hw3 r2 hfb2 hF2 hs r3
  go_upto_region 2 with (fail)
  rw [← HW.out]
  go_wp2_with (first | (go_at_call 45; refine (leafOrder_any _ (by omega) (by omega) _).mono ?_; rintro e w' ⟨rfl, rfl⟩) | (go_at_call 46; refine (even_any _ (by omega) (by omega) _).mono ?_; rw [HV.out]; rintro e w' ⟨rfl, rfl⟩))
  all_goals
    go_quiet (fail)
    go_wp2_with fail
    exact bodyPost_ret (v := .tuple #[.agg #[.int .i64 f, .bool true, .bool wr, .bool true, .bool false, .bool u, .bool d], .int .i64 3]) (by simp [results, Try.results44, go_sem, *]) rfl ⟨rfl, below_7 (drewN_below B2.out _) (Nat.le_refl _)⟩
end
end Go.Proofs.Ytaphihoomipdaaa
