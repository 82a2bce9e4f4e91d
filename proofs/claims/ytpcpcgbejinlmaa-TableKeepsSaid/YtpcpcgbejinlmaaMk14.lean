/- The contracts of a walk's look at one entry: what an entry says at a level; and of the leaf as it is for one page. -/
import Derived.Test.YtpcpcgbejinlmaaMk13
namespace Go.Proofs.Ytpcpcgbejinlmaa
open Go.RowKit
theorem ev0 (f : Int) : evB f 0 = true := by simp [evB, ordB]
section
variable {w : World} {a b n : Nat} {T : TypeId} {ws : List Int} {rb fb : Nat}
set_option maxHeartbeats 800000 in
theorem ask_bad (h : RamAt w a b T n ws) (hr : w.cell? ⟨rb, 0, none⟩ = some (.pointer (some ⟨a, 0, none⟩))) (hF : w.cell? ⟨fb, 0, none⟩ = some (.int .i64 ((n : Int) / 8))) (hrb : rb < w.heap.size) (hfb : fb < w.heap.size) (t i l er : Int) (hE : unE (wd ws t i) = .agg #[.int .i64 0, .bool false, .bool false, .bool false, .bool false, .bool false, .bool false]) (he : wdE n (wd ws t i) t i = er) (hz : (er != 0) = true) :
    Calls Try.prog 66 #[.int .i64 t, .int .i64 i, .int .i64 l, .pointer (some ⟨rb, 0, none⟩), .pointer (some ⟨fb, 0, none⟩)] w fun e w' => e = .returned (.tuple #[.agg #[.int .i64 0, .bool false, .bool false, .bool false, .bool false, .bool false, .bool false], .int .i64 0]) ∧ Below w.heap.size w w' := by
  have hn := h.hi
  go_enter Try.func66, Try.ntmps66
  go_wp2_with fail
  refine (word_any (h.alloc _) t i).mono ?_
  rw [hE, he]
  rintro e w2 ⟨rfl, hb⟩
  have hs : w.heap.size < w2.heap.size := by have := hb.size; simp at this; omega
  have hfb2 : fb < w2.heap.size := by omega
  have hF2 : w2.cell? ⟨fb, 0, none⟩ = some (.int .i64 ((n : Int) / 8)) := by rw [(bcell hb).1 _ _ (by simp; omega)]; simp [go_sem, hF, hfb]
  have r2 := (Row.new w 28 [.int .i64 0, .bool false, .bool false, .bool false, .bool false, .bool false, .bool false]).below hb (by simp)
  have B2 : Hid (Below w.heap.size w (w2.alloc (.cells #[.int .i64 0, .bool false, .bool false, .bool false, .bool false, .bool false, .bool false] 28))) := (((Below.refl _ _).alloc (Nat.le_refl _) _).trans (hb.mono (by simp))).alloc (Nat.le_of_lt hs) _
  obtain ⟨w3, hw3⟩ : ∃ w3, w3 = w2.alloc (.cells #[.int .i64 0, .bool false, .bool false, .bool false, .bool false, .bool false, .bool false] 28) := ⟨_, rfl⟩
  have HW := Lib.hid hw3
  rw [← hw3] at B2
  have r3 : Row w3 w.heap.size 28 [.int .i64 0, .bool false, .bool false, .bool false, .bool false, .bool false, .bool false] := hw3 ▸ r2.alloc _
  have e3 : Row w3 w2.heap.size 28 [.int .i64 0, .bool false, .bool false, .bool false, .bool false, .bool false, .bool false] := hw3 ▸ Row.new w2 _ _
  have hF3 : w3.cell? ⟨fb, 0, none⟩ = some (.int .i64 ((n : Int) / 8)) := by rw [hw3]; simp [go_sem, hF2, hfb2]
  obtain ⟨⟨c0, c1, c2, c3, c4, c5, c6⟩, hf⟩ := r3.seven
  obtain ⟨⟨e0, e1, e2, e3, e4, e5, e6⟩, -⟩ := e3.seven
  have hne : ¬ w.heap.size = w2.heap.size := Nat.ne_of_lt hs
  have hne2 : ¬ w2.heap.size = w.heap.size := fun e => hne e.symm
  clear h hr hF hb hE he hrb hfb hw3 r2 hfb2 hF2 hs r3
  go_upto_region 2 with (fail)
  rw [← HW.out]
  go_wp2_with (go_at_call 67; refine (leafOrder_any _ (by omega) (by omega) _).mono ?_; rintro e w' ⟨rfl, rfl⟩)
  exact bodyPost_ret (v := .tuple #[.agg #[.int .i64 0, .bool false, .bool false, .bool false, .bool false, .bool false, .bool false], .int .i64 0]) (by simp [results, Try.results66, go_sem, *]) rfl ⟨rfl, below_7 B2.out (Nat.le_refl _)⟩
set_option maxHeartbeats 800000 in
theorem ask_none (h : RamAt w a b T n ws) (hr : w.cell? ⟨rb, 0, none⟩ = some (.pointer (some ⟨a, 0, none⟩))) (hF : w.cell? ⟨fb, 0, none⟩ = some (.int .i64 ((n : Int) / 8))) (hrb : rb < w.heap.size) (hfb : fb < w.heap.size) (t i l : Int) (hE : unE (wd ws t i) = .agg #[.int .i64 0, .bool false, .bool false, .bool false, .bool false, .bool false, .bool false]) (he : wdE n (wd ws t i) t i = 0) :
    Calls Try.prog 66 #[.int .i64 t, .int .i64 i, .int .i64 l, .pointer (some ⟨rb, 0, none⟩), .pointer (some ⟨fb, 0, none⟩)] w fun e w' => e = .returned (.tuple #[.agg #[.int .i64 0, .bool false, .bool false, .bool false, .bool false, .bool false, .bool false], .int .i64 1]) ∧ Below w.heap.size w w' := by
  have hn := h.hi
  go_enter Try.func66, Try.ntmps66
  go_wp2_with fail
  refine (word_any (h.alloc _) t i).mono ?_
  rw [hE, he]
  rintro e w2 ⟨rfl, hb⟩
  have hs : w.heap.size < w2.heap.size := by have := hb.size; simp at this; omega
  have hfb2 : fb < w2.heap.size := by omega
  have hF2 : w2.cell? ⟨fb, 0, none⟩ = some (.int .i64 ((n : Int) / 8)) := by rw [(bcell hb).1 _ _ (by simp; omega)]; simp [go_sem, hF, hfb]
  have r2 := (Row.new w 28 [.int .i64 0, .bool false, .bool false, .bool false, .bool false, .bool false, .bool false]).below hb (by simp)
  have B2 : Hid (Below w.heap.size w (w2.alloc (.cells #[.int .i64 0, .bool false, .bool false, .bool false, .bool false, .bool false, .bool false] 28))) := (((Below.refl _ _).alloc (Nat.le_refl _) _).trans (hb.mono (by simp))).alloc (Nat.le_of_lt hs) _
  obtain ⟨w3, hw3⟩ : ∃ w3, w3 = w2.alloc (.cells #[.int .i64 0, .bool false, .bool false, .bool false, .bool false, .bool false, .bool false] 28) := ⟨_, rfl⟩
  have HW := Lib.hid hw3
  rw [← hw3] at B2
  have r3 : Row w3 w.heap.size 28 [.int .i64 0, .bool false, .bool false, .bool false, .bool false, .bool false, .bool false] := hw3 ▸ r2.alloc _
  have e3 : Row w3 w2.heap.size 28 [.int .i64 0, .bool false, .bool false, .bool false, .bool false, .bool false, .bool false] := hw3 ▸ Row.new w2 _ _
  have hF3 : w3.cell? ⟨fb, 0, none⟩ = some (.int .i64 ((n : Int) / 8)) := by rw [hw3]; simp [go_sem, hF2, hfb2]
  obtain ⟨⟨c0, c1, c2, c3, c4, c5, c6⟩, hf⟩ := r3.seven
  obtain ⟨⟨e0, e1, e2, e3, e4, e5, e6⟩, -⟩ := e3.seven
  have hne : ¬ w.heap.size = w2.heap.size := Nat.ne_of_lt hs
  have hne2 : ¬ w2.heap.size = w.heap.size := fun e => hne e.symm
  clear h hr hF hb hE he hrb hfb hw3 r2 hfb2 hF2 hs r3
  go_upto_region 2 with (fail)
  rw [← HW.out]
  go_wp2_with (go_at_call 67; refine (leafOrder_any _ (by omega) (by omega) _).mono ?_; rintro e w' ⟨rfl, rfl⟩)
  exact bodyPost_ret (v := .tuple #[.agg #[.int .i64 0, .bool false, .bool false, .bool false, .bool false, .bool false, .bool false], .int .i64 1]) (by simp [results, Try.results66, go_sem, *]) rfl ⟨rfl, below_7 B2.out (Nat.le_refl _)⟩
set_option maxHeartbeats 800000 in
theorem ask_held_up (h : RamAt w a b T n ws) (hr : w.cell? ⟨rb, 0, none⟩ = some (.pointer (some ⟨a, 0, none⟩))) (hF : w.cell? ⟨fb, 0, none⟩ = some (.int .i64 ((n : Int) / 8))) (hrb : rb < w.heap.size) (hfb : fb < w.heap.size) (u d : Bool) (t i l f : Int) (hE : unE (wd ws t i) = .agg #[.int .i64 f, .bool false, .bool false, .bool false, .bool true, .bool u, .bool d]) (he : wdE n (wd ws t i) t i = 0) (l0 : 0 < l) :
    Calls Try.prog 66 #[.int .i64 t, .int .i64 i, .int .i64 l, .pointer (some ⟨rb, 0, none⟩), .pointer (some ⟨fb, 0, none⟩)] w fun e w' => e = .returned (.tuple #[.agg #[.int .i64 f, .bool false, .bool false, .bool false, .bool true, .bool u, .bool d], .int .i64 0]) ∧ Below w.heap.size w w' := by
  have hn := h.hi
  go_enter Try.func66, Try.ntmps66
  go_wp2_with fail
  refine (word_any (h.alloc _) t i).mono ?_
  rw [hE, he]
  rintro e w2 ⟨rfl, hb⟩
  have hs : w.heap.size < w2.heap.size := by have := hb.size; simp at this; omega
  have hfb2 : fb < w2.heap.size := by omega
  have hF2 : w2.cell? ⟨fb, 0, none⟩ = some (.int .i64 ((n : Int) / 8)) := by rw [(bcell hb).1 _ _ (by simp; omega)]; simp [go_sem, hF, hfb]
  have r2 := (Row.new w 28 [.int .i64 0, .bool false, .bool false, .bool false, .bool false, .bool false, .bool false]).below hb (by simp)
  have B2 : Hid (Below w.heap.size w (w2.alloc (.cells #[.int .i64 f, .bool false, .bool false, .bool false, .bool true, .bool u, .bool d] 28))) := (((Below.refl _ _).alloc (Nat.le_refl _) _).trans (hb.mono (by simp))).alloc (Nat.le_of_lt hs) _
  obtain ⟨w3, hw3⟩ : ∃ w3, w3 = w2.alloc (.cells #[.int .i64 f, .bool false, .bool false, .bool false, .bool true, .bool u, .bool d] 28) := ⟨_, rfl⟩
  have HW := Lib.hid hw3
  rw [← hw3] at B2
  have r3 : Row w3 w.heap.size 28 [.int .i64 0, .bool false, .bool false, .bool false, .bool false, .bool false, .bool false] := hw3 ▸ r2.alloc _
  have e3 : Row w3 w2.heap.size 28 [.int .i64 f, .bool false, .bool false, .bool false, .bool true, .bool u, .bool d] := hw3 ▸ Row.new w2 _ _
  have hF3 : w3.cell? ⟨fb, 0, none⟩ = some (.int .i64 ((n : Int) / 8)) := by rw [hw3]; simp [go_sem, hF2, hfb2]
  obtain ⟨⟨c0, c1, c2, c3, c4, c5, c6⟩, hf⟩ := r3.seven
  obtain ⟨⟨e0, e1, e2, e3, e4, e5, e6⟩, -⟩ := e3.seven
  have hne : ¬ w.heap.size = w2.heap.size := Nat.ne_of_lt hs
  have hne2 : ¬ w2.heap.size = w.heap.size := fun e => hne e.symm
  clear h hr hF hb hE he hrb hfb hw3 r2 hfb2 hF2 hs r3
  go_upto_region 2 with (fail)
  rw [← HW.out]
  go_wp2_with (go_at_call 67; refine (leafOrder_any _ (by omega) (by omega) _).mono ?_; rintro e w' ⟨rfl, rfl⟩)
  exact bodyPost_ret (v := .tuple #[.agg #[.int .i64 f, .bool false, .bool false, .bool false, .bool true, .bool u, .bool d], .int .i64 0]) (by simp [results, Try.results66, go_sem, *]) rfl ⟨rfl, below_7 B2.out (Nat.le_refl _)⟩
set_option maxHeartbeats 800000 in
theorem ask_held_far (h : RamAt w a b T n ws) (hr : w.cell? ⟨rb, 0, none⟩ = some (.pointer (some ⟨a, 0, none⟩))) (hF : w.cell? ⟨fb, 0, none⟩ = some (.int .i64 ((n : Int) / 8))) (hrb : rb < w.heap.size) (hfb : fb < w.heap.size) (u d : Bool) (t i f : Int) (hE : unE (wd ws t i) = .agg #[.int .i64 f, .bool false, .bool false, .bool false, .bool true, .bool u, .bool d]) (he : wdE n (wd ws t i) t i = 0) (f0 : 0 ≤ f) (f1 : f < 1048576) (hb : (n : Int) / 8 - 1 < f) :
    Calls Try.prog 66 #[.int .i64 t, .int .i64 i, .int .i64 0, .pointer (some ⟨rb, 0, none⟩), .pointer (some ⟨fb, 0, none⟩)] w fun e w' => e = .returned (.tuple #[.agg #[.int .i64 f, .bool false, .bool false, .bool false, .bool true, .bool u, .bool d], .int .i64 0]) ∧ Below w.heap.size w w' := by
  have hn := h.hi
  have HV : Hid (evB f 0 = true) := ev0 _
  go_enter Try.func66, Try.ntmps66
  go_wp2_with fail
  refine (word_any (h.alloc _) t i).mono ?_
  rw [hE, he]
  rintro e w2 ⟨rfl, hb⟩
  have hs : w.heap.size < w2.heap.size := by have := hb.size; simp at this; omega
  have hfb2 : fb < w2.heap.size := by omega
  have hF2 : w2.cell? ⟨fb, 0, none⟩ = some (.int .i64 ((n : Int) / 8)) := by rw [(bcell hb).1 _ _ (by simp; omega)]; simp [go_sem, hF, hfb]
  have r2 := (Row.new w 28 [.int .i64 0, .bool false, .bool false, .bool false, .bool false, .bool false, .bool false]).below hb (by simp)
  have B2 : Hid (Below w.heap.size w (w2.alloc (.cells #[.int .i64 f, .bool false, .bool false, .bool false, .bool true, .bool u, .bool d] 28))) := (((Below.refl _ _).alloc (Nat.le_refl _) _).trans (hb.mono (by simp))).alloc (Nat.le_of_lt hs) _
  obtain ⟨w3, hw3⟩ : ∃ w3, w3 = w2.alloc (.cells #[.int .i64 f, .bool false, .bool false, .bool false, .bool true, .bool u, .bool d] 28) := ⟨_, rfl⟩
  have HW := Lib.hid hw3
  rw [← hw3] at B2
  have r3 : Row w3 w.heap.size 28 [.int .i64 0, .bool false, .bool false, .bool false, .bool false, .bool false, .bool false] := hw3 ▸ r2.alloc _
  have e3 : Row w3 w2.heap.size 28 [.int .i64 f, .bool false, .bool false, .bool false, .bool true, .bool u, .bool d] := hw3 ▸ Row.new w2 _ _
  have hF3 : w3.cell? ⟨fb, 0, none⟩ = some (.int .i64 ((n : Int) / 8)) := by rw [hw3]; simp [go_sem, hF2, hfb2]
  obtain ⟨⟨c0, c1, c2, c3, c4, c5, c6⟩, hf⟩ := r3.seven
  obtain ⟨⟨e0, e1, e2, e3, e4, e5, e6⟩, -⟩ := e3.seven
  have hne : ¬ w.heap.size = w2.heap.size := Nat.ne_of_lt hs
  have hne2 : ¬ w2.heap.size = w.heap.size := fun e => hne e.symm
  clear h hr hF hb hE he hrb hfb hw3 r2 hfb2 hF2 hs r3
  go_upto_region 2 with (fail)
  rw [← HW.out]
  go_wp2_with (first | (go_at_call 67; refine (leafOrder_any _ (by omega) (by omega) _).mono ?_; rintro e w' ⟨rfl, rfl⟩) | (go_at_call 52; refine (even_any _ (by omega) (by omega) _).mono ?_; rw [HV.out]; rintro e w' ⟨rfl, rfl⟩))
  all_goals
    go_quiet (fail)
    go_wp2_with fail
    exact bodyPost_ret (v := .tuple #[.agg #[.int .i64 f, .bool false, .bool false, .bool false, .bool true, .bool u, .bool d], .int .i64 0]) (by simp [results, Try.results66, go_sem, *]) rfl ⟨rfl, below_7 (drewN_below B2.out _) (Nat.le_refl _)⟩
set_option maxHeartbeats 800000 in
theorem ask_held_leaf (h : RamAt w a b T n ws) (hr : w.cell? ⟨rb, 0, none⟩ = some (.pointer (some ⟨a, 0, none⟩))) (hF : w.cell? ⟨fb, 0, none⟩ = some (.int .i64 ((n : Int) / 8))) (hrb : rb < w.heap.size) (hfb : fb < w.heap.size) (u d : Bool) (t i f : Int) (hE : unE (wd ws t i) = .agg #[.int .i64 f, .bool false, .bool false, .bool false, .bool true, .bool u, .bool d]) (he : wdE n (wd ws t i) t i = 0) (f0 : 0 ≤ f) (f1 : f < 1048576) (hb : f ≤ (n : Int) / 8 - 1) :
    Calls Try.prog 66 #[.int .i64 t, .int .i64 i, .int .i64 0, .pointer (some ⟨rb, 0, none⟩), .pointer (some ⟨fb, 0, none⟩)] w fun e w' => e = .returned (.tuple #[.agg #[.int .i64 f, .bool false, .bool false, .bool false, .bool true, .bool u, .bool d], .int .i64 3]) ∧ Below w.heap.size w w' := by
  have hn := h.hi
  have HV : Hid (evB f 0 = true) := ev0 _
  go_enter Try.func66, Try.ntmps66
  go_wp2_with fail
  refine (word_any (h.alloc _) t i).mono ?_
  rw [hE, he]
  rintro e w2 ⟨rfl, hb⟩
  have hs : w.heap.size < w2.heap.size := by have := hb.size; simp at this; omega
  have hfb2 : fb < w2.heap.size := by omega
  have hF2 : w2.cell? ⟨fb, 0, none⟩ = some (.int .i64 ((n : Int) / 8)) := by rw [(bcell hb).1 _ _ (by simp; omega)]; simp [go_sem, hF, hfb]
  have r2 := (Row.new w 28 [.int .i64 0, .bool false, .bool false, .bool false, .bool false, .bool false, .bool false]).below hb (by simp)
  have B2 : Hid (Below w.heap.size w (w2.alloc (.cells #[.int .i64 f, .bool false, .bool false, .bool false, .bool true, .bool u, .bool d] 28))) := (((Below.refl _ _).alloc (Nat.le_refl _) _).trans (hb.mono (by simp))).alloc (Nat.le_of_lt hs) _
  obtain ⟨w3, hw3⟩ : ∃ w3, w3 = w2.alloc (.cells #[.int .i64 f, .bool false, .bool false, .bool false, .bool true, .bool u, .bool d] 28) := ⟨_, rfl⟩
  have HW := Lib.hid hw3
  rw [← hw3] at B2
  have r3 : Row w3 w.heap.size 28 [.int .i64 0, .bool false, .bool false, .bool false, .bool false, .bool false, .bool false] := hw3 ▸ r2.alloc _
  have e3 : Row w3 w2.heap.size 28 [.int .i64 f, .bool false, .bool false, .bool false, .bool true, .bool u, .bool d] := hw3 ▸ Row.new w2 _ _
  have hF3 : w3.cell? ⟨fb, 0, none⟩ = some (.int .i64 ((n : Int) / 8)) := by rw [hw3]; simp [go_sem, hF2, hfb2]
  obtain ⟨⟨c0, c1, c2, c3, c4, c5, c6⟩, hf⟩ := r3.seven
  obtain ⟨⟨e0, e1, e2, e3, e4, e5, e6⟩, -⟩ := e3.seven
  have hne : ¬ w.heap.size = w2.heap.size := Nat.ne_of_lt hs
  have hne2 : ¬ w2.heap.size = w.heap.size := fun e => hne e.symm
  clear h hr hF hb hE he hrb hfb hw3 r2 hfb2 hF2 hs r3
  go_upto_region 2 with (fail)
  rw [← HW.out]
  go_wp2_with (first | (go_at_call 67; refine (leafOrder_any _ (by omega) (by omega) _).mono ?_; rintro e w' ⟨rfl, rfl⟩) | (go_at_call 52; refine (even_any _ (by omega) (by omega) _).mono ?_; rw [HV.out]; rintro e w' ⟨rfl, rfl⟩))
  all_goals
    go_quiet (fail)
    go_wp2_with fail
    exact bodyPost_ret (v := .tuple #[.agg #[.int .i64 f, .bool false, .bool false, .bool false, .bool true, .bool u, .bool d], .int .i64 3]) (by simp [results, Try.results66, go_sem, *]) rfl ⟨rfl, below_7 (drewN_below B2.out _) (Nat.le_refl _)⟩
set_option maxHeartbeats 800000 in
theorem ask_far (h : RamAt w a b T n ws) (hr : w.cell? ⟨rb, 0, none⟩ = some (.pointer (some ⟨a, 0, none⟩))) (hF : w.cell? ⟨fb, 0, none⟩ = some (.int .i64 ((n : Int) / 8))) (hrb : rb < w.heap.size) (hfb : fb < w.heap.size) (wr u d : Bool) (t i l f : Int) (hE : unE (wd ws t i) = .agg #[.int .i64 f, .bool true, .bool wr, .bool false, .bool false, .bool u, .bool d]) (he : wdE n (wd ws t i) t i = 0) (f0 : 0 ≤ f) (f1 : f < 1048576) (hb : (n : Int) / 8 - 1 < f) :
    Calls Try.prog 66 #[.int .i64 t, .int .i64 i, .int .i64 l, .pointer (some ⟨rb, 0, none⟩), .pointer (some ⟨fb, 0, none⟩)] w fun e w' => e = .returned (.tuple #[.agg #[.int .i64 f, .bool true, .bool wr, .bool false, .bool false, .bool u, .bool d], .int .i64 0]) ∧ Below w.heap.size w w' := by
  have hn := h.hi
  have HV : Hid (evB f 0 = true) := ev0 _
  go_enter Try.func66, Try.ntmps66
  go_wp2_with fail
  refine (word_any (h.alloc _) t i).mono ?_
  rw [hE, he]
  rintro e w2 ⟨rfl, hb⟩
  have hs : w.heap.size < w2.heap.size := by have := hb.size; simp at this; omega
  have hfb2 : fb < w2.heap.size := by omega
  have hF2 : w2.cell? ⟨fb, 0, none⟩ = some (.int .i64 ((n : Int) / 8)) := by rw [(bcell hb).1 _ _ (by simp; omega)]; simp [go_sem, hF, hfb]
  have r2 := (Row.new w 28 [.int .i64 0, .bool false, .bool false, .bool false, .bool false, .bool false, .bool false]).below hb (by simp)
  have B2 : Hid (Below w.heap.size w (w2.alloc (.cells #[.int .i64 f, .bool true, .bool wr, .bool false, .bool false, .bool u, .bool d] 28))) := (((Below.refl _ _).alloc (Nat.le_refl _) _).trans (hb.mono (by simp))).alloc (Nat.le_of_lt hs) _
  obtain ⟨w3, hw3⟩ : ∃ w3, w3 = w2.alloc (.cells #[.int .i64 f, .bool true, .bool wr, .bool false, .bool false, .bool u, .bool d] 28) := ⟨_, rfl⟩
  have HW := Lib.hid hw3
  rw [← hw3] at B2
  have r3 : Row w3 w.heap.size 28 [.int .i64 0, .bool false, .bool false, .bool false, .bool false, .bool false, .bool false] := hw3 ▸ r2.alloc _
  have e3 : Row w3 w2.heap.size 28 [.int .i64 f, .bool true, .bool wr, .bool false, .bool false, .bool u, .bool d] := hw3 ▸ Row.new w2 _ _
  have hF3 : w3.cell? ⟨fb, 0, none⟩ = some (.int .i64 ((n : Int) / 8)) := by rw [hw3]; simp [go_sem, hF2, hfb2]
  obtain ⟨⟨c0, c1, c2, c3, c4, c5, c6⟩, hf⟩ := r3.seven
  obtain ⟨⟨e0, e1, e2, e3, e4, e5, e6⟩, -⟩ := e3.seven
  have hne : ¬ w.heap.size = w2.heap.size := Nat.ne_of_lt hs
  have hne2 : ¬ w2.heap.size = w.heap.size := fun e => hne e.symm
  clear h hr hF hb hE he hrb hfb hw3 r2 hfb2 hF2 hs r3
  go_upto_region 2 with (fail)
  rw [← HW.out]
  go_wp2_with (first | (go_at_call 67; refine (leafOrder_any _ (by omega) (by omega) _).mono ?_; rintro e w' ⟨rfl, rfl⟩) | (go_at_call 52; refine (even_any _ (by omega) (by omega) _).mono ?_; rw [HV.out]; rintro e w' ⟨rfl, rfl⟩))
  all_goals
    go_quiet (fail)
    go_wp2_with fail
    exact bodyPost_ret (v := .tuple #[.agg #[.int .i64 f, .bool true, .bool wr, .bool false, .bool false, .bool u, .bool d], .int .i64 0]) (by simp [results, Try.results66, go_sem, *]) rfl ⟨rfl, below_7 (drewN_below B2.out _) (Nat.le_refl _)⟩
set_option maxHeartbeats 800000 in
theorem ask_leaf (h : RamAt w a b T n ws) (hr : w.cell? ⟨rb, 0, none⟩ = some (.pointer (some ⟨a, 0, none⟩))) (hF : w.cell? ⟨fb, 0, none⟩ = some (.int .i64 ((n : Int) / 8))) (hrb : rb < w.heap.size) (hfb : fb < w.heap.size) (wr u d : Bool) (t i f : Int) (hE : unE (wd ws t i) = .agg #[.int .i64 f, .bool true, .bool wr, .bool false, .bool false, .bool u, .bool d]) (he : wdE n (wd ws t i) t i = 0) (f0 : 0 ≤ f) (f1 : f < 1048576) (hb : f ≤ (n : Int) / 8 - 1) :
    Calls Try.prog 66 #[.int .i64 t, .int .i64 i, .int .i64 0, .pointer (some ⟨rb, 0, none⟩), .pointer (some ⟨fb, 0, none⟩)] w fun e w' => e = .returned (.tuple #[.agg #[.int .i64 f, .bool true, .bool wr, .bool false, .bool false, .bool u, .bool d], .int .i64 3]) ∧ Below w.heap.size w w' := by
  have hn := h.hi
  have HV : Hid (evB f 0 = true) := ev0 _
  go_enter Try.func66, Try.ntmps66
  go_wp2_with fail
  refine (word_any (h.alloc _) t i).mono ?_
  rw [hE, he]
  rintro e w2 ⟨rfl, hb⟩
  have hs : w.heap.size < w2.heap.size := by have := hb.size; simp at this; omega
  have hfb2 : fb < w2.heap.size := by omega
  have hF2 : w2.cell? ⟨fb, 0, none⟩ = some (.int .i64 ((n : Int) / 8)) := by rw [(bcell hb).1 _ _ (by simp; omega)]; simp [go_sem, hF, hfb]
  have r2 := (Row.new w 28 [.int .i64 0, .bool false, .bool false, .bool false, .bool false, .bool false, .bool false]).below hb (by simp)
  have B2 : Hid (Below w.heap.size w (w2.alloc (.cells #[.int .i64 f, .bool true, .bool wr, .bool false, .bool false, .bool u, .bool d] 28))) := (((Below.refl _ _).alloc (Nat.le_refl _) _).trans (hb.mono (by simp))).alloc (Nat.le_of_lt hs) _
  obtain ⟨w3, hw3⟩ : ∃ w3, w3 = w2.alloc (.cells #[.int .i64 f, .bool true, .bool wr, .bool false, .bool false, .bool u, .bool d] 28) := ⟨_, rfl⟩
  have HW := Lib.hid hw3
  rw [← hw3] at B2
  have r3 : Row w3 w.heap.size 28 [.int .i64 0, .bool false, .bool false, .bool false, .bool false, .bool false, .bool false] := hw3 ▸ r2.alloc _
  have e3 : Row w3 w2.heap.size 28 [.int .i64 f, .bool true, .bool wr, .bool false, .bool false, .bool u, .bool d] := hw3 ▸ Row.new w2 _ _
  have hF3 : w3.cell? ⟨fb, 0, none⟩ = some (.int .i64 ((n : Int) / 8)) := by rw [hw3]; simp [go_sem, hF2, hfb2]
  obtain ⟨⟨c0, c1, c2, c3, c4, c5, c6⟩, hf⟩ := r3.seven
  obtain ⟨⟨e0, e1, e2, e3, e4, e5, e6⟩, -⟩ := e3.seven
  have hne : ¬ w.heap.size = w2.heap.size := Nat.ne_of_lt hs
  have hne2 : ¬ w2.heap.size = w.heap.size := fun e => hne e.symm
  clear h hr hF hb hE he hrb hfb hw3 r2 hfb2 hF2 hs r3
  go_upto_region 2 with (fail)
  rw [← HW.out]
  go_wp2_with (first | (go_at_call 67; refine (leafOrder_any _ (by omega) (by omega) _).mono ?_; rintro e w' ⟨rfl, rfl⟩) | (go_at_call 52; refine (even_any _ (by omega) (by omega) _).mono ?_; rw [HV.out]; rintro e w' ⟨rfl, rfl⟩))
  all_goals
    go_quiet (fail)
    go_wp2_with fail
    exact bodyPost_ret (v := .tuple #[.agg #[.int .i64 f, .bool true, .bool wr, .bool false, .bool false, .bool u, .bool d], .int .i64 3]) (by simp [results, Try.results66, go_sem, *]) rfl ⟨rfl, below_7 (drewN_below B2.out _) (Nat.le_refl _)⟩
set_option maxHeartbeats 800000 in
theorem ask_further (h : RamAt w a b T n ws) (hr : w.cell? ⟨rb, 0, none⟩ = some (.pointer (some ⟨a, 0, none⟩))) (hF : w.cell? ⟨fb, 0, none⟩ = some (.int .i64 ((n : Int) / 8))) (hrb : rb < w.heap.size) (hfb : fb < w.heap.size) (wr u d : Bool) (t i l f : Int) (hE : unE (wd ws t i) = .agg #[.int .i64 f, .bool true, .bool wr, .bool false, .bool false, .bool u, .bool d]) (he : wdE n (wd ws t i) t i = 0) (f0 : 0 ≤ f) (f1 : f < 1048576) (hb : f ≤ (n : Int) / 8 - 1) (l0 : (l == 0) = false) :
    Calls Try.prog 66 #[.int .i64 t, .int .i64 i, .int .i64 l, .pointer (some ⟨rb, 0, none⟩), .pointer (some ⟨fb, 0, none⟩)] w fun e w' => e = .returned (.tuple #[.agg #[.int .i64 f, .bool true, .bool wr, .bool false, .bool false, .bool u, .bool d], .int .i64 2]) ∧ Below w.heap.size w w' := by
  have hn := h.hi
  have HV : Hid (evB f 0 = true) := ev0 _
  go_enter Try.func66, Try.ntmps66
  go_wp2_with fail
  refine (word_any (h.alloc _) t i).mono ?_
  rw [hE, he]
  rintro e w2 ⟨rfl, hb⟩
  have hs : w.heap.size < w2.heap.size := by have := hb.size; simp at this; omega
  have hfb2 : fb < w2.heap.size := by omega
  have hF2 : w2.cell? ⟨fb, 0, none⟩ = some (.int .i64 ((n : Int) / 8)) := by rw [(bcell hb).1 _ _ (by simp; omega)]; simp [go_sem, hF, hfb]
  have r2 := (Row.new w 28 [.int .i64 0, .bool false, .bool false, .bool false, .bool false, .bool false, .bool false]).below hb (by simp)
  have B2 : Hid (Below w.heap.size w (w2.alloc (.cells #[.int .i64 f, .bool true, .bool wr, .bool false, .bool false, .bool u, .bool d] 28))) := (((Below.refl _ _).alloc (Nat.le_refl _) _).trans (hb.mono (by simp))).alloc (Nat.le_of_lt hs) _
  obtain ⟨w3, hw3⟩ : ∃ w3, w3 = w2.alloc (.cells #[.int .i64 f, .bool true, .bool wr, .bool false, .bool false, .bool u, .bool d] 28) := ⟨_, rfl⟩
  have HW := Lib.hid hw3
  rw [← hw3] at B2
  have r3 : Row w3 w.heap.size 28 [.int .i64 0, .bool false, .bool false, .bool false, .bool false, .bool false, .bool false] := hw3 ▸ r2.alloc _
  have e3 : Row w3 w2.heap.size 28 [.int .i64 f, .bool true, .bool wr, .bool false, .bool false, .bool u, .bool d] := hw3 ▸ Row.new w2 _ _
  have hF3 : w3.cell? ⟨fb, 0, none⟩ = some (.int .i64 ((n : Int) / 8)) := by rw [hw3]; simp [go_sem, hF2, hfb2]
  obtain ⟨⟨c0, c1, c2, c3, c4, c5, c6⟩, hf⟩ := r3.seven
  obtain ⟨⟨e0, e1, e2, e3, e4, e5, e6⟩, -⟩ := e3.seven
  have hne : ¬ w.heap.size = w2.heap.size := Nat.ne_of_lt hs
  have hne2 : ¬ w2.heap.size = w.heap.size := fun e => hne e.symm
  clear h hr hF hb hE he hrb hfb hw3 r2 hfb2 hF2 hs r3
  go_upto_region 2 with (fail)
  rw [← HW.out]
  go_wp2_with (first | (go_at_call 67; refine (leafOrder_any _ (by omega) (by omega) _).mono ?_; rintro e w' ⟨rfl, rfl⟩) | (go_at_call 52; refine (even_any _ (by omega) (by omega) _).mono ?_; rw [HV.out]; rintro e w' ⟨rfl, rfl⟩))
  all_goals
    go_quiet (fail)
    go_wp2_with fail
    exact bodyPost_ret (v := .tuple #[.agg #[.int .i64 f, .bool true, .bool wr, .bool false, .bool false, .bool u, .bool d], .int .i64 2]) (by simp [results, Try.results66, go_sem, *]) rfl ⟨rfl, below_7 (drewN_below B2.out _) (Nat.le_refl _)⟩
set_option maxHeartbeats 800000 in
theorem ask_huge_low (h : RamAt w a b T n ws) (hr : w.cell? ⟨rb, 0, none⟩ = some (.pointer (some ⟨a, 0, none⟩))) (hF : w.cell? ⟨fb, 0, none⟩ = some (.int .i64 ((n : Int) / 8))) (hrb : rb < w.heap.size) (hfb : fb < w.heap.size) (wr u d : Bool) (t i f : Int) (hE : unE (wd ws t i) = .agg #[.int .i64 f, .bool true, .bool wr, .bool true, .bool false, .bool u, .bool d]) (he : wdE n (wd ws t i) t i = 0) :
    Calls Try.prog 66 #[.int .i64 t, .int .i64 i, .int .i64 0, .pointer (some ⟨rb, 0, none⟩), .pointer (some ⟨fb, 0, none⟩)] w fun e w' => e = .returned (.tuple #[.agg #[.int .i64 f, .bool true, .bool wr, .bool true, .bool false, .bool u, .bool d], .int .i64 0]) ∧ Below w.heap.size w w' := by
  have hn := h.hi
  go_enter Try.func66, Try.ntmps66
  go_wp2_with fail
  refine (word_any (h.alloc _) t i).mono ?_
  rw [hE, he]
  rintro e w2 ⟨rfl, hb⟩
  have hs : w.heap.size < w2.heap.size := by have := hb.size; simp at this; omega
  have hfb2 : fb < w2.heap.size := by omega
  have hF2 : w2.cell? ⟨fb, 0, none⟩ = some (.int .i64 ((n : Int) / 8)) := by rw [(bcell hb).1 _ _ (by simp; omega)]; simp [go_sem, hF, hfb]
  have r2 := (Row.new w 28 [.int .i64 0, .bool false, .bool false, .bool false, .bool false, .bool false, .bool false]).below hb (by simp)
  have B2 : Hid (Below w.heap.size w (w2.alloc (.cells #[.int .i64 f, .bool true, .bool wr, .bool true, .bool false, .bool u, .bool d] 28))) := (((Below.refl _ _).alloc (Nat.le_refl _) _).trans (hb.mono (by simp))).alloc (Nat.le_of_lt hs) _
  obtain ⟨w3, hw3⟩ : ∃ w3, w3 = w2.alloc (.cells #[.int .i64 f, .bool true, .bool wr, .bool true, .bool false, .bool u, .bool d] 28) := ⟨_, rfl⟩
  have HW := Lib.hid hw3
  rw [← hw3] at B2
  have r3 : Row w3 w.heap.size 28 [.int .i64 0, .bool false, .bool false, .bool false, .bool false, .bool false, .bool false] := hw3 ▸ r2.alloc _
  have e3 : Row w3 w2.heap.size 28 [.int .i64 f, .bool true, .bool wr, .bool true, .bool false, .bool u, .bool d] := hw3 ▸ Row.new w2 _ _
  have hF3 : w3.cell? ⟨fb, 0, none⟩ = some (.int .i64 ((n : Int) / 8)) := by rw [hw3]; simp [go_sem, hF2, hfb2]
  obtain ⟨⟨c0, c1, c2, c3, c4, c5, c6⟩, hf⟩ := r3.seven
  obtain ⟨⟨e0, e1, e2, e3, e4, e5, e6⟩, -⟩ := e3.seven
  have hne : ¬ w.heap.size = w2.heap.size := Nat.ne_of_lt hs
  have hne2 : ¬ w2.heap.size = w.heap.size := fun e => hne e.symm
  clear h hr hF hb hE he hrb hfb hw3 r2 hfb2 hF2 hs r3
  go_upto_region 2 with (fail)
  rw [← HW.out]
  go_wp2_with (go_at_call 67; refine (leafOrder_any _ (by omega) (by omega) _).mono ?_; rintro e w' ⟨rfl, rfl⟩)
  exact bodyPost_ret (v := .tuple #[.agg #[.int .i64 f, .bool true, .bool wr, .bool true, .bool false, .bool u, .bool d], .int .i64 0]) (by simp [results, Try.results66, go_sem, *]) rfl ⟨rfl, below_7 B2.out (Nat.le_refl _)⟩
set_option maxHeartbeats 800000 in
theorem ask_huge_top (h : RamAt w a b T n ws) (hr : w.cell? ⟨rb, 0, none⟩ = some (.pointer (some ⟨a, 0, none⟩))) (hF : w.cell? ⟨fb, 0, none⟩ = some (.int .i64 ((n : Int) / 8))) (hrb : rb < w.heap.size) (hfb : fb < w.heap.size) (wr u d : Bool) (t i f : Int) (hE : unE (wd ws t i) = .agg #[.int .i64 f, .bool true, .bool wr, .bool true, .bool false, .bool u, .bool d]) (he : wdE n (wd ws t i) t i = 0) :
    Calls Try.prog 66 #[.int .i64 t, .int .i64 i, .int .i64 3, .pointer (some ⟨rb, 0, none⟩), .pointer (some ⟨fb, 0, none⟩)] w fun e w' => e = .returned (.tuple #[.agg #[.int .i64 f, .bool true, .bool wr, .bool true, .bool false, .bool u, .bool d], .int .i64 0]) ∧ Below w.heap.size w w' := by
  have hn := h.hi
  go_enter Try.func66, Try.ntmps66
  go_wp2_with fail
  refine (word_any (h.alloc _) t i).mono ?_
  rw [hE, he]
  rintro e w2 ⟨rfl, hb⟩
  have hs : w.heap.size < w2.heap.size := by have := hb.size; simp at this; omega
  have hfb2 : fb < w2.heap.size := by omega
  have hF2 : w2.cell? ⟨fb, 0, none⟩ = some (.int .i64 ((n : Int) / 8)) := by rw [(bcell hb).1 _ _ (by simp; omega)]; simp [go_sem, hF, hfb]
  have r2 := (Row.new w 28 [.int .i64 0, .bool false, .bool false, .bool false, .bool false, .bool false, .bool false]).below hb (by simp)
  have B2 : Hid (Below w.heap.size w (w2.alloc (.cells #[.int .i64 f, .bool true, .bool wr, .bool true, .bool false, .bool u, .bool d] 28))) := (((Below.refl _ _).alloc (Nat.le_refl _) _).trans (hb.mono (by simp))).alloc (Nat.le_of_lt hs) _
  obtain ⟨w3, hw3⟩ : ∃ w3, w3 = w2.alloc (.cells #[.int .i64 f, .bool true, .bool wr, .bool true, .bool false, .bool u, .bool d] 28) := ⟨_, rfl⟩
  have HW := Lib.hid hw3
  rw [← hw3] at B2
  have r3 : Row w3 w.heap.size 28 [.int .i64 0, .bool false, .bool false, .bool false, .bool false, .bool false, .bool false] := hw3 ▸ r2.alloc _
  have e3 : Row w3 w2.heap.size 28 [.int .i64 f, .bool true, .bool wr, .bool true, .bool false, .bool u, .bool d] := hw3 ▸ Row.new w2 _ _
  have hF3 : w3.cell? ⟨fb, 0, none⟩ = some (.int .i64 ((n : Int) / 8)) := by rw [hw3]; simp [go_sem, hF2, hfb2]
  obtain ⟨⟨c0, c1, c2, c3, c4, c5, c6⟩, hf⟩ := r3.seven
  obtain ⟨⟨e0, e1, e2, e3, e4, e5, e6⟩, -⟩ := e3.seven
  have hne : ¬ w.heap.size = w2.heap.size := Nat.ne_of_lt hs
  have hne2 : ¬ w2.heap.size = w.heap.size := fun e => hne e.symm
  clear h hr hF hb hE he hrb hfb hw3 r2 hfb2 hF2 hs r3
  go_upto_region 2 with (fail)
  rw [← HW.out]
  go_wp2_with (go_at_call 67; refine (leafOrder_any _ (by omega) (by omega) _).mono ?_; rintro e w' ⟨rfl, rfl⟩)
  exact bodyPost_ret (v := .tuple #[.agg #[.int .i64 f, .bool true, .bool wr, .bool true, .bool false, .bool u, .bool d], .int .i64 0]) (by simp [results, Try.results66, go_sem, *]) rfl ⟨rfl, below_7 B2.out (Nat.le_refl _)⟩
set_option maxHeartbeats 800000 in
theorem ask_huge_odd1 (h : RamAt w a b T n ws) (hr : w.cell? ⟨rb, 0, none⟩ = some (.pointer (some ⟨a, 0, none⟩))) (hF : w.cell? ⟨fb, 0, none⟩ = some (.int .i64 ((n : Int) / 8))) (hrb : rb < w.heap.size) (hfb : fb < w.heap.size) (wr u d : Bool) (t i f : Int) (hE : unE (wd ws t i) = .agg #[.int .i64 f, .bool true, .bool wr, .bool true, .bool false, .bool u, .bool d]) (he : wdE n (wd ws t i) t i = 0) (f0 : 0 ≤ f) (f1 : f < 1048576) (hv : evB f 3 = false) :
    Calls Try.prog 66 #[.int .i64 t, .int .i64 i, .int .i64 1, .pointer (some ⟨rb, 0, none⟩), .pointer (some ⟨fb, 0, none⟩)] w fun e w' => e = .returned (.tuple #[.agg #[.int .i64 f, .bool true, .bool wr, .bool true, .bool false, .bool u, .bool d], .int .i64 0]) ∧ Below w.heap.size w w' := by
  have hn := h.hi
  have HV : Hid (evB f 3 = false) := hv
  go_enter Try.func66, Try.ntmps66
  go_wp2_with fail
  refine (word_any (h.alloc _) t i).mono ?_
  rw [hE, he]
  rintro e w2 ⟨rfl, hb⟩
  have hs : w.heap.size < w2.heap.size := by have := hb.size; simp at this; omega
  have hfb2 : fb < w2.heap.size := by omega
  have hF2 : w2.cell? ⟨fb, 0, none⟩ = some (.int .i64 ((n : Int) / 8)) := by rw [(bcell hb).1 _ _ (by simp; omega)]; simp [go_sem, hF, hfb]
  have r2 := (Row.new w 28 [.int .i64 0, .bool false, .bool false, .bool false, .bool false, .bool false, .bool false]).below hb (by simp)
  have B2 : Hid (Below w.heap.size w (w2.alloc (.cells #[.int .i64 f, .bool true, .bool wr, .bool true, .bool false, .bool u, .bool d] 28))) := (((Below.refl _ _).alloc (Nat.le_refl _) _).trans (hb.mono (by simp))).alloc (Nat.le_of_lt hs) _
  obtain ⟨w3, hw3⟩ : ∃ w3, w3 = w2.alloc (.cells #[.int .i64 f, .bool true, .bool wr, .bool true, .bool false, .bool u, .bool d] 28) := ⟨_, rfl⟩
  have HW := Lib.hid hw3
  rw [← hw3] at B2
  have r3 : Row w3 w.heap.size 28 [.int .i64 0, .bool false, .bool false, .bool false, .bool false, .bool false, .bool false] := hw3 ▸ r2.alloc _
  have e3 : Row w3 w2.heap.size 28 [.int .i64 f, .bool true, .bool wr, .bool true, .bool false, .bool u, .bool d] := hw3 ▸ Row.new w2 _ _
  have hF3 : w3.cell? ⟨fb, 0, none⟩ = some (.int .i64 ((n : Int) / 8)) := by rw [hw3]; simp [go_sem, hF2, hfb2]
  obtain ⟨⟨c0, c1, c2, c3, c4, c5, c6⟩, hf⟩ := r3.seven
  obtain ⟨⟨e0, e1, e2, e3, e4, e5, e6⟩, -⟩ := e3.seven
  have hne : ¬ w.heap.size = w2.heap.size := Nat.ne_of_lt hs
  have hne2 : ¬ w2.heap.size = w.heap.size := fun e => hne e.symm
  clear h hr hF hb hE he hrb hfb hw3 r2 hfb2 hF2 hs r3
  go_upto_region 2 with (fail)
  rw [← HW.out]
  go_wp2_with (first | (go_at_call 67; refine (leafOrder_any _ (by omega) (by omega) _).mono ?_; rintro e w' ⟨rfl, rfl⟩) | (go_at_call 52; refine (even_any _ (by omega) (by omega) _).mono ?_; rw [HV.out]; rintro e w' ⟨rfl, rfl⟩))
  all_goals
    exact bodyPost_ret (v := .tuple #[.agg #[.int .i64 f, .bool true, .bool wr, .bool true, .bool false, .bool u, .bool d], .int .i64 0]) (by simp [results, Try.results66, go_sem, *]) rfl ⟨rfl, below_7 B2.out (Nat.le_refl _)⟩
set_option maxHeartbeats 800000 in
theorem ask_huge_far1 (h : RamAt w a b T n ws) (hr : w.cell? ⟨rb, 0, none⟩ = some (.pointer (some ⟨a, 0, none⟩))) (hF : w.cell? ⟨fb, 0, none⟩ = some (.int .i64 ((n : Int) / 8))) (hrb : rb < w.heap.size) (hfb : fb < w.heap.size) (wr u d : Bool) (t i f : Int) (hE : unE (wd ws t i) = .agg #[.int .i64 f, .bool true, .bool wr, .bool true, .bool false, .bool u, .bool d]) (he : wdE n (wd ws t i) t i = 0) (f0 : 0 ≤ f) (f1 : f < 1048576) (hv : evB f 3 = true) (hb : (n : Int) / 8 - 8 < f) :
    Calls Try.prog 66 #[.int .i64 t, .int .i64 i, .int .i64 1, .pointer (some ⟨rb, 0, none⟩), .pointer (some ⟨fb, 0, none⟩)] w fun e w' => e = .returned (.tuple #[.agg #[.int .i64 f, .bool true, .bool wr, .bool true, .bool false, .bool u, .bool d], .int .i64 0]) ∧ Below w.heap.size w w' := by
  have hn := h.hi
  have HV : Hid (evB f 3 = true) := hv
  go_enter Try.func66, Try.ntmps66
  go_wp2_with fail
  refine (word_any (h.alloc _) t i).mono ?_
  rw [hE, he]
  rintro e w2 ⟨rfl, hb⟩
  have hs : w.heap.size < w2.heap.size := by have := hb.size; simp at this; omega
  have hfb2 : fb < w2.heap.size := by omega
  have hF2 : w2.cell? ⟨fb, 0, none⟩ = some (.int .i64 ((n : Int) / 8)) := by rw [(bcell hb).1 _ _ (by simp; omega)]; simp [go_sem, hF, hfb]
  have r2 := (Row.new w 28 [.int .i64 0, .bool false, .bool false, .bool false, .bool false, .bool false, .bool false]).below hb (by simp)
  have B2 : Hid (Below w.heap.size w (w2.alloc (.cells #[.int .i64 f, .bool true, .bool wr, .bool true, .bool false, .bool u, .bool d] 28))) := (((Below.refl _ _).alloc (Nat.le_refl _) _).trans (hb.mono (by simp))).alloc (Nat.le_of_lt hs) _
  obtain ⟨w3, hw3⟩ : ∃ w3, w3 = w2.alloc (.cells #[.int .i64 f, .bool true, .bool wr, .bool true, .bool false, .bool u, .bool d] 28) := ⟨_, rfl⟩
  have HW := Lib.hid hw3
  rw [← hw3] at B2
  have r3 : Row w3 w.heap.size 28 [.int .i64 0, .bool false, .bool false, .bool false, .bool false, .bool false, .bool false] := hw3 ▸ r2.alloc _
  have e3 : Row w3 w2.heap.size 28 [.int .i64 f, .bool true, .bool wr, .bool true, .bool false, .bool u, .bool d] := hw3 ▸ Row.new w2 _ _
  have hF3 : w3.cell? ⟨fb, 0, none⟩ = some (.int .i64 ((n : Int) / 8)) := by rw [hw3]; simp [go_sem, hF2, hfb2]
  obtain ⟨⟨c0, c1, c2, c3, c4, c5, c6⟩, hf⟩ := r3.seven
  obtain ⟨⟨e0, e1, e2, e3, e4, e5, e6⟩, -⟩ := e3.seven
  have hne : ¬ w.heap.size = w2.heap.size := Nat.ne_of_lt hs
  have hne2 : ¬ w2.heap.size = w.heap.size := fun e => hne e.symm
  clear h hr hF hb hE he hrb hfb hw3 r2 hfb2 hF2 hs r3
  go_upto_region 2 with (fail)
  rw [← HW.out]
  go_wp2_with (first | (go_at_call 67; refine (leafOrder_any _ (by omega) (by omega) _).mono ?_; rintro e w' ⟨rfl, rfl⟩) | (go_at_call 52; refine (even_any _ (by omega) (by omega) _).mono ?_; rw [HV.out]; rintro e w' ⟨rfl, rfl⟩))
  all_goals
    go_quiet (fail)
    go_wp2_with fail
    exact bodyPost_ret (v := .tuple #[.agg #[.int .i64 f, .bool true, .bool wr, .bool true, .bool false, .bool u, .bool d], .int .i64 0]) (by simp [results, Try.results66, go_sem, *]) rfl ⟨rfl, below_7 (drewN_below B2.out _) (Nat.le_refl _)⟩
set_option maxHeartbeats 800000 in
theorem ask_huge_leaf1 (h : RamAt w a b T n ws) (hr : w.cell? ⟨rb, 0, none⟩ = some (.pointer (some ⟨a, 0, none⟩))) (hF : w.cell? ⟨fb, 0, none⟩ = some (.int .i64 ((n : Int) / 8))) (hrb : rb < w.heap.size) (hfb : fb < w.heap.size) (wr u d : Bool) (t i f : Int) (hE : unE (wd ws t i) = .agg #[.int .i64 f, .bool true, .bool wr, .bool true, .bool false, .bool u, .bool d]) (he : wdE n (wd ws t i) t i = 0) (f0 : 0 ≤ f) (f1 : f < 1048576) (hv : evB f 3 = true) (hb : f ≤ (n : Int) / 8 - 8) :
    Calls Try.prog 66 #[.int .i64 t, .int .i64 i, .int .i64 1, .pointer (some ⟨rb, 0, none⟩), .pointer (some ⟨fb, 0, none⟩)] w fun e w' => e = .returned (.tuple #[.agg #[.int .i64 f, .bool true, .bool wr, .bool true, .bool false, .bool u, .bool d], .int .i64 3]) ∧ Below w.heap.size w w' := by
  have hn := h.hi
  have HV : Hid (evB f 3 = true) := hv
  go_enter Try.func66, Try.ntmps66
  go_wp2_with fail
  refine (word_any (h.alloc _) t i).mono ?_
  rw [hE, he]
  rintro e w2 ⟨rfl, hb⟩
  have hs : w.heap.size < w2.heap.size := by have := hb.size; simp at this; omega
  have hfb2 : fb < w2.heap.size := by omega
  have hF2 : w2.cell? ⟨fb, 0, none⟩ = some (.int .i64 ((n : Int) / 8)) := by rw [(bcell hb).1 _ _ (by simp; omega)]; simp [go_sem, hF, hfb]
  have r2 := (Row.new w 28 [.int .i64 0, .bool false, .bool false, .bool false, .bool false, .bool false, .bool false]).below hb (by simp)
  have B2 : Hid (Below w.heap.size w (w2.alloc (.cells #[.int .i64 f, .bool true, .bool wr, .bool true, .bool false, .bool u, .bool d] 28))) := (((Below.refl _ _).alloc (Nat.le_refl _) _).trans (hb.mono (by simp))).alloc (Nat.le_of_lt hs) _
  obtain ⟨w3, hw3⟩ : ∃ w3, w3 = w2.alloc (.cells #[.int .i64 f, .bool true, .bool wr, .bool true, .bool false, .bool u, .bool d] 28) := ⟨_, rfl⟩
  have HW := Lib.hid hw3
  rw [← hw3] at B2
  have r3 : Row w3 w.heap.size 28 [.int .i64 0, .bool false, .bool false, .bool false, .bool false, .bool false, .bool false] := hw3 ▸ r2.alloc _
  have e3 : Row w3 w2.heap.size 28 [.int .i64 f, .bool true, .bool wr, .bool true, .bool false, .bool u, .bool d] := hw3 ▸ Row.new w2 _ _
  have hF3 : w3.cell? ⟨fb, 0, none⟩ = some (.int .i64 ((n : Int) / 8)) := by rw [hw3]; simp [go_sem, hF2, hfb2]
  obtain ⟨⟨c0, c1, c2, c3, c4, c5, c6⟩, hf⟩ := r3.seven
  obtain ⟨⟨e0, e1, e2, e3, e4, e5, e6⟩, -⟩ := e3.seven
  have hne : ¬ w.heap.size = w2.heap.size := Nat.ne_of_lt hs
  have hne2 : ¬ w2.heap.size = w.heap.size := fun e => hne e.symm
  clear h hr hF hb hE he hrb hfb hw3 r2 hfb2 hF2 hs r3
  go_upto_region 2 with (fail)
  rw [← HW.out]
  go_wp2_with (first | (go_at_call 67; refine (leafOrder_any _ (by omega) (by omega) _).mono ?_; rintro e w' ⟨rfl, rfl⟩) | (go_at_call 52; refine (even_any _ (by omega) (by omega) _).mono ?_; rw [HV.out]; rintro e w' ⟨rfl, rfl⟩))
  all_goals
    go_quiet (fail)
    go_wp2_with fail
    exact bodyPost_ret (v := .tuple #[.agg #[.int .i64 f, .bool true, .bool wr, .bool true, .bool false, .bool u, .bool d], .int .i64 3]) (by simp [results, Try.results66, go_sem, *]) rfl ⟨rfl, below_7 (drewN_below B2.out _) (Nat.le_refl _)⟩
set_option maxHeartbeats 800000 in
theorem ask_huge_odd2 (h : RamAt w a b T n ws) (hr : w.cell? ⟨rb, 0, none⟩ = some (.pointer (some ⟨a, 0, none⟩))) (hF : w.cell? ⟨fb, 0, none⟩ = some (.int .i64 ((n : Int) / 8))) (hrb : rb < w.heap.size) (hfb : fb < w.heap.size) (wr u d : Bool) (t i f : Int) (hE : unE (wd ws t i) = .agg #[.int .i64 f, .bool true, .bool wr, .bool true, .bool false, .bool u, .bool d]) (he : wdE n (wd ws t i) t i = 0) (f0 : 0 ≤ f) (f1 : f < 1048576) (hv : evB f 6 = false) :
    Calls Try.prog 66 #[.int .i64 t, .int .i64 i, .int .i64 2, .pointer (some ⟨rb, 0, none⟩), .pointer (some ⟨fb, 0, none⟩)] w fun e w' => e = .returned (.tuple #[.agg #[.int .i64 f, .bool true, .bool wr, .bool true, .bool false, .bool u, .bool d], .int .i64 0]) ∧ Below w.heap.size w w' := by
  have hn := h.hi
  have HV : Hid (evB f 6 = false) := hv
  go_enter Try.func66, Try.ntmps66
  go_wp2_with fail
  refine (word_any (h.alloc _) t i).mono ?_
  rw [hE, he]
  rintro e w2 ⟨rfl, hb⟩
  have hs : w.heap.size < w2.heap.size := by have := hb.size; simp at this; omega
  have hfb2 : fb < w2.heap.size := by omega
  have hF2 : w2.cell? ⟨fb, 0, none⟩ = some (.int .i64 ((n : Int) / 8)) := by rw [(bcell hb).1 _ _ (by simp; omega)]; simp [go_sem, hF, hfb]
  have r2 := (Row.new w 28 [.int .i64 0, .bool false, .bool false, .bool false, .bool false, .bool false, .bool false]).below hb (by simp)
  have B2 : Hid (Below w.heap.size w (w2.alloc (.cells #[.int .i64 f, .bool true, .bool wr, .bool true, .bool false, .bool u, .bool d] 28))) := (((Below.refl _ _).alloc (Nat.le_refl _) _).trans (hb.mono (by simp))).alloc (Nat.le_of_lt hs) _
  obtain ⟨w3, hw3⟩ : ∃ w3, w3 = w2.alloc (.cells #[.int .i64 f, .bool true, .bool wr, .bool true, .bool false, .bool u, .bool d] 28) := ⟨_, rfl⟩
  have HW := Lib.hid hw3
  rw [← hw3] at B2
  have r3 : Row w3 w.heap.size 28 [.int .i64 0, .bool false, .bool false, .bool false, .bool false, .bool false, .bool false] := hw3 ▸ r2.alloc _
  have e3 : Row w3 w2.heap.size 28 [.int .i64 f, .bool true, .bool wr, .bool true, .bool false, .bool u, .bool d] := hw3 ▸ Row.new w2 _ _
  have hF3 : w3.cell? ⟨fb, 0, none⟩ = some (.int .i64 ((n : Int) / 8)) := by rw [hw3]; simp [go_sem, hF2, hfb2]
  obtain ⟨⟨c0, c1, c2, c3, c4, c5, c6⟩, hf⟩ := r3.seven
  obtain ⟨⟨e0, e1, e2, e3, e4, e5, e6⟩, -⟩ := e3.seven
  have hne : ¬ w.heap.size = w2.heap.size := Nat.ne_of_lt hs
  have hne2 : ¬ w2.heap.size = w.heap.size := fun e => hne e.symm
  clear h hr hF hb hE he hrb hfb hw3 r2 hfb2 hF2 hs r3
  go_upto_region 2 with (fail)
  rw [← HW.out]
  go_wp2_with (first | (go_at_call 67; refine (leafOrder_any _ (by omega) (by omega) _).mono ?_; rintro e w' ⟨rfl, rfl⟩) | (go_at_call 52; refine (even_any _ (by omega) (by omega) _).mono ?_; rw [HV.out]; rintro e w' ⟨rfl, rfl⟩))
  all_goals
    exact bodyPost_ret (v := .tuple #[.agg #[.int .i64 f, .bool true, .bool wr, .bool true, .bool false, .bool u, .bool d], .int .i64 0]) (by simp [results, Try.results66, go_sem, *]) rfl ⟨rfl, below_7 B2.out (Nat.le_refl _)⟩
set_option maxHeartbeats 800000 in
theorem ask_huge_far2 (h : RamAt w a b T n ws) (hr : w.cell? ⟨rb, 0, none⟩ = some (.pointer (some ⟨a, 0, none⟩))) (hF : w.cell? ⟨fb, 0, none⟩ = some (.int .i64 ((n : Int) / 8))) (hrb : rb < w.heap.size) (hfb : fb < w.heap.size) (wr u d : Bool) (t i f : Int) (hE : unE (wd ws t i) = .agg #[.int .i64 f, .bool true, .bool wr, .bool true, .bool false, .bool u, .bool d]) (he : wdE n (wd ws t i) t i = 0) (f0 : 0 ≤ f) (f1 : f < 1048576) (hv : evB f 6 = true) (hb : (n : Int) / 8 - 64 < f) :
    Calls Try.prog 66 #[.int .i64 t, .int .i64 i, .int .i64 2, .pointer (some ⟨rb, 0, none⟩), .pointer (some ⟨fb, 0, none⟩)] w fun e w' => e = .returned (.tuple #[.agg #[.int .i64 f, .bool true, .bool wr, .bool true, .bool false, .bool u, .bool d], .int .i64 0]) ∧ Below w.heap.size w w' := by
  have hn := h.hi
  have HV : Hid (evB f 6 = true) := hv
  go_enter Try.func66, Try.ntmps66
  go_wp2_with fail
  refine (word_any (h.alloc _) t i).mono ?_
  rw [hE, he]
  rintro e w2 ⟨rfl, hb⟩
  have hs : w.heap.size < w2.heap.size := by have := hb.size; simp at this; omega
  have hfb2 : fb < w2.heap.size := by omega
  have hF2 : w2.cell? ⟨fb, 0, none⟩ = some (.int .i64 ((n : Int) / 8)) := by rw [(bcell hb).1 _ _ (by simp; omega)]; simp [go_sem, hF, hfb]
  have r2 := (Row.new w 28 [.int .i64 0, .bool false, .bool false, .bool false, .bool false, .bool false, .bool false]).below hb (by simp)
  have B2 : Hid (Below w.heap.size w (w2.alloc (.cells #[.int .i64 f, .bool true, .bool wr, .bool true, .bool false, .bool u, .bool d] 28))) := (((Below.refl _ _).alloc (Nat.le_refl _) _).trans (hb.mono (by simp))).alloc (Nat.le_of_lt hs) _
  obtain ⟨w3, hw3⟩ : ∃ w3, w3 = w2.alloc (.cells #[.int .i64 f, .bool true, .bool wr, .bool true, .bool false, .bool u, .bool d] 28) := ⟨_, rfl⟩
  have HW := Lib.hid hw3
  rw [← hw3] at B2
  have r3 : Row w3 w.heap.size 28 [.int .i64 0, .bool false, .bool false, .bool false, .bool false, .bool false, .bool false] := hw3 ▸ r2.alloc _
  have e3 : Row w3 w2.heap.size 28 [.int .i64 f, .bool true, .bool wr, .bool true, .bool false, .bool u, .bool d] := hw3 ▸ Row.new w2 _ _
  have hF3 : w3.cell? ⟨fb, 0, none⟩ = some (.int .i64 ((n : Int) / 8)) := by rw [hw3]; simp [go_sem, hF2, hfb2]
  obtain ⟨⟨c0, c1, c2, c3, c4, c5, c6⟩, hf⟩ := r3.seven
  obtain ⟨⟨e0, e1, e2, e3, e4, e5, e6⟩, -⟩ := e3.seven
  have hne : ¬ w.heap.size = w2.heap.size := Nat.ne_of_lt hs
  have hne2 : ¬ w2.heap.size = w.heap.size := fun e => hne e.symm
  clear h hr hF hb hE he hrb hfb hw3 r2 hfb2 hF2 hs r3
  go_upto_region 2 with (fail)
  rw [← HW.out]
  go_wp2_with (first | (go_at_call 67; refine (leafOrder_any _ (by omega) (by omega) _).mono ?_; rintro e w' ⟨rfl, rfl⟩) | (go_at_call 52; refine (even_any _ (by omega) (by omega) _).mono ?_; rw [HV.out]; rintro e w' ⟨rfl, rfl⟩))
  all_goals
    go_quiet (fail)
    go_wp2_with fail
    exact bodyPost_ret (v := .tuple #[.agg #[.int .i64 f, .bool true, .bool wr, .bool true, .bool false, .bool u, .bool d], .int .i64 0]) (by simp [results, Try.results66, go_sem, *]) rfl ⟨rfl, below_7 (drewN_below B2.out _) (Nat.le_refl _)⟩
set_option maxHeartbeats 800000 in
theorem ask_huge_leaf2 (h : RamAt w a b T n ws) (hr : w.cell? ⟨rb, 0, none⟩ = some (.pointer (some ⟨a, 0, none⟩))) (hF : w.cell? ⟨fb, 0, none⟩ = some (.int .i64 ((n : Int) / 8))) (hrb : rb < w.heap.size) (hfb : fb < w.heap.size) (wr u d : Bool) (t i f : Int) (hE : unE (wd ws t i) = .agg #[.int .i64 f, .bool true, .bool wr, .bool true, .bool false, .bool u, .bool d]) (he : wdE n (wd ws t i) t i = 0) (f0 : 0 ≤ f) (f1 : f < 1048576) (hv : evB f 6 = true) (hb : f ≤ (n : Int) / 8 - 64) :
    Calls Try.prog 66 #[.int .i64 t, .int .i64 i, .int .i64 2, .pointer (some ⟨rb, 0, none⟩), .pointer (some ⟨fb, 0, none⟩)] w fun e w' => e = .returned (.tuple #[.agg #[.int .i64 f, .bool true, .bool wr, .bool true, .bool false, .bool u, .bool d], .int .i64 3]) ∧ Below w.heap.size w w' := by
  have hn := h.hi
  have HV : Hid (evB f 6 = true) := hv
  go_enter Try.func66, Try.ntmps66
  go_wp2_with fail
  refine (word_any (h.alloc _) t i).mono ?_
  rw [hE, he]
  rintro e w2 ⟨rfl, hb⟩
  have hs : w.heap.size < w2.heap.size := by have := hb.size; simp at this; omega
  have hfb2 : fb < w2.heap.size := by omega
  have hF2 : w2.cell? ⟨fb, 0, none⟩ = some (.int .i64 ((n : Int) / 8)) := by rw [(bcell hb).1 _ _ (by simp; omega)]; simp [go_sem, hF, hfb]
  have r2 := (Row.new w 28 [.int .i64 0, .bool false, .bool false, .bool false, .bool false, .bool false, .bool false]).below hb (by simp)
  have B2 : Hid (Below w.heap.size w (w2.alloc (.cells #[.int .i64 f, .bool true, .bool wr, .bool true, .bool false, .bool u, .bool d] 28))) := (((Below.refl _ _).alloc (Nat.le_refl _) _).trans (hb.mono (by simp))).alloc (Nat.le_of_lt hs) _
  obtain ⟨w3, hw3⟩ : ∃ w3, w3 = w2.alloc (.cells #[.int .i64 f, .bool true, .bool wr, .bool true, .bool false, .bool u, .bool d] 28) := ⟨_, rfl⟩
  have HW := Lib.hid hw3
  rw [← hw3] at B2
  have r3 : Row w3 w.heap.size 28 [.int .i64 0, .bool false, .bool false, .bool false, .bool false, .bool false, .bool false] := hw3 ▸ r2.alloc _
  have e3 : Row w3 w2.heap.size 28 [.int .i64 f, .bool true, .bool wr, .bool true, .bool false, .bool u, .bool d] := hw3 ▸ Row.new w2 _ _
  have hF3 : w3.cell? ⟨fb, 0, none⟩ = some (.int .i64 ((n : Int) / 8)) := by rw [hw3]; simp [go_sem, hF2, hfb2]
  obtain ⟨⟨c0, c1, c2, c3, c4, c5, c6⟩, hf⟩ := r3.seven
  obtain ⟨⟨e0, e1, e2, e3, e4, e5, e6⟩, -⟩ := e3.seven
  have hne : ¬ w.heap.size = w2.heap.size := Nat.ne_of_lt hs
  have hne2 : ¬ w2.heap.size = w.heap.size := fun e => hne e.symm
  clear h hr hF hb hE he hrb hfb hw3 r2 hfb2 hF2 hs r3
  go_upto_region 2 with (fail)
  rw [← HW.out]
  go_wp2_with (first | (go_at_call 67; refine (leafOrder_any _ (by omega) (by omega) _).mono ?_; rintro e w' ⟨rfl, rfl⟩) | (go_at_call 52; refine (even_any _ (by omega) (by omega) _).mono ?_; rw [HV.out]; rintro e w' ⟨rfl, rfl⟩))
  all_goals
    go_quiet (fail)
    go_wp2_with fail
    exact bodyPost_ret (v := .tuple #[.agg #[.int .i64 f, .bool true, .bool wr, .bool true, .bool false, .bool u, .bool d], .int .i64 3]) (by simp [results, Try.results66, go_sem, *]) rfl ⟨rfl, below_7 (drewN_below B2.out _) (Nat.le_refl _)⟩
end
end Go.Proofs.Ytpcpcgbejinlmaa
/- The contracts of a walk's look at one entry, whatever it is; of the function that is made for a walk, and of the leaf as it is for one page. -/
namespace Go.Proofs.Ytpcpcgbejinlmaa
open Go.RowKit
section
variable {w : World} {a b n : Nat} {T : TypeId} {ws : List Int} {rb fb : Nat}
theorem ask_any (h : RamAt w a b T n ws) (hr : w.cell? ⟨rb, 0, none⟩ = some (.pointer (some ⟨a, 0, none⟩))) (hF : w.cell? ⟨fb, 0, none⟩ = some (.int .i64 ((n : Int) / 8))) (hrb : rb < w.heap.size) (hfb : fb < w.heap.size) (t i l : Int) (hi : inT n t i = true) (h0 : 0 ≤ l) (h3 : l ≤ 3) :
    Calls Try.prog 66 #[.int .i64 t, .int .i64 i, .int .i64 l, .pointer (some ⟨rb, 0, none⟩), .pointer (some ⟨fb, 0, none⟩)] w fun e w' => e = .returned (.tuple #[unE (wd ws t i), .int .i64 (say ((n : Int) / 8) l (wd ws t i))]) ∧ Below w.heap.size w w' := by
  obtain ⟨x, hx⟩ : ∃ x, wd ws t i = x := ⟨_, rfl⟩
  have he0 : unOK x = true → wdE n (wd ws t i) t i = 0 := fun ho => by simp [wdE, hi, hx, unErr, ho]
  have hfr := un_frame x
  rw [hx]
  by_cases ho : unOK x = true
  · have he := he0 ho
    rcases kinds ho with ⟨k0, k1, k2, k3, k4, k5, k6⟩ | ⟨hp, hk⟩ | ⟨hp, hk, hh, hw⟩
    · have hE : unE x = .agg #[.int .i64 0, .bool false, .bool false, .bool false, .bool false, .bool false, .bool false] := by simp [unE, k0, k1, k2, k3, k4, k5, k6]
      have hs : say ((n : Int) / 8) l x = 1 := by simp [say, sayB, ho, k0, k1, k2, k3, k4, k5, k6, noB]
      rw [hE, hs]
      exact ask_none h hr hF hrb hfb t i l (by rw [hx]; exact hE) he
    · have hno : noB (unF x) (unB x 0) (unB x 1) (unB x 7) (unB x 9) (unB x 5) (unB x 6) = false := by simp [noB, hp]
      cases hh : unB x 7
      · have hE : unE x = .agg #[.int .i64 (unF x), .bool true, .bool (unB x 1), .bool false, .bool false, .bool (unB x 5), .bool (unB x 6)] := by simp [unE, hp, hk, hh]
        rw [hE]
        by_cases hb : (n : Int) / 8 - 1 < unF x
        · have hs : say ((n : Int) / 8) l x = 0 := by
            unfold say sayB; rw [hno]; simp [ho, hk, hh, od, ev0, hb]
          rw [hs]
          exact ask_far h hr hF hrb hfb _ _ _ t i l _ (by rw [hx]; exact hE) he hfr.1 hfr.2 hb
        · by_cases hl : l = 0
          · subst hl
            have hs : say ((n : Int) / 8) 0 x = 3 := by
              unfold say sayB; rw [hno]; simp [ho, hh, od, ev0, hb]
            rw [hs]
            exact ask_leaf h hr hF hrb hfb _ _ _ t i _ (by rw [hx]; exact hE) he hfr.1 hfr.2 (by omega)
          · have hs : say ((n : Int) / 8) l x = 2 := by
              unfold say sayB; rw [hno]; simp [ho, hk, hh, od, ev0, hb, hl]
            rw [hs]
            exact ask_further h hr hF hrb hfb _ _ _ t i l _ (by rw [hx]; exact hE) he hfr.1 hfr.2 (by omega) (by simp [hl])
      · have hE : unE x = .agg #[.int .i64 (unF x), .bool true, .bool (unB x 1), .bool true, .bool false, .bool (unB x 5), .bool (unB x 6)] := by simp [unE, hp, hk, hh]
        rw [hE]
        have hl : l = 0 ∨ l = 1 ∨ l = 2 ∨ l = 3 := by omega
        rcases hl with rfl | rfl | rfl | rfl
        · have hs : say ((n : Int) / 8) 0 x = 0 := by unfold say sayB; simp [hh]
          rw [hs]
          exact ask_huge_low h hr hF hrb hfb _ _ _ t i _ (by rw [hx]; exact hE) he
        · cases hv : evB (unF x) 3
          · have hs : say ((n : Int) / 8) 1 x = 0 := by unfold say sayB; rw [hno]; simp [hk, hh, od, hv]
            rw [hs]
            exact ask_huge_odd1 h hr hF hrb hfb _ _ _ t i _ (by rw [hx]; exact hE) he hfr.1 hfr.2 hv
          · by_cases hb : (n : Int) / 8 - 8 < unF x
            · have hs : say ((n : Int) / 8) 1 x = 0 := by unfold say sayB; rw [hno]; simp [hk, hh, od, hv, hb]
              rw [hs]
              exact ask_huge_far1 h hr hF hrb hfb _ _ _ t i _ (by rw [hx]; exact hE) he hfr.1 hfr.2 hv hb
            · have hs : say ((n : Int) / 8) 1 x = 3 := by unfold say sayB; rw [hno]; simp [ho, hk, hh, od, hv, hb]
              rw [hs]
              exact ask_huge_leaf1 h hr hF hrb hfb _ _ _ t i _ (by rw [hx]; exact hE) he hfr.1 hfr.2 hv (by omega)
        · cases hv : evB (unF x) 6
          · have hs : say ((n : Int) / 8) 2 x = 0 := by unfold say sayB; rw [hno]; simp [hk, hh, od, hv]
            rw [hs]
            exact ask_huge_odd2 h hr hF hrb hfb _ _ _ t i _ (by rw [hx]; exact hE) he hfr.1 hfr.2 hv
          · by_cases hb : (n : Int) / 8 - 64 < unF x
            · have hs : say ((n : Int) / 8) 2 x = 0 := by unfold say sayB; rw [hno]; simp [hk, hh, od, hv, hb]
              rw [hs]
              exact ask_huge_far2 h hr hF hrb hfb _ _ _ t i _ (by rw [hx]; exact hE) he hfr.1 hfr.2 hv hb
            · have hs : say ((n : Int) / 8) 2 x = 3 := by unfold say sayB; rw [hno]; simp [ho, hk, hh, od, hv, hb]
              rw [hs]
              exact ask_huge_leaf2 h hr hF hrb hfb _ _ _ t i _ (by rw [hx]; exact hE) he hfr.1 hfr.2 hv (by omega)
        · have hs : say ((n : Int) / 8) 3 x = 0 := by unfold say sayB; simp [hh]
          rw [hs]
          exact ask_huge_top h hr hF hrb hfb _ _ _ t i _ (by rw [hx]; exact hE) he
    · have hno : noB (unF x) (unB x 0) (unB x 1) (unB x 7) (unB x 9) (unB x 5) (unB x 6) = false := by simp [noB, hk]
      have hE : unE x = .agg #[.int .i64 (unF x), .bool false, .bool false, .bool false, .bool true, .bool (unB x 5), .bool (unB x 6)] := by simp [unE, hp, hk, hh, hw]
      rw [hE]
      by_cases hl : l = 0
      · subst hl
        by_cases hb : (n : Int) / 8 - 1 < unF x
        · have hs : say ((n : Int) / 8) 0 x = 0 := by
            unfold say sayB; rw [hno]; simp [hh, od, ev0, hb]
          rw [hs]
          exact ask_held_far h hr hF hrb hfb _ _ t i _ (by rw [hx]; exact hE) he hfr.1 hfr.2 hb
        · have hs : say ((n : Int) / 8) 0 x = 3 := by
            unfold say sayB; rw [hno]; simp [ho, hh, od, ev0, hb]
          rw [hs]
          exact ask_held_leaf h hr hF hrb hfb _ _ t i _ (by rw [hx]; exact hE) he hfr.1 hfr.2 (by omega)
      · have hl' : 0 < l := by omega
        have hs : say ((n : Int) / 8) l x = 0 := by unfold say sayB; simp [hk, hl']
        rw [hs]
        exact ask_held_up h hr hF hrb hfb _ _ t i l _ (by rw [hx]; exact hE) he hl'
  · simp only [Bool.not_eq_true] at ho
    have hs : say ((n : Int) / 8) l x = 0 := by simp [say, sayB, ho]
    rw [unE_bad ho, hs]
    unfold agg0
    exact ask_bad h hr hF hrb hfb t i l 5 (by rw [hx, unE_bad ho]; rfl) (by simp [wdE, hi, hx, unErr, ho]) rfl
theorem wasker_any (h : RamAt w a b T n ws) : Calls Try.prog 45 #[.pointer (some ⟨a, 0, none⟩)] w fun e w' => ∃ rb fb, e = .returned (.func (.func 66) #[] #[.pointer (some ⟨rb, 0, none⟩), .pointer (some ⟨fb, 0, none⟩)]) ∧
    w'.cell? ⟨rb, 0, none⟩ = some (.pointer (some ⟨a, 0, none⟩)) ∧ w'.cell? ⟨fb, 0, none⟩ = some (.int .i64 ((n : Int) / 8)) ∧ (w.heap.size ≤ rb ∧ rb < w'.heap.size) ∧ (w.heap.size ≤ fb ∧ fb < w'.heap.size) ∧ Below w.heap.size w w' := by
  have hn := h.hi
  go_enter Try.func45, Try.ntmps45
  go_wp2_with (go_at_call 65; first | (refine (frames_any (h.alloc _)).mono ?_; rintro e w' ⟨rfl, rfl⟩) | (refine (frames_any ((h.alloc _).alloc _)).mono ?_; rintro e w' ⟨rfl, rfl⟩))
  go_ret
  refine ⟨_, _, rfl, ?_, ?_, ?_, ?_, ((Below.refl _ _).alloc (Nat.le_refl _) _).alloc (by simp) _⟩
  · simp [go_sem]
  · simp [go_sem]
  · constructor
    · omega
    · simp; omega
  · constructor
    · simp
    · simp
end
theorem reached_any (f : Int) (p wr hu k u d : Bool) (v : Nat) (hv : v ≤ 2) (q : Int) (h0 : 0 ≤ q) (h1 : q ≤ 4095) (f0 : 0 ≤ f) (f1 : f < 1048576) (w : World) :
    Calls Try.prog 46 #[.agg #[.int .i64 f, .bool p, .bool wr, .bool hu, .bool k, .bool u, .bool d], .int .i64 v, .int .i64 q] w fun e w' =>
      e = .returned (.agg #[.int .i64 f, .bool p, .bool wr, .bool hu, .bool k, .bool u, .bool d, .int .i64 v, .int .i64 (f + q % 8 ^ v)]) ∧ Below w.heap.size w w' := by
  have hd : dnI q ((v : Int) * 3) = q - q % 8 ^ v := by
    have : v = 0 ∨ v = 1 ∨ v = 2 := by omega
    rcases this with rfl | rfl | rfl <;> simp [dnI, ordB]
  have hm : 0 ≤ q % 8 ^ v ∧ q % 8 ^ v ≤ q := by
    have : v = 0 ∨ v = 1 ∨ v = 2 := by omega
    rcases this with rfl | rfl | rfl <;> simp <;> omega
  obtain ⟨m, hm'⟩ : ∃ m, m = q % 8 ^ v := ⟨_, rfl⟩
  rw [← hm'] at hd hm ⊢
  have HD := Lib.hid hd
  obtain ⟨m0, m1⟩ := hm
  have hl : (v : Int) ≤ 3 := by omega
  clear hd hm'
  go_enter Try.func46, Try.ntmps46
  go_wp2_with (first | (go_at_call 67; refine (leafOrder_any _ (by omega) (by omega) _).mono ?_; rintro e w' ⟨rfl, rfl⟩) | (go_at_call 29; refine (down_any _ (by omega) (by omega) _).mono ?_; rw [HD.out]; rintro e w' ⟨rfl, rfl⟩))
  exact bodyPost_ret (v := .agg #[.int .i64 f, .bool p, .bool wr, .bool hu, .bool k, .bool u, .bool d, .int .i64 v, .int .i64 (f + (q - (q - m)))]) (by simp [results, Try.results46, go_sem]) rfl ⟨by rw [show f + (q - (q - m)) = f + m by omega], ((Below.refl _ _).alloc (Nat.le_refl _) _).alloc (by simp) _⟩
theorem reached_at (f : Int) (p wr hu k u d : Bool) (l : Int) (v : Nat) (hl : l = v) (hv : v ≤ 2) (q : Int) (h0 : 0 ≤ q) (h1 : q ≤ 4095) (f0 : 0 ≤ f) (f1 : f < 1048576) (w : World) :
    Calls Try.prog 46 #[.agg #[.int .i64 f, .bool p, .bool wr, .bool hu, .bool k, .bool u, .bool d], .int .i64 l, .int .i64 q] w fun e w' =>
      e = .returned (.agg #[.int .i64 f, .bool p, .bool wr, .bool hu, .bool k, .bool u, .bool d, .int .i64 l, .int .i64 (f + q % 8 ^ v)]) ∧ Below w.heap.size w w' := by
  subst hl
  exact reached_any f p wr hu k u d v hv q h0 h1 f0 f1 w
end Go.Proofs.Ytpcpcgbejinlmaa
