/- The program's spaces: their calls as one structure. -/
import Derived.Test.YtnppnoabhpkmkaaMg24
import Derived.Test.YtnppnoabhpkmkaaMg47
namespace Go.Proofs.Ytnppnoabhpkmkaa
open Go.RowKit
def theFo (B : Nat) (w : World) (s : Nat) (X : Nat → Prop) (F : Fl) : Prop := ∃ T : PfT, T.s = s ∧ X = MineP T ∧ PfAt B w T F
/-- Rows of other types are none of the spaces'. -/
theorem PfAt.ty {B : Nat} {w : World} {T : PfT} {F : Fl} (h : PfAt B w T F) {k : Nat} (hk : MineP T k) {t : TypeId} {vs : List Value} (r : Lrow w k t vs) : t ∈ FlatX := by
  have one : ∀ {t' : TypeId} {us : List Value}, Lrow w k t' us → t' ∈ FlatX → t ∈ FlatX := fun {t'} us r' ht => by
    by_cases e : t = t'
    · rw [e]; exact ht
    · exact absurd rfl (r.apart r' e)
  rcases hk with rfl | e | ⟨i, a, hi, hk⟩ | hk
  · exact one h.top (by decide)
  · obtain ⟨us, r2, _⟩ := h.ls.block e
    exact one r2 (by decide)
  · have hp := (h.sps i a hi).2
    rcases hk with rfl | rfl | rfl | rfl
    · exact one hp.top (by decide)
    · exact one hp.ars.top (by decide)
    · exact absurd rfl (hp.own.apart r)
    · exact absurd rfl (hp.obj.apart r)
  · obtain ⟨i, hi, rfl⟩ := List.getElem_of_mem hk
    exact absurd rfl ((h.obs i hi).1.apart r)
theorem word_all {B : Nat} {w : World} {T : PfT} {F : Fl} (h : PfAt B w T F) (ok : FlOk F) (hL : F.O.length ≤ 1000) (i : Int) {a : Int} (ha : Fits a) :
    Calls Try.prog 4 #[.pointer (some ⟨T.s, 0, none⟩), .int .i64 i, .int .i64 a] w fun e w' => e = .returned (.tuple #[.int .u64 (wdV F i a), .int .i64 (wdE F i a)]) ∧ Below w.heap.size w w' := by
  unfold wdV wdE
  cases hI : isS F i with
  | false =>
    rw [if_neg (by simp), if_neg (by simp)]
    exact word_no h hI a
  | true =>
    obtain ⟨j, s, rfl, hs⟩ := isS_yes h hI
    have hw := word_pr h ok hL hs ha
    rw [if_pos rfl]
    by_cases c : celE 10 4 (sp F j) a = 0
    · rw [if_pos ⟨rfl, c⟩]; rw [if_pos c] at hw; exact hw
    · rw [if_neg (fun e => c e.2)]; rw [if_neg c] at hw; exact hw
def theI : FlI where
  Fo := theFo
  keep h hs hk ha := by
    obtain ⟨T, rfl, rfl, h⟩ := h
    exact ⟨T, rfl, rfl, h.keep hs (fun k e => hk k e (h.lt k e)) ha⟩
  lo h k e := by
    obtain ⟨T, rfl, rfl, h⟩ := h
    exact ⟨h.low k e, h.lt k e⟩
  lw h := by
    obtain ⟨T, rfl, rfl, h⟩ := h
    exact h.lw
  ty h k e t vs r := by
    obtain ⟨T, rfl, rfl, h⟩ := h
    exact h.ty e r
  new w := (new_f w).mono fun e w' k => by
    obtain ⟨T, e1, k1, k2, _⟩ := k
    exact ⟨T.s, MineP T, e1, ⟨T, rfl, rfl, k1⟩, k2⟩
  do_ h ok hL r hr := by
    obtain ⟨T, rfl, rfl, h⟩ := h
    obtain ⟨k, i, a, n, hw, p, t, c, v⟩ := r
    obtain ⟨q1, q2, q3, q4, q5, q6, q7, q8, q9⟩ := hr
    refine (any_do h ok (by omega) k i a n hw p t c v ‹_› ‹_› ‹_›).mono fun e w' d => ⟨d.1, ?_⟩
    obtain ⟨T', d0, d1, d2, d3⟩ := d.2
    exact ⟨MineP T', ⟨T', d0, rfl, d1⟩, d2, d3⟩
  word h ok hL i a hi ha := by
    obtain ⟨T, rfl, rfl, h⟩ := h
    exact word_all h ok (by omega) i ha
  areas h ok i hi := by
    obtain ⟨T, rfl, rfl, h⟩ := h
    unfold arsF
    cases hI : isS _ i with
    | false => exact areas_no h hI
    | true =>
      obtain ⟨j, s, rfl, hs⟩ := isS_yes h hI
      exact areas_yes h hs
  spaces h ok := by
    obtain ⟨T, rfl, rfl, h⟩ := h
    exact spaces_f h
end Go.Proofs.Ytnppnoabhpkmkaa
/- The calls of nil spaces. -/
namespace Go.Proofs.Ytnppnoabhpkmkaa
open Go.RowKit
/-- What the calls of nil spaces answer. -/
structure NilI : Prop where
  do_ : ∀ (w : World) (k sp a n hw p t c v : Int), Calls Try.prog 6 #[.pointer none, .agg #[.int .i64 k, .int .i64 sp, .int .i64 a, .int .i64 n, .int .i64 hw, .int .i64 p, .int .i64 t, .int .i64 c, .int .u64 v]] w fun e w' => e = .returned (.agg #[.int .i64 1, .int .u64 0]) ∧ Below w.heap.size w w'
  word : ∀ (w : World) (i a : Int), Calls Try.prog 4 #[.pointer none, .int .i64 i, .int .i64 a] w fun e w' => e = .returned (.tuple #[.int .u64 0, .int .i64 1]) ∧ Below w.heap.size w w'
  areas : ∀ (w : World) (i : Int), Calls Try.prog 7 #[.pointer none, .int .i64 i] w fun e w' => ∃ A c, e = .returned (.slice A 0 c) ∧ Below w.heap.size w w'
  spaces : ∀ w, Calls Try.prog 8 #[.pointer none] w fun e w' => e = .returned (.int .i64 0) ∧ Below w.heap.size w w'
theorem nil_do (w : World) (k sp a n hw p t c v : Int) : Calls Try.prog 6 #[.pointer none, .agg #[.int .i64 k, .int .i64 sp, .int .i64 a, .int .i64 n, .int .i64 hw, .int .i64 p, .int .i64 t, .int .i64 c, .int .u64 v]] w fun e w' => e = .returned (.agg #[.int .i64 1, .int .u64 0]) ∧ Below w.heap.size w w' := by
  obtain ⟨W0, hW0⟩ : ∃ W0, W0 = w.alloc (.cells #[.int .i64 k, .int .i64 sp, .int .i64 a, .int .i64 n, .int .i64 hw, .int .i64 p, .int .i64 t, .int .i64 c, .int .u64 v] 24) := ⟨_, rfl⟩
  obtain ⟨bo, hbo⟩ : ∃ bo, bo = w.heap.size := ⟨_, rfl⟩
  have hb0 : Below w.heap.size w W0 := by rw [hW0]; exact below_new _ _
  obtain ⟨W1, hW1⟩ : ∃ W1, W1 = W0.alloc (.cells #[.int .i64 0, .int .u64 0] 31) := ⟨_, rfl⟩
  obtain ⟨rb, hrb⟩ : ∃ rb, rb = bo + 1 := ⟨_, rfl⟩
  have z0 : W0.heap.size = bo + 1 := by rw [hW0, World.size_alloc, hbo]
  have hb1 : Below W0.heap.size W0 W1 := by rw [hW1]; exact below_new _ _
  have hr1 : Lrow W1 rb 31 [.int .i64 0, .int .u64 0] := by rw [hW1, hrb, ← z0]; exact Lrow.new W0 _ [.int .i64 0, .int .u64 0]
  have hb01 : Below w.heap.size w W1 := hb0.trans (hb1.mono hb0.size)
  have hrbw : w.heap.size ≤ rb := by omega
  have HW0 := Lib.hid (And.intro hW0 hbo)
  have HW1 := Lib.hid (And.intro hW1 hrb)
  have HR := Lib.hid hr1
  have HB := Lib.hid hb01
  have HRB := Lib.hid hrbw
  clear hW0 hbo hb0 hW1 hrb z0 hb1 hr1 hb01 hrbw
  go_enter Try.func6, Try.ntmps6
  go_upto_region 1 with (fail)
  rw [← HW0.out.1, ← HW0.out.2, ← HW1.out.1, ← HW1.out.2]
  have x0 := HR.out.cell 0
  have x1 := HR.out.cell 1
  have f0 := HR.out.frozen 0
  have f1 := HR.out.frozen 1
  go_wp2_with fail
  have hr4 := HR.out.set_ 0 (.int .i64 1)
  have hr5 := hr4.set_ 1 (.int .u64 0)
  obtain ⟨w5, hw5⟩ : ∃ w5, w5 = ((W1.setCell ⟨rb, 0, none⟩ (.int .i64 1)).setCell ⟨rb, 1, none⟩ (.int .u64 0)) := ⟨_, rfl⟩
  have HF : Hid (Below w.heap.size w w5) := by
    show Below _ _ _
    rw [hw5]
    exact below_set (below_set HB.out HRB.out _ _) HRB.out _ _
  rw [← hw5] at hr5 ⊢
  have y0 := hr5.cell 0
  have y1 := hr5.cell 1
  exact bodyPost_ret (v := .agg #[.int .i64 1, .int .u64 0]) (by simp [results, Try.results6, go_sem, *]) rfl ⟨rfl, HF.out⟩
theorem nil_word (w : World) (i a : Int) : Calls Try.prog 4 #[.pointer none, .int .i64 i, .int .i64 a] w fun e w' => e = .returned (.tuple #[.int .u64 0, .int .i64 1]) ∧ Below w.heap.size w w' := by
  go_enter Try.func4, Try.ntmps4
  go_wp2
  go_ret2
  exact ⟨rfl, Below.refl _ _⟩
theorem nil_space (w : World) (i : Int) : Calls Try.prog 9 #[.pointer none, .int .i64 i] w fun e w' => e = .returned (.pointer none) ∧ w = w' := by
  go_enter Try.func9, Try.ntmps9
  go_wp2
  go_ret
  exact ⟨rfl, rfl⟩
theorem nil_areas (w : World) (i : Int) : Calls Try.prog 7 #[.pointer none, .int .i64 i] w fun e w' => ∃ A c, e = .returned (.slice A 0 c) ∧ Below w.heap.size w w' := by
  go_enter Try.func7, Try.ntmps7
  go_wp2_with (go_at_call 9; (with_reducible refine (nil_space _ _).mono ?_); rintro e w1 ⟨rfl, rfl⟩)
  go_ret
  exact ⟨none, 0, rfl, Below.refl _ _⟩
theorem nil_spaces (w : World) : Calls Try.prog 8 #[.pointer none] w fun e w' => e = .returned (.int .i64 0) ∧ Below w.heap.size w w' := by
  go_enter Try.func8, Try.ntmps8
  go_wp2
  go_ret
  exact ⟨rfl, Below.refl _ _⟩
theorem theN : NilI := ⟨nil_do, nil_word, nil_areas, nil_spaces⟩
end Go.Proofs.Ytnppnoabhpkmkaa
