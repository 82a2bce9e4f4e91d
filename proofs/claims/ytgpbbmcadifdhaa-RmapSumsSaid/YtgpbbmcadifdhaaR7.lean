/- Count, Spots, New; the calls of a nil one. -/
import Derived.Test.YtgpbbmcadifdhaaR6
namespace Go.Proofs.Ytgpbbmcadifdhaa
open Go.RowKit

theorem count_nil (f : Int) (w : World) : Calls Try.prog 13 #[.pointer none, .int .i64 f] w fun e w' => e = .returned (.int .i64 0) ∧ w = w' := by
  go_enter Try.func13, Try.ntmps13
  go_wp2
  go_ret
  exact ⟨rfl, rfl⟩
theorem spots_nil (f : Int) (w : World) : Calls Try.prog 14 #[.pointer none, .int .i64 f] w fun e w' => e = .returned (.slice none 0 0) ∧ w = w' := by
  go_enter Try.func14, Try.ntmps14
  go_wp2
  go_ret
  exact ⟨rfl, rfl⟩
theorem frames_nil (w : World) : Calls Try.prog 12 #[.pointer none] w fun e w' => e = .returned (.slice none 0 0) ∧ w = w' := by
  go_enter Try.func12, Try.ntmps12
  go_wp2
  go_ret
  exact ⟨rfl, rfl⟩
theorem add_nil (f x y : Int) (w : World) : Calls Try.prog 9 #[.pointer none, .int .i64 f, .agg #[.int .i64 x, .int .i64 y]] w fun e w' => e = .returned (.int .i64 1) ∧ Below w.heap.size w w' := by
  go_enter Try.func9, Try.ntmps9
  go_wp2
  go_ret
  exact ⟨rfl, below_new _ _⟩
theorem del_nil (f x y : Int) (w : World) : Calls Try.prog 10 #[.pointer none, .int .i64 f, .agg #[.int .i64 x, .int .i64 y]] w fun e w' => e = .returned (.int .i64 1) ∧ Below w.heap.size w w' := by
  go_enter Try.func10, Try.ntmps10
  go_wp2
  go_ret
  exact ⟨rfl, below_new _ _⟩
theorem move_nil (f g : Int) (w : World) : Calls Try.prog 11 #[.pointer none, .int .i64 f, .int .i64 g] w fun e w' => e = .returned (.int .i64 1) ∧ w = w' := by
  go_enter Try.func11, Try.ntmps11
  go_wp2
  go_ret
  exact ⟨rfl, rfl⟩
section
variable {B : Nat} {w : World} {T : Rm} {L : List On}
theorem count_any (h : RmIs B w T L) {f : Int} (hf : Fits f) : Calls Try.prog 13 #[.pointer (some ⟨T.s, 0, none⟩), .int .i64 f] w fun e w' => e = .returned (.int .i64 (sps L f).length) ∧ w = w' := by
  have h0 := h.c0
  have h1 := h.look hf
  obtain ⟨A, c, hv⟩ : ∃ A c, T.row f = .slice A (sps L f).length c := own_form (h.row f hf)
  rw [hv] at h1
  clear h hv
  go_enter Try.func13, Try.ntmps13
  go_wp2
  go_ret
  exact ⟨rfl, rfl⟩
/-- Spots are told. -/
def Told (l : List It) (w : World) (e : Ending) (w' : World) : Prop := ∃ A c, e = .returned (.slice A l.length c) ∧ Sp w.heap.size w' (.slice A l.length c) l ∧ Below w.heap.size w w'
theorem spots_any (h : RmIs B w T L) (hL : L.length ≤ 200) {f : Int} (hf : Fits f) : Calls Try.prog 14 #[.pointer (some ⟨T.s, 0, none⟩), .int .i64 f] w (Told (sps L f) w) := by
  have h0 := h.c0
  have h1 := h.look hf
  obtain ⟨A, c, hv⟩ : ∃ A c, T.row f = .slice A (sps L f).length c := own_form (h.row f hf)
  have h2 := h.row f hf
  rw [hv] at h1 h2
  have hc := clone_any h2 (by have := sps_len L f; omega)
  clear h hv h2
  go_enter Try.func14, Try.ntmps14
  go_wp2_with (go_at_call 29; refine hc.mono ?_; rintro e w1 ⟨A1, c1, rfl, hs1, hb1⟩)
  go_ret
  exact ⟨A1, c1, rfl, hs1, hb1⟩
end
/-- A new one. -/
def Newed (w : World) (e : Ending) (w' : World) : Prop := ∃ T : Rm, e = .returned (.pointer (some ⟨T.s, 0, none⟩)) ∧ RmIs w.heap.size w' T [] ∧ Below w.heap.size w w'
theorem newed (w : World) : Newed w (.returned (.pointer (some ⟨w.heap.size + 1, 0, none⟩))) ((w.alloc (.map #[] 0)).alloc (.cells #[.map (some w.heap.size)] 51)) := by
  have hm : MapV ((w.alloc (.map #[] 0)).alloc (.cells #[.map (some w.heap.size)] 51)) w.heap.size 0 (fun _ => none) := (MapV.new w).heap ((below_new (w.alloc (.map #[] 0)) _).block _ (by simp))
  have ht : Lrow ((w.alloc (.map #[] 0)).alloc (.cells #[.map (some w.heap.size)] 51)) (w.heap.size + 1) 51 [.map (some w.heap.size)] := by
    have := Lrow.new (w.alloc (.map #[] 0)) 51 [.map (some w.heap.size)]
    simpa using this
  exact ⟨⟨w.heap.size + 1, w.heap.size, fun _ => none⟩, rfl, ⟨ht, hm, Good.nil, fun f _ => ⟨rfl, Or.inl ⟨rfl, rfl⟩⟩, fun f _ => by simp [sps], fun _ _ => rfl, fun f g u v k e => (by cases e), Nat.le_succ _, Nat.le_refl _⟩, ((Below.refl _ _).alloc (Nat.le_refl _) _).alloc (by simp) _⟩
theorem new_any (w : World) : Calls Try.prog 7 #[] w (Newed w) := by
  have hmm := @run_makeMap Try.prog
  have H := newed w
  go_enter Try.func7, Try.ntmps7
  go_wp2
  go_ret
  exact H
end Go.Proofs.Ytgpbbmcadifdhaa
