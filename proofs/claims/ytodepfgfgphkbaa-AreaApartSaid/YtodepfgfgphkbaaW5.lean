/- Areas: what an area has of a stretch (part). -/
import Derived.Test.YtodepfgfgphkbaaW4
namespace Go.Proofs.Ytodepfgfgphkbaa
open Go.RowKit
theorem max_run {P : Program} (a b : Int) (ats : Array TypeId) (ty : TypeId) (w : World) : (Builtin.max_ ats ty #[.int .i64 a, .int .i64 b]).run P w = .ok (.int .i64 (max a b)) w := by
  show Sem.run P (pure (Value.int .i64 (if b > a then b else a))) w = _
  rw [show (if b > a then b else a) = max a b by omega]; rfl
theorem min_run {P : Program} (a b : Int) (ats : Array TypeId) (ty : TypeId) (w : World) : (Builtin.min_ ats ty #[.int .i64 a, .int .i64 b]).run P w = .ok (.int .i64 (min a b)) w := by
  show Sem.run P (pure (Value.int .i64 (if b < a then b else a))) w = _
  rw [show (if b < a then b else a) = min a b by omega]; rfl
set_option maxRecDepth 100000 in
set_option maxHeartbeats 2000000 in
theorem part_is {x : Ar} (hx : ArS x) {u t : Int} (hu : 0 ≤ u) (hu4 : u ≤ 4096) (w : World) : Calls Try.prog 60 #[arV x, .int .i64 u, .int .i64 t] w fun e w' => e = .returned (arV (cutA u t x)) ∧ Below w.heap.size w w' := by
  obtain ⟨f, tt, h, p, o, z⟩ := x
  obtain ⟨b1, b2, b3, b4, b5⟩ := hx
  dsimp only at b1 b2 b3 b4 b5
  show Calls _ _ #[.agg #[.int .i64 f, .int .i64 tt, .int .i64 h, .int .i64 p, .int .i64 o, .int .i64 z], .int .i64 u, .int .i64 t] _ (fun e w' => e = .returned (.agg #[.int .i64 (max u f), .int .i64 (min t tt), .int .i64 h, .int .i64 p, .int .i64 o, .int .i64 (if shr h then z + (max u f - f) else z)]) ∧ _)
  have hmx := fun ats ty w => max_run (P := Try.prog) u f ats ty w
  have hmn := fun ats ty w => min_run (P := Try.prog) t tt ats ty w
  obtain ⟨U, hU⟩ : ∃ U, U = max u f := ⟨_, rfl⟩
  obtain ⟨T, hT⟩ : ∃ T, T = min t tt := ⟨_, rfl⟩
  rw [← hU, ← hT]
  rw [← hU] at hmx
  rw [← hT] at hmn
  have hof := fun w => ofObj_is h w
  have w1 : IntKind.i64.wrap (U - f) = U - f := IntWalk.i64_in _ (by omega)
  have w2 : IntKind.i64.wrap (z + (U - f)) = z + (U - f) := IntWalk.i64_in _ (by omega)
  clear hU hT b1 b2 b3 b4 b5 hu hu4
  by_cases hs : shr h
  · rw [if_pos hs]
    rw [decide_eq_true hs] at hof
    clear hs
    go_enter Try.func60, Try.ntmps60
    go_wp2_with fail
    go_region
    go_wp2_with (go_at_call 43; (with_reducible refine (hof _).mono ?_); rintro e w1 ⟨rfl, rfl⟩)
    refine bodyPost_ret (v := .agg #[.int .i64 U, .int .i64 T, .int .i64 h, .int .i64 p, .int .i64 o, .int .i64 (z + (U - f))]) (by simp [results, Try.results60, go_sem]) rfl ⟨rfl, ?_⟩
    repeat (first | exact Below.refl _ _ | refine Below.alloc ?_ (by simp) _ | refine Below.setCell ?_ (by simp) _ | refine Below.drew ?_)
  · rw [if_neg hs]
    rw [decide_eq_false hs] at hof
    clear hs
    go_enter Try.func60, Try.ntmps60
    go_wp2_with fail
    go_region
    go_wp2_with (go_at_call 43; (with_reducible refine (hof _).mono ?_); rintro e w1 ⟨rfl, rfl⟩)
    refine bodyPost_ret (v := .agg #[.int .i64 U, .int .i64 T, .int .i64 h, .int .i64 p, .int .i64 o, .int .i64 z]) (by simp [results, Try.results60, go_sem]) rfl ⟨rfl, ?_⟩
    repeat (first | exact Below.refl _ _ | refine Below.alloc ?_ (by simp) _ | refine Below.setCell ?_ (by simp) _ | refine Below.drew ?_)
end Go.Proofs.Ytodepfgfgphkbaa
