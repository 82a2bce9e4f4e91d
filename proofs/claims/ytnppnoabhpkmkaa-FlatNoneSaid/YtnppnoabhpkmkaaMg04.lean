/- Areas: what an area has of a stretch (part). -/
import Derived.Test.YtnppnoabhpkmkaaMg03
import Derived.Test.YtnppnoabhpkmkaaMg02
import Derived.Deep.AppendLies
namespace Go.Proofs.Ytnppnoabhpkmkaa
open Go.RowKit
theorem max_run {P : Program} (a b : Int) (ats : Array TypeId) (ty : TypeId) (w : World) : (Builtin.max_ ats ty #[.int .i64 a, .int .i64 b]).run P w = .ok (.int .i64 (max a b)) w := by
  show Sem.run P (pure (Value.int .i64 (if b > a then b else a))) w = _
  rw [show (if b > a then b else a) = max a b by omega]; rfl
theorem min_run {P : Program} (a b : Int) (ats : Array TypeId) (ty : TypeId) (w : World) : (Builtin.min_ ats ty #[.int .i64 a, .int .i64 b]).run P w = .ok (.int .i64 (min a b)) w := by
  show Sem.run P (pure (Value.int .i64 (if b < a then b else a))) w = _
  rw [show (if b < a then b else a) = min a b by omega]; rfl
set_option maxRecDepth 100000 in
set_option maxHeartbeats 2000000 in
theorem part_is {x : Ar} (hx : ArS x) {u t : Int} (hu : 0 ≤ u) (hu4 : u ≤ 4096) (w : World) : Calls Try.prog 78 #[arV x, .int .i64 u, .int .i64 t] w fun e w' => e = .returned (arV (cutA u t x)) ∧ Below w.heap.size w w' := by
  obtain ⟨f, tt, h, p, o, z⟩ := x
  obtain ⟨b1, b2, b3, b4, b5⟩ := hx
  dsimp only at b1 b2 b3 b4 b5
  show Calls _ _ #[.agg #[.int .i64 f, .int .i64 tt, .int .i64 h, .int .i64 p, .int .i64 o, .int .i64 z], .int .i64 u, .int .i64 t] _ (fun e w' => e = .returned (.agg #[.int .i64 (max u f), .int .i64 (min t tt), .int .i64 h, .int .i64 p, .int .i64 o, .int .i64 (if shr h then z + (max u f - f) else z)]) ∧ _)
  have hmx := fun ats ty w => max_run (P := Try.prog) u f ats ty w
  have hmn := fun ats ty w => min_run (P := Try.prog) t tt ats ty w
  obtain ⟨U, hU⟩ : ∃ U, U = max u f := ⟨_, rfl⟩
  obtain ⟨T, hT⟩ : ∃ T, T = min t tt := ⟨_, rfl⟩
  rw [← hU, ← hT]
  rw [← hU] at hmx
  rw [← hT] at hmn
  have hof := fun w => ofObj_is h w
  have w1 : IntKind.i64.wrap (U - f) = U - f := IntWalk.i64_in _ (by omega)
  have w2 : IntKind.i64.wrap (z + (U - f)) = z + (U - f) := IntWalk.i64_in _ (by omega)
  clear hU hT b1 b2 b3 b4 b5 hu hu4
  by_cases hs : shr h
  · rw [if_pos hs]
    rw [decide_eq_true hs] at hof
    clear hs
    go_enter Try.func78, Try.ntmps78
    go_wp2_with fail
    go_region
    go_wp2_with (go_at_call 69; (with_reducible refine (hof _).mono ?_); rintro e w1 ⟨rfl, rfl⟩)
    refine bodyPost_ret (v := .agg #[.int .i64 U, .int .i64 T, .int .i64 h, .int .i64 p, .int .i64 o, .int .i64 (z + (U - f))]) (by simp [results, Try.results78, go_sem]) rfl ⟨rfl, ?_⟩
    repeat (first | exact Below.refl _ _ | refine Below.alloc ?_ (by simp) _ | refine Below.setCell ?_ (by simp) _ | refine Below.drew ?_)
  · rw [if_neg hs]
    rw [decide_eq_false hs] at hof
    clear hs
    go_enter Try.func78, Try.ntmps78
    go_wp2_with fail
    go_region
    go_wp2_with (go_at_call 69; (with_reducible refine (hof _).mono ?_); rintro e w1 ⟨rfl, rfl⟩)
    refine bodyPost_ret (v := .agg #[.int .i64 U, .int .i64 T, .int .i64 h, .int .i64 p, .int .i64 o, .int .i64 z]) (by simp [results, Try.results78, go_sem]) rfl ⟨rfl, ?_⟩
    repeat (first | exact Below.refl _ _ | refine Below.alloc ?_ (by simp) _ | refine Below.setCell ?_ (by simp) _ | refine Below.drew ?_)
end Go.Proofs.Ytnppnoabhpkmkaa
/- The reference's Pieces. -/
namespace Go.Proofs.Ytnppnoabhpkmkaa
open Go.RowKit
/-- Areas that a call told. -/
def ToldA (l : List Ar) (w : World) (e : Ending) (w' : World) : Prop := ∃ A c, e = .returned (.slice A l.length c) ∧ EAr.Own w.heap.size w' (.slice A l.length c) l ∧ Below w.heap.size w w'
theorem wpList_append_run {P : Program} {w : World} {ops : Array Oper} {rest : List Oper} {o : Oper} {a : Act} {Q : Exit → Act → World → Prop} (hgd : o.guard = none) (d s : Operand) (t : TypeId)
    (ho : o.op = .call { callee := .builtin .append, args := #[d, s], argTypes := #[t, t] }) (v u : Value) (hd : a.eval d = v) (hs : a.eval s = u) {v' : Value} {w' : World}
    (hr : (Builtin.append_ #[t, t] o.type #[v, u]).run P w = .ok v' w') (h : wpList P ops Q rest (a.put o.dst v') w') : wpList P ops Q (o :: rest) a w := by
  refine wpList_plain hgd fun K' hK' => ?_
  unfold Oper.wp execOp
  simp only [ho, resolve, invoke, builtin, Sem.run_bind, Sem.run_pure, Result.andThen_ok, List.map_toArray, List.map_cons, List.map_nil, hd, hs, hr]
  exact hK' _ _ h
theorem ar_app {W wr : World} {Ar_ : Option Addr} {m cr : Nat} {R : List Ar} (h : EAr.Own W.heap.size wr (.slice Ar_ m cr) R) (hb : Below W.heap.size W wr) (hl : R.length ≤ 90000) (x : Ar) : ∃ A5 c5 W5,
    (Builtin.append_ #[33, 33] 33 #[.slice Ar_ m cr, .slice (some ⟨wr.heap.size, 0, none⟩) 1 1]).run Try.prog (wr.alloc (.cells #[.int .i64 x.f, .int .i64 x.t, .int .i64 x.h, .int .i64 x.p, .int .i64 x.o, .int .i64 x.x] 60)) = .ok (.slice A5 (m + 1) c5) W5 ∧
    EAr.Own W.heap.size W5 (.slice A5 (m + 1) c5) (R ++ [x]) ∧ Below W.heap.size W W5 := by
  obtain ⟨A5, c5, W5, r5, o5, g5, -⟩ := h.app1 hb.size x hl #[.int .i64 x.f, .int .i64 x.t, .int .i64 x.h, .int .i64 x.p, .int .i64 x.o, .int .i64 x.x] rfl
  have hm : R.length = m := by
    obtain ⟨_, _, e⟩ := h.form
    injection e with _ e _
    exact e.symm
  rw [hm] at r5 o5
  refine ⟨A5, c5, W5, r5 _ rfl, o5, Below.grown hb g5 hb.size (fun k e => ?_)⟩
  obtain ⟨vs, r, hlo⟩ := h.block e
  exact hlo
theorem setTo_get (L : List Ar) (t : Int) (h : 0 < L.length) : setTo L t = L.set (L.length - 1) { L[L.length - 1] with t := t } := by
  obtain ⟨M, a, rfl⟩ : ∃ M a, L = M ++ [a] := ⟨L.dropLast, L.getLast (by intro e; subst e; simp at h), (List.dropLast_concat_getLast _).symm⟩
  rw [setTo_snoc]
  have e1 : (M ++ [a]).length - 1 = M.length := by simp
  rw [List.set_append_right _ _ (by omega)]
  simp
theorem setTo_at {L : List Ar} {k : Nat} (t : Int) (h : L.length = k + 1) : setTo L t = L.set k { L[k] with t := t } := by
  have e : L.length - 1 = k := by omega
  subst e
  exact setTo_get L t (by omega)
section
variable {w w' : World} {B xa : Nat} {v : Value} {P : Int → Pg}
theorem pcs_snoc (P : Int → Pg) (at_ : Int) (k : Nat) : pcs P at_ (k + 1) = if (P (at_ + k)).h = 0 then pcs P at_ k
    else if 0 < k ∧ (P (at_ + k - 1)).h ≠ 0 ∧ nxt (P (at_ + k - 1)) (P (at_ + k)) = true then setTo (pcs P at_ k) (at_ + k + 1)
    else pcs P at_ k ++ [newA (P (at_ + k)) (at_ + k)] := rfl
end
end Go.Proofs.Ytnppnoabhpkmkaa
