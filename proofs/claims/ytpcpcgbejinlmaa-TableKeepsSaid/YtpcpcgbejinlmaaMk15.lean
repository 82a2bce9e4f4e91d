/- The contract of a walk (follow): the tables that were read, the last one's entry, the leaf, the error. -/
import Derived.Test.YtpcpcgbejinlmaaMk14
import Derived.Maps.AppendAt
import Derived.Deep.AppendLies
import Derived.OwnWalk
import Derived.Deep.OwnRows
import Derived.WalkMore
namespace Go.Proofs.Ytpcpcgbejinlmaa
open Go.RowKit
theorem own_form {w : World} {B n : Nat} {v : Value} {xs : List Value} {t : TypeId} {s : Nat} (h : w.ownsRow B t s v n xs) : ∃ A c, v = .slice A n c := by
  rcases h.2 with ⟨h1, h2⟩ | ⟨g, cap, cur, h1, _⟩
  · exact ⟨none, 0, by rw [h1, h2]⟩
  · exact ⟨_, _, h1⟩
theorem info_int : (Try.prog.info? 3).map (fun i => (i.zero, i.size, i.bytes)) = some (some (.int .i64 0), 1, 8) := by kernel_rfl
theorem new_one (w : World) (x : Int) : ∀ (i : Nat) (u : Value), [Value.int .i64 x][i]? = some u → (w.alloc (.cells #[.int .i64 x] 3)).cell? ((⟨w.heap.size, 0, none⟩ : Addr).add i) = some u := fun i u hu => by
  rw [add_zero_off, (Row.new w _ [.int .i64 x]).cell]; exact hu
theorem one_one (x : Int) : ∀ u ∈ [Value.int .i64 x], u.oneCell' = true := by
  intro u hu; simp at hu; rw [hu]; rfl
theorem app1_run {W : World} {C k : Nat} {v : Value} {xs : List Value} (hC : C ≤ W.heap.size) (hown : W.ownsRow C 3 1 v k xs) (hk : k ≤ 6000) (x : Int) : ∃ A c W3,
    (Builtin.append_ #[44, 44] 44 #[v, .slice (some ⟨W.heap.size, 0, none⟩) 1 1]).run Try.prog (W.alloc (.cells #[.int .i64 x] 3)) = .ok (.slice A (k + 1) c) W3 ∧
    W3.ownsRow C 3 1 (.slice A (k + 1) c) (k + 1) (xs ++ [.int .i64 x]) ∧ W.grownBy W3 v.ownBlock := by
  obtain ⟨i0, hi0, hz0, hz1, hz2⟩ := info_parts info_int
  have ho := hown.alloc (.cells #[.int .i64 x] 3)
  obtain ⟨v1, W1, r1, o1, g1, -, t1⟩ := run_append_own_at (P := Try.prog) (w := W.alloc (.cells #[.int .i64 x] 3)) C 44 44 3 i0 (.int .i64 0) 1 8 Try.underlying44 hi0 hz0 hz1 hz2 rfl (by decide) v k _ ho ⟨W.heap.size, 0, none⟩ 1 1 [.int .i64 x] rfl (new_one W x) (one_one x) (by unfold maxLen; omega) (by omega) (by simp; omega)
  obtain ⟨A, c, hv⟩ := own_form o1
  subst hv
  refine ⟨A, c, W1, r1, o1, ?_⟩
  have : W.grownBy (W.alloc (.cells #[.int .i64 x] 3)) v.ownBlock := ⟨rfl, rfl, rfl, by simp, fun i hi _ => Below.heap_alloc W _ i hi⟩
  exact this.trans g1
theorem wpList_append_run {P : Program} {w : World} {ops : Array Oper} {rest : List Oper} {o : Oper} {a : Act} {Q : Exit → Act → World → Prop}
    (hg : o.guard = none) (d x : Operand) (t : TypeId) (hop : o.op = Op.call { callee := Callee.builtin Builtin.append, args := #[d, x], argTypes := #[t, t] })
    (v u : Value) (hd : a.eval d = v) (hx : a.eval x = u) {v' : Value} {w' : World} (hr : (Builtin.append_ #[t, t] o.type #[v, u]).run P w = .ok v' w') (h : wpList P ops Q rest (a.put o.dst v') w') : wpList P ops Q (o :: rest) a w := by
  refine wpList_plain hg fun K' hK' => ?_
  unfold Oper.wp
  simp [execOp, hop, resolve, invoke, builtin, hd, hx, hr, Result.andThen]
  exact hK' _ _ h
theorem IntsAt.grown {w w' : World} {B n r : Nat} {A : Option Addr} {l : List Int} (h : IntsAt w B A n l) (hg : w.grownBy w' (some r)) (hB : B ≤ r) (hs : B ≤ w.heap.size) : IntsAt w' B A n l :=
  h.keep (Nat.le_refl _) fun p hp => World.cell?_of_block (hg.block p.block (by omega) (by intro e; injection e with e; omega))
theorem cell_grown {w w' : World} {r g i : Nat} {v : Value} (hg : w.grownBy w' (some r)) (hn : g ≠ r) (hl : g < w.heap.size) (h : w.cell? ⟨g, i, none⟩ = some v) : w'.cell? ⟨g, i, none⟩ = some v :=
  (World.cell?_of_block (a := ⟨g, i, none⟩) (hg.block g hl (by intro e; injection e with e; exact hn e))).trans h
structure Mid (ws : List Int) (n : Nat) (p root : Int) (k : Nat) (t : Int) (ts : List Int) : Prop where
  le : k ≤ 3
  len : ts.length = k
  fr : inT n t 0 = true
  eq : wk ws p 3 root = app ts (wk ws p (3 - k) t)
theorem own_call {w w' : World} {B : Nat} {v : Value} {n : Nat} {xs : List Value} {t : TypeId} {s : Nat} (h : w.ownsRow B t s v n xs) (hb : Below w.heap.size w w') : w'.ownsRow B t s v n xs := by
  cases e : v.ownBlock with
  | none => exact h.kept (grown_of_below (row := some w.heap.size) hb) (Or.inl e)
  | some z => exact h.kept (grown_of_below (row := none) hb) (Or.inr (by rw [e]; simp))
theorem ints_of_own {w : World} {C m c : Nat} {A : Option Addr} {l : List Int} (h : w.ownsRow C 3 1 (.slice A m c) m (l.map (Value.int .i64))) : IntsAt w w.heap.size A m l := by
  have hl : l.length = m := by have := h.1; simpa using this
  refine ⟨hl, fun hm => ?_⟩
  obtain ⟨g, hg⟩ : ∃ g, A = some ⟨g, 0, none⟩ := by
    rcases h.2 with ⟨_, h2⟩ | ⟨g, cap, cur, h1, _⟩
    · omega
    · injection h1 with h1; exact ⟨g, h1⟩
  subst hg
  refine ⟨_, rfl, (h.lt g rfl).2, fun j hj => h.cells (g := g) rfl j _ ?_⟩
  rw [List.getElem?_map, getD_of l 0 j (by omega)]
  rfl
theorem new_of_own {w : World} {C B m c : Nat} {A : Option Addr} {xs : List Value} {s : Nat} {t : TypeId} (h : w.ownsRow C t s (.slice A m c) m xs) (hB : B ≤ C) : ∀ g, A = some g → B ≤ g.block := fun g e => by
  subst e
  have := (h.lt g.block rfl).1
  omega
theorem cap_of_own {w : World} {C m c s : Nat} {A : Option Addr} {xs : List Value} {t : TypeId} (h : w.ownsRow C t s (.slice A m c) m xs) : m ≤ c := by
  rcases h.2 with ⟨h1, h2⟩ | ⟨g, cap, cur, h1, _, _, h2, _⟩
  · omega
  · injection h1 with _ _ h1; omega
theorem own_11 {w : World} {C g n s : Nat} {t : TypeId} {v : Value} {xs : List Value} {x0 x1 x2 x3 x4 x5 x6 x7 x8 x9 x10 : Value} (h : w.ownsRow C t s v n xs) (hg : g < C) :
    (((((((((((w.setCell ⟨g, 0, none⟩ x0).setCell ⟨g, 1, none⟩ x1).setCell ⟨g, 2, none⟩ x2).setCell ⟨g, 3, none⟩ x3).setCell ⟨g, 4, none⟩ x4).setCell ⟨g, 5, none⟩ x5).setCell ⟨g, 6, none⟩ x6).setCell ⟨g, 7, none⟩ x7).setCell ⟨g, 8, none⟩ x8).setCell ⟨g, 9, none⟩ x9).setCell ⟨g, 10, none⟩ x10).ownsRow C t s v n xs :=
  have k : ∀ {w : World}, w.ownsRow C t s v n xs → ∀ (i : Nat) (u : Value), (w.setCell ⟨g, i, none⟩ u).ownsRow C t s v n xs := fun h i u => ownsRow_setCell_below h (a := ⟨g, i, none⟩) hg u
  k (k (k (k (k (k (k (k (k (k (k h 0 _) 1 _) 2 _) 3 _) 4 _) 5 _) 6 _) 7 _) 8 _) 9 _) 10 _
theorem own_9 {w : World} {C g n s : Nat} {t : TypeId} {v : Value} {xs : List Value} {x2 x3 x4 x5 x6 x7 x8 x9 x10 : Value} (h : w.ownsRow C t s v n xs) (hg : g < C) :
    (((((((((w.setCell ⟨g, 2, none⟩ x2).setCell ⟨g, 3, none⟩ x3).setCell ⟨g, 4, none⟩ x4).setCell ⟨g, 5, none⟩ x5).setCell ⟨g, 6, none⟩ x6).setCell ⟨g, 7, none⟩ x7).setCell ⟨g, 8, none⟩ x8).setCell ⟨g, 9, none⟩ x9).setCell ⟨g, 10, none⟩ x10).ownsRow C t s v n xs :=
  have k : ∀ {w : World}, w.ownsRow C t s v n xs → ∀ (i : Nat) (u : Value), (w.setCell ⟨g, i, none⟩ u).ownsRow C t s v n xs := fun h i u => ownsRow_setCell_below h (a := ⟨g, i, none⟩) hg u
  k (k (k (k (k (k (k (k (k h 2 _) 3 _) 4 _) 5 _) 6 _) 7 _) 8 _) 9 _) 10 _
theorem below_9 {B g : Nat} {w w' : World} {x2 x3 x4 x5 x6 x7 x8 x9 x10 : Value} (h : Below B w w') (hg : B ≤ g) :
    Below B w (((((((((w'.setCell ⟨g, 2, none⟩ x2).setCell ⟨g, 3, none⟩ x3).setCell ⟨g, 4, none⟩ x4).setCell ⟨g, 5, none⟩ x5).setCell ⟨g, 6, none⟩ x6).setCell ⟨g, 7, none⟩ x7).setCell ⟨g, 8, none⟩ x8).setCell ⟨g, 9, none⟩ x9).setCell ⟨g, 10, none⟩ x10) :=
  ((((((((h.setCell hg _).setCell hg _).setCell hg _).setCell hg _).setCell hg _).setCell hg _).setCell hg _).setCell hg _).setCell hg _
theorem say_leaf {F l x : Int} (h : say F l x = 3) : l ≠ 3 := by
  intro hl
  subst hl
  unfold say sayB at h
  split at h
  · omega
  split at h
  · omega
  split at h
  · omega
  rename_i h1
  split at h
  · omega
  split at h
  · omega
  split at h
  · rename_i h2
    rcases h2 with h2 | h2
    · omega
    · exact h1 ⟨h2, Or.inr rfl⟩
  · omega
section
variable {ws : List Int} {n k : Nat} {p root t s x d : Int} {ts : List Int}
theorem Mid.stop (h : Mid ws n p root k t ts) (hl : ws.length = n) (hd : d = dg p (3 - k)) (hx : x = wd ws t d) (hs : s = say ((n : Int) / 8) (3 - (k : Int)) x) (h2 : s ≠ 2) : wk ws p 3 root = app ts (fin s (3 - k) x t d) := by
  have hk := h.le
  have e3 : ((3 - k : Nat) : Int) = 3 - (k : Int) := by omega
  have hss : say ((ws.length : Int) / 8) ((3 - k : Nat) : Int) (wd ws t (dg p (3 - k))) = s := by rw [hl, e3, ← hd, ← hx, ← hs]
  rw [h.eq, wk_stop (by rw [hss]; exact h2), hss, ← hd, ← hx]
theorem Mid.on (h : Mid ws n p root k t ts) (hl : ws.length = n) (hd : d = dg p (3 - k)) (hx : x = wd ws t d) (hs : 2 = say ((n : Int) / 8) (3 - (k : Int)) x) : Mid ws n p root (k + 1) (unF x) (ts ++ [t]) := by
  have hk := h.le
  have hf := say_further hs.symm
  have hu := un_frame x
  obtain ⟨j, hj⟩ : ∃ j, 3 - k = j + 1 := ⟨3 - k - 1, by omega⟩
  have e3 : ((j + 1 : Nat) : Int) = 3 - (k : Int) := by omega
  have hss : say ((ws.length : Int) / 8) ((j + 1 : Nat) : Int) (wd ws t (dg p (j + 1))) = 2 := by rw [hl, e3, ← hj, ← hd, ← hx, ← hs]
  refine ⟨by omega, by simp [h.len], inT_iff.2 ⟨hu.1, hf.2.2.1, by omega, by omega⟩, ?_⟩
  rw [h.eq, hj, wk_on hss, app_app, ← hj, ← hd, ← hx, show 3 - (k + 1) = j by omega]
end
theorem app_bad (ts : List Int) (l : Nat) (x t i : Int) : app ts (fin 0 l x t i) = ⟨5, 0, 0, [], 0⟩ := by simp [app, fin]
theorem app_none (ts : List Int) (l : Nat) (x t i : Int) : app ts (fin 1 l x t i) = ⟨6, 0, 0, ts ++ [t], i⟩ := by simp [app, fin]
theorem app_leaf (ts : List Int) (l : Nat) (x t i : Int) : app ts (fin 3 l x t i) = ⟨0, l, x, ts ++ [t], i⟩ := by simp [app, fin]
theorem dg_at {p : Int} (hp : 0 ≤ p ∧ p ≤ 4095) {k : Nat} (hk : k ≤ 3) : (dgL p).getD k 0 = dg p (3 - k) ∧ 0 ≤ dg p (3 - k) ∧ dg p (3 - k) < 8 := by
  have hc : k = 0 ∨ k = 1 ∨ k = 2 ∨ k = 3 := by omega
  unfold dgL
  rw [if_pos hp]
  rcases hc with rfl | rfl | rfl | rfl
  · refine ⟨?_, ?_⟩
    · show p / 512 = p / 8 ^ 3 % 8; simp; omega
    · unfold dg; omega
  · refine ⟨rfl, ?_⟩
    unfold dg; omega
  · refine ⟨rfl, ?_⟩
    unfold dg; omega
  · refine ⟨?_, ?_⟩
    · show p % 8 = p / 8 ^ 0 % 8; simp
    · unfold dg; omega
def lfF (r : Fd) : Int := if r.er = 0 then unF r.x else 0
def lfB (r : Fd) (b : Int) : Bool := r.er == 0 && unB r.x b
def lfV (r : Fd) : Int := if r.er = 0 then r.lv else 0
def lfP (r : Fd) (p : Int) : Int := if r.er = 0 then unF r.x + p % 8 ^ r.lv else 0
def TR (v : Value) (sl : Int) : List Value := [v, .int .i64 sl, .int .i64 0, .bool false, .bool false, .bool false, .bool false, .bool false, .bool false, .int .i64 0, .int .i64 0]
def Trail (w : World) (r : Fd) (p : Int) (e : Ending) (w' : World) : Prop :=
  ∃ A m c, e = .returned (.tuple #[.agg #[.slice A m c, .int .i64 r.sl, .int .i64 (lfF r), .bool (lfB r 0), .bool (lfB r 1), .bool (lfB r 7), .bool (lfB r 9), .bool (lfB r 5), .bool (lfB r 6), .int .i64 (lfV r), .int .i64 (lfP r p)], .int .i64 r.er]) ∧
    IntsAt w' w'.heap.size A m r.ts ∧ Below w.heap.size w w' ∧ (∀ g, A = some g → w.heap.size ≤ g.block) ∧ m ≤ c
theorem Row.trail {w : World} {g : Nat} {t : TypeId} {v : Value} {sl : Int} (h : Row w g t (TR v sl)) :
    (w.cell? ⟨g, 0, none⟩ = some v ∧ w.cell? ⟨g, 1, none⟩ = some (.int .i64 sl) ∧ w.cell? ⟨g, 2, none⟩ = some (.int .i64 0) ∧ w.cell? ⟨g, 3, none⟩ = some (.bool false) ∧ w.cell? ⟨g, 4, none⟩ = some (.bool false) ∧ w.cell? ⟨g, 5, none⟩ = some (.bool false)
      ∧ w.cell? ⟨g, 6, none⟩ = some (.bool false) ∧ w.cell? ⟨g, 7, none⟩ = some (.bool false) ∧ w.cell? ⟨g, 8, none⟩ = some (.bool false) ∧ w.cell? ⟨g, 9, none⟩ = some (.int .i64 0) ∧ w.cell? ⟨g, 10, none⟩ = some (.int .i64 0)) ∧ (∀ o, w.frozen? ⟨g, o, none⟩ = false) :=
  ⟨⟨h.cell 0, h.cell 1, h.cell 2, h.cell 3, h.cell 4, h.cell 5, h.cell 6, h.cell 7, h.cell 8, h.cell 9, h.cell 10⟩, fun o => h.frozen o⟩
theorem trail_new (w : World) : Row (w.alloc (.cells #[.slice none 0 0, .int .i64 0, .int .i64 0, .bool false, .bool false, .bool false, .bool false, .bool false, .bool false, .int .i64 0, .int .i64 0] 70)) w.heap.size 70 (TR (.slice none 0 0) 0) := Row.new w _ _
theorem below_trail (w : World) : Below w.heap.size w (w.alloc (.cells #[.slice none 0 0, .int .i64 0, .int .i64 0, .bool false, .bool false, .bool false, .bool false, .bool false, .bool false, .int .i64 0, .int .i64 0] 70)) := (Below.refl _ _).alloc (Nat.le_refl _) _
theorem below_11 {B g : Nat} {w w' : World} {x0 x1 x2 x3 x4 x5 x6 x7 x8 x9 x10 : Value} (h : Below B w w') (hg : B ≤ g) :
    Below B w (((((((((((w'.setCell ⟨g, 0, none⟩ x0).setCell ⟨g, 1, none⟩ x1).setCell ⟨g, 2, none⟩ x2).setCell ⟨g, 3, none⟩ x3).setCell ⟨g, 4, none⟩ x4).setCell ⟨g, 5, none⟩ x5).setCell ⟨g, 6, none⟩ x6).setCell ⟨g, 7, none⟩ x7).setCell ⟨g, 8, none⟩ x8).setCell ⟨g, 9, none⟩ x9).setCell ⟨g, 10, none⟩ x10) :=
  ((((((((((h.setCell hg _).setCell hg _).setCell hg _).setCell hg _).setCell hg _).setCell hg _).setCell hg _).setCell hg _).setCell hg _).setCell hg _).setCell hg _
section
variable {w : World} {a b n : Nat} {T : TypeId} {ws : List Int}
set_option maxRecDepth 100000 in
set_option maxHeartbeats 800000 in
theorem follow_root (h : RamAt w a b T n ws) (root p : Int) (hi : inT n root 0 = false) : Calls Try.prog 23 #[.pointer (some ⟨a, 0, none⟩), .int .i64 root, .int .i64 p] w (Trail w ⟨3, 0, 0, [], 0⟩ p) := by
  have he := errT_out hi
  clear hi
  go_enter Try.func23, Try.ntmps23
  go_wp2
  go_step3
  go_wp2_with fail
  refine (wcheck_any (h.alloc _) _ _).mono ?_
  rw [he]
  rintro e w1 ⟨rfl, hw⟩
  have r1 : Row w1 w.heap.size 70 (TR (.slice none 0 0) 0) := hw ▸ trail_new w
  have B1 : Hid (Below w.heap.size w w1) := hw ▸ below_trail w
  obtain ⟨⟨c0, c1, c2, c3, c4, c5, c6, c7, c8, c9, c10⟩, hf⟩ := r1.trail
  clear hw r1 h he
  go_wp2_with fail
  rw [Exit.noGoto_ret]
  exact bodyPost_ret (v := .tuple #[.agg #[.slice none 0 0, .int .i64 0, .int .i64 0, .bool false, .bool false, .bool false, .bool false, .bool false, .bool false, .int .i64 0, .int .i64 0], .int .i64 3]) (by simp [results, Try.results23, go_sem, *]) rfl ⟨none, 0, 0, rfl, IntsAt.nil _ _ _, below_11 B1.out (Nat.le_refl _), fun g e => (by cases e), Nat.le_refl _⟩
set_option maxRecDepth 100000 in
set_option maxHeartbeats 800000 in
theorem follow_page (h : RamAt w a b T n ws) (root p : Int) (hi : inT n root 0 = true) (hp : ¬ (0 ≤ p ∧ p ≤ 4095)) : Calls Try.prog 23 #[.pointer (some ⟨a, 0, none⟩), .int .i64 root, .int .i64 p] w (Trail w ⟨3, 0, 0, [], 0⟩ p) := by
  have he := errT_in hi
  have hd := digits_any p
  have hdl : dgE p = 3 := by simp only [dgE, if_neg hp]
  rw [hdl] at hd
  clear hi hp hdl
  go_enter Try.func23, Try.ntmps23
  go_wp2
  go_step3
  go_wp2_with fail
  refine (wcheck_any (h.alloc _) _ _).mono ?_
  rw [he]
  rintro e w1 ⟨rfl, hw⟩
  have r1 : Row w1 w.heap.size 70 (TR (.slice none 0 0) 0) := hw ▸ trail_new w
  have B1 : Hid (Below w.heap.size w w1) := hw ▸ below_trail w
  clear hw h he
  go_wp2_with fail
  refine (hd _).mono ?_
  rintro e w2 ⟨A, m, c, rfl, -, hb⟩
  have B2 : Hid (Below w.heap.size w w2) := B1.out.trans (hb.mono B1.out.size)
  obtain ⟨⟨c0, c1, c2, c3, c4, c5, c6, c7, c8, c9, c10⟩, hf⟩ := (r1.below hb r1.lt).trail
  clear hb r1 B1 hd
  go_wp2_with fail
  rw [Exit.noGoto_ret]
  exact bodyPost_ret (v := .tuple #[.agg #[.slice none 0 0, .int .i64 0, .int .i64 0, .bool false, .bool false, .bool false, .bool false, .bool false, .bool false, .int .i64 0, .int .i64 0], .int .i64 3]) (by simp [results, Try.results23, go_sem, *]) rfl ⟨none, 0, 0, rfl, IntsAt.nil _ _ _, below_11 B2.out (Nat.le_refl _), fun g e => (by cases e), Nat.le_refl _⟩
end
end Go.Proofs.Ytpcpcgbejinlmaa
/- The contract of a walk (follow) that begins at a table for a page: its loop. -/
namespace Go.Proofs.Ytpcpcgbejinlmaa
open Go.RowKit
section
variable {w : World} {a b n : Nat} {T : TypeId} {ws : List Int}
set_option maxRecDepth 100000 in
set_option maxHeartbeats 1600000 in
theorem follow_in (h : RamAt w a b T n ws) (root p : Int) (hi : inT n root 0 = true) (hp : 0 ≤ p ∧ p ≤ 4095) : Calls Try.prog 23 #[.pointer (some ⟨a, 0, none⟩), .int .i64 root, .int .i64 p] w (Trail w (wk ws p 3 root) p) := by
  have he := errT_in hi
  have hd := digits_any p
  have hde : dgE p = 0 := by simp only [dgE, if_pos hp]
  rw [hde] at hd
  have HI := Lib.hid hi
  have HP := Lib.hid hp
  clear hi hp hde
  go_enter Try.func23, Try.ntmps23
  go_wp2
  go_step3
  go_wp2_with fail
  refine (wcheck_any (h.alloc _) _ _).mono ?_
  rw [he]
  rintro e w1 ⟨rfl, hw⟩
  have r1 : Row w1 w.heap.size 70 (TR (.slice none 0 0) 0) := hw ▸ trail_new w
  have B1 : Hid (Below w.heap.size w w1) := hw ▸ below_trail w
  have H1 : RamAt w1 a b T n ws := hw ▸ h.alloc _
  clear hw h he
  go_wp2_with fail
  refine (hd _).mono ?_
  rintro e w2 ⟨A, m, c, rfl, hN, hb⟩
  obtain rfl : m = 4 := by
    have := hN.len
    rw [← this]; simp [dgL, HP.out]
  have r2 := r1.below hb r1.lt
  have B2 : Hid (Below w.heap.size w w2) := B1.out.trans (hb.mono B1.out.size)
  have H2 := H1.below hb H1.top.lt H1.row.lt
  clear hb r1 B1 hd H1
  obtain ⟨q, hq⟩ : ∃ q, q = w2.heap.size := ⟨_, rfl⟩
  have HQ := Lib.hid hq
  rw [← hq] at hN
  have gq := Lib.hid (show w.heap.size < q by rw [hq]; exact r2.lt)
  have aq := Lib.hid (show a < q by rw [hq]; exact H2.top.lt)
  have bq := Lib.hid (show b < q by rw [hq]; exact H2.row.lt)
  go_upto_region 8 with (fail)
  rw [← hq]
  clear hq
  obtain ⟨w3, hw3⟩ : ∃ w3, w3 = w2.alloc (.cells #[.slice none 0 0, .int .i64 0, .int .i64 0, .bool false, .bool false, .bool false, .bool false, .bool false, .bool false, .int .i64 0, .int .i64 0] 70) := ⟨_, rfl⟩
  rw [← hw3]
  have b3 : Below w2.heap.size w2 w3 := hw3 ▸ below_trail w2
  have q3 : Row w3 q 70 (TR (.slice none 0 0) 0) := by rw [hw3, HQ.out]; exact trail_new w2
  clear hw3
  have r3 := r2.below b3 r2.lt
  have H3 := H2.below b3 H2.top.lt H2.row.lt
  have B3 : Hid (Below w.heap.size w w3) := B2.out.trans (b3.mono B2.out.size)
  have N3 := hN.below (HQ.out ▸ b3)
  clear r2 H2 B2 hN b3
  go_wp2_with fail
  refine (wasker_any H3).mono ?_
  rintro e w4 ⟨rb, fb, rfl, hr, hF, lr, lf, b4⟩
  have q4 := Lib.hid (q3.below b4 q3.lt)
  have r4 := Lib.hid (r3.below b4 r3.lt)
  have H4 := Lib.hid (H3.below b4 H3.top.lt H3.row.lt)
  have B4 : Hid (Below w.heap.size w w4) := B3.out.trans (b4.mono B3.out.size)
  have N4 := Lib.hid (N3.below (b4.mono (Nat.le_of_lt q3.lt)))
  have q4l := Lib.hid (show q < w4.heap.size from (q3.below b4 q3.lt).lt)
  have FR := Lib.hid hr
  have FF := Lib.hid hF
  have LR : Hid (rb ≠ q ∧ rb < w4.heap.size) := ⟨by have := q3.lt; omega, lr.2⟩
  have LF : Hid (fb ≠ q ∧ fb < w4.heap.size) := ⟨by have := q3.lt; omega, lf.2⟩
  clear q3 r3 H3 B3 N3 b4 hr hF lr lf HQ
  go_wp2
  go_step3
  go_wp2
  go_loopw [12, 13, 42] (fun en tb i wr => ∃ (k : Nat) (t : Int) (ts : List Int) (v : Value) (sl : Int), en = .int .i64 6 ∧ i = .int .i64 k ∧ tb = .int .i64 t ∧ Mid ws n p root k t ts ∧ wr.ownsRow w4.heap.size 3 1 v k (ts.map (Value.int .i64)) ∧ Row wr q 70 (TR v sl) ∧ w4.grownBy wr (some q)) (fun _ _ i _ => 4 - (intOf i).toNat)
  case atStart => exact ⟨0, root, [], _, 0, rfl, rfl, rfl, ⟨by omega, rfl, HI.out, (app_nil _).symm⟩, World.ownsRow_nil _ _ _ _, q4.out, World.grownBy.refl _ _⟩
  case round =>
    obtain ⟨k, t, ts, v, sl, rfl, rfl, rfl, hm, ho, hq, hg⟩ := hrel
    have hk := hm.le
    have HM := Lib.hid hm
    obtain ⟨ad, rfl, -, hc⟩ := (N4.out.grown hg (Nat.le_refl _) (Nat.le_of_lt q4l.out)).cell (j := k) (by omega)
    obtain ⟨hdg, hd0, hd8⟩ := dg_at HP.out hk
    rw [hdg] at hc
    obtain ⟨d, ed⟩ : ∃ d, d = dg p (3 - k) := ⟨_, rfl⟩
    rw [← ed] at hc hd0 hd8
    have HD := Lib.hid ed
    obtain ⟨Av, cv, rfl⟩ := own_form ho
    obtain ⟨A5, c5, W5, r5, o5, g5⟩ := app1_run (C := w4.heap.size) hg.size ho (by omega) t
    have hne : some q ≠ (Value.slice Av k cv).ownBlock := fun e => by have := (ho.lt _ e.symm).1; have := q4l.out; omega
    have q5 := hq.grown g5 hne
    have hg5 : w4.grownBy W5 (some q) := grown_more hg g5 fun r e => Or.inr (ho.lt r e).1
    have q6 : Row ((W5.setCell ⟨q, 0, none⟩ (.slice A5 (k + 1) c5)).setCell ⟨q, 1, none⟩ (.int .i64 d)) q 70 (TR (.slice A5 (k + 1) c5) d) := (q5.set_ 0 _).set_ 1 _
    have o6 : ((W5.setCell ⟨q, 0, none⟩ (.slice A5 (k + 1) c5)).setCell ⟨q, 1, none⟩ (.int .i64 d)).ownsRow w4.heap.size 3 1 (.slice A5 (k + 1) c5) (k + 1) (ts.map (Value.int .i64) ++ [.int .i64 t]) :=
      ownsRow_setCell_below (ownsRow_setCell_below o5 (a := ⟨q, 0, none⟩) q4l.out _) (a := ⟨q, 1, none⟩) q4l.out _
    have g6 : w4.grownBy ((W5.setCell ⟨q, 0, none⟩ (.slice A5 (k + 1) c5)).setCell ⟨q, 1, none⟩ (.int .i64 d)) (some q) := grown_trans1 (grown_trans1 hg5 (grown_set _ _ _ _)) (grown_set _ _ _ _)
    obtain ⟨w6, hw6⟩ : ∃ w6, w6 = (W5.setCell ⟨q, 0, none⟩ (.slice A5 (k + 1) c5)).setCell ⟨q, 1, none⟩ (.int .i64 d) := ⟨_, rfl⟩
    rw [← hw6] at q6 o6 g6
    have HW6 := Lib.hid hw6
    have Q6 := Lib.hid q6
    have O6 := Lib.hid o6
    have G6 := Lib.hid g6
    have hq0 : wr.cell? ⟨q, 0, none⟩ = some (.slice Av k cv) := hq.cell 0
    have p0 : W5.cell? ⟨q, 0, none⟩ = some (.slice Av k cv) := q5.cell 0
    have p1 : W5.cell? ⟨q, 1, none⟩ = some (.int .i64 sl) := q5.cell 1
    have pf : ∀ o, W5.frozen? ⟨q, o, none⟩ = false := fun o => q5.frozen o
    clear hm ho hq hg hne q5 hg5 q6 o6 g6 hw6 ed hdg o5 g5
    go_wp2_with (at_builtin; refine wpList_append_run rfl _ _ 44 rfl (.slice Av k cv) (.slice (some ⟨wr.heap.size, 0, none⟩) 1 1) rfl rfl r5 ?_)
    clear r5 hq0 hc
    rw [← HW6.out]
    have hin : inT n t d = true := by
      have := inT_iff.1 HM.out.fr
      exact inT_iff.2 ⟨this.1, this.2.1, hd0, hd8⟩
    have h6 : RamAt w6 a b T n ws := H4.out.grown G6.out (by have := aq.out; intro e; injection e with e; omega) (by have := bq.out; intro e; injection e with e; omega)
    have s6 := G6.out.size
    obtain ⟨x, hx⟩ : ∃ x, x = wd ws t d := ⟨_, rfl⟩
    have HX := Lib.hid hx
    obtain ⟨s, hs⟩ : ∃ s, s = say ((n : Int) / 8) (3 - (k : Int)) x := ⟨_, rfl⟩
    have HS := Lib.hid hs
    have hs4 : s = 0 ∨ s = 1 ∨ s = 2 ∨ s = 3 := by rw [hs]; exact say_cases _ _ _
    refine (ask_any h6 (cell_grown G6.out LR.out.1 LR.out.2 FR.out) (cell_grown G6.out LF.out.1 LF.out.2 FF.out) (by have := LR.out.2; omega) (by have := LF.out.2; omega) t d (3 - (k : Int)) hin (by omega) (by omega)).mono ?_
    rw [← hx, ← hs]
    unfold unE
    rintro e w7 ⟨rfl, b7⟩
    obtain ⟨f, ef⟩ : ∃ f, f = unF x := ⟨_, rfl⟩
    obtain ⟨y0, ey0⟩ : ∃ y, y = unB x 0 := ⟨_, rfl⟩
    obtain ⟨y1, ey1⟩ : ∃ y, y = unB x 1 := ⟨_, rfl⟩
    obtain ⟨y7, ey7⟩ : ∃ y, y = unB x 7 := ⟨_, rfl⟩
    obtain ⟨y9, ey9⟩ : ∃ y, y = unB x 9 := ⟨_, rfl⟩
    obtain ⟨y5, ey5⟩ : ∃ y, y = unB x 5 := ⟨_, rfl⟩
    obtain ⟨y6, ey6⟩ : ∃ y, y = unB x 6 := ⟨_, rfl⟩
    rw [← ef, ← ey0, ← ey1, ← ey7, ← ey9, ← ey5, ← ey6]
    have HE := Lib.hid (And.intro ef (And.intro ey0 (And.intro ey1 (And.intro ey7 (And.intro ey9 (And.intro ey5 ey6))))))
    obtain ⟨w8, hw8⟩ : ∃ w8, w8 = w7.alloc (.cells #[.int .i64 f, .bool y0, .bool y1, .bool y7, .bool y9, .bool y5, .bool y6] 28) := ⟨_, rfl⟩
    have b8 : Below w6.heap.size w6 w8 := by rw [hw8]; exact b7.alloc b7.size _
    have e8 : Row w8 w7.heap.size 28 [.int .i64 f, .bool y0, .bool y1, .bool y7, .bool y9, .bool y5, .bool y6] := hw8 ▸ Row.new w7 _ _
    have Q8 := Lib.hid (Q6.out.below b8 Q6.out.lt)
    have G8 := Lib.hid (grown_trans1 G6.out (grown_of_below b8))
    have O8 := Lib.hid (own_call O6.out b8)
    have R8 := Lib.hid (r4.out.grown G8.out (by have := gq.out; intro e; injection e with e; omega))
    have z7 : q < w7.heap.size := by have := Q6.out.lt; have := b7.size; omega
    have z70 : w.heap.size < w7.heap.size := by have := gq.out; omega
    have HW8 := Lib.hid hw8
    clear h6 s6 hx hs b7 ef ey0 ey1 ey7 ey9 ey5 ey6 hw8 b8 hin p0 p1 pf
    go_upto_region 15 with (fail)
    rw [← HW8.out]
    have BEL := Lib.hid (B4.out.grown G8.out B4.out.size (fun r e => by injection e with e; have := gq.out; omega))
    rcases hs4 with rfl | rfl | rfl | rfl
    · have EQ := Lib.hid ((HM.out.stop H4.out.len HD.out HX.out HS.out (by omega)).trans (app_bad ..))
      obtain ⟨⟨c0, c1, c2, c3, c4, c5', c6, c7, c8, c9, c10⟩, hf⟩ := R8.out.trail
      go_wp2_with fail
      rw [Exit.noGoto_ret]
      exact bodyPost_ret (v := .tuple #[.agg #[.slice none 0 0, .int .i64 0, .int .i64 0, .bool false, .bool false, .bool false, .bool false, .bool false, .bool false, .int .i64 0, .int .i64 0], .int .i64 5]) (by simp [results, Try.results23, go_sem, *]) rfl ⟨none, 0, 0, by rw [EQ.out]; rfl, by rw [EQ.out]; exact IntsAt.nil _ _ _, below_11 BEL.out (Nat.le_refl _), fun g e => (by cases e), Nat.le_refl _⟩
    · have EQ := Lib.hid ((HM.out.stop H4.out.len HD.out HX.out HS.out (by omega)).trans (app_none ..))
      obtain ⟨⟨c0, c1, c2, c3, c4, c5', c6, c7, c8, c9, c10⟩, hf⟩ := R8.out.trail
      obtain ⟨⟨d0, d1, d2, d3, d4, d5', d6, d7, d8, d9, d10⟩, -⟩ := Q8.out.trail
      go_wp2_with fail
      rw [Exit.noGoto_ret]
      exact bodyPost_ret (v := .tuple #[.agg #[.slice A5 (k + 1) c5, .int .i64 d, .int .i64 0, .bool false, .bool false, .bool false, .bool false, .bool false, .bool false, .int .i64 0, .int .i64 0], .int .i64 6]) (by simp [results, Try.results23, go_sem, *]) rfl ⟨A5, k + 1, c5, by rw [EQ.out]; rfl, by rw [EQ.out]; exact ints_of_own (own_11 (by have := O8.out; rwa [show ts.map (Value.int .i64) ++ [.int .i64 t] = (ts ++ [t]).map (Value.int .i64) by simp] at this) (by have := gq.out; have := q4l.out; omega)), below_11 BEL.out (Nat.le_refl _), new_of_own O8.out (Nat.le_trans B4.out.size (Nat.le_refl _)), cap_of_own O8.out⟩
    · have e80 : w8.cell? ⟨w7.heap.size, 0, none⟩ = some (.int .i64 f) := e8.cell 0
      go_wp2_with fail
      go_roundw
      case rel => exact ⟨k + 1, f, ts ++ [t], .slice A5 (k + 1) c5, d, rfl, by go_num, rfl, by rw [HE.out.1]; exact HM.out.on H4.out.len HD.out HX.out HS.out, (by have := O8.out; rwa [show ts.map (Value.int .i64) ++ [.int .i64 t] = (ts ++ [t]).map (Value.int .i64) by simp] at this), Q8.out, G8.out⟩
      case measure => simp [intOf]; omega
    · have EQ := Lib.hid ((HM.out.stop H4.out.len HD.out HX.out HS.out (by omega)).trans (app_leaf ..))
      have hl3 := say_leaf HS.out.symm
      have hlv : 3 - k ≤ 2 := by omega
      have hfr := un_frame x
      rw [← HE.out.1] at hfr
      have E8 := e8.seven.1
      obtain ⟨i0, i1, i2, i3, i4, i5, i6⟩ := E8
      go_wp2_with fail
      refine (reached_at f y0 y1 y7 y9 y5 y6 (3 - (k : Int)) (3 - k) (by omega) hlv p HP.out.1 HP.out.2 hfr.1 hfr.2 _).mono ?_
      rintro e w9 ⟨rfl, b9⟩
      obtain ⟨fr, efr⟩ : ∃ fr, fr = f + p % 8 ^ (3 - k) := ⟨_, rfl⟩
      rw [← efr]
      have HFR := Lib.hid efr
      have O9 := Lib.hid (own_call O8.out b9)
      have B9 := Lib.hid (BEL.out.trans (b9.mono BEL.out.size))
      obtain ⟨⟨c0, c1, c2, c3, c4, c5', c6, c7, c8, c9, c10⟩, hf⟩ := (R8.out.below b9 R8.out.lt).trail
      obtain ⟨⟨d0, d1, d2, d3, d4, d5', d6, d7, d8, d9, d10⟩, hff⟩ := (Q8.out.below b9 Q8.out.lt).trail
      have hne : ¬ q = w.heap.size := by have := gq.out; omega
      have hne2 : ¬ w.heap.size = q := fun e => hne e.symm
      clear i0 i1 i2 i3 i4 i5 i6 b9 efr e8 hlv hfr hl3 z7 z70
      go_wp2_with fail
      rw [Exit.noGoto_ret]
      refine bodyPost_ret (v := .tuple #[.agg #[.slice A5 (k + 1) c5, .int .i64 d, .int .i64 f, .bool y0, .bool y1, .bool y7, .bool y9, .bool y5, .bool y6, .int .i64 (3 - (k : Int)), .int .i64 fr], .int .i64 0]) (by simp [results, Try.results23, go_sem, *]) rfl ⟨A5, k + 1, c5, ?_, ?_, below_11 (below_9 B9.out (Nat.le_of_lt gq.out)) (Nat.le_refl _), new_of_own O9.out (Nat.le_trans B4.out.size (Nat.le_refl _)), cap_of_own O9.out⟩
      · obtain ⟨ef, ey0, ey1, ey7, ey9, ey5, ey6⟩ := HE.out
        have hfr := HFR.out
        rw [EQ.out, hfr, ef, ey0, ey1, ey7, ey9, ey5, ey6]
        have e3 : ((3 - k : Nat) : Int) = 3 - (k : Int) := by omega
        simp [lfF, lfB, lfV, lfP, e3]
      · rw [EQ.out]
        exact ints_of_own (own_11 (own_9 (by have := O9.out; rwa [show ts.map (Value.int .i64) ++ [.int .i64 t] = (ts ++ [t]).map (Value.int .i64) by simp] at this) q4l.out) (by have := gq.out; have := q4l.out; omega))
end
end Go.Proofs.Ytpcpcgbejinlmaa
