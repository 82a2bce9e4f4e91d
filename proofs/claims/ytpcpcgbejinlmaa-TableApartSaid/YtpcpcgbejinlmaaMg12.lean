/- The contract of a walk (follow): the tables that were read, the last one's entry, the leaf, the error. -/
import Derived.Test.YtpcpcgbejinlmaaMg11
import Derived.Maps.AppendAt
import Derived.Deep.AppendLies
import Derived.OwnWalk
import Derived.Deep.OwnRows
import Derived.WalkMore
import Derived.Test.YtpcpcgbejinlmaaMg10
import Derived.Test.YtpcpcgbejinlmaaMg00
import Derived.Test.YtpcpcgbejinlmaaProg
import Derived.Test.YtpcpcgbejinlmaaMg01
namespace Go.Proofs.Ytpcpcgbejinlmaa
open Go.RowKit
theorem own_form {w : World} {B n : Nat} {v : Value} {xs : List Value} {t : TypeId} {s : Nat} (h : w.ownsRow B t s v n xs) : ∃ A c, v = .slice A n c := by
  rcases h.2 with ⟨h1, h2⟩ | ⟨g, cap, cur, h1, _⟩
  · exact ⟨none, 0, by rw [h1, h2]⟩
  · exact ⟨_, _, h1⟩
theorem info_int : (Try.prog.info? 3).map (fun i => (i.zero, i.size, i.bytes)) = some (some (.int .i64 0), 1, 8) := by kernel_rfl
theorem new_one (w : World) (x : Int) : ∀ (i : Nat) (u : Value), [Value.int .i64 x][i]? = some u → (w.alloc (.cells #[.int .i64 x] 3)).cell? ((⟨w.heap.size, 0, none⟩ : Addr).add i) = some u := fun i u hu => by
  rw [add_zero_off, (Row.new w _ [.int .i64 x]).cell]; exact hu
theorem one_one (x : Int) : ∀ u ∈ [Value.int .i64 x], u.oneCell' = true := by
  intro u hu; simp at hu; rw [hu]; rfl
theorem app1_run {W : World} {C k : Nat} {v : Value} {xs : List Value} (hC : C ≤ W.heap.size) (hown : W.ownsRow C 3 1 v k xs) (hk : k ≤ 6000) (x : Int) : ∃ A c W3,
    (Builtin.append_ #[44, 44] 44 #[v, .slice (some ⟨W.heap.size, 0, none⟩) 1 1]).run Try.prog (W.alloc (.cells #[.int .i64 x] 3)) = .ok (.slice A (k + 1) c) W3 ∧
    W3.ownsRow C 3 1 (.slice A (k + 1) c) (k + 1) (xs ++ [.int .i64 x]) ∧ W.grownBy W3 v.ownBlock := by
  obtain ⟨i0, hi0, hz0, hz1, hz2⟩ := info_parts info_int
  have ho := hown.alloc (.cells #[.int .i64 x] 3)
  obtain ⟨v1, W1, r1, o1, g1, -, t1⟩ := run_append_own_at (P := Try.prog) (w := W.alloc (.cells #[.int .i64 x] 3)) C 44 44 3 i0 (.int .i64 0) 1 8 Try.underlying44 hi0 hz0 hz1 hz2 rfl (by decide) v k _ ho ⟨W.heap.size, 0, none⟩ 1 1 [.int .i64 x] rfl (new_one W x) (one_one x) (by unfold maxLen; omega) (by omega) (by simp; omega)
  obtain ⟨A, c, hv⟩ := own_form o1
  subst hv
  refine ⟨A, c, W1, r1, o1, ?_⟩
  have : W.grownBy (W.alloc (.cells #[.int .i64 x] 3)) v.ownBlock := ⟨rfl, rfl, rfl, by simp, fun i hi _ => Below.heap_alloc W _ i hi⟩
  exact this.trans g1
theorem wpList_append_run {P : Program} {w : World} {ops : Array Oper} {rest : List Oper} {o : Oper} {a : Act} {Q : Exit → Act → World → Prop}
    (hg : o.guard = none) (d x : Operand) (t : TypeId) (hop : o.op = Op.call { callee := Callee.builtin Builtin.append, args := #[d, x], argTypes := #[t, t] })
    (v u : Value) (hd : a.eval d = v) (hx : a.eval x = u) {v' : Value} {w' : World} (hr : (Builtin.append_ #[t, t] o.type #[v, u]).run P w = .ok v' w') (h : wpList P ops Q rest (a.put o.dst v') w') : wpList P ops Q (o :: rest) a w := by
  refine wpList_plain hg fun K' hK' => ?_
  unfold Oper.wp
  simp [execOp, hop, resolve, invoke, builtin, hd, hx, hr, Result.andThen]
  exact hK' _ _ h
theorem IntsAt.grown {w w' : World} {B n r : Nat} {A : Option Addr} {l : List Int} (h : IntsAt w B A n l) (hg : w.grownBy w' (some r)) (hB : B ≤ r) (hs : B ≤ w.heap.size) : IntsAt w' B A n l :=
  h.keep (Nat.le_refl _) fun p hp => World.cell?_of_block (hg.block p.block (by omega) (by intro e; injection e with e; omega))
theorem cell_grown {w w' : World} {r g i : Nat} {v : Value} (hg : w.grownBy w' (some r)) (hn : g ≠ r) (hl : g < w.heap.size) (h : w.cell? ⟨g, i, none⟩ = some v) : w'.cell? ⟨g, i, none⟩ = some v :=
  (World.cell?_of_block (a := ⟨g, i, none⟩) (hg.block g hl (by intro e; injection e with e; exact hn e))).trans h
structure Mid (ws : List Int) (n : Nat) (p root : Int) (k : Nat) (t : Int) (ts : List Int) : Prop where
  le : k ≤ 3
  len : ts.length = k
  fr : inT n t 0 = true
  eq : wk ws p 3 root = app ts (wk ws p (3 - k) t)
theorem own_call {w w' : World} {B : Nat} {v : Value} {n : Nat} {xs : List Value} {t : TypeId} {s : Nat} (h : w.ownsRow B t s v n xs) (hb : Below w.heap.size w w') : w'.ownsRow B t s v n xs := by
  cases e : v.ownBlock with
  | none => exact h.kept (grown_of_below (row := some w.heap.size) hb) (Or.inl e)
  | some z => exact h.kept (grown_of_below (row := none) hb) (Or.inr (by rw [e]; simp))
theorem ints_of_own {w : World} {C m c : Nat} {A : Option Addr} {l : List Int} (h : w.ownsRow C 3 1 (.slice A m c) m (l.map (Value.int .i64))) : IntsAt w w.heap.size A m l := by
  have hl : l.length = m := by have := h.1; simpa using this
  refine ⟨hl, fun hm => ?_⟩
  obtain ⟨g, hg⟩ : ∃ g, A = some ⟨g, 0, none⟩ := by
    rcases h.2 with ⟨_, h2⟩ | ⟨g, cap, cur, h1, _⟩
    · omega
    · injection h1 with h1; exact ⟨g, h1⟩
  subst hg
  refine ⟨_, rfl, (h.lt g rfl).2, fun j hj => h.cells (g := g) rfl j _ ?_⟩
  rw [List.getElem?_map, getD_of l 0 j (by omega)]
  rfl
theorem new_of_own {w : World} {C B m c : Nat} {A : Option Addr} {xs : List Value} {s : Nat} {t : TypeId} (h : w.ownsRow C t s (.slice A m c) m xs) (hB : B ≤ C) : ∀ g, A = some g → B ≤ g.block := fun g e => by
  subst e
  have := (h.lt g.block rfl).1
  omega
theorem cap_of_own {w : World} {C m c s : Nat} {A : Option Addr} {xs : List Value} {t : TypeId} (h : w.ownsRow C t s (.slice A m c) m xs) : m ≤ c := by
  rcases h.2 with ⟨h1, h2⟩ | ⟨g, cap, cur, h1, _, _, h2, _⟩
  · omega
  · injection h1 with _ _ h1; omega
theorem own_11 {w : World} {C g n s : Nat} {t : TypeId} {v : Value} {xs : List Value} {x0 x1 x2 x3 x4 x5 x6 x7 x8 x9 x10 : Value} (h : w.ownsRow C t s v n xs) (hg : g < C) :
    (((((((((((w.setCell ⟨g, 0, none⟩ x0).setCell ⟨g, 1, none⟩ x1).setCell ⟨g, 2, none⟩ x2).setCell ⟨g, 3, none⟩ x3).setCell ⟨g, 4, none⟩ x4).setCell ⟨g, 5, none⟩ x5).setCell ⟨g, 6, none⟩ x6).setCell ⟨g, 7, none⟩ x7).setCell ⟨g, 8, none⟩ x8).setCell ⟨g, 9, none⟩ x9).setCell ⟨g, 10, none⟩ x10).ownsRow C t s v n xs :=
  have k : ∀ {w : World}, w.ownsRow C t s v n xs → ∀ (i : Nat) (u : Value), (w.setCell ⟨g, i, none⟩ u).ownsRow C t s v n xs := fun h i u => ownsRow_setCell_below h (a := ⟨g, i, none⟩) hg u
  k (k (k (k (k (k (k (k (k (k (k h 0 _) 1 _) 2 _) 3 _) 4 _) 5 _) 6 _) 7 _) 8 _) 9 _) 10 _
theorem own_9 {w : World} {C g n s : Nat} {t : TypeId} {v : Value} {xs : List Value} {x2 x3 x4 x5 x6 x7 x8 x9 x10 : Value} (h : w.ownsRow C t s v n xs) (hg : g < C) :
    (((((((((w.setCell ⟨g, 2, none⟩ x2).setCell ⟨g, 3, none⟩ x3).setCell ⟨g, 4, none⟩ x4).setCell ⟨g, 5, none⟩ x5).setCell ⟨g, 6, none⟩ x6).setCell ⟨g, 7, none⟩ x7).setCell ⟨g, 8, none⟩ x8).setCell ⟨g, 9, none⟩ x9).setCell ⟨g, 10, none⟩ x10).ownsRow C t s v n xs :=
  have k : ∀ {w : World}, w.ownsRow C t s v n xs → ∀ (i : Nat) (u : Value), (w.setCell ⟨g, i, none⟩ u).ownsRow C t s v n xs := fun h i u => ownsRow_setCell_below h (a := ⟨g, i, none⟩) hg u
  k (k (k (k (k (k (k (k (k h 2 _) 3 _) 4 _) 5 _) 6 _) 7 _) 8 _) 9 _) 10 _
theorem below_9 {B g : Nat} {w w' : World} {x2 x3 x4 x5 x6 x7 x8 x9 x10 : Value} (h : Below B w w') (hg : B ≤ g) :
    Below B w (((((((((w'.setCell ⟨g, 2, none⟩ x2).setCell ⟨g, 3, none⟩ x3).setCell ⟨g, 4, none⟩ x4).setCell ⟨g, 5, none⟩ x5).setCell ⟨g, 6, none⟩ x6).setCell ⟨g, 7, none⟩ x7).setCell ⟨g, 8, none⟩ x8).setCell ⟨g, 9, none⟩ x9).setCell ⟨g, 10, none⟩ x10) :=
  ((((((((h.setCell hg _).setCell hg _).setCell hg _).setCell hg _).setCell hg _).setCell hg _).setCell hg _).setCell hg _).setCell hg _
theorem say_leaf {F l x : Int} (h : say F l x = 3) : l ≠ 3 := by
  intro hl
  subst hl
  unfold say sayB at h
  split at h
  · omega
  split at h
  · omega
  split at h
  · omega
  rename_i h1
  split at h
  · omega
  split at h
  · omega
  split at h
  · rename_i h2
    rcases h2 with h2 | h2
    · omega
    · exact h1 ⟨h2, Or.inr rfl⟩
  · omega
section
variable {ws : List Int} {n k : Nat} {p root t s x d : Int} {ts : List Int}
theorem Mid.stop (h : Mid ws n p root k t ts) (hl : ws.length = n) (hd : d = dg p (3 - k)) (hx : x = wd ws t d) (hs : s = say ((n : Int) / 8) (3 - (k : Int)) x) (h2 : s ≠ 2) : wk ws p 3 root = app ts (fin s (3 - k) x t d) := by
  have hk := h.le
  have e3 : ((3 - k : Nat) : Int) = 3 - (k : Int) := by omega
  have hss : say ((ws.length : Int) / 8) ((3 - k : Nat) : Int) (wd ws t (dg p (3 - k))) = s := by rw [hl, e3, ← hd, ← hx, ← hs]
  rw [h.eq, wk_stop (by rw [hss]; exact h2), hss, ← hd, ← hx]
theorem Mid.on (h : Mid ws n p root k t ts) (hl : ws.length = n) (hd : d = dg p (3 - k)) (hx : x = wd ws t d) (hs : 2 = say ((n : Int) / 8) (3 - (k : Int)) x) : Mid ws n p root (k + 1) (unF x) (ts ++ [t]) := by
  have hk := h.le
  have hf := say_further hs.symm
  have hu := un_frame x
  obtain ⟨j, hj⟩ : ∃ j, 3 - k = j + 1 := ⟨3 - k - 1, by omega⟩
  have e3 : ((j + 1 : Nat) : Int) = 3 - (k : Int) := by omega
  have hss : say ((ws.length : Int) / 8) ((j + 1 : Nat) : Int) (wd ws t (dg p (j + 1))) = 2 := by rw [hl, e3, ← hj, ← hd, ← hx, ← hs]
  refine ⟨by omega, by simp [h.len], inT_iff.2 ⟨hu.1, hf.2.2.1, by omega, by omega⟩, ?_⟩
  rw [h.eq, hj, wk_on hss, app_app, ← hj, ← hd, ← hx, show 3 - (k + 1) = j by omega]
end
theorem app_bad (ts : List Int) (l : Nat) (x t i : Int) : app ts (fin 0 l x t i) = ⟨5, 0, 0, [], 0⟩ := by simp [app, fin]
theorem app_none (ts : List Int) (l : Nat) (x t i : Int) : app ts (fin 1 l x t i) = ⟨6, 0, 0, ts ++ [t], i⟩ := by simp [app, fin]
theorem app_leaf (ts : List Int) (l : Nat) (x t i : Int) : app ts (fin 3 l x t i) = ⟨0, l, x, ts ++ [t], i⟩ := by simp [app, fin]
theorem dg_at {p : Int} (hp : 0 ≤ p ∧ p ≤ 4095) {k : Nat} (hk : k ≤ 3) : (dgL p).getD k 0 = dg p (3 - k) ∧ 0 ≤ dg p (3 - k) ∧ dg p (3 - k) < 8 := by
  have hc : k = 0 ∨ k = 1 ∨ k = 2 ∨ k = 3 := by omega
  unfold dgL
  rw [if_pos hp]
  rcases hc with rfl | rfl | rfl | rfl
  · refine ⟨?_, ?_⟩
    · show p / 512 = p / 8 ^ 3 % 8; simp; omega
    · unfold dg; omega
  · refine ⟨rfl, ?_⟩
    unfold dg; omega
  · refine ⟨rfl, ?_⟩
    unfold dg; omega
  · refine ⟨?_, ?_⟩
    · show p % 8 = p / 8 ^ 0 % 8; simp
    · unfold dg; omega
def lfF (r : Fd) : Int := if r.er = 0 then unF r.x else 0
def lfB (r : Fd) (b : Int) : Bool := r.er == 0 && unB r.x b
def lfV (r : Fd) : Int := if r.er = 0 then r.lv else 0
def lfP (r : Fd) (p : Int) : Int := if r.er = 0 then unF r.x + p % 8 ^ r.lv else 0
def TR (v : Value) (sl : Int) : List Value := [v, .int .i64 sl, .int .i64 0, .bool false, .bool false, .bool false, .bool false, .bool false, .bool false, .int .i64 0, .int .i64 0]
def Trail (w : World) (r : Fd) (p : Int) (e : Ending) (w' : World) : Prop :=
  ∃ A m c, e = .returned (.tuple #[.agg #[.slice A m c, .int .i64 r.sl, .int .i64 (lfF r), .bool (lfB r 0), .bool (lfB r 1), .bool (lfB r 7), .bool (lfB r 9), .bool (lfB r 5), .bool (lfB r 6), .int .i64 (lfV r), .int .i64 (lfP r p)], .int .i64 r.er]) ∧
    IntsAt w' w'.heap.size A m r.ts ∧ Below w.heap.size w w' ∧ (∀ g, A = some g → w.heap.size ≤ g.block) ∧ m ≤ c
theorem Row.trail {w : World} {g : Nat} {t : TypeId} {v : Value} {sl : Int} (h : Row w g t (TR v sl)) :
    (w.cell? ⟨g, 0, none⟩ = some v ∧ w.cell? ⟨g, 1, none⟩ = some (.int .i64 sl) ∧ w.cell? ⟨g, 2, none⟩ = some (.int .i64 0) ∧ w.cell? ⟨g, 3, none⟩ = some (.bool false) ∧ w.cell? ⟨g, 4, none⟩ = some (.bool false) ∧ w.cell? ⟨g, 5, none⟩ = some (.bool false)
      ∧ w.cell? ⟨g, 6, none⟩ = some (.bool false) ∧ w.cell? ⟨g, 7, none⟩ = some (.bool false) ∧ w.cell? ⟨g, 8, none⟩ = some (.bool false) ∧ w.cell? ⟨g, 9, none⟩ = some (.int .i64 0) ∧ w.cell? ⟨g, 10, none⟩ = some (.int .i64 0)) ∧ (∀ o, w.frozen? ⟨g, o, none⟩ = false) :=
  ⟨⟨h.cell 0, h.cell 1, h.cell 2, h.cell 3, h.cell 4, h.cell 5, h.cell 6, h.cell 7, h.cell 8, h.cell 9, h.cell 10⟩, fun o => h.frozen o⟩
theorem trail_new (w : World) : Row (w.alloc (.cells #[.slice none 0 0, .int .i64 0, .int .i64 0, .bool false, .bool false, .bool false, .bool false, .bool false, .bool false, .int .i64 0, .int .i64 0] 70)) w.heap.size 70 (TR (.slice none 0 0) 0) := Row.new w _ _
theorem below_trail (w : World) : Below w.heap.size w (w.alloc (.cells #[.slice none 0 0, .int .i64 0, .int .i64 0, .bool false, .bool false, .bool false, .bool false, .bool false, .bool false, .int .i64 0, .int .i64 0] 70)) := (Below.refl _ _).alloc (Nat.le_refl _) _
theorem below_11 {B g : Nat} {w w' : World} {x0 x1 x2 x3 x4 x5 x6 x7 x8 x9 x10 : Value} (h : Below B w w') (hg : B ≤ g) :
    Below B w (((((((((((w'.setCell ⟨g, 0, none⟩ x0).setCell ⟨g, 1, none⟩ x1).setCell ⟨g, 2, none⟩ x2).setCell ⟨g, 3, none⟩ x3).setCell ⟨g, 4, none⟩ x4).setCell ⟨g, 5, none⟩ x5).setCell ⟨g, 6, none⟩ x6).setCell ⟨g, 7, none⟩ x7).setCell ⟨g, 8, none⟩ x8).setCell ⟨g, 9, none⟩ x9).setCell ⟨g, 10, none⟩ x10) :=
  ((((((((((h.setCell hg _).setCell hg _).setCell hg _).setCell hg _).setCell hg _).setCell hg _).setCell hg _).setCell hg _).setCell hg _).setCell hg _).setCell hg _
section
variable {w : World} {a b n : Nat} {T : TypeId} {ws : List Int}
set_option maxRecDepth 100000 in
set_option maxHeartbeats 800000 in
theorem follow_root (h : RamAt w a b T n ws) (root p : Int) (hi : inT n root 0 = false) : Calls Try.prog 23 #[.pointer (some ⟨a, 0, none⟩), .int .i64 root, .int .i64 p] w (Trail w ⟨3, 0, 0, [], 0⟩ p) := by
  have he := errT_out hi
  clear hi
  go_enter Try.func23, Try.ntmps23
  go_wp2
  go_step3
  go_wp2_with fail
  refine (wcheck_any (h.alloc _) _ _).mono ?_
  rw [he]
  rintro e w1 ⟨rfl, hw⟩
  have r1 : Row w1 w.heap.size 70 (TR (.slice none 0 0) 0) := hw ▸ trail_new w
  have B1 : Hid (Below w.heap.size w w1) := hw ▸ below_trail w
  obtain ⟨⟨c0, c1, c2, c3, c4, c5, c6, c7, c8, c9, c10⟩, hf⟩ := r1.trail
  clear hw r1 h he
  go_wp2_with fail
  rw [Exit.noGoto_ret]
  exact bodyPost_ret (v := .tuple #[.agg #[.slice none 0 0, .int .i64 0, .int .i64 0, .bool false, .bool false, .bool false, .bool false, .bool false, .bool false, .int .i64 0, .int .i64 0], .int .i64 3]) (by simp [results, Try.results23, go_sem, *]) rfl ⟨none, 0, 0, rfl, IntsAt.nil _ _ _, below_11 B1.out (Nat.le_refl _), fun g e => (by cases e), Nat.le_refl _⟩
set_option maxRecDepth 100000 in
set_option maxHeartbeats 800000 in
theorem follow_page (h : RamAt w a b T n ws) (root p : Int) (hi : inT n root 0 = true) (hp : ¬ (0 ≤ p ∧ p ≤ 4095)) : Calls Try.prog 23 #[.pointer (some ⟨a, 0, none⟩), .int .i64 root, .int .i64 p] w (Trail w ⟨3, 0, 0, [], 0⟩ p) := by
  have he := errT_in hi
  have hd := digits_any p
  have hdl : dgE p = 3 := by simp only [dgE, if_neg hp]
  rw [hdl] at hd
  clear hi hp hdl
  go_enter Try.func23, Try.ntmps23
  go_wp2
  go_step3
  go_wp2_with fail
  refine (wcheck_any (h.alloc _) _ _).mono ?_
  rw [he]
  rintro e w1 ⟨rfl, hw⟩
  have r1 : Row w1 w.heap.size 70 (TR (.slice none 0 0) 0) := hw ▸ trail_new w
  have B1 : Hid (Below w.heap.size w w1) := hw ▸ below_trail w
  clear hw h he
  go_wp2_with fail
  refine (hd _).mono ?_
  rintro e w2 ⟨A, m, c, rfl, -, hb⟩
  have B2 : Hid (Below w.heap.size w w2) := B1.out.trans (hb.mono B1.out.size)
  obtain ⟨⟨c0, c1, c2, c3, c4, c5, c6, c7, c8, c9, c10⟩, hf⟩ := (r1.below hb r1.lt).trail
  clear hb r1 B1 hd
  go_wp2_with fail
  rw [Exit.noGoto_ret]
  exact bodyPost_ret (v := .tuple #[.agg #[.slice none 0 0, .int .i64 0, .int .i64 0, .bool false, .bool false, .bool false, .bool false, .bool false, .bool false, .int .i64 0, .int .i64 0], .int .i64 3]) (by simp [results, Try.results23, go_sem, *]) rfl ⟨none, 0, 0, rfl, IntsAt.nil _ _ _, below_11 B2.out (Nat.le_refl _), fun g e => (by cases e), Nat.le_refl _⟩
end
end Go.Proofs.Ytpcpcgbejinlmaa
/- Leaves that are mapped, as the reference of package table lists them: plain facts, and how they lie in memory. -/
namespace Go.Proofs.Ytpcpcgbejinlmaa
open Go.RowKit
structure Mp where
  g : Int
  o : Int
  f : Int
  p : Bool
  w : Bool
  h : Bool
  k : Bool
  u : Bool
  d : Bool
def szO (o : Int) : Int := if o = 3 then 8 else if o = 6 then 64 else 1
structure MOk (m : Mp) : Prop where
  g0 : 0 ≤ m.g
  g1 : m.g ≤ 4095
  o : m.o = 0 ∨ m.o = 3 ∨ m.o = 6
  even : m.g % szO m.o = 0
  f0 : 0 ≤ m.f
  f1 : m.f + szO m.o ≤ 512
theorem szO_pos (o : Int) : 1 ≤ szO o ∧ szO o ≤ 64 := by unfold szO; split <;> (try split) <;> omega
def mcell (m : Mp) : List Value := [.int .i64 m.g, .int .i64 m.o, .int .i64 m.f, .bool m.p, .bool m.w, .bool m.h, .bool m.k, .bool m.u, .bool m.d]
def mcells : List Mp → List Value
  | [] => []
  | m :: r => mcell m ++ mcells r
theorem mcells_length (L : List Mp) : (mcells L).length = L.length * 9 := by
  induction L with
  | nil => rfl
  | cons m r ih => simp only [mcells, List.length_append, ih, List.length_cons, mcell, List.length_nil]; omega
theorem mcells_append (L M : List Mp) : mcells (L ++ M) = mcells L ++ mcells M := by
  induction L with
  | nil => rfl
  | cons m r ih => simp only [mcells, List.cons_append, ih, List.append_assoc]
theorem mcells_snoc (L : List Mp) (m : Mp) : mcells (L ++ [m]) = mcells L ++ mcell m := by rw [mcells_append]; simp [mcells]
theorem mcell_one (m : Mp) : ∀ u ∈ mcell m, u.oneCell' = true := by
  intro u hu; simp [mcell] at hu; rcases hu with rfl | rfl | rfl | rfl | rfl | rfl | rfl | rfl | rfl <;> rfl
theorem mcells_one (L : List Mp) : ∀ u ∈ mcells L, u.oneCell' = true := by
  induction L with
  | nil => intro u hu; cases hu
  | cons m r ih =>
    intro u hu
    simp only [mcells, List.mem_append] at hu
    rcases hu with hu | hu
    · exact mcell_one m u hu
    · exact ih u hu
theorem mcells_at : ∀ (L : List Mp) (j : Nat) (hj : j < L.length) (i : Nat), i < 9 → (mcells L)[j * 9 + i]? = (mcell L[j])[i]?
  | [], _, hj, _, _ => absurd hj (Nat.not_lt_zero _)
  | m :: r, 0, _, i, hi => by
    simp only [mcells, Nat.zero_mul, Nat.zero_add]
    rw [List.getElem?_append_left (by simp [mcell]; omega)]; rfl
  | m :: r, j + 1, hj, i, hi => by
    simp only [mcells]
    rw [List.getElem?_append_right (by simp [mcell]; omega), show (j + 1) * 9 + i - (mcell m).length = j * 9 + i by simp [mcell]; omega]
    have := mcells_at r j (by simpa using hj) i hi
    simpa using this
structure MpAt (w : World) (p : Addr) (m : Mp) : Prop where
  c0 : w.cell? p = some (.int .i64 m.g)
  c1 : w.cell? ⟨p.block, p.off + 1, none⟩ = some (.int .i64 m.o)
  c2 : w.cell? ⟨p.block, p.off + 2, none⟩ = some (.int .i64 m.f)
  c3 : w.cell? ⟨p.block, p.off + 3, none⟩ = some (.bool m.p)
  c4 : w.cell? ⟨p.block, p.off + 4, none⟩ = some (.bool m.w)
  c5 : w.cell? ⟨p.block, p.off + 5, none⟩ = some (.bool m.h)
  c6 : w.cell? ⟨p.block, p.off + 6, none⟩ = some (.bool m.k)
  c7 : w.cell? ⟨p.block, p.off + 7, none⟩ = some (.bool m.u)
  c8 : w.cell? ⟨p.block, p.off + 8, none⟩ = some (.bool m.d)
theorem add_offs (g j : Nat) (h : 0 < j) : (⟨g, 0, none⟩ : Addr).add j = ⟨g, j, none⟩ := by unfold Addr.add; rw [if_neg (by omega)]; simp
def Ms (w : World) (C : Nat) (v : Value) (L : List Mp) : Prop := w.ownsRow C 94 9 v L.length (mcells L)
theorem info_mapped : (Try.prog.info? 94).map (fun i => (i.zero, i.size, i.bytes)) = some (some (.agg #[.int .i64 0, .int .i64 0, .int .i64 0, .bool false, .bool false, .bool false, .bool false, .bool false, .bool false]), 9, 32) := by kernel_rfl
section
variable {w w' : World} {C : Nat} {v : Value} {L : List Mp}
theorem Ms.nil (w : World) (C : Nat) : Ms w C (.slice none 0 0) [] := World.ownsRow_nil _ _ _ _
theorem Ms.form (h : Ms w C v L) : ∃ A c, v = .slice A L.length c := own_form h
theorem Ms.call (h : Ms w C v L) (hb : Below w.heap.size w w') : Ms w' C v L := own_call h hb
theorem Ms.base {D : Nat} (h : Ms w C v L) (hD : D ≤ C) : Ms w D v L := ⟨h.1, by
  rcases h.2 with hn | ⟨g, cap, cur, e, hb, r⟩
  · exact Or.inl hn
  · exact Or.inr ⟨g, cap, cur, e, Nat.le_trans hD hb, r⟩⟩
theorem Ms.at_ {A : Option Addr} {c : Nat} (h : Ms w C (.slice A L.length c) L) (j : Nat) (hj : j < L.length) : ∃ a, A = some a ∧ a.block < w.heap.size ∧ C ≤ a.block ∧ MpAt w (a.add (j * 9)) L[j] := by
  obtain ⟨g, rfl⟩ : ∃ g, A = some ⟨g, 0, none⟩ := by
    rcases h.2 with ⟨_, h2⟩ | ⟨g, cap, cur, h1, _⟩
    · omega
    · injection h1 with h1; exact ⟨g, h1⟩
  have hlt := h.lt g rfl
  have k : ∀ i, i < 9 → w.cell? ⟨g, j * 9 + i, none⟩ = (mcell L[j])[i]? := fun i hi => by
    rw [← mcells_at L j hj i hi, ← h.cellAt (j * 9 + i) (by omega)]
  refine ⟨_, rfl, hlt.2, hlt.1, ?_⟩
  by_cases h0 : j = 0
  · subst h0
    exact ⟨k 0 (by omega), k 1 (by omega), k 2 (by omega), k 3 (by omega), k 4 (by omega), k 5 (by omega), k 6 (by omega), k 7 (by omega), k 8 (by omega)⟩
  · rw [add_offs g (j * 9) (by omega)]
    exact ⟨k 0 (by omega), k 1 (by omega), k 2 (by omega), k 3 (by omega), k 4 (by omega), k 5 (by omega), k 6 (by omega), k 7 (by omega), k 8 (by omega)⟩
theorem Ms.app (h : Ms w C v L) (hC : C ≤ w.heap.size) (hL : L.length ≤ 100000) (m : Mp) : ∃ A c w3,
    (Builtin.append_ #[53, 53] 53 #[v, .slice (some ⟨w.heap.size, 0, none⟩) 1 1]).run Try.prog (w.alloc (.cells (mcell m).toArray 94)) = .ok (.slice A (L.length + 1) c) w3 ∧
    Ms w3 C (.slice A (L.length + 1) c) (L ++ [m]) ∧ w.grownBy w3 v.ownBlock := by
  obtain ⟨i0, hi0, hz0, hz1, hz2⟩ := info_parts info_mapped
  have ho : (w.alloc (.cells (mcell m).toArray 94)).ownsRow C _ 9 v L.length (mcells L) := World.ownsRow.alloc h (.cells (mcell m).toArray 94)
  have hnew : ∀ (i : Nat) (u : Value), (mcell m)[i]? = some u → (w.alloc (.cells (mcell m).toArray 94)).cell? ((⟨w.heap.size, 0, none⟩ : Addr).add i) = some u := fun i u hu => by
    rw [add_zero_off, (Row.new w _ (mcell m)).cell]; exact hu
  obtain ⟨v1, W1, r1, o1, g1, -, t1⟩ := run_append_own_at (P := Try.prog) (w := w.alloc (.cells (mcell m).toArray 94)) C 53 53 94 i0 _ 9 32 Try.underlying53 hi0 hz0 hz1 hz2 rfl (by decide) v L.length _ ho ⟨w.heap.size, 0, none⟩ 1 1 (mcell m) rfl hnew (mcell_one m) (by unfold maxLen; omega) (by omega) (by simp; omega)
  obtain ⟨A, c, hv⟩ := own_form o1
  subst hv
  refine ⟨A, c, W1, r1, ?_, ?_⟩
  · unfold Ms
    rw [List.length_append, mcells_snoc]
    exact o1
  · have : w.grownBy (w.alloc (.cells (mcell m).toArray 94)) v.ownBlock := ⟨rfl, rfl, rfl, by simp, fun i hi _ => Below.heap_alloc w _ i hi⟩
    exact this.trans g1
end
end Go.Proofs.Ytpcpcgbejinlmaa
