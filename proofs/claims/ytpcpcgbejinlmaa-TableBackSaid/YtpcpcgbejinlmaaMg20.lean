/- The state of package table as it lies in memory: the set of its roots, its struct, the memory, the bag; what a call may turn. -/
import Derived.Test.YtpcpcgbejinlmaaMg17
import Derived.Test.YtpcpcgbejinlmaaMg19
import Derived.Maps.OwnSet
import Derived.Test.YtpcpcgbejinlmaaMg13
import Derived.Deep.RegionHeld3
namespace Go.Proofs.Ytpcpcgbejinlmaa
open Go.RowKit
theorem keyLaw : Go.Maps.Keyed Try.prog 3 := Go.Maps.int_keyed (q := .i64) (by kernel_rfl)
theorem intT : Try.prog.underlying 3 = some (.int .i64) := by kernel_rfl
theorem setT : Try.prog.underlying 88 = some (.map 3 103) := by kernel_rfl
theorem zeroU (w : World) : (zeroValue 103).run Try.prog w = .ok (.agg #[]) w := by kernel_rfl
theorem i64_wf {n : Int} (h : -9223372036854775808 ≤ n ∧ n ≤ 9223372036854775807) : (Lit.int .i64 n).wf = true := WalkArith.wf_i64 h
def Fits (n : Int) : Prop := -9223372036854775808 ≤ n ∧ n ≤ 9223372036854775807
theorem keyOf_int {f : Int} (hf : Fits f) : keyOf Try.prog 3 (.int .i64 f) = some (.int .i64 f) := Go.Maps.keyOf_int_mk intT (i64_wf hf)
theorem lit_ne {f g : Int} (h : g ≠ f) : (Lit.int .i64 g) ≠ (Lit.int .i64 f) := fun e => h (by injection e)
def SetIs (w : World) (b : Nat) (R : List Int) : Prop :=
  ∃ D : DataW Unit, w.ownsMap Try.prog 3 unitElem b R.length D ∧ R.Nodup ∧ Go.Maps.size D = R.length ∧ ∀ f, Fits f → Go.Maps.has D (.int .i64 f) = decide (f ∈ R)
section
variable {w w' : World} {b : Nat} {R : List Int}
theorem SetIs.heap (h : SetIs w b R) (hk : w'.heap[b]? = w.heap[b]?) : SetIs w' b R := by
  obtain ⟨D, ⟨es, clock, hb, r⟩, h2⟩ := h
  exact ⟨D, ⟨es, clock, hk.trans hb, r⟩, h2⟩
theorem SetIs.lt (h : SetIs w b R) : b < w.heap.size := by obtain ⟨D, h1, _⟩ := h; exact h1.lt
theorem SetIs.apart (h : SetIs w b R) {g : Nat} {t : TypeId} {vs : Array Value} {p : Nat × Nat} (r : w.heap[g]? = some (.cells vs t p)) : g ≠ b := by
  obtain ⟨D, ⟨es, clock, hb, _⟩, _⟩ := h
  rintro rfl
  rw [r] at hb
  cases hb
theorem SetIs.new (w : World) : SetIs (w.alloc (.map #[] 0)) w.heap.size [] :=
  ⟨.map [], World.ownsMap_made _ _ _ _, List.nodup_nil, rfl, fun _ _ => by simp [Go.Maps.has]⟩
theorem SetIs.look (h : SetIs w b R) {f : Int} (hf : Fits f) : (Instr.lookup 88 (.map (some b)) (.int .i64 f) true).run Try.prog w = .ok (.tuple #[.agg #[], .bool (decide (f ∈ R))]) w := by
  obtain ⟨D, h1, -, -, h3⟩ := h
  obtain ⟨v, ps, hr, hv⟩ := h1.look_ok keyLaw setT (zeroU w) unitElem_mk (keyOf_int hf)
  obtain ⟨rfl, -⟩ := unitElem_inv hv
  rw [hr, h3 f hf]
theorem SetIs.put (h : SetIs w b R) (hn : R.length < 1000000) {f : Int} (hf : Fits f) (hR : f ∉ R) : ∃ w', (Instr.mapUpdate 88 (.map (some b)) (.int .i64 f) (.agg #[])).run Try.prog w = .ok () w' ∧ w.grownBy w' (some b) ∧ SetIs w' b (f :: R) := by
  obtain ⟨D, h1, hd, h2, h3⟩ := h
  obtain ⟨w', hr, g1, g2⟩ := h1.store keyLaw setT (by unfold maxLen; omega) (keyOf_int hf) (unitElem_mk (H := Unit))
  have hT := h1.tidy keyLaw
  have hs := Go.Maps.size_put (k := .int .i64 f) hT (.agg [])
  have hK : WideAt.IsKeyLit (.int .i64 f) := trivial
  have hno : Go.Maps.has D (.int .i64 f) = false := by rw [h3 f hf]; simpa using hR
  rw [hno, h2] at hs
  refine ⟨w', hr, g2.grown, D.put (.int .i64 f) (.agg []), g1, List.nodup_cons.2 ⟨hR, hd⟩, by simpa using hs, fun g hg => ?_⟩
  by_cases e : g = f
  · subst e
    rw [Go.Maps.has_put_same h1.isMap hK]; simp
  · rw [Go.Maps.has_put_other (lit_ne e), h3 g hg]; simp [e]
theorem SetIs.drop (h : SetIs w b R) {f : Int} (hf : Fits f) (hR : f ∈ R) (ty : TypeId) : ∃ w', (Builtin.delete_ #[88, 3] ty #[.map (some b), .int .i64 f]).run Try.prog w = .ok (.tuple #[]) w' ∧ w.grownBy w' (some b) ∧ SetIs w' b (R.erase f) := by
  obtain ⟨D, h1, hd, h2, h3⟩ := h
  obtain ⟨w', hr, g1, g2⟩ := h1.drop keyLaw setT (keyOf_int hf) ty
  have hT := h1.tidy keyLaw
  have hs := Go.Maps.size_del (k := .int .i64 f) hT
  have hyes : Go.Maps.has D (.int .i64 f) = true := by rw [h3 f hf]; simpa using hR
  rw [hyes, h2] at hs
  have hl := List.length_erase_of_mem hR
  have hpos := List.length_pos_of_mem hR
  have hs' : Go.Maps.size (D.del (.int .i64 f)) = (R.erase f).length := by simp at hs; omega
  refine ⟨w', hr, g2.grown, D.del (.int .i64 f), ?_, hd.erase f, hs', fun g hg => ?_⟩
  · obtain ⟨es, clock, e1, e2, e3, e4⟩ := g1
    refine ⟨es, clock, e1, e2, ?_, e4⟩
    have e5 : es.size = Go.Maps.size (D.del (.int .i64 f)) := by rw [e4]; simp [Go.Maps.size, length_sorted]
    rw [e5, hs']
    exact Nat.le_refl _
  · by_cases e : g = f
    · subst e
      rw [Go.Maps.has_del_same]
      have : g ∉ R.erase g := fun hm => by rw [hd.mem_erase_iff] at hm; exact hm.1 rfl
      simpa using this
    · rw [Go.Maps.has_del_other (lit_ne e), h3 g hg]
      have : g ∈ R.erase f ↔ g ∈ R := by rw [hd.mem_erase_iff]; exact ⟨fun h => h.2, fun h => ⟨e, h⟩⟩
      simp [this]
end
structure Foot (X : Nat → Prop) (w w' : World) : Prop where
  os : w'.os = w.os
  tape : w'.tape = w.tape
  output : w'.output = w.output
  size : w.heap.size ≤ w'.heap.size
  keep : ∀ k, k < w.heap.size → ¬ X k → w'.heap[k]? = w.heap[k]?
section
variable {w w' w'' : World} {X Y : Nat → Prop} {g : Nat} {t : TypeId} {vs : List Value}
theorem Foot.refl (X : Nat → Prop) (w : World) : Foot X w w := ⟨rfl, rfl, rfl, Nat.le_refl _, fun _ _ _ => rfl⟩
theorem Foot.trans (h : Foot X w w') (k : Foot Y w' w'') (hy : ∀ b, Y b → b < w.heap.size → X b) : Foot X w w'' :=
  ⟨k.os.trans h.os, k.tape.trans h.tape, k.output.trans h.output, Nat.le_trans h.size k.size, fun i hi hx => (k.keep i (Nat.lt_of_lt_of_le hi h.size) (fun e => hx (hy i e hi))).trans (h.keep i hi hx)⟩
theorem Foot.of_below (h : Below w.heap.size w w') : Foot X w w' := ⟨h.os, h.tape, h.output, h.size, fun k hk _ => h.block k hk⟩
theorem Foot.grown {b : Nat} (h : w.grownBy w' (some b)) (hx : X b) : Foot X w w' := ⟨h.os, h.tape, h.output, h.size, fun k hk hn => h.block k hk (by intro e; injection e with e; subst e; exact hn hx)⟩
theorem Foot.row (h : Foot X w w') (r : Row w g t vs) (hx : ¬ X g) : Row w' g t vs := (h.keep g r.lt hx).trans r
theorem Foot.below {B : Nat} (h : Foot X w w') (hB : B ≤ w.heap.size) (hx : ∀ b, X b → B ≤ b) : Below B w w' := ⟨h.os, h.tape, h.output, h.size, fun k hk => h.keep k (by omega) (fun e => by have := hx k e; omega)⟩
theorem Foot.mono (h : Foot X w w') (hy : ∀ b, X b → Y b) : Foot Y w w' := ⟨h.os, h.tape, h.output, h.size, fun k hk hn => h.keep k hk (fun e => hn (hy k e))⟩
end
structure Seat where
  a : Nat
  b : Nat
  x : Nat
  m : Nat
  y : Nat
  C : Nat
def bagV (s : Seat) : Value := .iface 36 (.pointer (some ⟨s.y, 0, none⟩))
structure Tab (w : World) (s : Seat) (v : Value) (ws L R : List Int) : Prop where
  ram : RamAt w s.a s.b 102 4096 ws
  bag : BagAt w s.C s.y v L
  top : Row w s.x 90 [.pointer (some ⟨s.a, 0, none⟩), bagV s, .map (some s.m)]
  set : SetIs w s.m R
  yC : s.y < s.C
  Cw : s.C ≤ w.heap.size
def Mine (s : Seat) (v : Value) (k : Nat) : Prop := k = s.b ∨ k = s.y ∨ k = s.m ∨ v.ownBlock = some k
structure Mv (s : Seat) (v : Value) (w : World) (v' : Value) (w' : World) : Prop where
  foot : Foot (Mine s v) w w'
  own : ∀ g, v'.ownBlock = some g → v.ownBlock = some g ∨ w.heap.size ≤ g
section
variable {w w' w'' : World} {s : Seat} {v v' v'' : Value} {ws L R : List Int} {g : Nat} {t : TypeId} {vs : List Value}
theorem Mv.refl (s : Seat) (v : Value) (w : World) : Mv s v w v w := ⟨Foot.refl _ _, fun _ h => Or.inl h⟩
theorem Mv.back (h : Mv s v w v' w') {k : Nat} (hk : k < w.heap.size) (hx : Mine s v' k) : Mine s v k := by
  rcases hx with e | e | e | e
  · exact Or.inl e
  · exact Or.inr (Or.inl e)
  · exact Or.inr (Or.inr (Or.inl e))
  · rcases h.own k e with e | e
    · exact Or.inr (Or.inr (Or.inr e))
    · omega
theorem Mv.trans (h : Mv s v w v' w') (k : Mv s v' w' v'' w'') : Mv s v w v'' w'' :=
  ⟨h.foot.trans k.foot fun b hb hl => h.back hl hb, fun g hg => by
    rcases k.own g hg with e | e
    · exact h.own g e
    · exact Or.inr (Nat.le_trans h.foot.size e)⟩
theorem Mv.of_below (h : Below w.heap.size w w') : Mv s v w v w' := ⟨Foot.of_below h, fun _ h => Or.inl h⟩
theorem Mv.size (h : Mv s v w v' w') : w.heap.size ≤ w'.heap.size := h.foot.size
theorem Mv.turned {k : Nat} (h : w.grownBy w' (some k)) (hk : Mine s v k) : Mv s v w v w' := ⟨Foot.grown h hk, fun _ h => Or.inl h⟩
theorem Mv.cell (h : Mv s v w v' w') {p : Addr} (hp : p.block < w.heap.size) (hx : ¬ Mine s v p.block) : w'.cell? p = w.cell? p := World.cell?_of_block (h.foot.keep _ hp hx)
theorem Tab.call (h : Tab w s v ws L R) (hb : Below w.heap.size w w') : Tab w' s v ws L R :=
  ⟨h.ram.below hb h.ram.top.lt h.ram.row.lt, h.bag.call hb, h.top.below hb h.top.lt, h.set.heap (hb.block _ h.set.lt), h.yC, Nat.le_trans h.Cw hb.size⟩
theorem Tab.own (h : Tab w s v ws L R) {g : Nat} (hg : v.ownBlock = some g) : s.C ≤ g ∧ g < w.heap.size ∧ ∃ cur, w.heap[g]? = some (.cells cur 3 (0, 0)) := by
  have hl := h.bag.row.lt g hg
  refine ⟨hl.1, hl.2, ?_⟩
  rcases h.bag.row.2 with ⟨h1, _⟩ | ⟨g', cap, cur, h1, _, h3, _⟩
  · rw [h1] at hg; cases hg
  · rw [h1] at hg; injection hg with hg; subst hg; exact ⟨cur, h3⟩
theorem Tab.mine_lt (h : Tab w s v ws L R) {k : Nat} (hk : Mine s v k) : k < w.heap.size := by
  rcases hk with rfl | rfl | rfl | e
  · exact h.ram.row.lt
  · exact h.bag.top.lt
  · exact h.set.lt
  · exact (h.own e).2.1
theorem Tab.apart (h : Tab w s v ws L R) (r : Row w g t vs) (h1 : t ≠ 127) (h2 : t ≠ 46) (h3 : t ≠ 3) : ¬ Mine s v g := by
  rintro (e | e | e | e)
  · exact r.apart h.ram.row h1 e
  · exact r.apart h.bag.top h2 e
  · exact h.set.apart r e
  · obtain ⟨-, -, cur, hc⟩ := h.own e
    unfold Row at r
    rw [r] at hc
    injection hc with hc
    injection hc with _ hc
    exact h3 hc
theorem Tab.row (h : Tab w s v ws L R) (m : Mv s v w v' w') (r : Row w g t vs) (h1 : t ≠ 127) (h2 : t ≠ 46) (h3 : t ≠ 3) : Row w' g t vs := m.foot.row r (h.apart r h1 h2 h3)
theorem Tab.fresh (h : Tab w s v ws L R) (hg : w.heap.size ≤ g) : ¬ Mine s v g := fun e => by have := h.mine_lt e; omega
theorem Tab.below {B : Nat} (h : Tab w s v ws L R) (m : Mv s v w v' w') (hB : B ≤ w.heap.size) (hb : B ≤ s.b) (hy : B ≤ s.y) (hm : B ≤ s.m) : Below B w w' := m.foot.below hB fun k hk => by
  rcases hk with rfl | rfl | rfl | e
  · exact hb
  · exact hy
  · exact hm
  · have := (h.own e).1; have := h.yC; omega
structure Loc (w : World) (s : Seat) (v : Value) (A : Option Addr) (n : Nat) (l : List Int) : Prop where
  ints : IntsAt w w.heap.size A n l
  off : 0 < n → ∀ a, A = some a → ¬ Mine s v a.block
theorem Loc.nil (w : World) (s : Seat) (v : Value) (A : Option Addr) : Loc w s v A 0 [] := ⟨IntsAt.nil _ _ _, fun h => absurd h (Nat.lt_irrefl 0)⟩
theorem Loc.mv {A : Option Addr} {n : Nat} {l : List Int} (h : Loc w s v A n l) (m : Mv s v w v' w') : Loc w' s v' A n l := by
  refine ⟨⟨h.ints.len, fun h0 => ?_⟩, fun h0 a e hx => ?_⟩
  · obtain ⟨a, rfl, ha, hc⟩ := h.ints.at_ h0
    refine ⟨a, rfl, Nat.lt_of_lt_of_le ha m.size, fun j hj => ?_⟩
    have hb : (a.add j).block = a.block := by unfold Addr.add; split <;> rfl
    rw [m.cell (by rw [hb]; exact ha) (by rw [hb]; exact h.off h0 a rfl)]
    exact hc j hj
  · obtain ⟨a', e', ha, -⟩ := h.ints.at_ h0
    obtain rfl : a' = a := by rw [e] at e'; injection e' with e'; exact e'.symm
    exact h.off h0 a' e (m.back ha hx)
theorem Loc.new (h : Tab w s v ws L R) {A : Option Addr} {n : Nat} {l : List Int} (hi : IntsAt w' w'.heap.size A n l) (hn : ∀ g, A = some g → w.heap.size ≤ g.block) : Loc w' s v A n l :=
  ⟨hi, fun _ a e => h.fresh (hn a e)⟩
theorem Loc.cell {A : Option Addr} {n : Nat} {l : List Int} (h : Loc w s v A n l) {j : Nat} (hj : j < n) : ∃ a, A = some a ∧ a.block < w.heap.size ∧ w.cell? (a.add j) = some (.int .i64 (l.getD j 0)) := h.ints.cell hj
end
end Go.Proofs.Ytpcpcgbejinlmaa
/- The contracts of package table's checks. -/
namespace Go.Proofs.Ytpcpcgbejinlmaa
open Go.RowKit
def rtE (R : List Int) (r : Int) : Int := if r ∈ R then 0 else 3
section
variable {w : World} {s : Seat} {v : Value} {ws L R : List Int}
theorem Tab.cells (h : Tab w s v ws L R) : w.cell? ⟨s.x, 0, none⟩ = some (.pointer (some ⟨s.a, 0, none⟩)) ∧ w.cell? ⟨s.x, 1, none⟩ = some (bagV s) ∧ w.cell? ⟨s.x, 2, none⟩ = some (.map (some s.m)) :=
  ⟨h.top.cell 0, h.top.cell 1, h.top.cell 2⟩
theorem checkRoot_any (h : Tab w s v ws L R) (r : Int) (hr : Fits r) : Calls Try.prog 24 #[.pointer (some ⟨s.x, 0, none⟩), .int .i64 r] w fun e w' => e = .returned (.int .i64 (rtE R r)) ∧ Below w.heap.size w w' := by
  obtain ⟨-, -, hc⟩ := h.cells
  have hl := h.set.look hr
  unfold rtE
  clear h hr
  by_cases hm : r ∈ R
  · rw [if_pos hm]
    have hd : decide (r ∈ R) = true := by simpa using hm
    rw [hd] at hl
    clear hm hd
    go_enter Try.func24, Try.ntmps24
    go_wp2
    go_ret
    exact ⟨rfl, (Below.refl _ _).alloc (Nat.le_refl _) _⟩
  · rw [if_neg hm]
    have hd : decide (r ∈ R) = false := by simpa using hm
    rw [hd] at hl
    clear hm hd
    go_enter Try.func24, Try.ntmps24
    go_wp2
    go_ret
    exact ⟨rfl, (Below.refl _ _).alloc (Nat.le_refl _) _⟩
end
def tto (o : Int) : Int := 4 - o / 3
theorem tablesTo_any {o : Int} (ho : o = 0 ∨ o = 3 ∨ o = 6) (w : World) : Calls Try.prog 41 #[.int .i64 o] w fun e w' => e = .returned (.int .i64 (tto o)) ∧ w = w' := by
  rcases ho with rfl | rfl | rfl
  all_goals
    go_enter Try.func41, Try.ntmps41
    go_wp2
    go_ret
    exact ⟨rfl, rfl⟩
def frE (f o : Int) : Int := if 0 ≤ f ∧ f + szO o ≤ 512 then 0 else 3
section
variable {w : World} {s : Seat} {v : Value} {ws L R : List Int}
theorem checkFrames_at (h : Tab w s v ws L R) (f o : Int) (ho : o = 0 ∨ o = 3 ∨ o = 6) : Calls Try.prog 48 #[.pointer (some ⟨s.x, 0, none⟩), .int .i64 f, .int .i64 o] w fun e w' => e = .returned (.int .i64 (frE f o)) ∧ ∃ n, w' = w.drewN n := by
  obtain ⟨hc, -, -⟩ := h.cells
  have hF : ∀ n : Nat, Calls Try.prog 65 #[.pointer (some ⟨s.a, 0, none⟩)] (w.drewN n) fun e w' => e = .returned (.int .i64 512) ∧ w' = w.drewN n := fun n => (frames_any (w := w.drewN n) (h.ram.drewN n)).mono fun _ _ k => ⟨by rw [k.1]; rfl, k.2.symm⟩
  clear h
  unfold frE
  by_cases h0 : f < 0
  · rw [if_neg (by omega)]
    have d0 : decide (f < 0) = true := by simpa using h0
    clear h0
    go_enter Try.func48, Try.ntmps48
    go_wp2
    go_quiet (fail)
    go_wp2
    go_ret
    exact ⟨rfl, _, rfl⟩
  · have d0 : decide (f < 0) = false := by simpa using h0
    have h0' : 0 ≤ f := by omega
    clear h0
    rcases ho with rfl | rfl | rfl
    · by_cases h1 : 511 < f
      · rw [if_neg (by simp [szO]; omega)]
        have d1 : decide (511 < f) = true := by simpa using h1
        clear h1
        go_enter Try.func48, Try.ntmps48
        go_wp2
        go_quiet ((go_at_call 65; exact Calls.quiet_of_same (hF _)))
        go_wp2
        go_ret
        exact ⟨rfl, _, rfl⟩
      · rw [if_pos (by simp [szO]; omega)]
        have d1 : decide (511 < f) = false := by simpa using h1
        clear h1
        go_enter Try.func48, Try.ntmps48
        go_wp2
        go_quiet ((go_at_call 65; exact Calls.quiet_of_same (hF _)))
        go_wp2
        go_ret
        exact ⟨rfl, _, rfl⟩
    · by_cases h1 : 504 < f
      · rw [if_neg (by simp [szO]; omega)]
        have d1 : decide (504 < f) = true := by simpa using h1
        clear h1
        go_enter Try.func48, Try.ntmps48
        go_wp2
        go_quiet ((go_at_call 65; exact Calls.quiet_of_same (hF _)))
        go_wp2
        go_ret
        exact ⟨rfl, _, rfl⟩
      · rw [if_pos (by simp [szO]; omega)]
        have d1 : decide (504 < f) = false := by simpa using h1
        clear h1
        go_enter Try.func48, Try.ntmps48
        go_wp2
        go_quiet ((go_at_call 65; exact Calls.quiet_of_same (hF _)))
        go_wp2
        go_ret
        exact ⟨rfl, _, rfl⟩
    · by_cases h1 : 448 < f
      · rw [if_neg (by simp [szO]; omega)]
        have d1 : decide (448 < f) = true := by simpa using h1
        clear h1
        go_enter Try.func48, Try.ntmps48
        go_wp2
        go_quiet ((go_at_call 65; exact Calls.quiet_of_same (hF _)))
        go_wp2
        go_ret
        exact ⟨rfl, _, rfl⟩
      · rw [if_pos (by simp [szO]; omega)]
        have d1 : decide (448 < f) = false := by simpa using h1
        clear h1
        go_enter Try.func48, Try.ntmps48
        go_wp2
        go_quiet ((go_at_call 65; exact Calls.quiet_of_same (hF _)))
        go_wp2
        go_ret
        exact ⟨rfl, _, rfl⟩
end
end Go.Proofs.Ytpcpcgbejinlmaa
