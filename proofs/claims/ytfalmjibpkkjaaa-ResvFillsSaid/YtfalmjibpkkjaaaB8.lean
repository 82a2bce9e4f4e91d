/- The keys of all reservations in a slice of one's own. -/
import Derived.Test.YtfalmjibpkkjaaaB7
namespace Go.Proofs.Ytfalmjibpkkjaaa
open Go.RowKit Go.Maps Go.Sort Go.Shelf
def asnK : Code := (Code.region 2 #[{ dst := some 5, op := Op.alloc 66, type := 0, pos := "iter.go:51", after := #[], guard := none }, { dst := none, op := Op.store 66 (Operand.tmp 5) (Operand.tmp 7), type := 0, pos := "iter.go:51", after := #[{ on := 0, ground := Ground.data }, { on := 0, ground := Ground.phase }], guard := none }] false)
def bodK : Code := (Code.block 1 (Code.region 3 #[{ dst := some 8, op := Op.load 63 (Operand.tmp 2), type := 63, pos := "iter.go:52", after := #[], guard := none }, { dst := some 9, op := Op.load 66 (Operand.tmp 5), type := 66, pos := "iter.go:52", after := #[], guard := none }, { dst := some 10, op := Op.buildSlice 63 1 #[(0, Operand.tmp 9)], type := 63, pos := "iter.go:52", after := #[{ on := 1, ground := Ground.data }], guard := none }, { dst := some 11, op := Op.call { callee := Callee.builtin Builtin.append, args := #[Operand.tmp 8, Operand.tmp 10], argTypes := #[63, 63] }, type := 63, pos := "iter.go:52", after := #[{ on := 0, ground := Ground.data }, { on := 2, ground := Ground.data }], guard := none }, { dst := none, op := Op.store 63 (Operand.tmp 2) (Operand.tmp 11), type := 0, pos := "iter.go:52", after := #[{ on := 3, ground := Ground.data }, { on := 3, ground := Ground.chain }, { on := 0, ground := Ground.phase }, { on := 1, ground := Ground.phase }, { on := 2, ground := Ground.phase }, { on := 3, ground := Ground.phase }], guard := none }] false))
def recK (fn : FuncId) (sv : Value) (Bs D : Nat) (st : LoopState) (pend : Option Code) : Loop :=
  { state := st, pending := pend, fn, tmps := #[.slice none 0 0, sv, .pointer (some ⟨Bs, 0, none⟩), undef, .slice none 0 0, undef, sv, undef, undef, undef, undef, undef, undef], params := #[7], assign := asnK, body := bodK, defers := D }
/-- Between two rounds: the box holds a slice of what has come so far. -/
structure SoFar (w0 : World) (fn : FuncId) (sv : Value) (Bs l D : Nat) (ss : List (Int × Int)) (W : World) : Prop where
  box : ∃ v, Lrow W Bs 63 [v] ∧ EK.Own w0.heap.size W v ss
  L : W.heap[l]? = some (.loop (recK fn sv Bs D .ready none))
  K : W.heap[D]? = some (.deferred (some []))
  below : Below w0.heap.size w0 W
theorem not_own {w : World} {B : Nat} {v : Value} {ss : List (Int × Int)} (h : EK.Own B w v ss) {j : Nat} {o : Obj} (hj : w.heap[j]? = some o) (ho : ∀ cs, o ≠ .cells cs 66 (0, 0)) : v.ownBlock ≠ some j := fun e => by
  obtain ⟨vs, r, _⟩ := h.block e
  unfold Lrow at r
  rw [hj] at r
  injection r with r
  exact ho _ r
theorem SoFar.abides (w0 : World) (fn : FuncId) (sv : Value) (Bs l D B : Nat) (hB : w0.heap.size ≤ B) : AbidesFrom B (SoFar w0 fn sv Bs l D) := fun s W W' row h hg hrow => by
  have hrow' : ∀ r, row = some r → ∃ o : Obj, W.heap[r]? = some o ∧ o.isWalk = true := fun r e => (hrow r e).2
  obtain ⟨v, hv, hr⟩ := h.box
  refine ⟨⟨v, (grownBy_keeps hg hrow' hv rfl).trans hv, hr.heap fun g e => ?_⟩, (grownBy_keeps hg hrow' h.L rfl).trans h.L, (grownBy_keeps hg hrow' h.K rfl).trans h.K,
    h.below.grown hg h.below.size (fun k e => Nat.le_trans hB (hrow k e).1)⟩
  obtain ⟨vs, r, _⟩ := hr.block e
  exact grownBy_keeps hg hrow' r rfl
set_option maxRecDepth 100000 in
set_option maxHeartbeats 2000000 in
theorem SoFar.yield (F : Fence) (m : Nat) (w0 : World) (fn : FuncId) (hfn : F.fn fn) (sv : Value) (Bs l D : Nat) (hBl : Bs ≠ l) (hDl : D ≠ l) (hDB : D ≠ Bs) (h0B : w0.heap.size ≤ Bs) (h0l : w0.heap.size ≤ l)
    (N : Nat) (hN : N ≤ 10000) (ss : List (Int × Int)) (x : Int × Int) (W : World) (h : SoFar w0 fn sv Bs l D ss W) (hlen : ss.length < N) :
    YieldAt F m Try.prog l #[kvK x] W fun e W' => e = .returned (.bool true) ∧ SoFar w0 fn sv Bs l D (ss ++ [x]) W' ∧ KeepsWalks W W' := by
  obtain ⟨v, hv, hrow⟩ := h.box
  refine ⟨fn, #[.slice none 0 0, sv, .pointer (some ⟨Bs, 0, none⟩), undef, .slice none 0 0, undef, sv, kvK x, undef, undef, undef, undef, undef], asnK, bodK, by simpa [recK] using run_yield (P := Try.prog) (args := #[kvK x]) h.L rfl, roundIn_of_wpIn hfn ?_⟩
  have hl : l < W.heap.size := (Array.getElem?_eq_some_iff.1 h.L).1
  obtain ⟨x1, x2⟩ := x
  obtain ⟨W1, hW1⟩ : ∃ W1, W1 = W.alloc (.cells #[.int .i64 x1, .int .i64 x2] 66) := ⟨_, rfl⟩
  obtain ⟨xb, hxb⟩ : ∃ xb, xb = W.heap.size := ⟨_, rfl⟩
  have b1 : Below W.heap.size W W1 := by rw [hW1]; exact below_new _ _
  have rx1 : Lrow W1 xb 66 [.int .i64 x1, .int .i64 x2] := by rw [hW1, hxb]; exact Lrow.new W _ _
  have hL1 : W1.heap[l]? = some (.loop (recK fn sv Bs D .ready none)) := (b1.block l hl).trans h.L
  have hK1 : W1.heap[D]? = some (.deferred (some [])) := (b1.block D (Array.getElem?_eq_some_iff.1 h.K).1).trans h.K
  have hv1 := hv.call b1
  have hrow1 := hrow.call b1
  have hbr := run_beginRound (P := Try.prog) hL1 rfl
  obtain ⟨W2, hW2⟩ : ∃ W2, W1.putObj l (.loop { recK fn sv Bs D .ready none with state := .busy }) = W2 := ⟨_, rfl⟩
  rw [hW2] at hbr
  have hg2 : W1.grownBy W2 (some l) := by rw [← hW2]; exact grownBy_putObj_a _ _ _
  have hk2 : KeepsWalks W W2 := (by rw [hW1]; exact KeepsWalks.alloc _ _ : KeepsWalks W W1).trans (by rw [← hW2]; exact KeepsWalks.putObj _ hL1 rfl)
  have k2 : ∀ k, k ≠ l → W2.heap[k]? = W1.heap[k]? := fun k hk => by rw [← hW2]; exact World.putObj_heap_other hk
  have hv2 : Lrow W2 Bs 63 [v] := (k2 _ hBl).trans hv1
  have rx2 : Lrow W2 xb 66 [.int .i64 x1, .int .i64 x2] := (k2 _ (by omega)).trans rx1
  have hK2 : W2.heap[D]? = some (.deferred (some [])) := (k2 _ hDl).trans hK1
  have hL2 : W2.heap[l]? = some (.loop { recK fn sv Bs D .ready none with state := .busy }) := by rw [← hW2]; exact World.putObj_heap_same (Nat.lt_of_lt_of_le hl b1.size)
  have hrow2 : EK.Own w0.heap.size W2 v ss := hrow1.heap fun g e => k2 g fun e' => not_own hrow1 hL1 (fun cs k => by cases k) (by rw [e, e'])
  have hb2 : Below w0.heap.size w0 W2 := (h.below.trans (b1.mono h.below.size)).grown hg2 (Nat.le_trans h.below.size b1.size) (fun k e => by cases e; exact h0l)
  obtain ⟨A, c, rfl⟩ := hrow2.form
  obtain ⟨mm, hmm⟩ : ∃ mm, mm = ss.length := ⟨_, rfl⟩
  obtain ⟨A5, c5, W5, r5, o5, g5, t5⟩ := hrow2.app1 hb2.size (x1, x2) (by omega) _ rfl
  have r5' := r5 _ rfl
  rw [← hmm] at r5' o5 t5 hv2
  change (Builtin.append_ #[63, 63] 63 _).run Try.prog (W2.alloc (.cells #[.int .i64 x1, .int .i64 x2] 66)) = _ at r5'
  have own_ne : ∀ {j : Nat} {o : Obj}, W2.heap[j]? = some o → (∀ cs, o ≠ .cells cs 66 (0, 0)) → some j ≠ (Value.slice A ss.length c).ownBlock := fun hj ho e => not_own hrow2 hj ho e.symm
  have k5 : ∀ {j : Nat} {o : Obj}, W2.heap[j]? = some o → (∀ cs, o ≠ .cells cs 66 (0, 0)) → W5.heap[j]? = some o := fun {j o} hj ho =>
    (g5.block j (Array.getElem?_eq_some_iff.1 hj).1 (own_ne hj ho)).trans hj
  have hv5 : Lrow W5 Bs 63 [.slice A mm c] := k5 hv2 (fun cs k => by cases k)
  have hL5 := k5 hL2 (fun cs k => by cases k)
  have hK5 := k5 hK2 (fun cs k => by cases k)
  have hb5 : Below w0.heap.size w0 W5 := hb2.grown g5 hb2.size (fun k e => by obtain ⟨vs, r, hlo⟩ := hrow2.block e; exact hlo)
  have hk5 : KeepsWalks W W5 := hk2.trans (KeepsWalks.of_grownBy g5 (fun j o e ho => by
    obtain ⟨vs, r, _⟩ := hrow2.block e
    unfold Lrow at r
    rw [ho] at r
    injection r with r
    rw [r]; rfl))
  have bx0 := hv2.cell 0
  have x0 := rx2.cell 0
  have x1' := rx2.cell 1
  have c5' := hv5.cell 0
  have f5 := hv5.frozen 0
  obtain ⟨W6, hW6⟩ : ∃ W6, W6 = W5.setCell ⟨Bs, 0, none⟩ (.slice A5 (mm + 1) c5) := ⟨_, rfl⟩
  have k6 : ∀ k, k ≠ Bs → W6.heap[k]? = W5.heap[k]? := fun k hk => by rw [hW6]; exact Below.heap_setCell _ _ _ k (by exact hk)
  have hv6 : Lrow W6 Bs 63 [.slice A5 (mm + 1) c5] := by rw [hW6]; exact hv5.set_ 0 _
  have hL6 := (k6 _ hBl.symm).trans hL5
  have hK6 := (k6 _ hDB).trans hK5
  have hrow6 : EK.Own w0.heap.size W6 (.slice A5 (mm + 1) c5) (ss ++ [(x1, x2)]) := o5.heap fun g e => by
    obtain ⟨vs, r, _⟩ := o5.block e
    exact k6 g (r.apart hv5 (by decide))
  have hl6 : l < W6.heap.size := (Array.getElem?_eq_some_iff.1 hL6).1
  have hb6 : Below w0.heap.size w0 W6 := by rw [hW6]; exact hb5.setCell (by exact h0B) _
  have hk6 : KeepsWalks W W6 := hk5.trans (by rw [hW6]; exact KeepsWalks.setCell _ _ _)
  have hend := run_endRound (P := Try.prog) none hL6
  obtain ⟨W7, hW7⟩ : ∃ W7, W6.putObj l (.loop { { recK fn sv Bs D .ready none with state := .busy } with state := if (none : Option Code).isNone then .ready else .done, pending := none }) = W7 := ⟨_, rfl⟩
  have k7 : ∀ k, k ≠ l → W7.heap[k]? = W6.heap[k]? := fun k hk => by rw [← hW7]; exact World.putObj_heap_other hk
  have HFIN : Hid (SoFar w0 fn sv Bs l D (ss ++ [(x1, x2)]) W7 ∧ KeepsWalks W W7) := by
    refine ⟨⟨⟨_, (k7 _ hBl).trans hv6, hrow6.heap fun g e => k7 g fun e' => not_own hrow6 hL6 (fun cs k => by cases k) (by rw [e, e'])⟩, by rw [← hW7]; exact World.putObj_heap_same hl6, (k7 _ hDl).trans hK6, ?_⟩, hk6.trans (by rw [← hW7]; exact KeepsWalks.putObj _ hL6 rfl)⟩
    rw [← hW7]
    exact hb6.grown (grownBy_putObj_a _ _ _) hb6.size (fun k e => by cases e; exact h0l)
  rw [hW7] at hend
  have HW := Lib.hid (And.intro hW1 (And.intro hxb hW6))
  clear hW2 hrow hrow1 hrow2 r5 o5 t5 g5 k5 own_ne hv2 hv5 hL2 hK2 hL5 hK5 hb2 hb5 hk2 hk5 hg2 b1 rx1 rx2 hW1 hxb hv h k2 hmm hlen hl hL1 hK1 hv1 hW6 k6 hv6 hL6 hK6 hrow6 hl6 hb6 hk6 hW7 k7
  unfold kvK
  dsimp only
  unfold asnK
  gi_wp2_with gi_round_op_a
  rw [← HW.out.1, ← HW.out.2.1]
  refine ⟨_, hbr, ?_⟩
  unfold bodK
  gi_wp2_with (first
    | (gi_at_builtin; refine wpListIn_append_run rfl _ _ 63 rfl _ _ rfl rfl r5' ?_)
    | gi_round_op_a)
  rw [← HW.out.2.2]
  exact ⟨_, _, hend, rfl, HFIN.out⟩
end Go.Proofs.Ytfalmjibpkkjaaa
