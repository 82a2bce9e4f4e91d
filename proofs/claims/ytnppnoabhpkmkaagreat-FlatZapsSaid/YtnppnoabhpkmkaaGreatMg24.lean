/- The program's spaces: Do, a way each. -/
import Derived.Test.YtnppnoabhpkmkaaGreatMg23
namespace Go.Proofs.YtnppnoabhpkmkaaGreat
open Go.RowKit
theorem eq_func (f : Nat) (v : Value) (w : World) : (binOp .eql 67 (.func (.func f) #[v] #[]) .nilFunc).run Tryz.prog w = .ok (.bool false) w := by kernel_rfl
theorem eq_nilf (w : World) : (binOp .eql 67 .nilFunc .nilFunc).run Tryz.prog w = .ok (.bool true) w := by kernel_rfl
/-- What Do comes to. -/
def DoV (B : Nat) (w : World) (T : PfT) (r : Int × Int × Fl) (e : Ending) (w' : World) : Prop := e = .returned (.agg #[.int .i64 r.1, .int .u64 r.2.1]) ∧ DidV B w T r.2.2 w'
section
variable {w w' wb w1 : World} {B bx b : Nat} {T : PfT} {F F' : Fl} {s s' : PsB} {S S' : Sp} {j : Nat} {LO : List Nat} {P : Int → Pg}
set_option maxRecDepth 100000 in
set_option maxHeartbeats 1000000 in
theorem do1_yes (h : PfAt B w T F) (a n hw p t c v : Int) (hs : T.LS[j]? = some (some s)) (r : Int × Int × Fl) (hd : ∀ V, Below w.heap.size w V → Calls Tryz.prog 39 #[.pointer (some ⟨T.s, 0, none⟩), .agg #[.int .i64 1, .int .i64 j, .int .i64 a, .int .i64 n, .int .i64 hw, .int .i64 p, .int .i64 t, .int .i64 c, .int .u64 v]] V (AnsV B V T r)) :
    Calls Tryz.prog 11 #[.pointer (some ⟨T.s, 0, none⟩), .agg #[.int .i64 1, .int .i64 j, .int .i64 a, .int .i64 n, .int .i64 hw, .int .i64 p, .int .i64 t, .int .i64 c, .int .u64 v]] w (DoV B w T (r)) := by
  obtain ⟨W0, hW0⟩ : ∃ W0, W0 = w.alloc (.cells #[.int .i64 1, .int .i64 j, .int .i64 a, .int .i64 n, .int .i64 hw, .int .i64 p, .int .i64 t, .int .i64 c, .int .u64 v] 25) := ⟨_, rfl⟩
  obtain ⟨bo, hbo⟩ : ∃ bo, bo = w.heap.size := ⟨_, rfl⟩
  have hb0 : Below w.heap.size w W0 := by rw [hW0]; exact below_new _ _
  have hr0 : Lrow W0 bo 25 [.int .i64 1, .int .i64 j, .int .i64 a, .int .i64 n, .int .i64 hw, .int .i64 p, .int .i64 t, .int .i64 c, .int .u64 v] := by rw [hW0, hbo]; exact Lrow.new w _ [.int .i64 1, .int .i64 j, .int .i64 a, .int .i64 n, .int .i64 hw, .int .i64 p, .int .i64 t, .int .i64 c, .int .u64 v]
  obtain ⟨W1, hW1⟩ : ∃ W1, W1 = W0.alloc (.cells #[.int .i64 0, .int .u64 0] 33) := ⟨_, rfl⟩
  obtain ⟨rb, hrb⟩ : ∃ rb, rb = bo + 1 := ⟨_, rfl⟩
  have z0 : W0.heap.size = bo + 1 := by rw [hW0, World.size_alloc, hbo]
  have hb1 : Below W0.heap.size W0 W1 := by rw [hW1]; exact below_new _ _
  have hr1 : Lrow W1 rb 33 [.int .i64 0, .int .u64 0] := by rw [hW1, hrb, ← z0]; exact Lrow.new W0 _ [.int .i64 0, .int .u64 0]
  have hb01 : Below w.heap.size w W1 := hb0.trans (hb1.mono hb0.size)
  have hro := hr0.call hb1
  have h1 := h.call hb01
  have hsp := space_yes h1 hs
  have hrbw : w.heap.size ≤ rb := by omega
  have o0 : W1.cell? ⟨bo, 0, none⟩ = some (.int .i64 1) := hro.cell 0
  have o1 : W1.cell? ⟨bo, 1, none⟩ = some (.int .i64 j) := hro.cell 1
  have o2 : W1.cell? ⟨bo, 2, none⟩ = some (.int .i64 a) := hro.cell 2
  have o3 : W1.cell? ⟨bo, 3, none⟩ = some (.int .i64 n) := hro.cell 3
  have o4 : W1.cell? ⟨bo, 4, none⟩ = some (.int .i64 hw) := hro.cell 4
  have o5 : W1.cell? ⟨bo, 5, none⟩ = some (.int .i64 p) := hro.cell 5
  have o6 : W1.cell? ⟨bo, 6, none⟩ = some (.int .i64 t) := hro.cell 6
  have o7 : W1.cell? ⟨bo, 7, none⟩ = some (.int .i64 c) := hro.cell 7
  have o8 : W1.cell? ⟨bo, 8, none⟩ = some (.int .u64 v) := hro.cell 8
  have HW0 := Lib.hid (And.intro hW0 hbo)
  have HW1 := Lib.hid (And.intro hW1 hrb)
  have HR := Lib.hid hr1
  have HB := Lib.hid hb01
  have HRB := Lib.hid hrbw
  have hdd := hd W1 hb01
  have HN : Hid (¬ MineP T rb) := fun e => by have := h.lt rb e; omega
  obtain ⟨r1, r2, r3⟩ := r
  unfold AnsV at hdd
  dsimp only at hdd
  unfold DoV
  dsimp only
  clear h hs hd hW0 hbo hb0 hr0 hW1 hrb z0 hb1 hr1 hb01 hro h1 hrbw
  have hdk := deed1 (some ⟨T.s, 0, none⟩) (some ⟨s.sb, 0, none⟩)
  have heq := eq_func
  have heq2 := eq_nilf
  go_enter Tryz.func11, Tryz.ntmps11
  go_upto_region 1 with (fail)
  rw [← HW0.out.1, ← HW0.out.2, ← HW1.out.1, ← HW1.out.2]
  go_wp2_with (first | (go_at_call 24; (with_reducible refine hsp.mono ?_); rintro e w5 ⟨rfl, rfl⟩) | (go_at_call 25; (with_reducible refine (hdk _).mono ?_); rintro e w5 ⟨rfl, rfl⟩))
  refine hdd.mono ?_
  rintro e w3 ⟨rfl, hd3⟩
  have hr3 : Lrow w3 rb 33 [.int .i64 0, .int .u64 0] := hd3.choose_spec.2.2.1.row HR.out HN.out
  have x0 := hr3.cell 0
  have x1 := hr3.cell 1
  have f0 := hr3.frozen 0
  have f1 := hr3.frozen 1
  have HD3 := Lib.hid (hd3.pre HB.out)
  have HR3 := Lib.hid hr3
  clear hdd hsp hdk hd3 hr3 o0 o1 o2 o3 o4 o5 o6 o7 o8
  go_wp2_with fail
  have hr4 := HR3.out.set_ 0 (.int .i64 r1)
  have hr5 := hr4.set_ 1 (.int .u64 r2)
  obtain ⟨w5, hw5⟩ : ∃ w5, w5 = ((w3.setCell ⟨rb, 0, none⟩ (.int .i64 r1)).setCell ⟨rb, 1, none⟩ (.int .u64 r2)) := ⟨_, rfl⟩
  have HF : Hid (DidV B w T r3 w5) := by
    show DidV _ _ _ _ _
    rw [hw5]
    exact (HD3.out.cell HR3.out (by decide) HRB.out _).cell hr4 (by decide) HRB.out _
  rw [← hw5] at hr5 ⊢
  have y0 := hr5.cell 0
  have y1 := hr5.cell 1
  exact bodyPost_ret (v := .agg #[.int .i64 r1, .int .u64 r2]) (by simp [results, Tryz.results11, go_sem, *]) rfl ⟨rfl, HF.out⟩
set_option maxRecDepth 100000 in
set_option maxHeartbeats 1000000 in
theorem do1_no (h : PfAt B w T F) (i a n hw p t c v : Int) (hI : isS F i = false) (r : Int × Int × Fl) (hd : ∀ V, Below w.heap.size w V → Calls Tryz.prog 39 #[.pointer (some ⟨T.s, 0, none⟩), .agg #[.int .i64 1, .int .i64 i, .int .i64 a, .int .i64 n, .int .i64 hw, .int .i64 p, .int .i64 t, .int .i64 c, .int .u64 v]] V (AnsV B V T r)) :
    Calls Tryz.prog 11 #[.pointer (some ⟨T.s, 0, none⟩), .agg #[.int .i64 1, .int .i64 i, .int .i64 a, .int .i64 n, .int .i64 hw, .int .i64 p, .int .i64 t, .int .i64 c, .int .u64 v]] w (DoV B w T (r)) := by
  obtain ⟨W0, hW0⟩ : ∃ W0, W0 = w.alloc (.cells #[.int .i64 1, .int .i64 i, .int .i64 a, .int .i64 n, .int .i64 hw, .int .i64 p, .int .i64 t, .int .i64 c, .int .u64 v] 25) := ⟨_, rfl⟩
  obtain ⟨bo, hbo⟩ : ∃ bo, bo = w.heap.size := ⟨_, rfl⟩
  have hb0 : Below w.heap.size w W0 := by rw [hW0]; exact below_new _ _
  have hr0 : Lrow W0 bo 25 [.int .i64 1, .int .i64 i, .int .i64 a, .int .i64 n, .int .i64 hw, .int .i64 p, .int .i64 t, .int .i64 c, .int .u64 v] := by rw [hW0, hbo]; exact Lrow.new w _ [.int .i64 1, .int .i64 i, .int .i64 a, .int .i64 n, .int .i64 hw, .int .i64 p, .int .i64 t, .int .i64 c, .int .u64 v]
  obtain ⟨W1, hW1⟩ : ∃ W1, W1 = W0.alloc (.cells #[.int .i64 0, .int .u64 0] 33) := ⟨_, rfl⟩
  obtain ⟨rb, hrb⟩ : ∃ rb, rb = bo + 1 := ⟨_, rfl⟩
  have z0 : W0.heap.size = bo + 1 := by rw [hW0, World.size_alloc, hbo]
  have hb1 : Below W0.heap.size W0 W1 := by rw [hW1]; exact below_new _ _
  have hr1 : Lrow W1 rb 33 [.int .i64 0, .int .u64 0] := by rw [hW1, hrb, ← z0]; exact Lrow.new W0 _ [.int .i64 0, .int .u64 0]
  have hb01 : Below w.heap.size w W1 := hb0.trans (hb1.mono hb0.size)
  have hro := hr0.call hb1
  have h1 := h.call hb01
  have hsp := space_no h1 hI
  have hrbw : w.heap.size ≤ rb := by omega
  have o0 : W1.cell? ⟨bo, 0, none⟩ = some (.int .i64 1) := hro.cell 0
  have o1 : W1.cell? ⟨bo, 1, none⟩ = some (.int .i64 i) := hro.cell 1
  have o2 : W1.cell? ⟨bo, 2, none⟩ = some (.int .i64 a) := hro.cell 2
  have o3 : W1.cell? ⟨bo, 3, none⟩ = some (.int .i64 n) := hro.cell 3
  have o4 : W1.cell? ⟨bo, 4, none⟩ = some (.int .i64 hw) := hro.cell 4
  have o5 : W1.cell? ⟨bo, 5, none⟩ = some (.int .i64 p) := hro.cell 5
  have o6 : W1.cell? ⟨bo, 6, none⟩ = some (.int .i64 t) := hro.cell 6
  have o7 : W1.cell? ⟨bo, 7, none⟩ = some (.int .i64 c) := hro.cell 7
  have o8 : W1.cell? ⟨bo, 8, none⟩ = some (.int .u64 v) := hro.cell 8
  have HW0 := Lib.hid (And.intro hW0 hbo)
  have HW1 := Lib.hid (And.intro hW1 hrb)
  have HR := Lib.hid hr1
  have HB := Lib.hid hb01
  have HRB := Lib.hid hrbw
  have hdd := hd W1 hb01
  have HN : Hid (¬ MineP T rb) := fun e => by have := h.lt rb e; omega
  obtain ⟨r1, r2, r3⟩ := r
  unfold AnsV at hdd
  dsimp only at hdd
  unfold DoV
  dsimp only
  clear h hI hd hW0 hbo hb0 hr0 hW1 hrb z0 hb1 hr1 hb01 hro h1 hrbw
  have hdk := deed1 (some ⟨T.s, 0, none⟩) (none)
  have heq := eq_func
  have heq2 := eq_nilf
  go_enter Tryz.func11, Tryz.ntmps11
  go_upto_region 1 with (fail)
  rw [← HW0.out.1, ← HW0.out.2, ← HW1.out.1, ← HW1.out.2]
  go_wp2_with (first | (go_at_call 24; (with_reducible refine hsp.mono ?_); rintro e w5 ⟨rfl, rfl⟩) | (go_at_call 25; (with_reducible refine (hdk _).mono ?_); rintro e w5 ⟨rfl, rfl⟩))
  refine hdd.mono ?_
  rintro e w3 ⟨rfl, hd3⟩
  have hr3 : Lrow w3 rb 33 [.int .i64 0, .int .u64 0] := hd3.choose_spec.2.2.1.row HR.out HN.out
  have x0 := hr3.cell 0
  have x1 := hr3.cell 1
  have f0 := hr3.frozen 0
  have f1 := hr3.frozen 1
  have HD3 := Lib.hid (hd3.pre HB.out)
  have HR3 := Lib.hid hr3
  clear hdd hsp hdk hd3 hr3 o0 o1 o2 o3 o4 o5 o6 o7 o8
  go_wp2_with fail
  have hr4 := HR3.out.set_ 0 (.int .i64 r1)
  have hr5 := hr4.set_ 1 (.int .u64 r2)
  obtain ⟨w5, hw5⟩ : ∃ w5, w5 = ((w3.setCell ⟨rb, 0, none⟩ (.int .i64 r1)).setCell ⟨rb, 1, none⟩ (.int .u64 r2)) := ⟨_, rfl⟩
  have HF : Hid (DidV B w T r3 w5) := by
    show DidV _ _ _ _ _
    rw [hw5]
    exact (HD3.out.cell HR3.out (by decide) HRB.out _).cell hr4 (by decide) HRB.out _
  rw [← hw5] at hr5 ⊢
  have y0 := hr5.cell 0
  have y1 := hr5.cell 1
  exact bodyPost_ret (v := .agg #[.int .i64 r1, .int .u64 r2]) (by simp [results, Tryz.results11, go_sem, *]) rfl ⟨rfl, HF.out⟩
set_option maxRecDepth 100000 in
set_option maxHeartbeats 1000000 in
theorem doA_yes (h : PfAt B w T F) (k a n hw p t c v : Int) (hs : T.LS[j]? = some (some s)) (hk : k < 1 ∨ 10 < k) :
    Calls Tryz.prog 11 #[.pointer (some ⟨T.s, 0, none⟩), .agg #[.int .i64 k, .int .i64 j, .int .i64 a, .int .i64 n, .int .i64 hw, .int .i64 p, .int .i64 t, .int .i64 c, .int .u64 v]] w (DoV B w T (noF F 2)) := by
  obtain ⟨W0, hW0⟩ : ∃ W0, W0 = w.alloc (.cells #[.int .i64 k, .int .i64 j, .int .i64 a, .int .i64 n, .int .i64 hw, .int .i64 p, .int .i64 t, .int .i64 c, .int .u64 v] 25) := ⟨_, rfl⟩
  obtain ⟨bo, hbo⟩ : ∃ bo, bo = w.heap.size := ⟨_, rfl⟩
  have hb0 : Below w.heap.size w W0 := by rw [hW0]; exact below_new _ _
  have hr0 : Lrow W0 bo 25 [.int .i64 k, .int .i64 j, .int .i64 a, .int .i64 n, .int .i64 hw, .int .i64 p, .int .i64 t, .int .i64 c, .int .u64 v] := by rw [hW0, hbo]; exact Lrow.new w _ [.int .i64 k, .int .i64 j, .int .i64 a, .int .i64 n, .int .i64 hw, .int .i64 p, .int .i64 t, .int .i64 c, .int .u64 v]
  obtain ⟨W1, hW1⟩ : ∃ W1, W1 = W0.alloc (.cells #[.int .i64 0, .int .u64 0] 33) := ⟨_, rfl⟩
  obtain ⟨rb, hrb⟩ : ∃ rb, rb = bo + 1 := ⟨_, rfl⟩
  have z0 : W0.heap.size = bo + 1 := by rw [hW0, World.size_alloc, hbo]
  have hb1 : Below W0.heap.size W0 W1 := by rw [hW1]; exact below_new _ _
  have hr1 : Lrow W1 rb 33 [.int .i64 0, .int .u64 0] := by rw [hW1, hrb, ← z0]; exact Lrow.new W0 _ [.int .i64 0, .int .u64 0]
  have hb01 : Below w.heap.size w W1 := hb0.trans (hb1.mono hb0.size)
  have hro := hr0.call hb1
  have h1 := h.call hb01
  have hsp := space_yes h1 hs
  have hrbw : w.heap.size ≤ rb := by omega
  have o0 : W1.cell? ⟨bo, 0, none⟩ = some (.int .i64 k) := hro.cell 0
  have o1 : W1.cell? ⟨bo, 1, none⟩ = some (.int .i64 j) := hro.cell 1
  have HW0 := Lib.hid (And.intro hW0 hbo)
  have HW1 := Lib.hid (And.intro hW1 hrb)
  have HR := Lib.hid hr1
  have HB := Lib.hid hb01
  have HRB := Lib.hid hrbw
  have HD := Lib.hid (fun w2 (d : Below w.heap.size w w2) => h.did d)
  have hdk := deed_no hk (some ⟨T.s, 0, none⟩) (some ⟨s.sb, 0, none⟩)
  unfold DoV noF
  clear h hs hW0 hbo hb0 hr0 hW1 hrb z0 hb1 hr1 hb01 hro h1 hrbw hk
  have heq := eq_func
  have heq2 := eq_nilf
  go_enter Tryz.func11, Tryz.ntmps11
  go_upto_region 1 with (fail)
  rw [← HW0.out.1, ← HW0.out.2, ← HW1.out.1, ← HW1.out.2]
  have x0 := HR.out.cell 0
  have x1 := HR.out.cell 1
  have f0 := HR.out.frozen 0
  have f1 := HR.out.frozen 1
  go_wp2_with (first | (go_at_call 24; (with_reducible refine hsp.mono ?_); rintro e w5 ⟨rfl, rfl⟩) | (go_at_call 25; (with_reducible refine (hdk _).mono ?_); rintro e w5 ⟨rfl, rfl⟩))
  have hr4 := HR.out.set_ 0 (.int .i64 2)
  have hr5 := hr4.set_ 1 (.int .u64 0)
  obtain ⟨w5, hw5⟩ : ∃ w5, w5 = ((W1.setCell ⟨rb, 0, none⟩ (.int .i64 2)).setCell ⟨rb, 1, none⟩ (.int .u64 0)) := ⟨_, rfl⟩
  have HF : Hid (DidV B w T F w5) := by
    show DidV _ _ _ _ _
    rw [hw5]
    exact ((HD.out _ HB.out).cell HR.out (by decide) HRB.out _).cell hr4 (by decide) HRB.out _
  rw [← hw5] at hr5 ⊢
  have y0 := hr5.cell 0
  have y1 := hr5.cell 1
  exact bodyPost_ret (v := .agg #[.int .i64 2, .int .u64 0]) (by simp [results, Tryz.results11, go_sem, *]) rfl ⟨rfl, HF.out⟩
set_option maxRecDepth 100000 in
set_option maxHeartbeats 1000000 in
theorem doA_no (h : PfAt B w T F) (k i a n hw p t c v : Int) (hI : isS F i = false) (hk : k < 1 ∨ 10 < k) :
    Calls Tryz.prog 11 #[.pointer (some ⟨T.s, 0, none⟩), .agg #[.int .i64 k, .int .i64 i, .int .i64 a, .int .i64 n, .int .i64 hw, .int .i64 p, .int .i64 t, .int .i64 c, .int .u64 v]] w (DoV B w T (noF F 2)) := by
  obtain ⟨W0, hW0⟩ : ∃ W0, W0 = w.alloc (.cells #[.int .i64 k, .int .i64 i, .int .i64 a, .int .i64 n, .int .i64 hw, .int .i64 p, .int .i64 t, .int .i64 c, .int .u64 v] 25) := ⟨_, rfl⟩
  obtain ⟨bo, hbo⟩ : ∃ bo, bo = w.heap.size := ⟨_, rfl⟩
  have hb0 : Below w.heap.size w W0 := by rw [hW0]; exact below_new _ _
  have hr0 : Lrow W0 bo 25 [.int .i64 k, .int .i64 i, .int .i64 a, .int .i64 n, .int .i64 hw, .int .i64 p, .int .i64 t, .int .i64 c, .int .u64 v] := by rw [hW0, hbo]; exact Lrow.new w _ [.int .i64 k, .int .i64 i, .int .i64 a, .int .i64 n, .int .i64 hw, .int .i64 p, .int .i64 t, .int .i64 c, .int .u64 v]
  obtain ⟨W1, hW1⟩ : ∃ W1, W1 = W0.alloc (.cells #[.int .i64 0, .int .u64 0] 33) := ⟨_, rfl⟩
  obtain ⟨rb, hrb⟩ : ∃ rb, rb = bo + 1 := ⟨_, rfl⟩
  have z0 : W0.heap.size = bo + 1 := by rw [hW0, World.size_alloc, hbo]
  have hb1 : Below W0.heap.size W0 W1 := by rw [hW1]; exact below_new _ _
  have hr1 : Lrow W1 rb 33 [.int .i64 0, .int .u64 0] := by rw [hW1, hrb, ← z0]; exact Lrow.new W0 _ [.int .i64 0, .int .u64 0]
  have hb01 : Below w.heap.size w W1 := hb0.trans (hb1.mono hb0.size)
  have hro := hr0.call hb1
  have h1 := h.call hb01
  have hsp := space_no h1 hI
  have hrbw : w.heap.size ≤ rb := by omega
  have o0 : W1.cell? ⟨bo, 0, none⟩ = some (.int .i64 k) := hro.cell 0
  have o1 : W1.cell? ⟨bo, 1, none⟩ = some (.int .i64 i) := hro.cell 1
  have HW0 := Lib.hid (And.intro hW0 hbo)
  have HW1 := Lib.hid (And.intro hW1 hrb)
  have HR := Lib.hid hr1
  have HB := Lib.hid hb01
  have HRB := Lib.hid hrbw
  have HD := Lib.hid (fun w2 (d : Below w.heap.size w w2) => h.did d)
  have hdk := deed_no hk (some ⟨T.s, 0, none⟩) (none)
  unfold DoV noF
  clear h hI hW0 hbo hb0 hr0 hW1 hrb z0 hb1 hr1 hb01 hro h1 hrbw hk
  have heq := eq_func
  have heq2 := eq_nilf
  go_enter Tryz.func11, Tryz.ntmps11
  go_upto_region 1 with (fail)
  rw [← HW0.out.1, ← HW0.out.2, ← HW1.out.1, ← HW1.out.2]
  have x0 := HR.out.cell 0
  have x1 := HR.out.cell 1
  have f0 := HR.out.frozen 0
  have f1 := HR.out.frozen 1
  go_wp2_with (first | (go_at_call 24; (with_reducible refine hsp.mono ?_); rintro e w5 ⟨rfl, rfl⟩) | (go_at_call 25; (with_reducible refine (hdk _).mono ?_); rintro e w5 ⟨rfl, rfl⟩))
  have hr4 := HR.out.set_ 0 (.int .i64 2)
  have hr5 := hr4.set_ 1 (.int .u64 0)
  obtain ⟨w5, hw5⟩ : ∃ w5, w5 = ((W1.setCell ⟨rb, 0, none⟩ (.int .i64 2)).setCell ⟨rb, 1, none⟩ (.int .u64 0)) := ⟨_, rfl⟩
  have HF : Hid (DidV B w T F w5) := by
    show DidV _ _ _ _ _
    rw [hw5]
    exact ((HD.out _ HB.out).cell HR.out (by decide) HRB.out _).cell hr4 (by decide) HRB.out _
  rw [← hw5] at hr5 ⊢
  have y0 := hr5.cell 0
  have y1 := hr5.cell 1
  exact bodyPost_ret (v := .agg #[.int .i64 2, .int .u64 0]) (by simp [results, Tryz.results11, go_sem, *]) rfl ⟨rfl, HF.out⟩
set_option maxRecDepth 100000 in
set_option maxHeartbeats 1000000 in
theorem do2 (h : PfAt B w T F) (a n hw p t c v : Int) (hs : T.LS[j]? = some (some s)) (r : Int × Int × Fl) (hd : ∀ V, Below w.heap.size w V → Calls Tryz.prog 40 #[.pointer (some ⟨T.s, 0, none⟩), .agg #[.int .i64 2, .int .i64 j, .int .i64 a, .int .i64 n, .int .i64 hw, .int .i64 p, .int .i64 t, .int .i64 c, .int .u64 v]] V (AnsV B V T r)) :
    Calls Tryz.prog 11 #[.pointer (some ⟨T.s, 0, none⟩), .agg #[.int .i64 2, .int .i64 j, .int .i64 a, .int .i64 n, .int .i64 hw, .int .i64 p, .int .i64 t, .int .i64 c, .int .u64 v]] w (DoV B w T (r)) := by
  obtain ⟨W0, hW0⟩ : ∃ W0, W0 = w.alloc (.cells #[.int .i64 2, .int .i64 j, .int .i64 a, .int .i64 n, .int .i64 hw, .int .i64 p, .int .i64 t, .int .i64 c, .int .u64 v] 25) := ⟨_, rfl⟩
  obtain ⟨bo, hbo⟩ : ∃ bo, bo = w.heap.size := ⟨_, rfl⟩
  have hb0 : Below w.heap.size w W0 := by rw [hW0]; exact below_new _ _
  have hr0 : Lrow W0 bo 25 [.int .i64 2, .int .i64 j, .int .i64 a, .int .i64 n, .int .i64 hw, .int .i64 p, .int .i64 t, .int .i64 c, .int .u64 v] := by rw [hW0, hbo]; exact Lrow.new w _ [.int .i64 2, .int .i64 j, .int .i64 a, .int .i64 n, .int .i64 hw, .int .i64 p, .int .i64 t, .int .i64 c, .int .u64 v]
  obtain ⟨W1, hW1⟩ : ∃ W1, W1 = W0.alloc (.cells #[.int .i64 0, .int .u64 0] 33) := ⟨_, rfl⟩
  obtain ⟨rb, hrb⟩ : ∃ rb, rb = bo + 1 := ⟨_, rfl⟩
  have z0 : W0.heap.size = bo + 1 := by rw [hW0, World.size_alloc, hbo]
  have hb1 : Below W0.heap.size W0 W1 := by rw [hW1]; exact below_new _ _
  have hr1 : Lrow W1 rb 33 [.int .i64 0, .int .u64 0] := by rw [hW1, hrb, ← z0]; exact Lrow.new W0 _ [.int .i64 0, .int .u64 0]
  have hb01 : Below w.heap.size w W1 := hb0.trans (hb1.mono hb0.size)
  have hro := hr0.call hb1
  have h1 := h.call hb01
  have hsp := space_yes h1 hs
  have hrbw : w.heap.size ≤ rb := by omega
  have o0 : W1.cell? ⟨bo, 0, none⟩ = some (.int .i64 2) := hro.cell 0
  have o1 : W1.cell? ⟨bo, 1, none⟩ = some (.int .i64 j) := hro.cell 1
  have o2 : W1.cell? ⟨bo, 2, none⟩ = some (.int .i64 a) := hro.cell 2
  have o3 : W1.cell? ⟨bo, 3, none⟩ = some (.int .i64 n) := hro.cell 3
  have o4 : W1.cell? ⟨bo, 4, none⟩ = some (.int .i64 hw) := hro.cell 4
  have o5 : W1.cell? ⟨bo, 5, none⟩ = some (.int .i64 p) := hro.cell 5
  have o6 : W1.cell? ⟨bo, 6, none⟩ = some (.int .i64 t) := hro.cell 6
  have o7 : W1.cell? ⟨bo, 7, none⟩ = some (.int .i64 c) := hro.cell 7
  have o8 : W1.cell? ⟨bo, 8, none⟩ = some (.int .u64 v) := hro.cell 8
  have HW0 := Lib.hid (And.intro hW0 hbo)
  have HW1 := Lib.hid (And.intro hW1 hrb)
  have HR := Lib.hid hr1
  have HB := Lib.hid hb01
  have HRB := Lib.hid hrbw
  have hdd := hd W1 hb01
  have HN : Hid (¬ MineP T rb) := fun e => by have := h.lt rb e; omega
  obtain ⟨r1, r2, r3⟩ := r
  unfold AnsV at hdd
  dsimp only at hdd
  unfold DoV
  dsimp only
  clear h hs hd hW0 hbo hb0 hr0 hW1 hrb z0 hb1 hr1 hb01 hro h1 hrbw
  have hdk := deed2 (some ⟨T.s, 0, none⟩) (some ⟨s.sb, 0, none⟩)
  have heq := eq_func
  have heq2 := eq_nilf
  go_enter Tryz.func11, Tryz.ntmps11
  go_upto_region 1 with (fail)
  rw [← HW0.out.1, ← HW0.out.2, ← HW1.out.1, ← HW1.out.2]
  go_wp2_with (first | (go_at_call 24; (with_reducible refine hsp.mono ?_); rintro e w5 ⟨rfl, rfl⟩) | (go_at_call 25; (with_reducible refine (hdk _).mono ?_); rintro e w5 ⟨rfl, rfl⟩))
  refine hdd.mono ?_
  rintro e w3 ⟨rfl, hd3⟩
  have hr3 : Lrow w3 rb 33 [.int .i64 0, .int .u64 0] := hd3.choose_spec.2.2.1.row HR.out HN.out
  have x0 := hr3.cell 0
  have x1 := hr3.cell 1
  have f0 := hr3.frozen 0
  have f1 := hr3.frozen 1
  have HD3 := Lib.hid (hd3.pre HB.out)
  have HR3 := Lib.hid hr3
  clear hdd hsp hdk hd3 hr3 o0 o1 o2 o3 o4 o5 o6 o7 o8
  go_wp2_with fail
  have hr4 := HR3.out.set_ 0 (.int .i64 r1)
  have hr5 := hr4.set_ 1 (.int .u64 r2)
  obtain ⟨w5, hw5⟩ : ∃ w5, w5 = ((w3.setCell ⟨rb, 0, none⟩ (.int .i64 r1)).setCell ⟨rb, 1, none⟩ (.int .u64 r2)) := ⟨_, rfl⟩
  have HF : Hid (DidV B w T r3 w5) := by
    show DidV _ _ _ _ _
    rw [hw5]
    exact (HD3.out.cell HR3.out (by decide) HRB.out _).cell hr4 (by decide) HRB.out _
  rw [← hw5] at hr5 ⊢
  have y0 := hr5.cell 0
  have y1 := hr5.cell 1
  exact bodyPost_ret (v := .agg #[.int .i64 r1, .int .u64 r2]) (by simp [results, Tryz.results11, go_sem, *]) rfl ⟨rfl, HF.out⟩
set_option maxRecDepth 100000 in
set_option maxHeartbeats 1000000 in
theorem do3 (h : PfAt B w T F) (a n hw p t c v : Int) (hs : T.LS[j]? = some (some s)) (r : Int × Int × Fl) (hd : ∀ V, Below w.heap.size w V → Calls Tryz.prog 41 #[.pointer (some ⟨s.sb, 0, none⟩), .agg #[.int .i64 3, .int .i64 j, .int .i64 a, .int .i64 n, .int .i64 hw, .int .i64 p, .int .i64 t, .int .i64 c, .int .u64 v]] V (AnsV B V T r)) :
    Calls Tryz.prog 11 #[.pointer (some ⟨T.s, 0, none⟩), .agg #[.int .i64 3, .int .i64 j, .int .i64 a, .int .i64 n, .int .i64 hw, .int .i64 p, .int .i64 t, .int .i64 c, .int .u64 v]] w (DoV B w T (r)) := by
  obtain ⟨W0, hW0⟩ : ∃ W0, W0 = w.alloc (.cells #[.int .i64 3, .int .i64 j, .int .i64 a, .int .i64 n, .int .i64 hw, .int .i64 p, .int .i64 t, .int .i64 c, .int .u64 v] 25) := ⟨_, rfl⟩
  obtain ⟨bo, hbo⟩ : ∃ bo, bo = w.heap.size := ⟨_, rfl⟩
  have hb0 : Below w.heap.size w W0 := by rw [hW0]; exact below_new _ _
  have hr0 : Lrow W0 bo 25 [.int .i64 3, .int .i64 j, .int .i64 a, .int .i64 n, .int .i64 hw, .int .i64 p, .int .i64 t, .int .i64 c, .int .u64 v] := by rw [hW0, hbo]; exact Lrow.new w _ [.int .i64 3, .int .i64 j, .int .i64 a, .int .i64 n, .int .i64 hw, .int .i64 p, .int .i64 t, .int .i64 c, .int .u64 v]
  obtain ⟨W1, hW1⟩ : ∃ W1, W1 = W0.alloc (.cells #[.int .i64 0, .int .u64 0] 33) := ⟨_, rfl⟩
  obtain ⟨rb, hrb⟩ : ∃ rb, rb = bo + 1 := ⟨_, rfl⟩
  have z0 : W0.heap.size = bo + 1 := by rw [hW0, World.size_alloc, hbo]
  have hb1 : Below W0.heap.size W0 W1 := by rw [hW1]; exact below_new _ _
  have hr1 : Lrow W1 rb 33 [.int .i64 0, .int .u64 0] := by rw [hW1, hrb, ← z0]; exact Lrow.new W0 _ [.int .i64 0, .int .u64 0]
  have hb01 : Below w.heap.size w W1 := hb0.trans (hb1.mono hb0.size)
  have hro := hr0.call hb1
  have h1 := h.call hb01
  have hsp := space_yes h1 hs
  have hrbw : w.heap.size ≤ rb := by omega
  have o0 : W1.cell? ⟨bo, 0, none⟩ = some (.int .i64 3) := hro.cell 0
  have o1 : W1.cell? ⟨bo, 1, none⟩ = some (.int .i64 j) := hro.cell 1
  have o2 : W1.cell? ⟨bo, 2, none⟩ = some (.int .i64 a) := hro.cell 2
  have o3 : W1.cell? ⟨bo, 3, none⟩ = some (.int .i64 n) := hro.cell 3
  have o4 : W1.cell? ⟨bo, 4, none⟩ = some (.int .i64 hw) := hro.cell 4
  have o5 : W1.cell? ⟨bo, 5, none⟩ = some (.int .i64 p) := hro.cell 5
  have o6 : W1.cell? ⟨bo, 6, none⟩ = some (.int .i64 t) := hro.cell 6
  have o7 : W1.cell? ⟨bo, 7, none⟩ = some (.int .i64 c) := hro.cell 7
  have o8 : W1.cell? ⟨bo, 8, none⟩ = some (.int .u64 v) := hro.cell 8
  have HW0 := Lib.hid (And.intro hW0 hbo)
  have HW1 := Lib.hid (And.intro hW1 hrb)
  have HR := Lib.hid hr1
  have HB := Lib.hid hb01
  have HRB := Lib.hid hrbw
  have hdd := hd W1 hb01
  have HN : Hid (¬ MineP T rb) := fun e => by have := h.lt rb e; omega
  obtain ⟨r1, r2, r3⟩ := r
  unfold AnsV at hdd
  dsimp only at hdd
  unfold DoV
  dsimp only
  clear h hs hd hW0 hbo hb0 hr0 hW1 hrb z0 hb1 hr1 hb01 hro h1 hrbw
  have hdk := deed3 (some ⟨T.s, 0, none⟩) (some ⟨s.sb, 0, none⟩)
  have heq := eq_func
  have heq2 := eq_nilf
  go_enter Tryz.func11, Tryz.ntmps11
  go_upto_region 1 with (fail)
  rw [← HW0.out.1, ← HW0.out.2, ← HW1.out.1, ← HW1.out.2]
  go_wp2_with (first | (go_at_call 24; (with_reducible refine hsp.mono ?_); rintro e w5 ⟨rfl, rfl⟩) | (go_at_call 25; (with_reducible refine (hdk _).mono ?_); rintro e w5 ⟨rfl, rfl⟩))
  refine hdd.mono ?_
  rintro e w3 ⟨rfl, hd3⟩
  have hr3 : Lrow w3 rb 33 [.int .i64 0, .int .u64 0] := hd3.choose_spec.2.2.1.row HR.out HN.out
  have x0 := hr3.cell 0
  have x1 := hr3.cell 1
  have f0 := hr3.frozen 0
  have f1 := hr3.frozen 1
  have HD3 := Lib.hid (hd3.pre HB.out)
  have HR3 := Lib.hid hr3
  clear hdd hsp hdk hd3 hr3 o0 o1 o2 o3 o4 o5 o6 o7 o8
  go_wp2_with fail
  have hr4 := HR3.out.set_ 0 (.int .i64 r1)
  have hr5 := hr4.set_ 1 (.int .u64 r2)
  obtain ⟨w5, hw5⟩ : ∃ w5, w5 = ((w3.setCell ⟨rb, 0, none⟩ (.int .i64 r1)).setCell ⟨rb, 1, none⟩ (.int .u64 r2)) := ⟨_, rfl⟩
  have HF : Hid (DidV B w T r3 w5) := by
    show DidV _ _ _ _ _
    rw [hw5]
    exact (HD3.out.cell HR3.out (by decide) HRB.out _).cell hr4 (by decide) HRB.out _
  rw [← hw5] at hr5 ⊢
  have y0 := hr5.cell 0
  have y1 := hr5.cell 1
  exact bodyPost_ret (v := .agg #[.int .i64 r1, .int .u64 r2]) (by simp [results, Tryz.results11, go_sem, *]) rfl ⟨rfl, HF.out⟩
set_option maxRecDepth 100000 in
set_option maxHeartbeats 1000000 in
theorem do4 (h : PfAt B w T F) (a n hw p t c v : Int) (hs : T.LS[j]? = some (some s)) (r : Int × Int × Fl) (hd : ∀ V, Below w.heap.size w V → Calls Tryz.prog 42 #[.pointer (some ⟨s.sb, 0, none⟩), .agg #[.int .i64 4, .int .i64 j, .int .i64 a, .int .i64 n, .int .i64 hw, .int .i64 p, .int .i64 t, .int .i64 c, .int .u64 v]] V (AnsV B V T r)) :
    Calls Tryz.prog 11 #[.pointer (some ⟨T.s, 0, none⟩), .agg #[.int .i64 4, .int .i64 j, .int .i64 a, .int .i64 n, .int .i64 hw, .int .i64 p, .int .i64 t, .int .i64 c, .int .u64 v]] w (DoV B w T (r)) := by
  obtain ⟨W0, hW0⟩ : ∃ W0, W0 = w.alloc (.cells #[.int .i64 4, .int .i64 j, .int .i64 a, .int .i64 n, .int .i64 hw, .int .i64 p, .int .i64 t, .int .i64 c, .int .u64 v] 25) := ⟨_, rfl⟩
  obtain ⟨bo, hbo⟩ : ∃ bo, bo = w.heap.size := ⟨_, rfl⟩
  have hb0 : Below w.heap.size w W0 := by rw [hW0]; exact below_new _ _
  have hr0 : Lrow W0 bo 25 [.int .i64 4, .int .i64 j, .int .i64 a, .int .i64 n, .int .i64 hw, .int .i64 p, .int .i64 t, .int .i64 c, .int .u64 v] := by rw [hW0, hbo]; exact Lrow.new w _ [.int .i64 4, .int .i64 j, .int .i64 a, .int .i64 n, .int .i64 hw, .int .i64 p, .int .i64 t, .int .i64 c, .int .u64 v]
  obtain ⟨W1, hW1⟩ : ∃ W1, W1 = W0.alloc (.cells #[.int .i64 0, .int .u64 0] 33) := ⟨_, rfl⟩
  obtain ⟨rb, hrb⟩ : ∃ rb, rb = bo + 1 := ⟨_, rfl⟩
  have z0 : W0.heap.size = bo + 1 := by rw [hW0, World.size_alloc, hbo]
  have hb1 : Below W0.heap.size W0 W1 := by rw [hW1]; exact below_new _ _
  have hr1 : Lrow W1 rb 33 [.int .i64 0, .int .u64 0] := by rw [hW1, hrb, ← z0]; exact Lrow.new W0 _ [.int .i64 0, .int .u64 0]
  have hb01 : Below w.heap.size w W1 := hb0.trans (hb1.mono hb0.size)
  have hro := hr0.call hb1
  have h1 := h.call hb01
  have hsp := space_yes h1 hs
  have hrbw : w.heap.size ≤ rb := by omega
  have o0 : W1.cell? ⟨bo, 0, none⟩ = some (.int .i64 4) := hro.cell 0
  have o1 : W1.cell? ⟨bo, 1, none⟩ = some (.int .i64 j) := hro.cell 1
  have o2 : W1.cell? ⟨bo, 2, none⟩ = some (.int .i64 a) := hro.cell 2
  have o3 : W1.cell? ⟨bo, 3, none⟩ = some (.int .i64 n) := hro.cell 3
  have o4 : W1.cell? ⟨bo, 4, none⟩ = some (.int .i64 hw) := hro.cell 4
  have o5 : W1.cell? ⟨bo, 5, none⟩ = some (.int .i64 p) := hro.cell 5
  have o6 : W1.cell? ⟨bo, 6, none⟩ = some (.int .i64 t) := hro.cell 6
  have o7 : W1.cell? ⟨bo, 7, none⟩ = some (.int .i64 c) := hro.cell 7
  have o8 : W1.cell? ⟨bo, 8, none⟩ = some (.int .u64 v) := hro.cell 8
  have HW0 := Lib.hid (And.intro hW0 hbo)
  have HW1 := Lib.hid (And.intro hW1 hrb)
  have HR := Lib.hid hr1
  have HB := Lib.hid hb01
  have HRB := Lib.hid hrbw
  have hdd := hd W1 hb01
  have HN : Hid (¬ MineP T rb) := fun e => by have := h.lt rb e; omega
  obtain ⟨r1, r2, r3⟩ := r
  unfold AnsV at hdd
  dsimp only at hdd
  unfold DoV
  dsimp only
  clear h hs hd hW0 hbo hb0 hr0 hW1 hrb z0 hb1 hr1 hb01 hro h1 hrbw
  have hdk := deed4 (some ⟨T.s, 0, none⟩) (some ⟨s.sb, 0, none⟩)
  have heq := eq_func
  have heq2 := eq_nilf
  go_enter Tryz.func11, Tryz.ntmps11
  go_upto_region 1 with (fail)
  rw [← HW0.out.1, ← HW0.out.2, ← HW1.out.1, ← HW1.out.2]
  go_wp2_with (first | (go_at_call 24; (with_reducible refine hsp.mono ?_); rintro e w5 ⟨rfl, rfl⟩) | (go_at_call 25; (with_reducible refine (hdk _).mono ?_); rintro e w5 ⟨rfl, rfl⟩))
  refine hdd.mono ?_
  rintro e w3 ⟨rfl, hd3⟩
  have hr3 : Lrow w3 rb 33 [.int .i64 0, .int .u64 0] := hd3.choose_spec.2.2.1.row HR.out HN.out
  have x0 := hr3.cell 0
  have x1 := hr3.cell 1
  have f0 := hr3.frozen 0
  have f1 := hr3.frozen 1
  have HD3 := Lib.hid (hd3.pre HB.out)
  have HR3 := Lib.hid hr3
  clear hdd hsp hdk hd3 hr3 o0 o1 o2 o3 o4 o5 o6 o7 o8
  go_wp2_with fail
  have hr4 := HR3.out.set_ 0 (.int .i64 r1)
  have hr5 := hr4.set_ 1 (.int .u64 r2)
  obtain ⟨w5, hw5⟩ : ∃ w5, w5 = ((w3.setCell ⟨rb, 0, none⟩ (.int .i64 r1)).setCell ⟨rb, 1, none⟩ (.int .u64 r2)) := ⟨_, rfl⟩
  have HF : Hid (DidV B w T r3 w5) := by
    show DidV _ _ _ _ _
    rw [hw5]
    exact (HD3.out.cell HR3.out (by decide) HRB.out _).cell hr4 (by decide) HRB.out _
  rw [← hw5] at hr5 ⊢
  have y0 := hr5.cell 0
  have y1 := hr5.cell 1
  exact bodyPost_ret (v := .agg #[.int .i64 r1, .int .u64 r2]) (by simp [results, Tryz.results11, go_sem, *]) rfl ⟨rfl, HF.out⟩
set_option maxRecDepth 100000 in
set_option maxHeartbeats 1000000 in
theorem do5 (h : PfAt B w T F) (a n hw p t c v : Int) (hs : T.LS[j]? = some (some s)) (r : Int × Int × Fl) (hd : ∀ V, Below w.heap.size w V → Calls Tryz.prog 43 #[.pointer (some ⟨s.sb, 0, none⟩), .agg #[.int .i64 5, .int .i64 j, .int .i64 a, .int .i64 n, .int .i64 hw, .int .i64 p, .int .i64 t, .int .i64 c, .int .u64 v]] V (AnsV B V T r)) :
    Calls Tryz.prog 11 #[.pointer (some ⟨T.s, 0, none⟩), .agg #[.int .i64 5, .int .i64 j, .int .i64 a, .int .i64 n, .int .i64 hw, .int .i64 p, .int .i64 t, .int .i64 c, .int .u64 v]] w (DoV B w T (r)) := by
  obtain ⟨W0, hW0⟩ : ∃ W0, W0 = w.alloc (.cells #[.int .i64 5, .int .i64 j, .int .i64 a, .int .i64 n, .int .i64 hw, .int .i64 p, .int .i64 t, .int .i64 c, .int .u64 v] 25) := ⟨_, rfl⟩
  obtain ⟨bo, hbo⟩ : ∃ bo, bo = w.heap.size := ⟨_, rfl⟩
  have hb0 : Below w.heap.size w W0 := by rw [hW0]; exact below_new _ _
  have hr0 : Lrow W0 bo 25 [.int .i64 5, .int .i64 j, .int .i64 a, .int .i64 n, .int .i64 hw, .int .i64 p, .int .i64 t, .int .i64 c, .int .u64 v] := by rw [hW0, hbo]; exact Lrow.new w _ [.int .i64 5, .int .i64 j, .int .i64 a, .int .i64 n, .int .i64 hw, .int .i64 p, .int .i64 t, .int .i64 c, .int .u64 v]
  obtain ⟨W1, hW1⟩ : ∃ W1, W1 = W0.alloc (.cells #[.int .i64 0, .int .u64 0] 33) := ⟨_, rfl⟩
  obtain ⟨rb, hrb⟩ : ∃ rb, rb = bo + 1 := ⟨_, rfl⟩
  have z0 : W0.heap.size = bo + 1 := by rw [hW0, World.size_alloc, hbo]
  have hb1 : Below W0.heap.size W0 W1 := by rw [hW1]; exact below_new _ _
  have hr1 : Lrow W1 rb 33 [.int .i64 0, .int .u64 0] := by rw [hW1, hrb, ← z0]; exact Lrow.new W0 _ [.int .i64 0, .int .u64 0]
  have hb01 : Below w.heap.size w W1 := hb0.trans (hb1.mono hb0.size)
  have hro := hr0.call hb1
  have h1 := h.call hb01
  have hsp := space_yes h1 hs
  have hrbw : w.heap.size ≤ rb := by omega
  have o0 : W1.cell? ⟨bo, 0, none⟩ = some (.int .i64 5) := hro.cell 0
  have o1 : W1.cell? ⟨bo, 1, none⟩ = some (.int .i64 j) := hro.cell 1
  have o2 : W1.cell? ⟨bo, 2, none⟩ = some (.int .i64 a) := hro.cell 2
  have o3 : W1.cell? ⟨bo, 3, none⟩ = some (.int .i64 n) := hro.cell 3
  have o4 : W1.cell? ⟨bo, 4, none⟩ = some (.int .i64 hw) := hro.cell 4
  have o5 : W1.cell? ⟨bo, 5, none⟩ = some (.int .i64 p) := hro.cell 5
  have o6 : W1.cell? ⟨bo, 6, none⟩ = some (.int .i64 t) := hro.cell 6
  have o7 : W1.cell? ⟨bo, 7, none⟩ = some (.int .i64 c) := hro.cell 7
  have o8 : W1.cell? ⟨bo, 8, none⟩ = some (.int .u64 v) := hro.cell 8
  have HW0 := Lib.hid (And.intro hW0 hbo)
  have HW1 := Lib.hid (And.intro hW1 hrb)
  have HR := Lib.hid hr1
  have HB := Lib.hid hb01
  have HRB := Lib.hid hrbw
  have hdd := hd W1 hb01
  have HN : Hid (¬ MineP T rb) := fun e => by have := h.lt rb e; omega
  obtain ⟨r1, r2, r3⟩ := r
  unfold AnsV at hdd
  dsimp only at hdd
  unfold DoV
  dsimp only
  clear h hs hd hW0 hbo hb0 hr0 hW1 hrb z0 hb1 hr1 hb01 hro h1 hrbw
  have hdk := deed5 (some ⟨T.s, 0, none⟩) (some ⟨s.sb, 0, none⟩)
  have heq := eq_func
  have heq2 := eq_nilf
  go_enter Tryz.func11, Tryz.ntmps11
  go_upto_region 1 with (fail)
  rw [← HW0.out.1, ← HW0.out.2, ← HW1.out.1, ← HW1.out.2]
  go_wp2_with (first | (go_at_call 24; (with_reducible refine hsp.mono ?_); rintro e w5 ⟨rfl, rfl⟩) | (go_at_call 25; (with_reducible refine (hdk _).mono ?_); rintro e w5 ⟨rfl, rfl⟩))
  refine hdd.mono ?_
  rintro e w3 ⟨rfl, hd3⟩
  have hr3 : Lrow w3 rb 33 [.int .i64 0, .int .u64 0] := hd3.choose_spec.2.2.1.row HR.out HN.out
  have x0 := hr3.cell 0
  have x1 := hr3.cell 1
  have f0 := hr3.frozen 0
  have f1 := hr3.frozen 1
  have HD3 := Lib.hid (hd3.pre HB.out)
  have HR3 := Lib.hid hr3
  clear hdd hsp hdk hd3 hr3 o0 o1 o2 o3 o4 o5 o6 o7 o8
  go_wp2_with fail
  have hr4 := HR3.out.set_ 0 (.int .i64 r1)
  have hr5 := hr4.set_ 1 (.int .u64 r2)
  obtain ⟨w5, hw5⟩ : ∃ w5, w5 = ((w3.setCell ⟨rb, 0, none⟩ (.int .i64 r1)).setCell ⟨rb, 1, none⟩ (.int .u64 r2)) := ⟨_, rfl⟩
  have HF : Hid (DidV B w T r3 w5) := by
    show DidV _ _ _ _ _
    rw [hw5]
    exact (HD3.out.cell HR3.out (by decide) HRB.out _).cell hr4 (by decide) HRB.out _
  rw [← hw5] at hr5 ⊢
  have y0 := hr5.cell 0
  have y1 := hr5.cell 1
  exact bodyPost_ret (v := .agg #[.int .i64 r1, .int .u64 r2]) (by simp [results, Tryz.results11, go_sem, *]) rfl ⟨rfl, HF.out⟩
set_option maxRecDepth 100000 in
set_option maxHeartbeats 1000000 in
theorem do6 (h : PfAt B w T F) (a n hw p t c v : Int) (hs : T.LS[j]? = some (some s)) (r : Int × Int × Fl) (hd : ∀ V, Below w.heap.size w V → Calls Tryz.prog 44 #[.pointer (some ⟨s.sb, 0, none⟩), .agg #[.int .i64 6, .int .i64 j, .int .i64 a, .int .i64 n, .int .i64 hw, .int .i64 p, .int .i64 t, .int .i64 c, .int .u64 v]] V (AnsV B V T r)) :
    Calls Tryz.prog 11 #[.pointer (some ⟨T.s, 0, none⟩), .agg #[.int .i64 6, .int .i64 j, .int .i64 a, .int .i64 n, .int .i64 hw, .int .i64 p, .int .i64 t, .int .i64 c, .int .u64 v]] w (DoV B w T (r)) := by
  obtain ⟨W0, hW0⟩ : ∃ W0, W0 = w.alloc (.cells #[.int .i64 6, .int .i64 j, .int .i64 a, .int .i64 n, .int .i64 hw, .int .i64 p, .int .i64 t, .int .i64 c, .int .u64 v] 25) := ⟨_, rfl⟩
  obtain ⟨bo, hbo⟩ : ∃ bo, bo = w.heap.size := ⟨_, rfl⟩
  have hb0 : Below w.heap.size w W0 := by rw [hW0]; exact below_new _ _
  have hr0 : Lrow W0 bo 25 [.int .i64 6, .int .i64 j, .int .i64 a, .int .i64 n, .int .i64 hw, .int .i64 p, .int .i64 t, .int .i64 c, .int .u64 v] := by rw [hW0, hbo]; exact Lrow.new w _ [.int .i64 6, .int .i64 j, .int .i64 a, .int .i64 n, .int .i64 hw, .int .i64 p, .int .i64 t, .int .i64 c, .int .u64 v]
  obtain ⟨W1, hW1⟩ : ∃ W1, W1 = W0.alloc (.cells #[.int .i64 0, .int .u64 0] 33) := ⟨_, rfl⟩
  obtain ⟨rb, hrb⟩ : ∃ rb, rb = bo + 1 := ⟨_, rfl⟩
  have z0 : W0.heap.size = bo + 1 := by rw [hW0, World.size_alloc, hbo]
  have hb1 : Below W0.heap.size W0 W1 := by rw [hW1]; exact below_new _ _
  have hr1 : Lrow W1 rb 33 [.int .i64 0, .int .u64 0] := by rw [hW1, hrb, ← z0]; exact Lrow.new W0 _ [.int .i64 0, .int .u64 0]
  have hb01 : Below w.heap.size w W1 := hb0.trans (hb1.mono hb0.size)
  have hro := hr0.call hb1
  have h1 := h.call hb01
  have hsp := space_yes h1 hs
  have hrbw : w.heap.size ≤ rb := by omega
  have o0 : W1.cell? ⟨bo, 0, none⟩ = some (.int .i64 6) := hro.cell 0
  have o1 : W1.cell? ⟨bo, 1, none⟩ = some (.int .i64 j) := hro.cell 1
  have o2 : W1.cell? ⟨bo, 2, none⟩ = some (.int .i64 a) := hro.cell 2
  have o3 : W1.cell? ⟨bo, 3, none⟩ = some (.int .i64 n) := hro.cell 3
  have o4 : W1.cell? ⟨bo, 4, none⟩ = some (.int .i64 hw) := hro.cell 4
  have o5 : W1.cell? ⟨bo, 5, none⟩ = some (.int .i64 p) := hro.cell 5
  have o6 : W1.cell? ⟨bo, 6, none⟩ = some (.int .i64 t) := hro.cell 6
  have o7 : W1.cell? ⟨bo, 7, none⟩ = some (.int .i64 c) := hro.cell 7
  have o8 : W1.cell? ⟨bo, 8, none⟩ = some (.int .u64 v) := hro.cell 8
  have HW0 := Lib.hid (And.intro hW0 hbo)
  have HW1 := Lib.hid (And.intro hW1 hrb)
  have HR := Lib.hid hr1
  have HB := Lib.hid hb01
  have HRB := Lib.hid hrbw
  have hdd := hd W1 hb01
  have HN : Hid (¬ MineP T rb) := fun e => by have := h.lt rb e; omega
  obtain ⟨r1, r2, r3⟩ := r
  unfold AnsV at hdd
  dsimp only at hdd
  unfold DoV
  dsimp only
  clear h hs hd hW0 hbo hb0 hr0 hW1 hrb z0 hb1 hr1 hb01 hro h1 hrbw
  have hdk := deed6 (some ⟨T.s, 0, none⟩) (some ⟨s.sb, 0, none⟩)
  have heq := eq_func
  have heq2 := eq_nilf
  go_enter Tryz.func11, Tryz.ntmps11
  go_upto_region 1 with (fail)
  rw [← HW0.out.1, ← HW0.out.2, ← HW1.out.1, ← HW1.out.2]
  go_wp2_with (first | (go_at_call 24; (with_reducible refine hsp.mono ?_); rintro e w5 ⟨rfl, rfl⟩) | (go_at_call 25; (with_reducible refine (hdk _).mono ?_); rintro e w5 ⟨rfl, rfl⟩))
  refine hdd.mono ?_
  rintro e w3 ⟨rfl, hd3⟩
  have hr3 : Lrow w3 rb 33 [.int .i64 0, .int .u64 0] := hd3.choose_spec.2.2.1.row HR.out HN.out
  have x0 := hr3.cell 0
  have x1 := hr3.cell 1
  have f0 := hr3.frozen 0
  have f1 := hr3.frozen 1
  have HD3 := Lib.hid (hd3.pre HB.out)
  have HR3 := Lib.hid hr3
  clear hdd hsp hdk hd3 hr3 o0 o1 o2 o3 o4 o5 o6 o7 o8
  go_wp2_with fail
  have hr4 := HR3.out.set_ 0 (.int .i64 r1)
  have hr5 := hr4.set_ 1 (.int .u64 r2)
  obtain ⟨w5, hw5⟩ : ∃ w5, w5 = ((w3.setCell ⟨rb, 0, none⟩ (.int .i64 r1)).setCell ⟨rb, 1, none⟩ (.int .u64 r2)) := ⟨_, rfl⟩
  have HF : Hid (DidV B w T r3 w5) := by
    show DidV _ _ _ _ _
    rw [hw5]
    exact (HD3.out.cell HR3.out (by decide) HRB.out _).cell hr4 (by decide) HRB.out _
  rw [← hw5] at hr5 ⊢
  have y0 := hr5.cell 0
  have y1 := hr5.cell 1
  exact bodyPost_ret (v := .agg #[.int .i64 r1, .int .u64 r2]) (by simp [results, Tryz.results11, go_sem, *]) rfl ⟨rfl, HF.out⟩
set_option maxRecDepth 100000 in
set_option maxHeartbeats 1000000 in
theorem do7 (h : PfAt B w T F) (a n hw p t c v : Int) (hs : T.LS[j]? = some (some s)) (r : Int × Int × Fl) (hd : ∀ V, Below w.heap.size w V → Calls Tryz.prog 45 #[.pointer (some ⟨T.s, 0, none⟩), .agg #[.int .i64 7, .int .i64 j, .int .i64 a, .int .i64 n, .int .i64 hw, .int .i64 p, .int .i64 t, .int .i64 c, .int .u64 v]] V (AnsV B V T r)) :
    Calls Tryz.prog 11 #[.pointer (some ⟨T.s, 0, none⟩), .agg #[.int .i64 7, .int .i64 j, .int .i64 a, .int .i64 n, .int .i64 hw, .int .i64 p, .int .i64 t, .int .i64 c, .int .u64 v]] w (DoV B w T (r)) := by
  obtain ⟨W0, hW0⟩ : ∃ W0, W0 = w.alloc (.cells #[.int .i64 7, .int .i64 j, .int .i64 a, .int .i64 n, .int .i64 hw, .int .i64 p, .int .i64 t, .int .i64 c, .int .u64 v] 25) := ⟨_, rfl⟩
  obtain ⟨bo, hbo⟩ : ∃ bo, bo = w.heap.size := ⟨_, rfl⟩
  have hb0 : Below w.heap.size w W0 := by rw [hW0]; exact below_new _ _
  have hr0 : Lrow W0 bo 25 [.int .i64 7, .int .i64 j, .int .i64 a, .int .i64 n, .int .i64 hw, .int .i64 p, .int .i64 t, .int .i64 c, .int .u64 v] := by rw [hW0, hbo]; exact Lrow.new w _ [.int .i64 7, .int .i64 j, .int .i64 a, .int .i64 n, .int .i64 hw, .int .i64 p, .int .i64 t, .int .i64 c, .int .u64 v]
  obtain ⟨W1, hW1⟩ : ∃ W1, W1 = W0.alloc (.cells #[.int .i64 0, .int .u64 0] 33) := ⟨_, rfl⟩
  obtain ⟨rb, hrb⟩ : ∃ rb, rb = bo + 1 := ⟨_, rfl⟩
  have z0 : W0.heap.size = bo + 1 := by rw [hW0, World.size_alloc, hbo]
  have hb1 : Below W0.heap.size W0 W1 := by rw [hW1]; exact below_new _ _
  have hr1 : Lrow W1 rb 33 [.int .i64 0, .int .u64 0] := by rw [hW1, hrb, ← z0]; exact Lrow.new W0 _ [.int .i64 0, .int .u64 0]
  have hb01 : Below w.heap.size w W1 := hb0.trans (hb1.mono hb0.size)
  have hro := hr0.call hb1
  have h1 := h.call hb01
  have hsp := space_yes h1 hs
  have hrbw : w.heap.size ≤ rb := by omega
  have o0 : W1.cell? ⟨bo, 0, none⟩ = some (.int .i64 7) := hro.cell 0
  have o1 : W1.cell? ⟨bo, 1, none⟩ = some (.int .i64 j) := hro.cell 1
  have o2 : W1.cell? ⟨bo, 2, none⟩ = some (.int .i64 a) := hro.cell 2
  have o3 : W1.cell? ⟨bo, 3, none⟩ = some (.int .i64 n) := hro.cell 3
  have o4 : W1.cell? ⟨bo, 4, none⟩ = some (.int .i64 hw) := hro.cell 4
  have o5 : W1.cell? ⟨bo, 5, none⟩ = some (.int .i64 p) := hro.cell 5
  have o6 : W1.cell? ⟨bo, 6, none⟩ = some (.int .i64 t) := hro.cell 6
  have o7 : W1.cell? ⟨bo, 7, none⟩ = some (.int .i64 c) := hro.cell 7
  have o8 : W1.cell? ⟨bo, 8, none⟩ = some (.int .u64 v) := hro.cell 8
  have HW0 := Lib.hid (And.intro hW0 hbo)
  have HW1 := Lib.hid (And.intro hW1 hrb)
  have HR := Lib.hid hr1
  have HB := Lib.hid hb01
  have HRB := Lib.hid hrbw
  have hdd := hd W1 hb01
  have HN : Hid (¬ MineP T rb) := fun e => by have := h.lt rb e; omega
  obtain ⟨r1, r2, r3⟩ := r
  unfold AnsV at hdd
  dsimp only at hdd
  unfold DoV
  dsimp only
  clear h hs hd hW0 hbo hb0 hr0 hW1 hrb z0 hb1 hr1 hb01 hro h1 hrbw
  have hdk := deed7 (some ⟨T.s, 0, none⟩) (some ⟨s.sb, 0, none⟩)
  have heq := eq_func
  have heq2 := eq_nilf
  go_enter Tryz.func11, Tryz.ntmps11
  go_upto_region 1 with (fail)
  rw [← HW0.out.1, ← HW0.out.2, ← HW1.out.1, ← HW1.out.2]
  go_wp2_with (first | (go_at_call 24; (with_reducible refine hsp.mono ?_); rintro e w5 ⟨rfl, rfl⟩) | (go_at_call 25; (with_reducible refine (hdk _).mono ?_); rintro e w5 ⟨rfl, rfl⟩))
  refine hdd.mono ?_
  rintro e w3 ⟨rfl, hd3⟩
  have hr3 : Lrow w3 rb 33 [.int .i64 0, .int .u64 0] := hd3.choose_spec.2.2.1.row HR.out HN.out
  have x0 := hr3.cell 0
  have x1 := hr3.cell 1
  have f0 := hr3.frozen 0
  have f1 := hr3.frozen 1
  have HD3 := Lib.hid (hd3.pre HB.out)
  have HR3 := Lib.hid hr3
  clear hdd hsp hdk hd3 hr3 o0 o1 o2 o3 o4 o5 o6 o7 o8
  go_wp2_with fail
  have hr4 := HR3.out.set_ 0 (.int .i64 r1)
  have hr5 := hr4.set_ 1 (.int .u64 r2)
  obtain ⟨w5, hw5⟩ : ∃ w5, w5 = ((w3.setCell ⟨rb, 0, none⟩ (.int .i64 r1)).setCell ⟨rb, 1, none⟩ (.int .u64 r2)) := ⟨_, rfl⟩
  have HF : Hid (DidV B w T r3 w5) := by
    show DidV _ _ _ _ _
    rw [hw5]
    exact (HD3.out.cell HR3.out (by decide) HRB.out _).cell hr4 (by decide) HRB.out _
  rw [← hw5] at hr5 ⊢
  have y0 := hr5.cell 0
  have y1 := hr5.cell 1
  exact bodyPost_ret (v := .agg #[.int .i64 r1, .int .u64 r2]) (by simp [results, Tryz.results11, go_sem, *]) rfl ⟨rfl, HF.out⟩
set_option maxRecDepth 100000 in
set_option maxHeartbeats 1000000 in
theorem do8 (h : PfAt B w T F) (a n hw p t c v : Int) (hs : T.LS[j]? = some (some s)) (r : Int × Int × Fl) (hd : ∀ V, Below w.heap.size w V → Calls Tryz.prog 46 #[.pointer (some ⟨T.s, 0, none⟩), .agg #[.int .i64 8, .int .i64 j, .int .i64 a, .int .i64 n, .int .i64 hw, .int .i64 p, .int .i64 t, .int .i64 c, .int .u64 v]] V (AnsV B V T r)) :
    Calls Tryz.prog 11 #[.pointer (some ⟨T.s, 0, none⟩), .agg #[.int .i64 8, .int .i64 j, .int .i64 a, .int .i64 n, .int .i64 hw, .int .i64 p, .int .i64 t, .int .i64 c, .int .u64 v]] w (DoV B w T (r)) := by
  obtain ⟨W0, hW0⟩ : ∃ W0, W0 = w.alloc (.cells #[.int .i64 8, .int .i64 j, .int .i64 a, .int .i64 n, .int .i64 hw, .int .i64 p, .int .i64 t, .int .i64 c, .int .u64 v] 25) := ⟨_, rfl⟩
  obtain ⟨bo, hbo⟩ : ∃ bo, bo = w.heap.size := ⟨_, rfl⟩
  have hb0 : Below w.heap.size w W0 := by rw [hW0]; exact below_new _ _
  have hr0 : Lrow W0 bo 25 [.int .i64 8, .int .i64 j, .int .i64 a, .int .i64 n, .int .i64 hw, .int .i64 p, .int .i64 t, .int .i64 c, .int .u64 v] := by rw [hW0, hbo]; exact Lrow.new w _ [.int .i64 8, .int .i64 j, .int .i64 a, .int .i64 n, .int .i64 hw, .int .i64 p, .int .i64 t, .int .i64 c, .int .u64 v]
  obtain ⟨W1, hW1⟩ : ∃ W1, W1 = W0.alloc (.cells #[.int .i64 0, .int .u64 0] 33) := ⟨_, rfl⟩
  obtain ⟨rb, hrb⟩ : ∃ rb, rb = bo + 1 := ⟨_, rfl⟩
  have z0 : W0.heap.size = bo + 1 := by rw [hW0, World.size_alloc, hbo]
  have hb1 : Below W0.heap.size W0 W1 := by rw [hW1]; exact below_new _ _
  have hr1 : Lrow W1 rb 33 [.int .i64 0, .int .u64 0] := by rw [hW1, hrb, ← z0]; exact Lrow.new W0 _ [.int .i64 0, .int .u64 0]
  have hb01 : Below w.heap.size w W1 := hb0.trans (hb1.mono hb0.size)
  have hro := hr0.call hb1
  have h1 := h.call hb01
  have hsp := space_yes h1 hs
  have hrbw : w.heap.size ≤ rb := by omega
  have o0 : W1.cell? ⟨bo, 0, none⟩ = some (.int .i64 8) := hro.cell 0
  have o1 : W1.cell? ⟨bo, 1, none⟩ = some (.int .i64 j) := hro.cell 1
  have o2 : W1.cell? ⟨bo, 2, none⟩ = some (.int .i64 a) := hro.cell 2
  have o3 : W1.cell? ⟨bo, 3, none⟩ = some (.int .i64 n) := hro.cell 3
  have o4 : W1.cell? ⟨bo, 4, none⟩ = some (.int .i64 hw) := hro.cell 4
  have o5 : W1.cell? ⟨bo, 5, none⟩ = some (.int .i64 p) := hro.cell 5
  have o6 : W1.cell? ⟨bo, 6, none⟩ = some (.int .i64 t) := hro.cell 6
  have o7 : W1.cell? ⟨bo, 7, none⟩ = some (.int .i64 c) := hro.cell 7
  have o8 : W1.cell? ⟨bo, 8, none⟩ = some (.int .u64 v) := hro.cell 8
  have HW0 := Lib.hid (And.intro hW0 hbo)
  have HW1 := Lib.hid (And.intro hW1 hrb)
  have HR := Lib.hid hr1
  have HB := Lib.hid hb01
  have HRB := Lib.hid hrbw
  have hdd := hd W1 hb01
  have HN : Hid (¬ MineP T rb) := fun e => by have := h.lt rb e; omega
  obtain ⟨r1, r2, r3⟩ := r
  unfold AnsV at hdd
  dsimp only at hdd
  unfold DoV
  dsimp only
  clear h hs hd hW0 hbo hb0 hr0 hW1 hrb z0 hb1 hr1 hb01 hro h1 hrbw
  have hdk := deed8 (some ⟨T.s, 0, none⟩) (some ⟨s.sb, 0, none⟩)
  have heq := eq_func
  have heq2 := eq_nilf
  go_enter Tryz.func11, Tryz.ntmps11
  go_upto_region 1 with (fail)
  rw [← HW0.out.1, ← HW0.out.2, ← HW1.out.1, ← HW1.out.2]
  go_wp2_with (first | (go_at_call 24; (with_reducible refine hsp.mono ?_); rintro e w5 ⟨rfl, rfl⟩) | (go_at_call 25; (with_reducible refine (hdk _).mono ?_); rintro e w5 ⟨rfl, rfl⟩))
  refine hdd.mono ?_
  rintro e w3 ⟨rfl, hd3⟩
  have hr3 : Lrow w3 rb 33 [.int .i64 0, .int .u64 0] := hd3.choose_spec.2.2.1.row HR.out HN.out
  have x0 := hr3.cell 0
  have x1 := hr3.cell 1
  have f0 := hr3.frozen 0
  have f1 := hr3.frozen 1
  have HD3 := Lib.hid (hd3.pre HB.out)
  have HR3 := Lib.hid hr3
  clear hdd hsp hdk hd3 hr3 o0 o1 o2 o3 o4 o5 o6 o7 o8
  go_wp2_with fail
  have hr4 := HR3.out.set_ 0 (.int .i64 r1)
  have hr5 := hr4.set_ 1 (.int .u64 r2)
  obtain ⟨w5, hw5⟩ : ∃ w5, w5 = ((w3.setCell ⟨rb, 0, none⟩ (.int .i64 r1)).setCell ⟨rb, 1, none⟩ (.int .u64 r2)) := ⟨_, rfl⟩
  have HF : Hid (DidV B w T r3 w5) := by
    show DidV _ _ _ _ _
    rw [hw5]
    exact (HD3.out.cell HR3.out (by decide) HRB.out _).cell hr4 (by decide) HRB.out _
  rw [← hw5] at hr5 ⊢
  have y0 := hr5.cell 0
  have y1 := hr5.cell 1
  exact bodyPost_ret (v := .agg #[.int .i64 r1, .int .u64 r2]) (by simp [results, Tryz.results11, go_sem, *]) rfl ⟨rfl, HF.out⟩
set_option maxRecDepth 100000 in
set_option maxHeartbeats 1000000 in
theorem do9 (h : PfAt B w T F) (a n hw p t c v : Int) (hs : T.LS[j]? = some (some s)) (r : Int × Int × Fl) (hd : ∀ V, Below w.heap.size w V → Calls Tryz.prog 47 #[.pointer (some ⟨s.sb, 0, none⟩), .agg #[.int .i64 9, .int .i64 j, .int .i64 a, .int .i64 n, .int .i64 hw, .int .i64 p, .int .i64 t, .int .i64 c, .int .u64 v]] V (AnsV B V T r)) :
    Calls Tryz.prog 11 #[.pointer (some ⟨T.s, 0, none⟩), .agg #[.int .i64 9, .int .i64 j, .int .i64 a, .int .i64 n, .int .i64 hw, .int .i64 p, .int .i64 t, .int .i64 c, .int .u64 v]] w (DoV B w T (r)) := by
  obtain ⟨W0, hW0⟩ : ∃ W0, W0 = w.alloc (.cells #[.int .i64 9, .int .i64 j, .int .i64 a, .int .i64 n, .int .i64 hw, .int .i64 p, .int .i64 t, .int .i64 c, .int .u64 v] 25) := ⟨_, rfl⟩
  obtain ⟨bo, hbo⟩ : ∃ bo, bo = w.heap.size := ⟨_, rfl⟩
  have hb0 : Below w.heap.size w W0 := by rw [hW0]; exact below_new _ _
  have hr0 : Lrow W0 bo 25 [.int .i64 9, .int .i64 j, .int .i64 a, .int .i64 n, .int .i64 hw, .int .i64 p, .int .i64 t, .int .i64 c, .int .u64 v] := by rw [hW0, hbo]; exact Lrow.new w _ [.int .i64 9, .int .i64 j, .int .i64 a, .int .i64 n, .int .i64 hw, .int .i64 p, .int .i64 t, .int .i64 c, .int .u64 v]
  obtain ⟨W1, hW1⟩ : ∃ W1, W1 = W0.alloc (.cells #[.int .i64 0, .int .u64 0] 33) := ⟨_, rfl⟩
  obtain ⟨rb, hrb⟩ : ∃ rb, rb = bo + 1 := ⟨_, rfl⟩
  have z0 : W0.heap.size = bo + 1 := by rw [hW0, World.size_alloc, hbo]
  have hb1 : Below W0.heap.size W0 W1 := by rw [hW1]; exact below_new _ _
  have hr1 : Lrow W1 rb 33 [.int .i64 0, .int .u64 0] := by rw [hW1, hrb, ← z0]; exact Lrow.new W0 _ [.int .i64 0, .int .u64 0]
  have hb01 : Below w.heap.size w W1 := hb0.trans (hb1.mono hb0.size)
  have hro := hr0.call hb1
  have h1 := h.call hb01
  have hsp := space_yes h1 hs
  have hrbw : w.heap.size ≤ rb := by omega
  have o0 : W1.cell? ⟨bo, 0, none⟩ = some (.int .i64 9) := hro.cell 0
  have o1 : W1.cell? ⟨bo, 1, none⟩ = some (.int .i64 j) := hro.cell 1
  have o2 : W1.cell? ⟨bo, 2, none⟩ = some (.int .i64 a) := hro.cell 2
  have o3 : W1.cell? ⟨bo, 3, none⟩ = some (.int .i64 n) := hro.cell 3
  have o4 : W1.cell? ⟨bo, 4, none⟩ = some (.int .i64 hw) := hro.cell 4
  have o5 : W1.cell? ⟨bo, 5, none⟩ = some (.int .i64 p) := hro.cell 5
  have o6 : W1.cell? ⟨bo, 6, none⟩ = some (.int .i64 t) := hro.cell 6
  have o7 : W1.cell? ⟨bo, 7, none⟩ = some (.int .i64 c) := hro.cell 7
  have o8 : W1.cell? ⟨bo, 8, none⟩ = some (.int .u64 v) := hro.cell 8
  have HW0 := Lib.hid (And.intro hW0 hbo)
  have HW1 := Lib.hid (And.intro hW1 hrb)
  have HR := Lib.hid hr1
  have HB := Lib.hid hb01
  have HRB := Lib.hid hrbw
  have hdd := hd W1 hb01
  have HN : Hid (¬ MineP T rb) := fun e => by have := h.lt rb e; omega
  obtain ⟨r1, r2, r3⟩ := r
  unfold AnsV at hdd
  dsimp only at hdd
  unfold DoV
  dsimp only
  clear h hs hd hW0 hbo hb0 hr0 hW1 hrb z0 hb1 hr1 hb01 hro h1 hrbw
  have hdk := deed9 (some ⟨T.s, 0, none⟩) (some ⟨s.sb, 0, none⟩)
  have heq := eq_func
  have heq2 := eq_nilf
  go_enter Tryz.func11, Tryz.ntmps11
  go_upto_region 1 with (fail)
  rw [← HW0.out.1, ← HW0.out.2, ← HW1.out.1, ← HW1.out.2]
  go_wp2_with (first | (go_at_call 24; (with_reducible refine hsp.mono ?_); rintro e w5 ⟨rfl, rfl⟩) | (go_at_call 25; (with_reducible refine (hdk _).mono ?_); rintro e w5 ⟨rfl, rfl⟩))
  refine hdd.mono ?_
  rintro e w3 ⟨rfl, hd3⟩
  have hr3 : Lrow w3 rb 33 [.int .i64 0, .int .u64 0] := hd3.choose_spec.2.2.1.row HR.out HN.out
  have x0 := hr3.cell 0
  have x1 := hr3.cell 1
  have f0 := hr3.frozen 0
  have f1 := hr3.frozen 1
  have HD3 := Lib.hid (hd3.pre HB.out)
  have HR3 := Lib.hid hr3
  clear hdd hsp hdk hd3 hr3 o0 o1 o2 o3 o4 o5 o6 o7 o8
  go_wp2_with fail
  have hr4 := HR3.out.set_ 0 (.int .i64 r1)
  have hr5 := hr4.set_ 1 (.int .u64 r2)
  obtain ⟨w5, hw5⟩ : ∃ w5, w5 = ((w3.setCell ⟨rb, 0, none⟩ (.int .i64 r1)).setCell ⟨rb, 1, none⟩ (.int .u64 r2)) := ⟨_, rfl⟩
  have HF : Hid (DidV B w T r3 w5) := by
    show DidV _ _ _ _ _
    rw [hw5]
    exact (HD3.out.cell HR3.out (by decide) HRB.out _).cell hr4 (by decide) HRB.out _
  rw [← hw5] at hr5 ⊢
  have y0 := hr5.cell 0
  have y1 := hr5.cell 1
  exact bodyPost_ret (v := .agg #[.int .i64 r1, .int .u64 r2]) (by simp [results, Tryz.results11, go_sem, *]) rfl ⟨rfl, HF.out⟩
set_option maxRecDepth 100000 in
set_option maxHeartbeats 1000000 in
theorem do10 (h : PfAt B w T F) (a n hw p t c v : Int) (hs : T.LS[j]? = some (some s)) (r : Int × Int × Fl) (hd : ∀ V, Below w.heap.size w V → Calls Tryz.prog 48 #[.pointer (some ⟨s.sb, 0, none⟩), .agg #[.int .i64 10, .int .i64 j, .int .i64 a, .int .i64 n, .int .i64 hw, .int .i64 p, .int .i64 t, .int .i64 c, .int .u64 v]] V (AnsV B V T r)) :
    Calls Tryz.prog 11 #[.pointer (some ⟨T.s, 0, none⟩), .agg #[.int .i64 10, .int .i64 j, .int .i64 a, .int .i64 n, .int .i64 hw, .int .i64 p, .int .i64 t, .int .i64 c, .int .u64 v]] w (DoV B w T (r)) := by
  obtain ⟨W0, hW0⟩ : ∃ W0, W0 = w.alloc (.cells #[.int .i64 10, .int .i64 j, .int .i64 a, .int .i64 n, .int .i64 hw, .int .i64 p, .int .i64 t, .int .i64 c, .int .u64 v] 25) := ⟨_, rfl⟩
  obtain ⟨bo, hbo⟩ : ∃ bo, bo = w.heap.size := ⟨_, rfl⟩
  have hb0 : Below w.heap.size w W0 := by rw [hW0]; exact below_new _ _
  have hr0 : Lrow W0 bo 25 [.int .i64 10, .int .i64 j, .int .i64 a, .int .i64 n, .int .i64 hw, .int .i64 p, .int .i64 t, .int .i64 c, .int .u64 v] := by rw [hW0, hbo]; exact Lrow.new w _ [.int .i64 10, .int .i64 j, .int .i64 a, .int .i64 n, .int .i64 hw, .int .i64 p, .int .i64 t, .int .i64 c, .int .u64 v]
  obtain ⟨W1, hW1⟩ : ∃ W1, W1 = W0.alloc (.cells #[.int .i64 0, .int .u64 0] 33) := ⟨_, rfl⟩
  obtain ⟨rb, hrb⟩ : ∃ rb, rb = bo + 1 := ⟨_, rfl⟩
  have z0 : W0.heap.size = bo + 1 := by rw [hW0, World.size_alloc, hbo]
  have hb1 : Below W0.heap.size W0 W1 := by rw [hW1]; exact below_new _ _
  have hr1 : Lrow W1 rb 33 [.int .i64 0, .int .u64 0] := by rw [hW1, hrb, ← z0]; exact Lrow.new W0 _ [.int .i64 0, .int .u64 0]
  have hb01 : Below w.heap.size w W1 := hb0.trans (hb1.mono hb0.size)
  have hro := hr0.call hb1
  have h1 := h.call hb01
  have hsp := space_yes h1 hs
  have hrbw : w.heap.size ≤ rb := by omega
  have o0 : W1.cell? ⟨bo, 0, none⟩ = some (.int .i64 10) := hro.cell 0
  have o1 : W1.cell? ⟨bo, 1, none⟩ = some (.int .i64 j) := hro.cell 1
  have o2 : W1.cell? ⟨bo, 2, none⟩ = some (.int .i64 a) := hro.cell 2
  have o3 : W1.cell? ⟨bo, 3, none⟩ = some (.int .i64 n) := hro.cell 3
  have o4 : W1.cell? ⟨bo, 4, none⟩ = some (.int .i64 hw) := hro.cell 4
  have o5 : W1.cell? ⟨bo, 5, none⟩ = some (.int .i64 p) := hro.cell 5
  have o6 : W1.cell? ⟨bo, 6, none⟩ = some (.int .i64 t) := hro.cell 6
  have o7 : W1.cell? ⟨bo, 7, none⟩ = some (.int .i64 c) := hro.cell 7
  have o8 : W1.cell? ⟨bo, 8, none⟩ = some (.int .u64 v) := hro.cell 8
  have HW0 := Lib.hid (And.intro hW0 hbo)
  have HW1 := Lib.hid (And.intro hW1 hrb)
  have HR := Lib.hid hr1
  have HB := Lib.hid hb01
  have HRB := Lib.hid hrbw
  have hdd := hd W1 hb01
  have HN : Hid (¬ MineP T rb) := fun e => by have := h.lt rb e; omega
  obtain ⟨r1, r2, r3⟩ := r
  unfold AnsV at hdd
  dsimp only at hdd
  unfold DoV
  dsimp only
  clear h hs hd hW0 hbo hb0 hr0 hW1 hrb z0 hb1 hr1 hb01 hro h1 hrbw
  have hdk := deed10 (some ⟨T.s, 0, none⟩) (some ⟨s.sb, 0, none⟩)
  have heq := eq_func
  have heq2 := eq_nilf
  go_enter Tryz.func11, Tryz.ntmps11
  go_upto_region 1 with (fail)
  rw [← HW0.out.1, ← HW0.out.2, ← HW1.out.1, ← HW1.out.2]
  go_wp2_with (first | (go_at_call 24; (with_reducible refine hsp.mono ?_); rintro e w5 ⟨rfl, rfl⟩) | (go_at_call 25; (with_reducible refine (hdk _).mono ?_); rintro e w5 ⟨rfl, rfl⟩))
  refine hdd.mono ?_
  rintro e w3 ⟨rfl, hd3⟩
  have hr3 : Lrow w3 rb 33 [.int .i64 0, .int .u64 0] := hd3.choose_spec.2.2.1.row HR.out HN.out
  have x0 := hr3.cell 0
  have x1 := hr3.cell 1
  have f0 := hr3.frozen 0
  have f1 := hr3.frozen 1
  have HD3 := Lib.hid (hd3.pre HB.out)
  have HR3 := Lib.hid hr3
  clear hdd hsp hdk hd3 hr3 o0 o1 o2 o3 o4 o5 o6 o7 o8
  go_wp2_with fail
  have hr4 := HR3.out.set_ 0 (.int .i64 r1)
  have hr5 := hr4.set_ 1 (.int .u64 r2)
  obtain ⟨w5, hw5⟩ : ∃ w5, w5 = ((w3.setCell ⟨rb, 0, none⟩ (.int .i64 r1)).setCell ⟨rb, 1, none⟩ (.int .u64 r2)) := ⟨_, rfl⟩
  have HF : Hid (DidV B w T r3 w5) := by
    show DidV _ _ _ _ _
    rw [hw5]
    exact (HD3.out.cell HR3.out (by decide) HRB.out _).cell hr4 (by decide) HRB.out _
  rw [← hw5] at hr5 ⊢
  have y0 := hr5.cell 0
  have y1 := hr5.cell 1
  exact bodyPost_ret (v := .agg #[.int .i64 r1, .int .u64 r2]) (by simp [results, Tryz.results11, go_sem, *]) rfl ⟨rfl, HF.out⟩
set_option maxRecDepth 100000 in
set_option maxHeartbeats 1000000 in
theorem doS2 (h : PfAt B w T F) (i a n hw p t c v : Int) (hI : isS F i = false) :
    Calls Tryz.prog 11 #[.pointer (some ⟨T.s, 0, none⟩), .agg #[.int .i64 2, .int .i64 i, .int .i64 a, .int .i64 n, .int .i64 hw, .int .i64 p, .int .i64 t, .int .i64 c, .int .u64 v]] w (DoV B w T (noF F 11)) := by
  obtain ⟨W0, hW0⟩ : ∃ W0, W0 = w.alloc (.cells #[.int .i64 2, .int .i64 i, .int .i64 a, .int .i64 n, .int .i64 hw, .int .i64 p, .int .i64 t, .int .i64 c, .int .u64 v] 25) := ⟨_, rfl⟩
  obtain ⟨bo, hbo⟩ : ∃ bo, bo = w.heap.size := ⟨_, rfl⟩
  have hb0 : Below w.heap.size w W0 := by rw [hW0]; exact below_new _ _
  have hr0 : Lrow W0 bo 25 [.int .i64 2, .int .i64 i, .int .i64 a, .int .i64 n, .int .i64 hw, .int .i64 p, .int .i64 t, .int .i64 c, .int .u64 v] := by rw [hW0, hbo]; exact Lrow.new w _ [.int .i64 2, .int .i64 i, .int .i64 a, .int .i64 n, .int .i64 hw, .int .i64 p, .int .i64 t, .int .i64 c, .int .u64 v]
  obtain ⟨W1, hW1⟩ : ∃ W1, W1 = W0.alloc (.cells #[.int .i64 0, .int .u64 0] 33) := ⟨_, rfl⟩
  obtain ⟨rb, hrb⟩ : ∃ rb, rb = bo + 1 := ⟨_, rfl⟩
  have z0 : W0.heap.size = bo + 1 := by rw [hW0, World.size_alloc, hbo]
  have hb1 : Below W0.heap.size W0 W1 := by rw [hW1]; exact below_new _ _
  have hr1 : Lrow W1 rb 33 [.int .i64 0, .int .u64 0] := by rw [hW1, hrb, ← z0]; exact Lrow.new W0 _ [.int .i64 0, .int .u64 0]
  have hb01 : Below w.heap.size w W1 := hb0.trans (hb1.mono hb0.size)
  have hro := hr0.call hb1
  have h1 := h.call hb01
  have hsp := space_no h1 hI
  have hrbw : w.heap.size ≤ rb := by omega
  have o0 : W1.cell? ⟨bo, 0, none⟩ = some (.int .i64 2) := hro.cell 0
  have o1 : W1.cell? ⟨bo, 1, none⟩ = some (.int .i64 i) := hro.cell 1
  have HW0 := Lib.hid (And.intro hW0 hbo)
  have HW1 := Lib.hid (And.intro hW1 hrb)
  have HR := Lib.hid hr1
  have HB := Lib.hid hb01
  have HRB := Lib.hid hrbw
  have HD := Lib.hid (fun w2 (d : Below w.heap.size w w2) => h.did d)
  have hdk := deed2 (some ⟨T.s, 0, none⟩) none
  unfold DoV noF
  clear h hI hW0 hbo hb0 hr0 hW1 hrb z0 hb1 hr1 hb01 hro h1 hrbw
  have heq := eq_func
  have heq2 := eq_nilf
  go_enter Tryz.func11, Tryz.ntmps11
  go_upto_region 1 with (fail)
  rw [← HW0.out.1, ← HW0.out.2, ← HW1.out.1, ← HW1.out.2]
  have x0 := HR.out.cell 0
  have x1 := HR.out.cell 1
  have f0 := HR.out.frozen 0
  have f1 := HR.out.frozen 1
  go_wp2_with (first | (go_at_call 24; (with_reducible refine hsp.mono ?_); rintro e w5 ⟨rfl, rfl⟩) | (go_at_call 25; (with_reducible refine (hdk _).mono ?_); rintro e w5 ⟨rfl, rfl⟩))
  have hr4 := HR.out.set_ 0 (.int .i64 11)
  have hr5 := hr4.set_ 1 (.int .u64 0)
  obtain ⟨w5, hw5⟩ : ∃ w5, w5 = ((W1.setCell ⟨rb, 0, none⟩ (.int .i64 11)).setCell ⟨rb, 1, none⟩ (.int .u64 0)) := ⟨_, rfl⟩
  have HF : Hid (DidV B w T F w5) := by
    show DidV _ _ _ _ _
    rw [hw5]
    exact ((HD.out _ HB.out).cell HR.out (by decide) HRB.out _).cell hr4 (by decide) HRB.out _
  rw [← hw5] at hr5 ⊢
  have y0 := hr5.cell 0
  have y1 := hr5.cell 1
  exact bodyPost_ret (v := .agg #[.int .i64 11, .int .u64 0]) (by simp [results, Tryz.results11, go_sem, *]) rfl ⟨rfl, HF.out⟩
set_option maxRecDepth 100000 in
set_option maxHeartbeats 1000000 in
theorem doS3 (h : PfAt B w T F) (i a n hw p t c v : Int) (hI : isS F i = false) :
    Calls Tryz.prog 11 #[.pointer (some ⟨T.s, 0, none⟩), .agg #[.int .i64 3, .int .i64 i, .int .i64 a, .int .i64 n, .int .i64 hw, .int .i64 p, .int .i64 t, .int .i64 c, .int .u64 v]] w (DoV B w T (noF F 11)) := by
  obtain ⟨W0, hW0⟩ : ∃ W0, W0 = w.alloc (.cells #[.int .i64 3, .int .i64 i, .int .i64 a, .int .i64 n, .int .i64 hw, .int .i64 p, .int .i64 t, .int .i64 c, .int .u64 v] 25) := ⟨_, rfl⟩
  obtain ⟨bo, hbo⟩ : ∃ bo, bo = w.heap.size := ⟨_, rfl⟩
  have hb0 : Below w.heap.size w W0 := by rw [hW0]; exact below_new _ _
  have hr0 : Lrow W0 bo 25 [.int .i64 3, .int .i64 i, .int .i64 a, .int .i64 n, .int .i64 hw, .int .i64 p, .int .i64 t, .int .i64 c, .int .u64 v] := by rw [hW0, hbo]; exact Lrow.new w _ [.int .i64 3, .int .i64 i, .int .i64 a, .int .i64 n, .int .i64 hw, .int .i64 p, .int .i64 t, .int .i64 c, .int .u64 v]
  obtain ⟨W1, hW1⟩ : ∃ W1, W1 = W0.alloc (.cells #[.int .i64 0, .int .u64 0] 33) := ⟨_, rfl⟩
  obtain ⟨rb, hrb⟩ : ∃ rb, rb = bo + 1 := ⟨_, rfl⟩
  have z0 : W0.heap.size = bo + 1 := by rw [hW0, World.size_alloc, hbo]
  have hb1 : Below W0.heap.size W0 W1 := by rw [hW1]; exact below_new _ _
  have hr1 : Lrow W1 rb 33 [.int .i64 0, .int .u64 0] := by rw [hW1, hrb, ← z0]; exact Lrow.new W0 _ [.int .i64 0, .int .u64 0]
  have hb01 : Below w.heap.size w W1 := hb0.trans (hb1.mono hb0.size)
  have hro := hr0.call hb1
  have h1 := h.call hb01
  have hsp := space_no h1 hI
  have hrbw : w.heap.size ≤ rb := by omega
  have o0 : W1.cell? ⟨bo, 0, none⟩ = some (.int .i64 3) := hro.cell 0
  have o1 : W1.cell? ⟨bo, 1, none⟩ = some (.int .i64 i) := hro.cell 1
  have HW0 := Lib.hid (And.intro hW0 hbo)
  have HW1 := Lib.hid (And.intro hW1 hrb)
  have HR := Lib.hid hr1
  have HB := Lib.hid hb01
  have HRB := Lib.hid hrbw
  have HD := Lib.hid (fun w2 (d : Below w.heap.size w w2) => h.did d)
  have hdk := deed3 (some ⟨T.s, 0, none⟩) none
  unfold DoV noF
  clear h hI hW0 hbo hb0 hr0 hW1 hrb z0 hb1 hr1 hb01 hro h1 hrbw
  have heq := eq_func
  have heq2 := eq_nilf
  go_enter Tryz.func11, Tryz.ntmps11
  go_upto_region 1 with (fail)
  rw [← HW0.out.1, ← HW0.out.2, ← HW1.out.1, ← HW1.out.2]
  have x0 := HR.out.cell 0
  have x1 := HR.out.cell 1
  have f0 := HR.out.frozen 0
  have f1 := HR.out.frozen 1
  go_wp2_with (first | (go_at_call 24; (with_reducible refine hsp.mono ?_); rintro e w5 ⟨rfl, rfl⟩) | (go_at_call 25; (with_reducible refine (hdk _).mono ?_); rintro e w5 ⟨rfl, rfl⟩))
  have hr4 := HR.out.set_ 0 (.int .i64 11)
  have hr5 := hr4.set_ 1 (.int .u64 0)
  obtain ⟨w5, hw5⟩ : ∃ w5, w5 = ((W1.setCell ⟨rb, 0, none⟩ (.int .i64 11)).setCell ⟨rb, 1, none⟩ (.int .u64 0)) := ⟨_, rfl⟩
  have HF : Hid (DidV B w T F w5) := by
    show DidV _ _ _ _ _
    rw [hw5]
    exact ((HD.out _ HB.out).cell HR.out (by decide) HRB.out _).cell hr4 (by decide) HRB.out _
  rw [← hw5] at hr5 ⊢
  have y0 := hr5.cell 0
  have y1 := hr5.cell 1
  exact bodyPost_ret (v := .agg #[.int .i64 11, .int .u64 0]) (by simp [results, Tryz.results11, go_sem, *]) rfl ⟨rfl, HF.out⟩
set_option maxRecDepth 100000 in
set_option maxHeartbeats 1000000 in
theorem doS4 (h : PfAt B w T F) (i a n hw p t c v : Int) (hI : isS F i = false) :
    Calls Tryz.prog 11 #[.pointer (some ⟨T.s, 0, none⟩), .agg #[.int .i64 4, .int .i64 i, .int .i64 a, .int .i64 n, .int .i64 hw, .int .i64 p, .int .i64 t, .int .i64 c, .int .u64 v]] w (DoV B w T (noF F 11)) := by
  obtain ⟨W0, hW0⟩ : ∃ W0, W0 = w.alloc (.cells #[.int .i64 4, .int .i64 i, .int .i64 a, .int .i64 n, .int .i64 hw, .int .i64 p, .int .i64 t, .int .i64 c, .int .u64 v] 25) := ⟨_, rfl⟩
  obtain ⟨bo, hbo⟩ : ∃ bo, bo = w.heap.size := ⟨_, rfl⟩
  have hb0 : Below w.heap.size w W0 := by rw [hW0]; exact below_new _ _
  have hr0 : Lrow W0 bo 25 [.int .i64 4, .int .i64 i, .int .i64 a, .int .i64 n, .int .i64 hw, .int .i64 p, .int .i64 t, .int .i64 c, .int .u64 v] := by rw [hW0, hbo]; exact Lrow.new w _ [.int .i64 4, .int .i64 i, .int .i64 a, .int .i64 n, .int .i64 hw, .int .i64 p, .int .i64 t, .int .i64 c, .int .u64 v]
  obtain ⟨W1, hW1⟩ : ∃ W1, W1 = W0.alloc (.cells #[.int .i64 0, .int .u64 0] 33) := ⟨_, rfl⟩
  obtain ⟨rb, hrb⟩ : ∃ rb, rb = bo + 1 := ⟨_, rfl⟩
  have z0 : W0.heap.size = bo + 1 := by rw [hW0, World.size_alloc, hbo]
  have hb1 : Below W0.heap.size W0 W1 := by rw [hW1]; exact below_new _ _
  have hr1 : Lrow W1 rb 33 [.int .i64 0, .int .u64 0] := by rw [hW1, hrb, ← z0]; exact Lrow.new W0 _ [.int .i64 0, .int .u64 0]
  have hb01 : Below w.heap.size w W1 := hb0.trans (hb1.mono hb0.size)
  have hro := hr0.call hb1
  have h1 := h.call hb01
  have hsp := space_no h1 hI
  have hrbw : w.heap.size ≤ rb := by omega
  have o0 : W1.cell? ⟨bo, 0, none⟩ = some (.int .i64 4) := hro.cell 0
  have o1 : W1.cell? ⟨bo, 1, none⟩ = some (.int .i64 i) := hro.cell 1
  have HW0 := Lib.hid (And.intro hW0 hbo)
  have HW1 := Lib.hid (And.intro hW1 hrb)
  have HR := Lib.hid hr1
  have HB := Lib.hid hb01
  have HRB := Lib.hid hrbw
  have HD := Lib.hid (fun w2 (d : Below w.heap.size w w2) => h.did d)
  have hdk := deed4 (some ⟨T.s, 0, none⟩) none
  unfold DoV noF
  clear h hI hW0 hbo hb0 hr0 hW1 hrb z0 hb1 hr1 hb01 hro h1 hrbw
  have heq := eq_func
  have heq2 := eq_nilf
  go_enter Tryz.func11, Tryz.ntmps11
  go_upto_region 1 with (fail)
  rw [← HW0.out.1, ← HW0.out.2, ← HW1.out.1, ← HW1.out.2]
  have x0 := HR.out.cell 0
  have x1 := HR.out.cell 1
  have f0 := HR.out.frozen 0
  have f1 := HR.out.frozen 1
  go_wp2_with (first | (go_at_call 24; (with_reducible refine hsp.mono ?_); rintro e w5 ⟨rfl, rfl⟩) | (go_at_call 25; (with_reducible refine (hdk _).mono ?_); rintro e w5 ⟨rfl, rfl⟩))
  have hr4 := HR.out.set_ 0 (.int .i64 11)
  have hr5 := hr4.set_ 1 (.int .u64 0)
  obtain ⟨w5, hw5⟩ : ∃ w5, w5 = ((W1.setCell ⟨rb, 0, none⟩ (.int .i64 11)).setCell ⟨rb, 1, none⟩ (.int .u64 0)) := ⟨_, rfl⟩
  have HF : Hid (DidV B w T F w5) := by
    show DidV _ _ _ _ _
    rw [hw5]
    exact ((HD.out _ HB.out).cell HR.out (by decide) HRB.out _).cell hr4 (by decide) HRB.out _
  rw [← hw5] at hr5 ⊢
  have y0 := hr5.cell 0
  have y1 := hr5.cell 1
  exact bodyPost_ret (v := .agg #[.int .i64 11, .int .u64 0]) (by simp [results, Tryz.results11, go_sem, *]) rfl ⟨rfl, HF.out⟩
set_option maxRecDepth 100000 in
set_option maxHeartbeats 1000000 in
theorem doS5 (h : PfAt B w T F) (i a n hw p t c v : Int) (hI : isS F i = false) :
    Calls Tryz.prog 11 #[.pointer (some ⟨T.s, 0, none⟩), .agg #[.int .i64 5, .int .i64 i, .int .i64 a, .int .i64 n, .int .i64 hw, .int .i64 p, .int .i64 t, .int .i64 c, .int .u64 v]] w (DoV B w T (noF F 11)) := by
  obtain ⟨W0, hW0⟩ : ∃ W0, W0 = w.alloc (.cells #[.int .i64 5, .int .i64 i, .int .i64 a, .int .i64 n, .int .i64 hw, .int .i64 p, .int .i64 t, .int .i64 c, .int .u64 v] 25) := ⟨_, rfl⟩
  obtain ⟨bo, hbo⟩ : ∃ bo, bo = w.heap.size := ⟨_, rfl⟩
  have hb0 : Below w.heap.size w W0 := by rw [hW0]; exact below_new _ _
  have hr0 : Lrow W0 bo 25 [.int .i64 5, .int .i64 i, .int .i64 a, .int .i64 n, .int .i64 hw, .int .i64 p, .int .i64 t, .int .i64 c, .int .u64 v] := by rw [hW0, hbo]; exact Lrow.new w _ [.int .i64 5, .int .i64 i, .int .i64 a, .int .i64 n, .int .i64 hw, .int .i64 p, .int .i64 t, .int .i64 c, .int .u64 v]
  obtain ⟨W1, hW1⟩ : ∃ W1, W1 = W0.alloc (.cells #[.int .i64 0, .int .u64 0] 33) := ⟨_, rfl⟩
  obtain ⟨rb, hrb⟩ : ∃ rb, rb = bo + 1 := ⟨_, rfl⟩
  have z0 : W0.heap.size = bo + 1 := by rw [hW0, World.size_alloc, hbo]
  have hb1 : Below W0.heap.size W0 W1 := by rw [hW1]; exact below_new _ _
  have hr1 : Lrow W1 rb 33 [.int .i64 0, .int .u64 0] := by rw [hW1, hrb, ← z0]; exact Lrow.new W0 _ [.int .i64 0, .int .u64 0]
  have hb01 : Below w.heap.size w W1 := hb0.trans (hb1.mono hb0.size)
  have hro := hr0.call hb1
  have h1 := h.call hb01
  have hsp := space_no h1 hI
  have hrbw : w.heap.size ≤ rb := by omega
  have o0 : W1.cell? ⟨bo, 0, none⟩ = some (.int .i64 5) := hro.cell 0
  have o1 : W1.cell? ⟨bo, 1, none⟩ = some (.int .i64 i) := hro.cell 1
  have HW0 := Lib.hid (And.intro hW0 hbo)
  have HW1 := Lib.hid (And.intro hW1 hrb)
  have HR := Lib.hid hr1
  have HB := Lib.hid hb01
  have HRB := Lib.hid hrbw
  have HD := Lib.hid (fun w2 (d : Below w.heap.size w w2) => h.did d)
  have hdk := deed5 (some ⟨T.s, 0, none⟩) none
  unfold DoV noF
  clear h hI hW0 hbo hb0 hr0 hW1 hrb z0 hb1 hr1 hb01 hro h1 hrbw
  have heq := eq_func
  have heq2 := eq_nilf
  go_enter Tryz.func11, Tryz.ntmps11
  go_upto_region 1 with (fail)
  rw [← HW0.out.1, ← HW0.out.2, ← HW1.out.1, ← HW1.out.2]
  have x0 := HR.out.cell 0
  have x1 := HR.out.cell 1
  have f0 := HR.out.frozen 0
  have f1 := HR.out.frozen 1
  go_wp2_with (first | (go_at_call 24; (with_reducible refine hsp.mono ?_); rintro e w5 ⟨rfl, rfl⟩) | (go_at_call 25; (with_reducible refine (hdk _).mono ?_); rintro e w5 ⟨rfl, rfl⟩))
  have hr4 := HR.out.set_ 0 (.int .i64 11)
  have hr5 := hr4.set_ 1 (.int .u64 0)
  obtain ⟨w5, hw5⟩ : ∃ w5, w5 = ((W1.setCell ⟨rb, 0, none⟩ (.int .i64 11)).setCell ⟨rb, 1, none⟩ (.int .u64 0)) := ⟨_, rfl⟩
  have HF : Hid (DidV B w T F w5) := by
    show DidV _ _ _ _ _
    rw [hw5]
    exact ((HD.out _ HB.out).cell HR.out (by decide) HRB.out _).cell hr4 (by decide) HRB.out _
  rw [← hw5] at hr5 ⊢
  have y0 := hr5.cell 0
  have y1 := hr5.cell 1
  exact bodyPost_ret (v := .agg #[.int .i64 11, .int .u64 0]) (by simp [results, Tryz.results11, go_sem, *]) rfl ⟨rfl, HF.out⟩
set_option maxRecDepth 100000 in
set_option maxHeartbeats 1000000 in
theorem doS6 (h : PfAt B w T F) (i a n hw p t c v : Int) (hI : isS F i = false) :
    Calls Tryz.prog 11 #[.pointer (some ⟨T.s, 0, none⟩), .agg #[.int .i64 6, .int .i64 i, .int .i64 a, .int .i64 n, .int .i64 hw, .int .i64 p, .int .i64 t, .int .i64 c, .int .u64 v]] w (DoV B w T (noF F 11)) := by
  obtain ⟨W0, hW0⟩ : ∃ W0, W0 = w.alloc (.cells #[.int .i64 6, .int .i64 i, .int .i64 a, .int .i64 n, .int .i64 hw, .int .i64 p, .int .i64 t, .int .i64 c, .int .u64 v] 25) := ⟨_, rfl⟩
  obtain ⟨bo, hbo⟩ : ∃ bo, bo = w.heap.size := ⟨_, rfl⟩
  have hb0 : Below w.heap.size w W0 := by rw [hW0]; exact below_new _ _
  have hr0 : Lrow W0 bo 25 [.int .i64 6, .int .i64 i, .int .i64 a, .int .i64 n, .int .i64 hw, .int .i64 p, .int .i64 t, .int .i64 c, .int .u64 v] := by rw [hW0, hbo]; exact Lrow.new w _ [.int .i64 6, .int .i64 i, .int .i64 a, .int .i64 n, .int .i64 hw, .int .i64 p, .int .i64 t, .int .i64 c, .int .u64 v]
  obtain ⟨W1, hW1⟩ : ∃ W1, W1 = W0.alloc (.cells #[.int .i64 0, .int .u64 0] 33) := ⟨_, rfl⟩
  obtain ⟨rb, hrb⟩ : ∃ rb, rb = bo + 1 := ⟨_, rfl⟩
  have z0 : W0.heap.size = bo + 1 := by rw [hW0, World.size_alloc, hbo]
  have hb1 : Below W0.heap.size W0 W1 := by rw [hW1]; exact below_new _ _
  have hr1 : Lrow W1 rb 33 [.int .i64 0, .int .u64 0] := by rw [hW1, hrb, ← z0]; exact Lrow.new W0 _ [.int .i64 0, .int .u64 0]
  have hb01 : Below w.heap.size w W1 := hb0.trans (hb1.mono hb0.size)
  have hro := hr0.call hb1
  have h1 := h.call hb01
  have hsp := space_no h1 hI
  have hrbw : w.heap.size ≤ rb := by omega
  have o0 : W1.cell? ⟨bo, 0, none⟩ = some (.int .i64 6) := hro.cell 0
  have o1 : W1.cell? ⟨bo, 1, none⟩ = some (.int .i64 i) := hro.cell 1
  have HW0 := Lib.hid (And.intro hW0 hbo)
  have HW1 := Lib.hid (And.intro hW1 hrb)
  have HR := Lib.hid hr1
  have HB := Lib.hid hb01
  have HRB := Lib.hid hrbw
  have HD := Lib.hid (fun w2 (d : Below w.heap.size w w2) => h.did d)
  have hdk := deed6 (some ⟨T.s, 0, none⟩) none
  unfold DoV noF
  clear h hI hW0 hbo hb0 hr0 hW1 hrb z0 hb1 hr1 hb01 hro h1 hrbw
  have heq := eq_func
  have heq2 := eq_nilf
  go_enter Tryz.func11, Tryz.ntmps11
  go_upto_region 1 with (fail)
  rw [← HW0.out.1, ← HW0.out.2, ← HW1.out.1, ← HW1.out.2]
  have x0 := HR.out.cell 0
  have x1 := HR.out.cell 1
  have f0 := HR.out.frozen 0
  have f1 := HR.out.frozen 1
  go_wp2_with (first | (go_at_call 24; (with_reducible refine hsp.mono ?_); rintro e w5 ⟨rfl, rfl⟩) | (go_at_call 25; (with_reducible refine (hdk _).mono ?_); rintro e w5 ⟨rfl, rfl⟩))
  have hr4 := HR.out.set_ 0 (.int .i64 11)
  have hr5 := hr4.set_ 1 (.int .u64 0)
  obtain ⟨w5, hw5⟩ : ∃ w5, w5 = ((W1.setCell ⟨rb, 0, none⟩ (.int .i64 11)).setCell ⟨rb, 1, none⟩ (.int .u64 0)) := ⟨_, rfl⟩
  have HF : Hid (DidV B w T F w5) := by
    show DidV _ _ _ _ _
    rw [hw5]
    exact ((HD.out _ HB.out).cell HR.out (by decide) HRB.out _).cell hr4 (by decide) HRB.out _
  rw [← hw5] at hr5 ⊢
  have y0 := hr5.cell 0
  have y1 := hr5.cell 1
  exact bodyPost_ret (v := .agg #[.int .i64 11, .int .u64 0]) (by simp [results, Tryz.results11, go_sem, *]) rfl ⟨rfl, HF.out⟩
set_option maxRecDepth 100000 in
set_option maxHeartbeats 1000000 in
theorem doS7 (h : PfAt B w T F) (i a n hw p t c v : Int) (hI : isS F i = false) :
    Calls Tryz.prog 11 #[.pointer (some ⟨T.s, 0, none⟩), .agg #[.int .i64 7, .int .i64 i, .int .i64 a, .int .i64 n, .int .i64 hw, .int .i64 p, .int .i64 t, .int .i64 c, .int .u64 v]] w (DoV B w T (noF F 11)) := by
  obtain ⟨W0, hW0⟩ : ∃ W0, W0 = w.alloc (.cells #[.int .i64 7, .int .i64 i, .int .i64 a, .int .i64 n, .int .i64 hw, .int .i64 p, .int .i64 t, .int .i64 c, .int .u64 v] 25) := ⟨_, rfl⟩
  obtain ⟨bo, hbo⟩ : ∃ bo, bo = w.heap.size := ⟨_, rfl⟩
  have hb0 : Below w.heap.size w W0 := by rw [hW0]; exact below_new _ _
  have hr0 : Lrow W0 bo 25 [.int .i64 7, .int .i64 i, .int .i64 a, .int .i64 n, .int .i64 hw, .int .i64 p, .int .i64 t, .int .i64 c, .int .u64 v] := by rw [hW0, hbo]; exact Lrow.new w _ [.int .i64 7, .int .i64 i, .int .i64 a, .int .i64 n, .int .i64 hw, .int .i64 p, .int .i64 t, .int .i64 c, .int .u64 v]
  obtain ⟨W1, hW1⟩ : ∃ W1, W1 = W0.alloc (.cells #[.int .i64 0, .int .u64 0] 33) := ⟨_, rfl⟩
  obtain ⟨rb, hrb⟩ : ∃ rb, rb = bo + 1 := ⟨_, rfl⟩
  have z0 : W0.heap.size = bo + 1 := by rw [hW0, World.size_alloc, hbo]
  have hb1 : Below W0.heap.size W0 W1 := by rw [hW1]; exact below_new _ _
  have hr1 : Lrow W1 rb 33 [.int .i64 0, .int .u64 0] := by rw [hW1, hrb, ← z0]; exact Lrow.new W0 _ [.int .i64 0, .int .u64 0]
  have hb01 : Below w.heap.size w W1 := hb0.trans (hb1.mono hb0.size)
  have hro := hr0.call hb1
  have h1 := h.call hb01
  have hsp := space_no h1 hI
  have hrbw : w.heap.size ≤ rb := by omega
  have o0 : W1.cell? ⟨bo, 0, none⟩ = some (.int .i64 7) := hro.cell 0
  have o1 : W1.cell? ⟨bo, 1, none⟩ = some (.int .i64 i) := hro.cell 1
  have HW0 := Lib.hid (And.intro hW0 hbo)
  have HW1 := Lib.hid (And.intro hW1 hrb)
  have HR := Lib.hid hr1
  have HB := Lib.hid hb01
  have HRB := Lib.hid hrbw
  have HD := Lib.hid (fun w2 (d : Below w.heap.size w w2) => h.did d)
  have hdk := deed7 (some ⟨T.s, 0, none⟩) none
  unfold DoV noF
  clear h hI hW0 hbo hb0 hr0 hW1 hrb z0 hb1 hr1 hb01 hro h1 hrbw
  have heq := eq_func
  have heq2 := eq_nilf
  go_enter Tryz.func11, Tryz.ntmps11
  go_upto_region 1 with (fail)
  rw [← HW0.out.1, ← HW0.out.2, ← HW1.out.1, ← HW1.out.2]
  have x0 := HR.out.cell 0
  have x1 := HR.out.cell 1
  have f0 := HR.out.frozen 0
  have f1 := HR.out.frozen 1
  go_wp2_with (first | (go_at_call 24; (with_reducible refine hsp.mono ?_); rintro e w5 ⟨rfl, rfl⟩) | (go_at_call 25; (with_reducible refine (hdk _).mono ?_); rintro e w5 ⟨rfl, rfl⟩))
  have hr4 := HR.out.set_ 0 (.int .i64 11)
  have hr5 := hr4.set_ 1 (.int .u64 0)
  obtain ⟨w5, hw5⟩ : ∃ w5, w5 = ((W1.setCell ⟨rb, 0, none⟩ (.int .i64 11)).setCell ⟨rb, 1, none⟩ (.int .u64 0)) := ⟨_, rfl⟩
  have HF : Hid (DidV B w T F w5) := by
    show DidV _ _ _ _ _
    rw [hw5]
    exact ((HD.out _ HB.out).cell HR.out (by decide) HRB.out _).cell hr4 (by decide) HRB.out _
  rw [← hw5] at hr5 ⊢
  have y0 := hr5.cell 0
  have y1 := hr5.cell 1
  exact bodyPost_ret (v := .agg #[.int .i64 11, .int .u64 0]) (by simp [results, Tryz.results11, go_sem, *]) rfl ⟨rfl, HF.out⟩
set_option maxRecDepth 100000 in
set_option maxHeartbeats 1000000 in
theorem doS8 (h : PfAt B w T F) (i a n hw p t c v : Int) (hI : isS F i = false) :
    Calls Tryz.prog 11 #[.pointer (some ⟨T.s, 0, none⟩), .agg #[.int .i64 8, .int .i64 i, .int .i64 a, .int .i64 n, .int .i64 hw, .int .i64 p, .int .i64 t, .int .i64 c, .int .u64 v]] w (DoV B w T (noF F 11)) := by
  obtain ⟨W0, hW0⟩ : ∃ W0, W0 = w.alloc (.cells #[.int .i64 8, .int .i64 i, .int .i64 a, .int .i64 n, .int .i64 hw, .int .i64 p, .int .i64 t, .int .i64 c, .int .u64 v] 25) := ⟨_, rfl⟩
  obtain ⟨bo, hbo⟩ : ∃ bo, bo = w.heap.size := ⟨_, rfl⟩
  have hb0 : Below w.heap.size w W0 := by rw [hW0]; exact below_new _ _
  have hr0 : Lrow W0 bo 25 [.int .i64 8, .int .i64 i, .int .i64 a, .int .i64 n, .int .i64 hw, .int .i64 p, .int .i64 t, .int .i64 c, .int .u64 v] := by rw [hW0, hbo]; exact Lrow.new w _ [.int .i64 8, .int .i64 i, .int .i64 a, .int .i64 n, .int .i64 hw, .int .i64 p, .int .i64 t, .int .i64 c, .int .u64 v]
  obtain ⟨W1, hW1⟩ : ∃ W1, W1 = W0.alloc (.cells #[.int .i64 0, .int .u64 0] 33) := ⟨_, rfl⟩
  obtain ⟨rb, hrb⟩ : ∃ rb, rb = bo + 1 := ⟨_, rfl⟩
  have z0 : W0.heap.size = bo + 1 := by rw [hW0, World.size_alloc, hbo]
  have hb1 : Below W0.heap.size W0 W1 := by rw [hW1]; exact below_new _ _
  have hr1 : Lrow W1 rb 33 [.int .i64 0, .int .u64 0] := by rw [hW1, hrb, ← z0]; exact Lrow.new W0 _ [.int .i64 0, .int .u64 0]
  have hb01 : Below w.heap.size w W1 := hb0.trans (hb1.mono hb0.size)
  have hro := hr0.call hb1
  have h1 := h.call hb01
  have hsp := space_no h1 hI
  have hrbw : w.heap.size ≤ rb := by omega
  have o0 : W1.cell? ⟨bo, 0, none⟩ = some (.int .i64 8) := hro.cell 0
  have o1 : W1.cell? ⟨bo, 1, none⟩ = some (.int .i64 i) := hro.cell 1
  have HW0 := Lib.hid (And.intro hW0 hbo)
  have HW1 := Lib.hid (And.intro hW1 hrb)
  have HR := Lib.hid hr1
  have HB := Lib.hid hb01
  have HRB := Lib.hid hrbw
  have HD := Lib.hid (fun w2 (d : Below w.heap.size w w2) => h.did d)
  have hdk := deed8 (some ⟨T.s, 0, none⟩) none
  unfold DoV noF
  clear h hI hW0 hbo hb0 hr0 hW1 hrb z0 hb1 hr1 hb01 hro h1 hrbw
  have heq := eq_func
  have heq2 := eq_nilf
  go_enter Tryz.func11, Tryz.ntmps11
  go_upto_region 1 with (fail)
  rw [← HW0.out.1, ← HW0.out.2, ← HW1.out.1, ← HW1.out.2]
  have x0 := HR.out.cell 0
  have x1 := HR.out.cell 1
  have f0 := HR.out.frozen 0
  have f1 := HR.out.frozen 1
  go_wp2_with (first | (go_at_call 24; (with_reducible refine hsp.mono ?_); rintro e w5 ⟨rfl, rfl⟩) | (go_at_call 25; (with_reducible refine (hdk _).mono ?_); rintro e w5 ⟨rfl, rfl⟩))
  have hr4 := HR.out.set_ 0 (.int .i64 11)
  have hr5 := hr4.set_ 1 (.int .u64 0)
  obtain ⟨w5, hw5⟩ : ∃ w5, w5 = ((W1.setCell ⟨rb, 0, none⟩ (.int .i64 11)).setCell ⟨rb, 1, none⟩ (.int .u64 0)) := ⟨_, rfl⟩
  have HF : Hid (DidV B w T F w5) := by
    show DidV _ _ _ _ _
    rw [hw5]
    exact ((HD.out _ HB.out).cell HR.out (by decide) HRB.out _).cell hr4 (by decide) HRB.out _
  rw [← hw5] at hr5 ⊢
  have y0 := hr5.cell 0
  have y1 := hr5.cell 1
  exact bodyPost_ret (v := .agg #[.int .i64 11, .int .u64 0]) (by simp [results, Tryz.results11, go_sem, *]) rfl ⟨rfl, HF.out⟩
set_option maxRecDepth 100000 in
set_option maxHeartbeats 1000000 in
theorem doS9 (h : PfAt B w T F) (i a n hw p t c v : Int) (hI : isS F i = false) :
    Calls Tryz.prog 11 #[.pointer (some ⟨T.s, 0, none⟩), .agg #[.int .i64 9, .int .i64 i, .int .i64 a, .int .i64 n, .int .i64 hw, .int .i64 p, .int .i64 t, .int .i64 c, .int .u64 v]] w (DoV B w T (noF F 11)) := by
  obtain ⟨W0, hW0⟩ : ∃ W0, W0 = w.alloc (.cells #[.int .i64 9, .int .i64 i, .int .i64 a, .int .i64 n, .int .i64 hw, .int .i64 p, .int .i64 t, .int .i64 c, .int .u64 v] 25) := ⟨_, rfl⟩
  obtain ⟨bo, hbo⟩ : ∃ bo, bo = w.heap.size := ⟨_, rfl⟩
  have hb0 : Below w.heap.size w W0 := by rw [hW0]; exact below_new _ _
  have hr0 : Lrow W0 bo 25 [.int .i64 9, .int .i64 i, .int .i64 a, .int .i64 n, .int .i64 hw, .int .i64 p, .int .i64 t, .int .i64 c, .int .u64 v] := by rw [hW0, hbo]; exact Lrow.new w _ [.int .i64 9, .int .i64 i, .int .i64 a, .int .i64 n, .int .i64 hw, .int .i64 p, .int .i64 t, .int .i64 c, .int .u64 v]
  obtain ⟨W1, hW1⟩ : ∃ W1, W1 = W0.alloc (.cells #[.int .i64 0, .int .u64 0] 33) := ⟨_, rfl⟩
  obtain ⟨rb, hrb⟩ : ∃ rb, rb = bo + 1 := ⟨_, rfl⟩
  have z0 : W0.heap.size = bo + 1 := by rw [hW0, World.size_alloc, hbo]
  have hb1 : Below W0.heap.size W0 W1 := by rw [hW1]; exact below_new _ _
  have hr1 : Lrow W1 rb 33 [.int .i64 0, .int .u64 0] := by rw [hW1, hrb, ← z0]; exact Lrow.new W0 _ [.int .i64 0, .int .u64 0]
  have hb01 : Below w.heap.size w W1 := hb0.trans (hb1.mono hb0.size)
  have hro := hr0.call hb1
  have h1 := h.call hb01
  have hsp := space_no h1 hI
  have hrbw : w.heap.size ≤ rb := by omega
  have o0 : W1.cell? ⟨bo, 0, none⟩ = some (.int .i64 9) := hro.cell 0
  have o1 : W1.cell? ⟨bo, 1, none⟩ = some (.int .i64 i) := hro.cell 1
  have HW0 := Lib.hid (And.intro hW0 hbo)
  have HW1 := Lib.hid (And.intro hW1 hrb)
  have HR := Lib.hid hr1
  have HB := Lib.hid hb01
  have HRB := Lib.hid hrbw
  have HD := Lib.hid (fun w2 (d : Below w.heap.size w w2) => h.did d)
  have hdk := deed9 (some ⟨T.s, 0, none⟩) none
  unfold DoV noF
  clear h hI hW0 hbo hb0 hr0 hW1 hrb z0 hb1 hr1 hb01 hro h1 hrbw
  have heq := eq_func
  have heq2 := eq_nilf
  go_enter Tryz.func11, Tryz.ntmps11
  go_upto_region 1 with (fail)
  rw [← HW0.out.1, ← HW0.out.2, ← HW1.out.1, ← HW1.out.2]
  have x0 := HR.out.cell 0
  have x1 := HR.out.cell 1
  have f0 := HR.out.frozen 0
  have f1 := HR.out.frozen 1
  go_wp2_with (first | (go_at_call 24; (with_reducible refine hsp.mono ?_); rintro e w5 ⟨rfl, rfl⟩) | (go_at_call 25; (with_reducible refine (hdk _).mono ?_); rintro e w5 ⟨rfl, rfl⟩))
  have hr4 := HR.out.set_ 0 (.int .i64 11)
  have hr5 := hr4.set_ 1 (.int .u64 0)
  obtain ⟨w5, hw5⟩ : ∃ w5, w5 = ((W1.setCell ⟨rb, 0, none⟩ (.int .i64 11)).setCell ⟨rb, 1, none⟩ (.int .u64 0)) := ⟨_, rfl⟩
  have HF : Hid (DidV B w T F w5) := by
    show DidV _ _ _ _ _
    rw [hw5]
    exact ((HD.out _ HB.out).cell HR.out (by decide) HRB.out _).cell hr4 (by decide) HRB.out _
  rw [← hw5] at hr5 ⊢
  have y0 := hr5.cell 0
  have y1 := hr5.cell 1
  exact bodyPost_ret (v := .agg #[.int .i64 11, .int .u64 0]) (by simp [results, Tryz.results11, go_sem, *]) rfl ⟨rfl, HF.out⟩
set_option maxRecDepth 100000 in
set_option maxHeartbeats 1000000 in
theorem doS10 (h : PfAt B w T F) (i a n hw p t c v : Int) (hI : isS F i = false) :
    Calls Tryz.prog 11 #[.pointer (some ⟨T.s, 0, none⟩), .agg #[.int .i64 10, .int .i64 i, .int .i64 a, .int .i64 n, .int .i64 hw, .int .i64 p, .int .i64 t, .int .i64 c, .int .u64 v]] w (DoV B w T (noF F 11)) := by
  obtain ⟨W0, hW0⟩ : ∃ W0, W0 = w.alloc (.cells #[.int .i64 10, .int .i64 i, .int .i64 a, .int .i64 n, .int .i64 hw, .int .i64 p, .int .i64 t, .int .i64 c, .int .u64 v] 25) := ⟨_, rfl⟩
  obtain ⟨bo, hbo⟩ : ∃ bo, bo = w.heap.size := ⟨_, rfl⟩
  have hb0 : Below w.heap.size w W0 := by rw [hW0]; exact below_new _ _
  have hr0 : Lrow W0 bo 25 [.int .i64 10, .int .i64 i, .int .i64 a, .int .i64 n, .int .i64 hw, .int .i64 p, .int .i64 t, .int .i64 c, .int .u64 v] := by rw [hW0, hbo]; exact Lrow.new w _ [.int .i64 10, .int .i64 i, .int .i64 a, .int .i64 n, .int .i64 hw, .int .i64 p, .int .i64 t, .int .i64 c, .int .u64 v]
  obtain ⟨W1, hW1⟩ : ∃ W1, W1 = W0.alloc (.cells #[.int .i64 0, .int .u64 0] 33) := ⟨_, rfl⟩
  obtain ⟨rb, hrb⟩ : ∃ rb, rb = bo + 1 := ⟨_, rfl⟩
  have z0 : W0.heap.size = bo + 1 := by rw [hW0, World.size_alloc, hbo]
  have hb1 : Below W0.heap.size W0 W1 := by rw [hW1]; exact below_new _ _
  have hr1 : Lrow W1 rb 33 [.int .i64 0, .int .u64 0] := by rw [hW1, hrb, ← z0]; exact Lrow.new W0 _ [.int .i64 0, .int .u64 0]
  have hb01 : Below w.heap.size w W1 := hb0.trans (hb1.mono hb0.size)
  have hro := hr0.call hb1
  have h1 := h.call hb01
  have hsp := space_no h1 hI
  have hrbw : w.heap.size ≤ rb := by omega
  have o0 : W1.cell? ⟨bo, 0, none⟩ = some (.int .i64 10) := hro.cell 0
  have o1 : W1.cell? ⟨bo, 1, none⟩ = some (.int .i64 i) := hro.cell 1
  have HW0 := Lib.hid (And.intro hW0 hbo)
  have HW1 := Lib.hid (And.intro hW1 hrb)
  have HR := Lib.hid hr1
  have HB := Lib.hid hb01
  have HRB := Lib.hid hrbw
  have HD := Lib.hid (fun w2 (d : Below w.heap.size w w2) => h.did d)
  have hdk := deed10 (some ⟨T.s, 0, none⟩) none
  unfold DoV noF
  clear h hI hW0 hbo hb0 hr0 hW1 hrb z0 hb1 hr1 hb01 hro h1 hrbw
  have heq := eq_func
  have heq2 := eq_nilf
  go_enter Tryz.func11, Tryz.ntmps11
  go_upto_region 1 with (fail)
  rw [← HW0.out.1, ← HW0.out.2, ← HW1.out.1, ← HW1.out.2]
  have x0 := HR.out.cell 0
  have x1 := HR.out.cell 1
  have f0 := HR.out.frozen 0
  have f1 := HR.out.frozen 1
  go_wp2_with (first | (go_at_call 24; (with_reducible refine hsp.mono ?_); rintro e w5 ⟨rfl, rfl⟩) | (go_at_call 25; (with_reducible refine (hdk _).mono ?_); rintro e w5 ⟨rfl, rfl⟩))
  have hr4 := HR.out.set_ 0 (.int .i64 11)
  have hr5 := hr4.set_ 1 (.int .u64 0)
  obtain ⟨w5, hw5⟩ : ∃ w5, w5 = ((W1.setCell ⟨rb, 0, none⟩ (.int .i64 11)).setCell ⟨rb, 1, none⟩ (.int .u64 0)) := ⟨_, rfl⟩
  have HF : Hid (DidV B w T F w5) := by
    show DidV _ _ _ _ _
    rw [hw5]
    exact ((HD.out _ HB.out).cell HR.out (by decide) HRB.out _).cell hr4 (by decide) HRB.out _
  rw [← hw5] at hr5 ⊢
  have y0 := hr5.cell 0
  have y1 := hr5.cell 1
  exact bodyPost_ret (v := .agg #[.int .i64 11, .int .u64 0]) (by simp [results, Tryz.results11, go_sem, *]) rfl ⟨rfl, HF.out⟩
end
end Go.Proofs.YtnppnoabhpkmkaaGreat
/- The program's spaces: each operation is answered, and comes to, as it should. -/
namespace Go.Proofs.YtnppnoabhpkmkaaGreat
open Go.RowKit
section
variable {w w' wb w1 : World} {B bx b : Nat} {T : PfT} {F F' : Fl} {s s' : PsB} {S S' : Sp} {j : Nat}
theorem isS_yes (h : PfAt B w T F) {n : Int} (e : isS F n = true) : ∃ (j : Nat) (s : PsB), n = j ∧ T.LS[j]? = some (some s) := by
  obtain ⟨j, s, e1, _, e2, _⟩ := h.space e
  exact ⟨j, s, e1, e2⟩
theorem isS_of (h : PfAt B w T F) (hs : T.LS[j]? = some (some s)) : isS F j = true := by rw [isS_at h hs]; rfl
theorem anyA (h : PfAt B w T F) (k i a n hw p t c v : Int) (hk : k < 1 ∨ 10 < k) : Calls Tryz.prog 11 #[.pointer (some ⟨T.s, 0, none⟩), .agg #[.int .i64 k, .int .i64 i, .int .i64 a, .int .i64 n, .int .i64 hw, .int .i64 p, .int .i64 t, .int .i64 c, .int .u64 v]] w (DoV B w T (stF F ⟨k, i, a, n, hw, p, t, c, v⟩)) := by
  have e : stF F ⟨k, i, a, n, hw, p, t, c, v⟩ = noF F 2 := by unfold stF; dsimp only; rw [if_pos hk]
  rw [e]
  cases hI : isS F i with
  | false => exact doA_no h k i a n hw p t c v hI hk
  | true =>
    obtain ⟨j, s, rfl, hs⟩ := isS_yes h hI
    exact doA_yes h k a n hw p t c v hs hk
theorem any1 (h : PfAt B w T F) (i a n hw p t c v : Int) : Calls Tryz.prog 11 #[.pointer (some ⟨T.s, 0, none⟩), .agg #[.int .i64 1, .int .i64 i, .int .i64 a, .int .i64 n, .int .i64 hw, .int .i64 p, .int .i64 t, .int .i64 c, .int .u64 v]] w (DoV B w T (stF F ⟨1, i, a, n, hw, p, t, c, v⟩)) := by
  have e : stF F ⟨1, i, a, n, hw, p, t, c, v⟩ = addF F zSp := by unfold stF; dsimp only; rw [if_neg (by decide), if_pos rfl]
  rw [e]
  cases hI : isS F i with
  | false => exact do1_no h i a n hw p t c v hI _ fun V hb => spawn_f (h.call hb) 1 i a n hw p t c v
  | true =>
    obtain ⟨j, s, rfl, hs⟩ := isS_yes h hI
    exact do1_yes h a n hw p t c v hs _ fun V hb => spawn_f (h.call hb) 1 j a n hw p t c v
theorem anyS2 (h : PfAt B w T F) (i a n hw p t c v : Int) (hI : isS F i = false) : Calls Tryz.prog 11 #[.pointer (some ⟨T.s, 0, none⟩), .agg #[.int .i64 2, .int .i64 i, .int .i64 a, .int .i64 n, .int .i64 hw, .int .i64 p, .int .i64 t, .int .i64 c, .int .u64 v]] w (DoV B w T (stF F ⟨2, i, a, n, hw, p, t, c, v⟩)) := by
  have e : stF F ⟨2, i, a, n, hw, p, t, c, v⟩ = noF F 11 := by unfold stF; dsimp only; rw [if_neg (by decide), if_neg (by decide), if_pos hI]
  rw [e]
  exact doS2 h i a n hw p t c v hI
theorem anyS3 (h : PfAt B w T F) (i a n hw p t c v : Int) (hI : isS F i = false) : Calls Tryz.prog 11 #[.pointer (some ⟨T.s, 0, none⟩), .agg #[.int .i64 3, .int .i64 i, .int .i64 a, .int .i64 n, .int .i64 hw, .int .i64 p, .int .i64 t, .int .i64 c, .int .u64 v]] w (DoV B w T (stF F ⟨3, i, a, n, hw, p, t, c, v⟩)) := by
  have e : stF F ⟨3, i, a, n, hw, p, t, c, v⟩ = noF F 11 := by unfold stF; dsimp only; rw [if_neg (by decide), if_neg (by decide), if_pos hI]
  rw [e]
  exact doS3 h i a n hw p t c v hI
theorem anyS4 (h : PfAt B w T F) (i a n hw p t c v : Int) (hI : isS F i = false) : Calls Tryz.prog 11 #[.pointer (some ⟨T.s, 0, none⟩), .agg #[.int .i64 4, .int .i64 i, .int .i64 a, .int .i64 n, .int .i64 hw, .int .i64 p, .int .i64 t, .int .i64 c, .int .u64 v]] w (DoV B w T (stF F ⟨4, i, a, n, hw, p, t, c, v⟩)) := by
  have e : stF F ⟨4, i, a, n, hw, p, t, c, v⟩ = noF F 11 := by unfold stF; dsimp only; rw [if_neg (by decide), if_neg (by decide), if_pos hI]
  rw [e]
  exact doS4 h i a n hw p t c v hI
theorem anyS5 (h : PfAt B w T F) (i a n hw p t c v : Int) (hI : isS F i = false) : Calls Tryz.prog 11 #[.pointer (some ⟨T.s, 0, none⟩), .agg #[.int .i64 5, .int .i64 i, .int .i64 a, .int .i64 n, .int .i64 hw, .int .i64 p, .int .i64 t, .int .i64 c, .int .u64 v]] w (DoV B w T (stF F ⟨5, i, a, n, hw, p, t, c, v⟩)) := by
  have e : stF F ⟨5, i, a, n, hw, p, t, c, v⟩ = noF F 11 := by unfold stF; dsimp only; rw [if_neg (by decide), if_neg (by decide), if_pos hI]
  rw [e]
  exact doS5 h i a n hw p t c v hI
theorem anyS6 (h : PfAt B w T F) (i a n hw p t c v : Int) (hI : isS F i = false) : Calls Tryz.prog 11 #[.pointer (some ⟨T.s, 0, none⟩), .agg #[.int .i64 6, .int .i64 i, .int .i64 a, .int .i64 n, .int .i64 hw, .int .i64 p, .int .i64 t, .int .i64 c, .int .u64 v]] w (DoV B w T (stF F ⟨6, i, a, n, hw, p, t, c, v⟩)) := by
  have e : stF F ⟨6, i, a, n, hw, p, t, c, v⟩ = noF F 11 := by unfold stF; dsimp only; rw [if_neg (by decide), if_neg (by decide), if_pos hI]
  rw [e]
  exact doS6 h i a n hw p t c v hI
theorem anyS7 (h : PfAt B w T F) (i a n hw p t c v : Int) (hI : isS F i = false) : Calls Tryz.prog 11 #[.pointer (some ⟨T.s, 0, none⟩), .agg #[.int .i64 7, .int .i64 i, .int .i64 a, .int .i64 n, .int .i64 hw, .int .i64 p, .int .i64 t, .int .i64 c, .int .u64 v]] w (DoV B w T (stF F ⟨7, i, a, n, hw, p, t, c, v⟩)) := by
  have e : stF F ⟨7, i, a, n, hw, p, t, c, v⟩ = noF F 11 := by unfold stF; dsimp only; rw [if_neg (by decide), if_neg (by decide), if_pos hI]
  rw [e]
  exact doS7 h i a n hw p t c v hI
theorem anyS8 (h : PfAt B w T F) (i a n hw p t c v : Int) (hI : isS F i = false) : Calls Tryz.prog 11 #[.pointer (some ⟨T.s, 0, none⟩), .agg #[.int .i64 8, .int .i64 i, .int .i64 a, .int .i64 n, .int .i64 hw, .int .i64 p, .int .i64 t, .int .i64 c, .int .u64 v]] w (DoV B w T (stF F ⟨8, i, a, n, hw, p, t, c, v⟩)) := by
  have e : stF F ⟨8, i, a, n, hw, p, t, c, v⟩ = noF F 11 := by unfold stF; dsimp only; rw [if_neg (by decide), if_neg (by decide), if_pos hI]
  rw [e]
  exact doS8 h i a n hw p t c v hI
theorem anyS9 (h : PfAt B w T F) (i a n hw p t c v : Int) (hI : isS F i = false) : Calls Tryz.prog 11 #[.pointer (some ⟨T.s, 0, none⟩), .agg #[.int .i64 9, .int .i64 i, .int .i64 a, .int .i64 n, .int .i64 hw, .int .i64 p, .int .i64 t, .int .i64 c, .int .u64 v]] w (DoV B w T (stF F ⟨9, i, a, n, hw, p, t, c, v⟩)) := by
  have e : stF F ⟨9, i, a, n, hw, p, t, c, v⟩ = noF F 11 := by unfold stF; dsimp only; rw [if_neg (by decide), if_neg (by decide), if_pos hI]
  rw [e]
  exact doS9 h i a n hw p t c v hI
theorem anyS10 (h : PfAt B w T F) (i a n hw p t c v : Int) (hI : isS F i = false) : Calls Tryz.prog 11 #[.pointer (some ⟨T.s, 0, none⟩), .agg #[.int .i64 10, .int .i64 i, .int .i64 a, .int .i64 n, .int .i64 hw, .int .i64 p, .int .i64 t, .int .i64 c, .int .u64 v]] w (DoV B w T (stF F ⟨10, i, a, n, hw, p, t, c, v⟩)) := by
  have e : stF F ⟨10, i, a, n, hw, p, t, c, v⟩ = noF F 11 := by unfold stF; dsimp only; rw [if_neg (by decide), if_neg (by decide), if_pos hI]
  rw [e]
  exact doS10 h i a n hw p t c v hI
theorem any3 (h : PfAt B w T F) (hs : T.LS[j]? = some (some s)) {a n : Int} (ha : Fits a) (hn : Fits n) (hw p t c v : Int) : Calls Tryz.prog 11 #[.pointer (some ⟨T.s, 0, none⟩), .agg #[.int .i64 3, .int .i64 j, .int .i64 a, .int .i64 n, .int .i64 hw, .int .i64 p, .int .i64 t, .int .i64 c, .int .u64 v]] w (DoV B w T (stF F ⟨3, j, a, n, hw, p, t, c, v⟩)) := by
  have e : stF F ⟨3, j, a, n, hw, p, t, c, v⟩ = if unE (sp F j).P a n ≠ 0 then noF F (unE (sp F j).P a n) else (0, 0, put F j ({ sp F j with P := unP (sp F j).P a n, W := clr (sp F j).W a n })) := by
    unfold stF
    dsimp only
    rw [if_neg (by decide), if_neg (by decide), if_neg (by rw [isS_of h hs]; decide), if_neg (by decide), if_neg (by decide), if_neg (by decide)]
    rfl
  rw [e]
  by_cases c0 : unE (sp F j).P a n = 0
  · rw [if_neg (by simpa using c0)]
    exact do3 h a n hw p t c v hs _ fun V hb => unmap_ok (h.call hb) hs ha hn 3 j hw p t c v c0
  · rw [if_pos c0]
    exact do3 h a n hw p t c v hs _ fun V hb => unmap_no (h.call hb) hs ha hn 3 j hw p t c v c0
theorem any4 (h : PfAt B w T F) (hs : T.LS[j]? = some (some s)) {a n : Int} (ha : Fits a) (hn : Fits n) (hw p t c v : Int) : Calls Tryz.prog 11 #[.pointer (some ⟨T.s, 0, none⟩), .agg #[.int .i64 4, .int .i64 j, .int .i64 a, .int .i64 n, .int .i64 hw, .int .i64 p, .int .i64 t, .int .i64 c, .int .u64 v]] w (DoV B w T (stF F ⟨4, j, a, n, hw, p, t, c, v⟩)) := by
  have e : stF F ⟨4, j, a, n, hw, p, t, c, v⟩ = if prE (sp F j).P a n p ≠ 0 then noF F (prE (sp F j).P a n p) else (0, 0, put F j { sp F j with P := prP (sp F j).P a n p }) := by
    unfold stF
    dsimp only
    rw [if_neg (by decide), if_neg (by decide), if_neg (by rw [isS_of h hs]; decide), if_neg (by decide), if_neg (by decide), if_neg (by decide)]
    rfl
  rw [e]
  exact do4 h a n hw p t c v hs _ fun V hb => protect_f (h.call hb) hs ha hn 4 j hw p t c v
theorem any5 (h : PfAt B w T F) (hs : T.LS[j]? = some (some s)) {a n : Int} (ha : Fits a) (hn : Fits n) (hw p t c v : Int) : Calls Tryz.prog 11 #[.pointer (some ⟨T.s, 0, none⟩), .agg #[.int .i64 5, .int .i64 j, .int .i64 a, .int .i64 n, .int .i64 hw, .int .i64 p, .int .i64 t, .int .i64 c, .int .u64 v]] w (DoV B w T (stF F ⟨5, j, a, n, hw, p, t, c, v⟩)) := by
  have e : stF F ⟨5, j, a, n, hw, p, t, c, v⟩ = if zapE (sp F j).P a n ≠ 0 then noF F (zapE (sp F j).P a n) else (0, 0, put F j { sp F j with W := clr (sp F j).W a n }) := by
    unfold stF
    dsimp only
    rw [if_neg (by decide), if_neg (by decide), if_neg (by rw [isS_of h hs]; decide), if_neg (by decide), if_neg (by decide), if_neg (by decide)]
    rfl
  rw [e]
  by_cases c1 : rtI a n 0 = 0
  · by_cases c2 : covB (sp F j).P a n.toNat = false
    · have e1 : zapE (sp F j).P a n = 6 := by unfold zapE; rw [if_neg (by simpa using c1), if_pos c2]
      rw [e1, if_pos (by decide)]
      exact do5 h a n hw p t c v hs _ fun V hb => zap_nc (h.call hb) hs ha hn 5 j hw p t c v c1 c2
    · by_cases c3 : cutsB (sp F j).P a n = true
      · have e1 : zapE (sp F j).P a n = 2 := by unfold zapE; rw [if_neg (by simpa using c1), if_neg c2, if_pos c3]
        rw [e1, if_pos (by decide)]
        exact do5 h a n hw p t c v hs _ fun V hb => zap_cu (h.call hb) hs ha hn 5 j hw p t c v c1 (by simpa using c2) c3
      · have e1 : zapE (sp F j).P a n = 0 := by unfold zapE; rw [if_neg (by simpa using c1), if_neg c2, if_neg c3]
        rw [e1, if_neg (by decide)]
        exact do5 h a n hw p t c v hs _ fun V hb => zap_ok (h.call hb) hs ha hn 5 j hw p t c v c1 (by simpa using c2) (by simpa using c3)
  · have e1 : zapE (sp F j).P a n = rtI a n 0 := by unfold zapE; rw [if_pos c1]
    rw [e1, if_pos c1]
    exact do5 h a n hw p t c v hs _ fun V hb => zap_rt (h.call hb) hs ha hn 5 j hw p t c v c1
theorem any6 (h : PfAt B w T F) (hs : T.LS[j]? = some (some s)) (ok : FlOk F) {a n t : Int} (ha : Fits a) (hn : Fits n) (ht : Fits t) (hw p c v : Int) : Calls Tryz.prog 11 #[.pointer (some ⟨T.s, 0, none⟩), .agg #[.int .i64 6, .int .i64 j, .int .i64 a, .int .i64 n, .int .i64 hw, .int .i64 p, .int .i64 t, .int .i64 c, .int .u64 v]] w (DoV B w T (stF F ⟨6, j, a, n, hw, p, t, c, v⟩)) := by
  have e : stF F ⟨6, j, a, n, hw, p, t, c, v⟩ = if mvE (sp F j).P a n t ≠ 0 then noF F (mvE (sp F j).P a n t) else (0, 0, put F j ({ sp F j with P := mvP (sp F j).P a n t, W := mvW (sp F j).W a n t })) := by
    unfold stF
    dsimp only
    rw [if_neg (by decide), if_neg (by decide), if_neg (by rw [isS_of h hs]; decide), if_neg (by decide), if_neg (by decide), if_neg (by decide)]
    rfl
  rw [e]
  by_cases c0 : mvE (sp F j).P a n t = 0
  · rw [if_neg (by simpa using c0)]
    exact do6 h a n hw p t c v hs _ fun V hb => move_ok (h.call hb) hs ha hn ht 6 j hw p c v ok c0
  · rw [if_pos c0]
    exact do6 h a n hw p t c v hs _ fun V hb => move_no (h.call hb) hs ha hn ht 6 j hw p c v c0
theorem any7 (h : PfAt B w T F) (hs : T.LS[j]? = some (some s)) (a n hw p t c v : Int) : Calls Tryz.prog 11 #[.pointer (some ⟨T.s, 0, none⟩), .agg #[.int .i64 7, .int .i64 j, .int .i64 a, .int .i64 n, .int .i64 hw, .int .i64 p, .int .i64 t, .int .i64 c, .int .u64 v]] w (DoV B w T (stF F ⟨7, j, a, n, hw, p, t, c, v⟩)) := by
  have e : stF F ⟨7, j, a, n, hw, p, t, c, v⟩ = addF F (cpS (sp F j)) := by
    unfold stF
    dsimp only
    rw [if_neg (by decide), if_neg (by decide), if_neg (by rw [isS_of h hs]; decide), if_pos rfl]
  rw [e]
  exact do7 h a n hw p t c v hs _ fun V hb => fork_f (h.call hb) hs 7 a n hw p t c v
theorem any8 (h : PfAt B w T F) (hs : T.LS[j]? = some (some s)) (a n hw p t c v : Int) : Calls Tryz.prog 11 #[.pointer (some ⟨T.s, 0, none⟩), .agg #[.int .i64 8, .int .i64 j, .int .i64 a, .int .i64 n, .int .i64 hw, .int .i64 p, .int .i64 t, .int .i64 c, .int .u64 v]] w (DoV B w T (stF F ⟨8, j, a, n, hw, p, t, c, v⟩)) := by
  have e : stF F ⟨8, j, a, n, hw, p, t, c, v⟩ = (0, 0, put F j { sp F j with g := true }) := by
    unfold stF
    dsimp only
    rw [if_neg (by decide), if_neg (by decide), if_neg (by rw [isS_of h hs]; decide), if_neg (by decide), if_neg (by decide), if_neg (by decide)]
    rfl
  rw [e]
  exact do8 h a n hw p t c v hs _ fun V hb => exit_f (h.call hb) hs 8 a n hw p t c v rfl
theorem any9 (h : PfAt B w T F) (hs : T.LS[j]? = some (some s)) (ok : FlOk F) (hL : F.O.length ≤ 1000) {a : Int} (ha : Fits a) (n hw p t c v : Int) : Calls Tryz.prog 11 #[.pointer (some ⟨T.s, 0, none⟩), .agg #[.int .i64 9, .int .i64 j, .int .i64 a, .int .i64 n, .int .i64 hw, .int .i64 p, .int .i64 t, .int .i64 c, .int .u64 v]] w (DoV B w T (stF F ⟨9, j, a, n, hw, p, t, c, v⟩)) := by
  have e : stF F ⟨9, j, a, n, hw, p, t, c, v⟩ = accR F ⟨9, j, a, n, hw, p, t, c, v⟩ := by
    unfold stF
    dsimp only
    rw [if_neg (by decide), if_neg (by decide), if_neg (by rw [isS_of h hs]; decide), if_neg (by decide), if_pos (Or.inl rfl)]
  rw [e]
  unfold accR
  dsimp only
  by_cases c1 : celE 10 4 (sp F j) a = 0
  · rw [if_neg (by simpa using c1)]
    by_cases c2 : ((sp F j).P (a / 64)).p = 0
    · rw [if_pos (Or.inl c2)]
      exact do9 h a n hw p t c v hs _ fun V hb => (load_rt (h.call hb) ok hL hs ha 9 j n hw p t c v c1 c2).mono fun e w' d => ⟨d.1, (h.call hb).did d.2⟩
    · rw [if_neg (fun e => e.elim c2 fun e => absurd e.1 (by decide)), if_neg (by decide)]
      exact do9 h a n hw p t c v hs _ fun V hb => (load_ok (h.call hb) ok hL hs ha 9 j n hw p t c v c1 c2).mono fun e w' d => ⟨d.1, (h.call hb).did d.2⟩
  · rw [if_pos c1]
    exact do9 h a n hw p t c v hs _ fun V hb => (load_no (h.call hb) ok hL hs ha 9 j n hw p t c v c1).mono fun e w' d => ⟨d.1, (h.call hb).did d.2⟩
theorem any10 (h : PfAt B w T F) (hs : T.LS[j]? = some (some s)) (ok : FlOk F) (hL : F.O.length ≤ 1000) {a : Int} (ha : Fits a) (n hw p t c v : Int) : Calls Tryz.prog 11 #[.pointer (some ⟨T.s, 0, none⟩), .agg #[.int .i64 10, .int .i64 j, .int .i64 a, .int .i64 n, .int .i64 hw, .int .i64 p, .int .i64 t, .int .i64 c, .int .u64 v]] w (DoV B w T (stF F ⟨10, j, a, n, hw, p, t, c, v⟩)) := by
  have e : stF F ⟨10, j, a, n, hw, p, t, c, v⟩ = accR F ⟨10, j, a, n, hw, p, t, c, v⟩ := by
    unfold stF
    dsimp only
    rw [if_neg (by decide), if_neg (by decide), if_neg (by rw [isS_of h hs]; decide), if_neg (by decide), if_pos (Or.inr rfl)]
  rw [e]
  unfold accR
  dsimp only
  by_cases c1 : celE 10 4 (sp F j) a = 0
  · rw [if_neg (by simpa using c1)]
    by_cases c2 : ((sp F j).P (a / 64)).p = 3
    · rw [if_neg (fun e => e.elim (fun e => by
        have e : ((sp F j).P (a / 64)).p = 0 := e
        omega) fun e => e.2 c2), if_pos rfl]
      exact do10 h a n hw p t c v hs _ fun V hb => (store_ok (h.call hb) ok hL hs ha 10 j n hw p t c v c1 c2)
    · rw [if_pos (Or.inr ⟨rfl, c2⟩)]
      exact do10 h a n hw p t c v hs _ fun V hb => (store_rt (h.call hb) ok hL hs ha 10 j n hw p t c v c1 c2).mono fun e w' d => ⟨d.1, (h.call hb).did d.2⟩
  · rw [if_pos c1]
    exact do10 h a n hw p t c v hs _ fun V hb => (store_no (h.call hb) ok hL hs ha 10 j n hw p t c v c1).mono fun e w' d => ⟨d.1, (h.call hb).did d.2⟩
theorem any2 (h : PfAt B w T F) (hs : T.LS[j]? = some (some s)) (hO : F.O.length ≤ 1000) {a n : Int} (ha : Fits a) (hn : Fits n) (hw p t c v : Int) : Calls Tryz.prog 11 #[.pointer (some ⟨T.s, 0, none⟩), .agg #[.int .i64 2, .int .i64 j, .int .i64 a, .int .i64 n, .int .i64 hw, .int .i64 p, .int .i64 t, .int .i64 c, .int .u64 v]] w (DoV B w T (stF F ⟨2, j, a, n, hw, p, t, c, v⟩)) := by
  have e : stF F ⟨2, j, a, n, hw, p, t, c, v⟩ = mapR F ⟨2, j, a, n, hw, p, t, c, v⟩ := by
    unfold stF
    dsimp only
    rw [if_neg (by decide), if_neg (by decide), if_neg (by rw [isS_of h hs]; decide), if_neg (by decide), if_neg (by decide), if_pos rfl]
  rw [e]
  unfold mapR
  dsimp only
  by_cases c0 : a = 0
  · subst c0
    rw [if_pos rfl]
    have hmo : mapE (fun _ => zP) (szO hw) n hw p (objI F hw) = mapE (fun _ => zP) (szO hw) n hw p 0 := by
      refine mapE_o ?_ ?_
      · unfold objI; split <;> omega
      · intro e; unfold objI at e
        by_cases c2 : shr hw
        · exact c2
        · rw [if_neg c2] at e; omega
    rw [hmo]
    by_cases c3 : mapE (fun _ => zP) (szO hw) n hw p 0 = 0
    · rw [if_neg (by simpa using c3)]
      obtain ⟨m1, m2, -, -⟩ := mapE_ok c3
      have hz := (rt_in m2).2.1
      have hsz := shl_sz hw
      obtain ⟨q1, q2, q3⟩ := room_eq (h.at_ hs).2.ars.wh (n := n) (sz := szO hw) (by rcases hsz with e | e | e <;> omega) hz
      rw [q1]
      by_cases c4 : 4096 < rmG n (szO hw) s.l (szO hw) + n
      · rw [if_pos c4, if_pos rfl]
        exact do2 h 0 n hw p t c v hs _ fun V hb => layB_fu (h.call hb) hs hn 2 hw p t c v c3 c4
      · rw [if_neg c4, if_neg (by omega)]
        unfold mapAt
        dsimp only
        by_cases c1 : mapE (sp F j).P (rmG n (szO hw) s.l (szO hw)) n hw p (objI F hw) = 0
        · rw [if_neg (by simpa using c1)]
          by_cases c2 : shr hw
          · have e2 : put (objF F hw) j { sp F j with P := mapP (sp F j).P (rmG n (szO hw) s.l (szO hw)) n hw p (objI F hw) } = ⟨F.L.set j { sp F j with P := mapP (sp F j).P (rmG n (szO hw) s.l (szO hw)) n hw p (objI F hw) }, F.O ++ [fun _ => 0]⟩ := by
              unfold put objF
              rw [if_pos c2, Int.toNat_natCast]
            rw [e2]
            exact do2 h 0 n hw p t c v hs _ fun V hb => layB_sh (h.call hb) hs hn hO 2 hw p t c v c3 c4 q2 c1 c2
          · have e2 : objF F hw = F := if_neg c2
            rw [e2]
            exact do2 h 0 n hw p t c v hs _ fun V hb => layB_ok (h.call hb) hs hn 2 hw p t c v c3 c4 q2 c1 c2
        · rw [if_pos c1]
          exact do2 h 0 n hw p t c v hs _ fun V hb => layB_no (h.call hb) hs hn 2 hw p t c v c3 c4 q2 c1
    · rw [if_pos c3]
      exact do2 h 0 n hw p t c v hs _ fun V hb => layB_ro (h.call hb) hs hn 2 hw p t c v c3
  · rw [if_neg c0]
    unfold mapAt
    dsimp only
    by_cases c1 : mapE (sp F j).P a n hw p (objI F hw) = 0
    · rw [if_neg (by simpa using c1)]
      by_cases c2 : shr hw
      · have e2 : put (objF F hw) j { sp F j with P := mapP (sp F j).P a n hw p (objI F hw) } = ⟨F.L.set j { sp F j with P := mapP (sp F j).P a n hw p (objI F hw) }, F.O ++ [fun _ => 0]⟩ := by
          unfold put objF
          rw [if_pos c2, Int.toNat_natCast]
        rw [e2]
        exact do2 h a n hw p t c v hs _ fun V hb => layA_sh (h.call hb) hs ha hn hO 2 hw p t c v c0 c1 c2
      · have e2 : objF F hw = F := if_neg c2
        rw [e2]
        exact do2 h a n hw p t c v hs _ fun V hb => layA_ok (h.call hb) hs ha hn 2 hw p t c v c0 c1 c2
    · rw [if_pos c1]
      exact do2 h a n hw p t c v hs _ fun V hb => layA_no (h.call hb) hs ha hn 2 hw p t c v c0 c1
theorem any_do (h : PfAt B w T F) (ok : FlOk F) (hL : F.O.length ≤ 1000) (k i a n hw p t c v : Int) (ha : Fits a) (hn : Fits n) (ht : Fits t) : Calls Tryz.prog 11 #[.pointer (some ⟨T.s, 0, none⟩), .agg #[.int .i64 k, .int .i64 i, .int .i64 a, .int .i64 n, .int .i64 hw, .int .i64 p, .int .i64 t, .int .i64 c, .int .u64 v]] w (DoV B w T (stF F ⟨k, i, a, n, hw, p, t, c, v⟩)) := by
  by_cases c0 : k < 1 ∨ 10 < k
  · exact anyA h k i a n hw p t c v c0
  · cases hI : isS F i with
    | false =>
      rcases (show k = 1 ∨ k = 2 ∨ k = 3 ∨ k = 4 ∨ k = 5 ∨ k = 6 ∨ k = 7 ∨ k = 8 ∨ k = 9 ∨ k = 10 by omega) with rfl | rfl | rfl | rfl | rfl | rfl | rfl | rfl | rfl | rfl
      · exact any1 h i a n hw p t c v
      · exact anyS2 h i a n hw p t c v hI
      · exact anyS3 h i a n hw p t c v hI
      · exact anyS4 h i a n hw p t c v hI
      · exact anyS5 h i a n hw p t c v hI
      · exact anyS6 h i a n hw p t c v hI
      · exact anyS7 h i a n hw p t c v hI
      · exact anyS8 h i a n hw p t c v hI
      · exact anyS9 h i a n hw p t c v hI
      · exact anyS10 h i a n hw p t c v hI
    | true =>
      obtain ⟨j, s, rfl, hs⟩ := isS_yes h hI
      rcases (show k = 1 ∨ k = 2 ∨ k = 3 ∨ k = 4 ∨ k = 5 ∨ k = 6 ∨ k = 7 ∨ k = 8 ∨ k = 9 ∨ k = 10 by omega) with rfl | rfl | rfl | rfl | rfl | rfl | rfl | rfl | rfl | rfl
      · exact any1 h j a n hw p t c v
      · exact any2 h hs hL ha hn hw p t c v
      · exact any3 h hs ha hn hw p t c v
      · exact any4 h hs ha hn hw p t c v
      · exact any5 h hs ha hn hw p t c v
      · exact any6 h hs ok ha hn ht hw p c v
      · exact any7 h hs a n hw p t c v
      · exact any8 h hs a n hw p t c v
      · exact any9 h hs ok hL ha n hw p t c v
      · exact any10 h hs ok hL ha n hw p t c v
end
end Go.Proofs.YtnppnoabhpkmkaaGreat
