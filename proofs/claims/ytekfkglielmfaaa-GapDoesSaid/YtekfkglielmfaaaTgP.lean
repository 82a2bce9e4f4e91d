/- The program's object: Room. -/
import Derived.Test.YtekfkglielmfaaaTgO
namespace Go.Proofs.Ytekfkglielmfaaa
open Go.RowKit
open Instr in
@[go_sem] theorem store_func {P : Program} {w : World} (a : Addr) (m : Mode) (f : Fn) (t c : Array Value) : (store a (.func f t c) m).run P w = stored P w a (.func f t c) m := run_store P w a _ m rfl
section
variable {w w' W W' : World} {B x : Nat} {L : List (Nat × Nat)}
theorem boxes3 (w : World) (low n o : Int) : ∃ W3 q, ((w.alloc (.cells #[.int .i64 low] 3)).alloc (.cells #[.int .i64 n] 3)).alloc (.cells #[.int .i64 o] 3) = W3 ∧ w.heap.size = q ∧ Lrow W3 q 3 [.int .i64 low] ∧ Lrow W3 (q + 1) 3 [.int .i64 n] ∧ Lrow W3 (q + 1 + 1) 3 [.int .i64 o] ∧ W3.heap.size = q + 1 + 1 + 1 ∧ Below w.heap.size w W3 := by
  obtain ⟨W1, e1⟩ : ∃ W1, W1 = w.alloc (.cells #[.int .i64 low] 3) := ⟨_, rfl⟩
  obtain ⟨W2, e2⟩ : ∃ W2, W2 = W1.alloc (.cells #[.int .i64 n] 3) := ⟨_, rfl⟩
  obtain ⟨W3, e3⟩ : ∃ W3, W3 = W2.alloc (.cells #[.int .i64 o] 3) := ⟨_, rfl⟩
  have s1 : W1.heap.size = w.heap.size + 1 := by rw [e1, World.size_alloc]
  have s2 : W2.heap.size = w.heap.size + 1 + 1 := by rw [e2, World.size_alloc, s1]
  have s3 : W3.heap.size = w.heap.size + 1 + 1 + 1 := by rw [e3, World.size_alloc, s2]
  have b1 : Below w.heap.size w W1 := e1 ▸ below_new w _
  have b2 : Below W1.heap.size W1 W2 := e2 ▸ below_new W1 _
  have b3 : Below W2.heap.size W2 W3 := e3 ▸ below_new W2 _
  have r1 : Lrow W1 w.heap.size 3 [.int .i64 low] := by rw [e1]; exact Lrow.new w _ _
  have r2 : Lrow W2 (w.heap.size + 1) 3 [.int .i64 n] := by rw [e2, ← s1]; exact Lrow.new W1 _ _
  have r3 : Lrow W3 (w.heap.size + 1 + 1) 3 [.int .i64 o] := by rw [e3, ← s2]; exact Lrow.new W2 _ _
  exact ⟨W3, w.heap.size, by rw [e3, e2, e1], rfl, (r1.call b2).call b3, r2.call b3, r3, s3, (b1.trans (b2.mono b1.size)).trans (b3.mono (b1.trans (b2.mono b1.size)).size)⟩
theorem room_bad {low n o : Int} (hc : n < 1 ∨ o < 0 ∨ 8 < o) : Calls Try.prog 19 #[.pointer (some ⟨x, 0, none⟩), .int .i64 low, .int .i64 n, .int .i64 o] w fun e w' => e = .returned (.tuple #[.int .i64 0, .int .i64 2]) ∧ Below w.heap.size w w' := by
  obtain ⟨W3, q, e3, hq, r1, r2, r3, s3, b3⟩ := boxes3 w low n o
  have c1 := r1.cell 0
  have c2 := r2.cell 0
  have c3 := r3.cell 0
  have HE := Lib.hid (And.intro e3 (And.intro hq b3))
  clear e3 hq r1 r2 r3 s3 b3
  have hg : n < 1 ∨ (¬ n < 1 ∧ o < 0) ∨ (¬ n < 1 ∧ ¬ o < 0 ∧ 8 < o) := by omega
  clear hc
  rcases hg with g1 | ⟨g1, g2⟩ | ⟨g1, g2, g3⟩
  all_goals
    go_enter Try.func19, Try.ntmps19
    go_upto_region 1 with (fail)
    rw [HE.out.1, HE.out.2.1]
    go_wp2_with fail
    go_ret2
    exact ⟨rfl, HE.out.2.2⟩
theorem room_nil (low n o : Int) (w : World) : Calls Try.prog 19 #[.pointer none, .int .i64 low, .int .i64 n, .int .i64 o] w fun e w' => e = .returned (.tuple #[.int .i64 0, .int .i64 1]) ∧ Below w.heap.size w w' := by
  obtain ⟨W3, q, e3, hq, r1, r2, r3, s3, b3⟩ := boxes3 w low n o
  have HE := Lib.hid (And.intro e3 (And.intro hq b3))
  clear e3 hq r1 r2 r3 s3 b3
  go_enter Try.func19, Try.ntmps19
  go_upto_region 1 with (fail)
  rw [HE.out.1, HE.out.2.1]
  go_wp2_with fail
  go_ret2
  exact ⟨rfl, HE.out.2.2⟩
set_option maxHeartbeats 1000000 in
theorem room_good (h : PrT B w x L) (low : Int) {n : Int} (hn : 1 ≤ n) {o : Nat} (ho : o ≤ 8) : Calls Try.prog 19 #[.pointer (some ⟨x, 0, none⟩), .int .i64 low, .int .i64 n, .int .i64 o] w fun e w' => ∃ p er, e = .returned (.tuple #[.int .i64 p, .int .i64 er]) ∧ RoomIs L low n o p er ∧ Below w.heap.size w w' := by
  obtain ⟨W3, q, e3, hq, r1, r2, r3, s3, b3⟩ := boxes3 w low n o
  obtain ⟨ov, T, r0, nT, bT, okT, rfl, hB⟩ := h
  have c0 := (r0.call b3).cell 0
  have c1 := r1.cell 0
  have c2 := r2.cell 0
  have c3 := r3.cell 0
  have g1 : ¬ n < 1 := by omega
  have g2 : ¬ (o : Int) < 0 := by omega
  have g3 : ¬ (8 : Int) < o := by omega
  obtain ⟨N, rfl⟩ : ∃ N : Nat, n = N := ⟨n.toNat, by omega⟩
  obtain ⟨pf, hpf⟩ : ∃ pf, W3.heap.size = pf := ⟨_, rfl⟩
  obtain ⟨W4, e4⟩ : ∃ W4, W3.alloc (.cells #[(.func (.func 33) #[] #[.pointer (some ⟨q, 0, none⟩), .pointer (some ⟨q + 1, 0, none⟩), .pointer (some ⟨q + 1 + 1, 0, none⟩), .pointer (some ⟨pf, 0, none⟩)])] 68) = W4 := ⟨_, rfl⟩
  have b4 : Below W3.heap.size W3 W4 := e4 ▸ below_new W3 _
  have b04 : Below w.heap.size w W4 := b3.trans (b4.mono b3.size)
  have rf : Lrow W4 pf 68 [(.func (.func 33) #[] #[.pointer (some ⟨q, 0, none⟩), .pointer (some ⟨q + 1, 0, none⟩), .pointer (some ⟨q + 1 + 1, 0, none⟩), .pointer (some ⟨pf, 0, none⟩)])] := by rw [← e4, ← hpf]; exact Lrow.new W3 _ _
  have hc4 : LkC W4 q (q + 1) (q + 1 + 1) pf low N o := ⟨(r1.call b4).cell 0, (r2.call b4).cell 0, (r3.call b4).cell 0, rf.cell 0⟩
  have hL := (look_to ho T).w_ hc4 (nT.call b04) okT (a := 1) (b := 4096) (fun y hy => (okT.in_ y hy).1) (fun y hy => (okT.in_ y hy).2.2) (by omega) (by omega) (by omega)
  have hl := lkP_is (low := low) (N := N) (K := 2 ^ o) (by omega) Nat.one_le_two_pow (T := T) (a := 1) (b := 4096) okT (fun y hy => (okT.in_ y hy).1) (fun y hy => (okT.in_ y hy).2.2) (by omega) (by omega)
  have HL : Hid (RoomIs T.L low N o (lkP low N (2 ^ o) T (1 : Nat) (4096 : Nat)).1 (lkP low N (2 ^ o) T (1 : Nat) (4096 : Nat)).2) := hl.room okT (by omega) (by omega) (by rw [Int.toNat_natCast])
  have x0 := (r0.call b04).cell 0
  have l3 := rf.cell 0
  have HE := Lib.hid (And.intro e3 (And.intro hq b3))
  have HF := Lib.hid (And.intro e4 (And.intro hpf b04))
  generalize lkP low N (2 ^ o) T (1 : Nat) (4096 : Nat) = Q at hL HL
  obtain ⟨Q1, Q2⟩ := Q
  dsimp only at hL HL
  clear e3 hq b3 r0 r1 r2 r3 s3 nT bT okT hn ho hB hl e4 hpf b04 b4 rf hc4
  go_enter Try.func19, Try.ntmps19
  go_upto_region 1 with (fail)
  rw [HE.out.1, HE.out.2.1]
  go_upto_region 7 with (fail)
  rw [HF.out.2.1, HF.out.1]
  clear c0 c1 c2 c3
  go_quiet ((go_at_call 33; (with_reducible refine Calls.quiet_of (hL _ ?_)); rfl))
  go_wp2_with fail
  go_ret2
  exact ⟨_, _, rfl, HL.out, below_dN HF.out.2.2 _⟩
theorem room_t (h : PrT B w x L) (low n o : Int) : Calls Try.prog 19 #[.pointer (some ⟨x, 0, none⟩), .int .i64 low, .int .i64 n, .int .i64 o] w fun e w' => ∃ p er, e = .returned (.tuple #[.int .i64 p, .int .i64 er]) ∧ RoomIs L low n o p er ∧ Below w.heap.size w w' := by
  by_cases hc : n < 1 ∨ o < 0 ∨ 8 < o
  · exact (room_bad hc).mono fun _ _ h => ⟨0, 2, h.1, Or.inl ⟨hc, rfl, rfl⟩, h.2⟩
  · obtain ⟨k, rfl⟩ : ∃ k : Nat, o = k := ⟨o.toNat, by omega⟩
    exact room_good h low (by omega) (by omega)
end
end Go.Proofs.Ytekfkglielmfaaa
