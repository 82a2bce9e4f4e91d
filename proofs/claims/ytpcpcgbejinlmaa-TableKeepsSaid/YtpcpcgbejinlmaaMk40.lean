/- The world that the law makes. -/
import Derived.Test.YtpcpcgbejinlmaaMk39
import Derived.Test.YtpcpcgbejinlmaaMk36
import Derived.Test.YtpcpcgbejinlmaaMk37
namespace Go.Proofs.Ytpcpcgbejinlmaa
open Go.RowKit
def k0 : List Int := List.replicate 4096 0
def bagL (n : Nat) : List Int := (List.range n).map fun i : Nat => 412 + (i : Int)
theorem bagL_succ (n : Nat) : bagL (n + 1) = bagL n ++ [412 + (n : Int)] := by simp [bagL, List.range_succ]
theorem bagL_len (n : Nat) : (bagL n).length = n := by simp [bagL]
theorem bagL_mem {n : Nat} {x : Int} (h : x ∈ bagL n) : 412 ≤ x ∧ x < 412 + n := by
  unfold bagL at h
  rw [List.mem_map] at h
  obtain ⟨i, hi, rfl⟩ := h
  rw [List.mem_range] at hi
  omega
theorem ze_rep (n : Nat) (hn : n = 4096) (f : Int) : zeL (List.replicate n 0) f 1 = List.replicate n 0 := by
  unfold zeL
  split
  · rename_i h
    have hf : 0 ≤ f ∧ f < 512 := by
      unfold errZ errF at h
      rw [List.length_replicate, if_neg (by omega)] at h
      split at h
      · omega
      · omega
    unfold splice
    obtain ⟨q, hq⟩ : ∃ q, q = (1 : Int).toNat * 8 := ⟨_, rfl⟩
    have hq8 : q = 8 := hq
    rw [← hq]
    refine List.eq_replicate_iff.2 ⟨?_, fun x hx => ?_⟩
    · simp only [List.length_append, List.length_take, List.length_drop, List.length_replicate]; omega
    · rcases List.mem_append.1 hx with hx | hx
      · first
        | exact (List.mem_replicate.1 (List.mem_of_mem_take hx)).2
        | (rcases List.mem_append.1 hx with hx | hx
           · exact (List.mem_replicate.1 (List.mem_of_mem_take hx)).2
           · exact (List.mem_replicate.1 hx).2)
      · first
        | exact (List.mem_replicate.1 (List.mem_of_mem_drop hx)).2
        | (rcases List.mem_append.1 hx with hx | hx
           · exact (List.mem_replicate.1 hx).2
           · exact (List.mem_replicate.1 (List.mem_of_mem_drop hx)).2)
  · rfl
theorem ze_k0 (f : Int) : zeL k0 f 1 = k0 := ze_rep 4096 rfl f
def MdAt (w W : World) (s : Seat) (v : Value) (g x0 x1 : Nat) (L R : List Int) (r0 r1 lf : Int) : Prop :=
  Tab W s v k0 L R ∧ Row W g 41 [.pointer (some ⟨s.x, 0, none⟩), .pointer (some ⟨s.a, 0, none⟩), .pointer (some ⟨s.y, 0, none⟩), .int .i64 r0, .int .i64 r1, .pointer (some ⟨x0, 0, none⟩), .pointer (some ⟨x1, 0, none⟩), .int .i64 lf] ∧ Row W x0 65 [.slice none 0 0] ∧ Row W x1 65 [.slice none 0 0] ∧ Below w.heap.size w W ∧ (w.heap.size ≤ s.b ∧ w.heap.size ≤ s.y ∧ w.heap.size ≤ s.m ∧ w.heap.size ≤ g ∧ w.heap.size ≤ x0 ∧ w.heap.size ≤ x1)
def MadeAt (w : World) (n : Nat) (e : Ending) (W : World) : Prop :=
  ∃ s v g x0 x1, e = .returned (.pointer (some ⟨g, 0, none⟩)) ∧ MdAt w W s v g x0 x1 (bagL (n - 2)) [412 + ((n - 2 : Nat) : Int), 412 + ((n - 1 : Nat) : Int)] (412 + ((n - 1 : Nat) : Int)) (412 + ((n - 2 : Nat) : Int)) ((n - 2 : Nat) : Int)
section
variable {w W : World} {s : Seat} {v : Value} {g x0 x1 : Nat} {L R : List Int} {r0 r1 lf : Int}
theorem md_root {f : Int} (h : MdAt w W s v g x0 x1 (L ++ [f]) R r0 r1 lf) (hf : ∀ x ∈ L ++ [f], 0 ≤ x ∧ x < 512) (hL : L.length < 1000) (hR : f ∉ R) (hRl : R.length < 1000) : Calls Try.prog 21 #[.pointer (some ⟨s.x, 0, none⟩)] W fun e W' =>
    e = .returned (.tuple #[.int .i64 f, .int .i64 0]) ∧ ∃ v', MdAt w W' s v' g x0 x1 L (f :: R) r0 r1 lf := by
  obtain ⟨hT, hg, h0, h1, hb, e1, e2, e3, e4⟩ := h
  refine (root_any hT hf hL hR hRl).mono ?_
  rintro e W' ⟨rfl, v', hT', hM⟩
  rw [ze_k0] at hT'
  exact ⟨rfl, v', hT', hT.row hM hg (by decide) (by decide) (by decide), hT.row hM h0 (by decide) (by decide) (by decide), hT.row hM h1 (by decide) (by decide) (by decide), hb.trans (hT.below hM hb.size e1 e2 e3), e1, e2, e3, e4⟩
theorem md_set {r0' r1' lf' x : Int} (i : Nat) (h : MdAt w W s v g x0 x1 L R r0 r1 lf)
    (hc : [Value.pointer (some ⟨s.x, 0, none⟩), .pointer (some ⟨s.a, 0, none⟩), .pointer (some ⟨s.y, 0, none⟩), .int .i64 r0, .int .i64 r1, .pointer (some ⟨x0, 0, none⟩), .pointer (some ⟨x1, 0, none⟩), .int .i64 lf].set i (.int .i64 x) = [.pointer (some ⟨s.x, 0, none⟩), .pointer (some ⟨s.a, 0, none⟩), .pointer (some ⟨s.y, 0, none⟩), .int .i64 r0', .int .i64 r1', .pointer (some ⟨x0, 0, none⟩), .pointer (some ⟨x1, 0, none⟩), .int .i64 lf']) :
    MdAt w (W.setCell ⟨g, i, none⟩ (.int .i64 x)) s v g x0 x1 L R r0' r1' lf' := by
  obtain ⟨hT, hg, h0, h1, hb, e1, e2, e3, e4, e5, e6⟩ := h
  have nm := hT.apart hg (by decide) (by decide) (by decide)
  have na : s.a ≠ g := hT.ram.top.apart hg (by decide)
  have nx : s.x ≠ g := hT.top.apart hg (by decide)
  have n0 : x0 ≠ g := h0.apart hg (by decide)
  have n1 : x1 ≠ g := h1.apart hg (by decide)
  refine ⟨hT.keep (by rw [World.size_setCell]; exact Nat.le_refl _) fun k hk => Below.heap_setCell W _ _ k ?_, ?_, h0.far (p := ⟨g, i, none⟩) n0 _, h1.far (p := ⟨g, i, none⟩) n1 _, hb.setCell (p := ⟨g, i, none⟩) e4 _, e1, e2, e3, e4, e5, e6⟩
  · rintro rfl
    rcases hk with e | e | e
    · exact na e.symm
    · exact nx e.symm
    · exact nm e
  · rw [← hc]; exact hg.set_ i _
end
theorem bag_ok {n : Nat} (h : n ≤ 100) : ∀ x ∈ bagL n, 0 ≤ x ∧ x < 512 := fun x hx => by have := bagL_mem hx; omega
theorem bag_step {w : World} {C x n : Nat} {A : Option Addr} {c : Nat} {L : List Int} (h : BagAt w C x (.slice A n c) L) (hn : n = L.length) (hx : x < C) (hC : C ≤ w.heap.size) (hL : L.length < 5000) (f : Int) : ∃ A1 c1 W1,
    (Builtin.append_ #[44, 44] 44 #[.slice A n c, .slice (some ⟨w.heap.size, 0, none⟩) 1 1]).run Try.prog (w.alloc (.cells #[.int .i64 f] 3)) = .ok (.slice A1 (n + 1) c1) W1 ∧
    W1.cell? ⟨x, 0, none⟩ = some (.slice A n c) ∧ W1.frozen? ⟨x, 0, none⟩ = false ∧ BagAt (W1.setCell ⟨x, 0, none⟩ (.slice A1 (n + 1) c1)) C x (.slice A1 (n + 1) c1) (L ++ [f]) ∧ Below x w (W1.setCell ⟨x, 0, none⟩ (.slice A1 (n + 1) c1)) ∧ w.heap.size ≤ (W1.setCell ⟨x, 0, none⟩ (.slice A1 (n + 1) c1)).heap.size := by
  subst hn
  have hrow := h.row
  obtain ⟨A1, c1, W1, r1, o1, g1⟩ := app1_run hC hrow (by omega) f
  have hne : some x ≠ (Value.slice A L.length c).ownBlock := fun e => by have := (hrow.lt _ e.symm).1; omega
  have T1 := h.top.grown g1 hne
  have hs : w.heap.size ≤ (W1.setCell ⟨x, 0, none⟩ (.slice A1 (L.length + 1) c1)).heap.size := by have := g1.size; simpa [World.setCell] using this
  refine ⟨A1, c1, W1, r1, T1.cell 0, T1.frozen 0, ⟨T1.set_ 0 _, ?_, by rw [List.length_append]; simp; omega⟩, ?_, hs⟩
  · rw [List.length_append, List.map_append]
    exact ownsRow_setCell_below o1 (a := ⟨x, 0, none⟩) hx _
  · exact ((Below.refl x w).grown g1 (by omega) (fun r e => by have := (hrow.lt _ e).1; omega)).setCell (p := ⟨x, 0, none⟩) (Nat.le_refl _) _
set_option maxRecDepth 100000 in
set_option maxHeartbeats 2000000 in
theorem made_any (w : World) (n : Nat) (h2 : 2 ≤ n) (h90 : n ≤ 100) : Calls Try.prog 6 #[.int .i64 (n : Int)] w (MadeAt w n) := by
  have hram := new_ok 512 w (by omega) (by omega)
  go_enter Try.func6, Try.ntmps6
  go_wp2_with fail
  refine hram.mono ?_
  rintro e w1 ⟨rfl, hr, hb1, hs1⟩
  obtain ⟨a, ha⟩ : ∃ a, a = w.heap.size + 1 := ⟨_, rfl⟩
  obtain ⟨b, hb⟩ : ∃ b, b = w.heap.size := ⟨_, rfl⟩
  obtain ⟨y, hy⟩ : ∃ y, y = w1.heap.size := ⟨_, rfl⟩
  obtain ⟨w2, hw2⟩ : ∃ w2, w2 = w1.alloc (.cells #[.slice none 0 0] 46) := ⟨_, rfl⟩
  have b2 : Below y w1 w2 := by rw [hw2, hy]; exact below_new w1 _ _
  have r2 : Row w2 y 46 [.slice none 0 0] := by rw [hw2, hy]; exact Row.new w1 _ _
  have s2 : w2.heap.size = y + 1 := by rw [hw2, hy]; simp
  rw [← ha, ← hb] at hr
  rw [← ha]
  have HR := Lib.hid hr
  have HB1 := Lib.hid hb1
  have HS1 := Lib.hid hs1
  have HA := Lib.hid ha
  have HB := Lib.hid hb
  have HY := Lib.hid hy
  have HW2 := Lib.hid hw2
  have HB2 := Lib.hid b2
  have HR2 := Lib.hid r2
  have HS2 := Lib.hid s2
  clear hram hr hb1 hs1 ha hb hy hw2 b2 r2 s2
  go_upto_region 3 with (fail)
  rw [← HW2.out, ← HY.out]
  go_wp2_with fail
  go_loopw [6] (fun i wx => ∃ (k : Nat) (A : Option Addr) (c : Nat), k ≤ n ∧ i = .int .i64 k ∧ BagAt wx (y + 1) y (.slice A k c) (bagL k) ∧ Below y w1 wx ∧ y + 1 ≤ wx.heap.size) (fun i _ => n - (intOf i).toNat)
  case atStart => exact ⟨0, none, 0, Nat.zero_le _, rfl, ⟨HR2.out, World.ownsRow_nil _ _ _ _, by simp [bagL]⟩, HB2.out, by rw [HS2.out]; exact Nat.le_refl _⟩
  case round =>
    obtain ⟨k, A, c, hk, rfl, hbag, hbe, hsz⟩ := hrel
    by_cases hkn : k < n
    · have hi : (k : Int) < n := by omega
      have hi100 : (k : Int) < 100 := by omega
      have hwf : IntKind.i64.wrap (412 + (k : Int)) = 412 + (k : Int) := IntWalk.i64_in _ (by omega)
      obtain ⟨A1, c1, W1, r1, hc1, hf1, hbag1, hbe1, hsz1⟩ := bag_step hbag (bagL_len k).symm (Nat.lt_succ_self y) hsz (by rw [bagL_len]; omega) (412 + (k : Int))
      obtain ⟨W2, hW2⟩ : ∃ W2, W2 = W1.setCell ⟨y, 0, none⟩ (.slice A1 (k + 1) c1) := ⟨_, rfl⟩
      rw [← hW2] at hbag1 hbe1 hsz1
      have c0 : wr.cell? ⟨y, 0, none⟩ = some (.slice A k c) := hbag.top.cell 0
      have hbeT : Below y w1 W2 := hbe.trans (hbe1.mono (by omega))
      have HBT := Lib.hid (And.intro hbag1 (And.intro hbeT (Nat.le_trans hsz hsz1)))
      have HW2' := Lib.hid hW2
      clear hbag hbe hsz hbag1 hbe1 hsz1 hW2 hbeT
      go_wp2_with (at_builtin; refine wpList_append_run8 rfl _ _ 44 rfl (.slice A k c) (.slice (some ⟨wr.heap.size, 0, none⟩) 1 1) rfl rfl r1 ?_)
      go_roundw
      case rel => exact ⟨k + 1, A1, c1, by omega, by go_num, by
        have := HBT.out.1
        rw [← bagL_succ] at this
        rw [← HW2'.out]; exact this, by rw [← HW2'.out]; exact HBT.out.2.1, by rw [← HW2'.out]; exact HBT.out.2.2⟩
      case measure => simp [intOf]; omega
    · obtain rfl : k = n := by omega
      have hdone := And.intro hbag (And.intro hbe hsz)
      have HD := Lib.hid hdone
      obtain ⟨m, hm⟩ : ∃ m, m = wr.heap.size := ⟨_, rfl⟩
      obtain ⟨x, hx⟩ : ∃ x, x = wr.heap.size + 1 := ⟨_, rfl⟩
      clear hbag hbe hsz hdone hk hkn
      have h2' := Lib.hid h2
      have h90' := Lib.hid h90
      clear h2 h90
      obtain ⟨s, rfl, rfl, rfl, rfl, rfl, hC⟩ : ∃ s : Seat, a = s.a ∧ b = s.b ∧ x = s.x ∧ m = s.m ∧ y = s.y ∧ s.C = s.y + 1 := ⟨⟨a, b, x, m, y, y + 1⟩, rfl, rfl, rfl, rfl, rfl, rfl⟩
      have hnew := tnew_any s wr hm hx
      unfold bagV at hnew
      have HM := Lib.hid hm
      have HX := Lib.hid hx
      have HC := Lib.hid hC
      clear hm hx hC
      go_wp2_with fail
      refine hnew.mono ?_
      rintro e w3 ⟨rfl, h3, set3, b3, sz3⟩
      have ram1 : RamAt w1 s.a s.b 102 4096 k0 := HR.out
      have hy1 := HY.out
      have ram2 := ram1.below HD.out.2.1 (by rw [hy1]; exact ram1.top.lt) (by rw [hy1]; exact ram1.row.lt)
      have T3 : Tab w3 s (.slice A k c) k0 (bagL k) [] := ⟨ram2.below b3 ram2.top.lt ram2.row.lt, by rw [HC.out]; exact HD.out.1.call b3, h3, set3, by rw [HC.out]; omega, by rw [HC.out]; exact Nat.le_trans HD.out.2.2 b3.size⟩
      have B3 : Below w.heap.size w w3 := (HB1.out.trans (HD.out.2.1.mono (by rw [hy1]; exact HB1.out.size))).trans (b3.mono (by have := HD.out.2.2; have := HB1.out.size; omega))
      obtain ⟨x0, hx0⟩ : ∃ x0, x0 = w3.heap.size := ⟨_, rfl⟩
      obtain ⟨w4, hw4⟩ : ∃ w4, w4 = w3.alloc (.cells #[.slice none 0 0] 65) := ⟨_, rfl⟩
      obtain ⟨w5, hw5⟩ : ∃ w5, w5 = w4.alloc (.cells #[.slice none 0 0] 65) := ⟨_, rfl⟩
      obtain ⟨w6, hw6⟩ : ∃ w6, w6 = w5.alloc (.cells #[.pointer (some ⟨s.x, 0, none⟩), .pointer (some ⟨s.a, 0, none⟩), .pointer (some ⟨s.y, 0, none⟩), .int .i64 0, .int .i64 0, .pointer (some ⟨x0, 0, none⟩), .pointer (some ⟨x0 + 1, 0, none⟩), .int .i64 0] 41) := ⟨_, rfl⟩
      have s4 : w4.heap.size = x0 + 1 := by rw [hw4, World.size_alloc, hx0]
      have s5 : w5.heap.size = x0 + 1 + 1 := by rw [hw5, World.size_alloc, s4]
      have b4 : Below w3.heap.size w3 w4 := hw4 ▸ below_new w3 _ _
      have b5 : Below w4.heap.size w4 w5 := hw5 ▸ below_new w4 _ _
      have b6 : Below w5.heap.size w5 w6 := hw6 ▸ below_new w5 _ _
      have r0 : Row w4 x0 65 [.slice none 0 0] := by rw [hw4, hx0]; exact Row.new w3 _ _
      have r1 : Row w5 (x0 + 1) 65 [.slice none 0 0] := by rw [hw5, ← s4]; exact Row.new w4 _ _
      have r6 : Row w6 (x0 + 1 + 1) 41 [.pointer (some ⟨s.x, 0, none⟩), .pointer (some ⟨s.a, 0, none⟩), .pointer (some ⟨s.y, 0, none⟩), .int .i64 0, .int .i64 0, .pointer (some ⟨x0, 0, none⟩), .pointer (some ⟨x0 + 1, 0, none⟩), .int .i64 0] := by rw [hw6, ← s5]; exact Row.new w5 _ _
      have b35 := b4.trans (b5.mono b4.size)
      have b36 := b35.trans (b6.mono b35.size)
      have MD : Hid (MdAt w w6 s (.slice A k c) (x0 + 1 + 1) x0 (x0 + 1) (bagL k) [] 0 0 0) := by
        have hsz := B3.size
        have hs1 := HS1.out
        have h7 := HD.out.2.2
        have hm7 := HM.out
        have hb7 := HB.out
        exact ⟨T3.call b36, r6, (r0.below b5 r0.lt).below b6 (r0.below b5 r0.lt).lt, r1.below b6 r1.lt, B3.trans (b36.mono hsz), by omega, by omega, by omega, by omega, by omega, by omega⟩
      have HX0 := Lib.hid hx0
      have HW4 := Lib.hid hw4
      have HW5 := Lib.hid hw5
      have HW6 := Lib.hid hw6
      clear hnew h3 set3 b3 sz3 ram1 hy1 ram2 T3 B3 hx0 hw4 hw5 hw6 s4 s5 b4 b5 b6 r0 r1 r6 b35 b36
      go_upto_region 11 with (fail)
      rw [← HW4.out, ← HW5.out, ← HX0.out, ← HW6.out]
      obtain ⟨g, hg⟩ : ∃ g, g = x0 + 1 + 1 := ⟨_, rfl⟩
      obtain ⟨x1, hx1⟩ : ∃ x1, x1 = x0 + 1 := ⟨_, rfl⟩
      rw [← hx1] at hg MD
      rw [← hg] at MD
      rw [← hx1, ← hg]
      clear hg hx1
      obtain ⟨j, hj⟩ : ∃ j, k = j + 2 := ⟨k - 2, by have := h2'.out; omega⟩
      have HJ := Lib.hid hj
      have HJ9 : Hid (j + 2 ≤ 100) := by have := h90'.out; show _ ≤ _; omega
      clear hj
      go_wp2_with fail
      go_loopw [10] (fun i wx => ∃ v', (i = .int .i64 0 ∧ MdAt w wx s v' g x0 x1 (bagL (j + 2)) [] 0 0 0) ∨ (i = .int .i64 1 ∧ MdAt w wx s v' g x0 x1 (bagL (j + 1)) [412 + ((j + 1 : Nat) : Int)] (412 + ((j + 1 : Nat) : Int)) 0 0) ∨ (i = .int .i64 2 ∧ MdAt w wx s v' g x0 x1 (bagL j) [412 + (j : Int), 412 + ((j + 1 : Nat) : Int)] (412 + ((j + 1 : Nat) : Int)) (412 + (j : Int)) 0)) (fun i _ => 2 - (intOf i).toNat)
      case atStart => exact ⟨_, Or.inl ⟨rfl, by rw [← HJ.out]; exact MD.out⟩⟩
      case round =>
        obtain ⟨v', ⟨rfl, hmd⟩ | ⟨rfl, hmd⟩ | ⟨rfl, hmd⟩⟩ := hrel
        · rw [bagL_succ] at hmd
          have hroot := md_root hmd (by rw [← bagL_succ]; exact bag_ok HJ9.out) (by rw [bagL_len]; have := HJ9.out; omega) (by simp) (by simp)
          obtain ⟨f, hf⟩ : ∃ f, f = 412 + ((j + 1 : Nat) : Int) := ⟨_, rfl⟩
          rw [← hf] at hroot
          have HF := Lib.hid hf
          clear hmd hf
          go_wp2_with fail
          refine hroot.mono ?_
          rintro e w7 ⟨rfl, v7, h7⟩
          have c3 : w7.cell? ⟨g, 3, none⟩ = some (.int .i64 0) := h7.2.1.cell 3
          have f3 : w7.frozen? ⟨g, 3, none⟩ = false := h7.2.1.frozen 3
          have h8 := md_set 3 h7 (r0' := f) (r1' := 0) (lf' := 0) (x := f) rfl
          have H8 := Lib.hid h8
          clear hroot h7 h8
          go_wp2_with fail
          go_roundw
          case rel => exact ⟨v7, Or.inr (Or.inl ⟨by first | rfl | go_num, by rw [← HF.out]; exact H8.out⟩)⟩
          case measure => simp [intOf]
        · rw [bagL_succ] at hmd
          have hroot := md_root hmd (by rw [← bagL_succ]; exact bag_ok (by have := HJ9.out; omega)) (by rw [bagL_len]; have := HJ9.out; omega) (by simp; omega) (by simp)
          obtain ⟨f, hf⟩ : ∃ f, f = 412 + (j : Int) := ⟨_, rfl⟩
          obtain ⟨f1, hf1⟩ : ∃ f, f = 412 + ((j + 1 : Nat) : Int) := ⟨_, rfl⟩
          rw [← hf, ← hf1] at hroot
          have HF := Lib.hid hf
          have HF1 := Lib.hid hf1
          clear hmd hf hf1
          go_wp2_with fail
          refine hroot.mono ?_
          rintro e w7 ⟨rfl, v7, h7⟩
          have c4 : w7.cell? ⟨g, 4, none⟩ = some (.int .i64 0) := h7.2.1.cell 4
          have f4 : w7.frozen? ⟨g, 4, none⟩ = false := h7.2.1.frozen 4
          have h8 := md_set 4 h7 (r0' := f1) (r1' := f) (lf' := 0) (x := f) rfl
          have H8 := Lib.hid h8
          clear hroot h7 h8
          go_wp2_with fail
          go_roundw
          case rel => exact ⟨v7, Or.inr (Or.inr ⟨by first | rfl | go_num, by rw [← HF.out, ← HF1.out]; exact H8.out⟩)⟩
          case measure => simp [intOf]
        · obtain ⟨A', c', rfl⟩ := own_form hmd.1.bag.row
          have cy : wr.cell? ⟨s.y, 0, none⟩ = some (.slice A' (bagL j).length c') := hmd.1.bag.top.cell 0
          have c7 : wr.cell? ⟨g, 7, none⟩ = some (.int .i64 0) := hmd.2.1.cell 7
          have f7 : wr.frozen? ⟨g, 7, none⟩ = false := hmd.2.1.frozen 7
          have h8 := md_set 7 hmd (r0' := 412 + ((j + 1 : Nat) : Int)) (r1' := 412 + (j : Int)) (lf' := (j : Int)) (x := (j : Int)) rfl
          have H8 := Lib.hid h8
          rw [bagL_len] at cy
          clear hmd h8
          go_wp2_with fail
          go_ret
          exact ⟨s, _, g, x0, x1, rfl, by
            have hj := HJ.out
            subst hj
            exact H8.out⟩
end Go.Proofs.Ytpcpcgbejinlmaa
/- The law's world while calls are made: both sides over one state. -/
namespace Go.Proofs.Ytpcpcgbejinlmaa
open Go.RowKit
def pp (s : Seat) (x0 x1 : Nat) (r0 r1 : Int) (i : Nat) : Value :=
  if i = 0 then .pointer (some ⟨s.x, 0, none⟩) else if i = 1 then .pointer (some ⟨s.a, 0, none⟩) else if i = 2 then .pointer (some ⟨s.y, 0, none⟩) else if i = 3 then .int .i64 r0 else if i = 4 then .int .i64 r1 else if i = 5 then .pointer (some ⟨x0, 0, none⟩) else .pointer (some ⟨x1, 0, none⟩)
structure Lk where
  s : Seat
  g : Nat
  x0 : Nat
  x1 : Nat
  r0 : Int
  r1 : Int
  n : Nat
  acts : List (Nat × List Value)
structure Lw (w W : World) (k : Lk) (v : Value) (ws L : List Int) (v0 : Value) (L0 : List Mp) (v1 : Value) (L1 : List Mp) (lf : Int) (K : Nat) : Prop where
  tab : Tab W k.s v ws L [k.r1, k.r0]
  inv : Inv ws L k.r0 k.r1
  all : (allF ws L k.r0 k.r1).length = k.n
  row : WRow W k.g (pp k.s k.x0 k.x1 k.r0 k.r1) lf
  ref0 : RfT W w.heap.size k.x0 v0 L0
  ref1 : RfT W w.heap.size k.x1 v1 L1
  len0 : L0.length ≤ K
  len1 : L1.length ≤ K
  below : Below w.heap.size w W
  lo : w.heap.size ≤ k.s.b ∧ w.heap.size ≤ k.s.y ∧ w.heap.size ≤ k.s.m ∧ w.heap.size ≤ k.g ∧ w.heap.size ≤ k.x0 ∧ w.heap.size ≤ k.x1
  acts : ∀ c ∈ k.acts, Row W c.1 52 c.2
section
variable {w W W' : World} {k : Lk} {v v' : Value} {ws L ws' L' : List Int} {v0 : Value} {L0 : List Mp} {v1 : Value} {L1 : List Mp} {lf : Int} {K : Nat}
theorem Lw.call (h : Lw w W k v ws L v0 L0 v1 L1 lf K) (hb : Below W.heap.size W W') : Lw w W' k v ws L v0 L0 v1 L1 lf K :=
  ⟨h.tab.call hb, h.inv, h.all, h.row.below hb h.row.lt, h.ref0.call hb, h.ref1.call hb, h.len0, h.len1, h.below.trans (hb.mono h.below.size), h.lo, fun c hc => (h.acts c hc).below hb (h.acts c hc).lt⟩
theorem RfT.mv {s : Seat} {C x : Nat} {u : Value} {M : List Mp} {R : List Int} (h : RfT W C x u M) (ht : Tab W s v ws L R) (hm : Mv s v W v' W') : RfT W' C x u M := by
  refine ⟨ht.row hm h.top (by decide) (by decide) (by decide), h.ms.keep8 fun b hb => hm.foot.keep b (h.ms.lt b hb).2 ?_, h.ok, h.len⟩
  obtain ⟨cur, hc⟩ := h.ms.typed hb
  rintro (e | e | e | e)
  · subst e
    have := ht.ram.row
    unfold Row at this
    rw [this] at hc
    injection hc with hc
    injection hc with _ hc
    exact absurd hc (by decide)
  · subst e
    have := ht.bag.top
    unfold Row at this
    rw [this] at hc
    injection hc with hc
    injection hc with _ hc
    exact absurd hc (by decide)
  · exact ht.set.apart hc e
  · obtain ⟨-, -, cur', hc'⟩ := ht.own e
    rw [hc'] at hc
    injection hc with hc
    injection hc with _ hc
    exact absurd hc (by decide)
theorem Lw.prog (h : Lw w W k v ws L v0 L0 v1 L1 lf K) (ht : Tab W' k.s v' ws' L' [k.r1, k.r0]) (hm : Mv k.s v W v' W') (hs : Stp ws L ws' L' k.r0 k.r1 ∨ Stp ws L ws' L' k.r1 k.r0) : Lw w W' k v' ws' L' v0 L0 v1 L1 lf K := by
  have hi : Inv ws' L' k.r0 k.r1 ∧ (allF ws' L' k.r0 k.r1).length = k.n := by
    rcases hs with e | e
    · exact ⟨e.1, e.2.1.length_eq.symm.trans h.all⟩
    · refine ⟨e.1.swap, ?_⟩
      have a := e.2.1.length_eq
      have b := h.all
      simp only [allF, List.length_append] at a b ⊢
      omega
  exact ⟨ht, hi.1, hi.2, h.tab.row hm h.row (by decide) (by decide) (by decide), h.ref0.mv h.tab hm, h.ref1.mv h.tab hm, h.len0, h.len1, h.below.trans (h.tab.below hm h.below.size h.lo.1 h.lo.2.1 h.lo.2.2.1), h.lo, fun c hc => h.tab.row hm (h.acts c hc) (by decide) (by decide) (by decide)⟩
theorem RfT.foot {C x y g : Nat} {u : Value} {M : List Mp} {cs : List Value} (h : RfT W C y u M) (hg : Row W g 41 cs) (hx : ∃ c, Row W x 65 c) (hf : Foot (fun b => b = g ∨ b = x) W W') (hne : y ≠ x) : RfT W' C y u M := by
  obtain ⟨c, hx⟩ := hx
  refine ⟨hf.row h.top (by rintro (e | e); exact h.top.apart hg (by decide) e; exact hne e), h.ms.keep8 fun b hb => hf.keep b (h.ms.lt b hb).2 ?_, h.ok, h.len⟩
  obtain ⟨cur, hc⟩ := h.ms.typed hb
  rintro (e | e)
  · subst e
    unfold Row at hg
    rw [hg] at hc
    injection hc with hc
    injection hc with _ hc
    exact absurd hc (by decide)
  · subst e
    unfold Row at hx
    rw [hx] at hc
    injection hc with hc
    injection hc with _ hc
    exact absurd hc (by decide)
theorem Lw.tabFoot (h : Lw w W k v ws L v0 L0 v1 L1 lf K) {x : Nat} (hx : ∃ c, Row W x 65 c) (hf : Foot (fun b => b = k.g ∨ b = x) W W') : Tab W' k.s v ws L [k.r1, k.r0] := by
  obtain ⟨c, hx⟩ := hx
  have hg : Row _ _ _ _ := h.row
  have ng := h.tab.apart hg (by decide) (by decide) (by decide)
  have nx := h.tab.apart hx (by decide) (by decide) (by decide)
  refine h.tab.keep hf.size fun b hb => ?_
  have hlt : b < W.heap.size := by
    rcases hb with e | e | e
    · rw [e]; exact h.tab.ram.top.lt
    · rw [e]; exact h.tab.top.lt
    · exact h.tab.mine_lt e
  refine hf.keep b hlt ?_
  rintro (e | e)
  · rcases hb with e' | e' | e'
    · exact h.tab.ram.top.apart hg (by decide) (e'.symm.trans e)
    · exact h.tab.top.apart hg (by decide) (e'.symm.trans e)
    · rw [e] at e'; exact ng e'
  · rcases hb with e' | e' | e'
    · exact h.tab.ram.top.apart hx (by decide) (e'.symm.trans e)
    · exact h.tab.top.apart hx (by decide) (e'.symm.trans e)
    · rw [e] at e'; exact nx e'
theorem Lw.belowFoot (h : Lw w W k v ws L v0 L0 v1 L1 lf K) {x : Nat} (hx : w.heap.size ≤ x) (hf : Foot (fun b => b = k.g ∨ b = x) W W') : Below w.heap.size w W' :=
  h.below.trans (hf.below h.below.size fun b hb => by rcases hb with e | e <;> rw [e]; exact h.lo.2.2.2.1; exact hx)
theorem Lw.actsFoot (h : Lw w W k v ws L v0 L0 v1 L1 lf K) {x : Nat} (hx : ∃ c, Row W x 65 c) (hf : Foot (fun b => b = k.g ∨ b = x) W W') : ∀ c ∈ k.acts, Row W' c.1 52 c.2 := fun c hc => by
  obtain ⟨cs, hx⟩ := hx
  have hg : Row _ _ _ _ := h.row
  refine hf.row (h.acts c hc) ?_
  rintro (e | e)
  · exact (h.acts c hc).apart hg (by decide) e
  · exact (h.acts c hc).apart hx (by decide) e
theorem Lw.fair0 {j : Nat} (h : Lw w W k v ws L v0 L0 v1 L1 lf K) (hf : Fair W w.heap.size k.g k.x0 j (pp k.s k.x0 k.x1 k.r0 k.r1) v0 L0 W') : ∃ v0' L0' v1' L1' lf', Lw w W' k v ws L v0' L0' v1' L1' lf' (K + j) := by
  obtain ⟨u, M, l2, hr, hx, hl, hft, -⟩ := hf
  have ht := h.tabFoot ⟨_, h.ref0.top⟩ hft
  have hb := h.belowFoot h.lo.2.2.2.2.1 hft
  by_cases e : k.x1 = k.x0
  · exact ⟨u, M, u, M, l2, ht, h.inv, h.all, hr, hx, by rw [e]; exact hx, by have := h.len0; omega, by have := h.len0; omega, hb, h.lo, h.actsFoot ⟨_, h.ref0.top⟩ hft⟩
  · exact ⟨u, M, v1, L1, l2, ht, h.inv, h.all, hr, hx, h.ref1.foot h.row ⟨_, h.ref0.top⟩ hft e, by have := h.len0; omega, by have := h.len1; omega, hb, h.lo, h.actsFoot ⟨_, h.ref0.top⟩ hft⟩
theorem Lw.fair1 {j : Nat} (h : Lw w W k v ws L v0 L0 v1 L1 lf K) (hf : Fair W w.heap.size k.g k.x1 j (pp k.s k.x0 k.x1 k.r0 k.r1) v1 L1 W') : ∃ v0' L0' v1' L1' lf', Lw w W' k v ws L v0' L0' v1' L1' lf' (K + j) := by
  obtain ⟨u, M, l2, hr, hx, hl, hft, -⟩ := hf
  have ht := h.tabFoot ⟨_, h.ref1.top⟩ hft
  have hb := h.belowFoot h.lo.2.2.2.2.2 hft
  by_cases e : k.x0 = k.x1
  · exact ⟨u, M, u, M, l2, ht, h.inv, h.all, hr, by rw [e]; exact hx, hx, by have := h.len1; omega, by have := h.len1; omega, hb, h.lo, h.actsFoot ⟨_, h.ref1.top⟩ hft⟩
  · exact ⟨v0, L0, u, M, l2, ht, h.inv, h.all, hr, h.ref0.foot h.row ⟨_, h.ref1.top⟩ hft e, hx, by have := h.len0; omega, by have := h.len1; omega, hb, h.lo, h.actsFoot ⟨_, h.ref1.top⟩ hft⟩
end
end Go.Proofs.Ytpcpcgbejinlmaa
