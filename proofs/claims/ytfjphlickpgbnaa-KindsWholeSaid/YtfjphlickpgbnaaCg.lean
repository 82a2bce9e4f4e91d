/- The contract of Blocks. -/
import Derived.Test.YtfjphlickpgbnaaCf
namespace Go.Proofs.Ytfjphlickpgbnaa
variable {Xc : Nat → Prop}
open Go.RowKit

theorem info_block : (Try.prog.info? 53).map (fun i => (i.zero, i.size, i.bytes)) = some (some (.agg #[.int .i64 0, .int .i64 0]), 2, 16) := by kernel_rfl
theorem new_cells (w : World) (x y : Int) : ∀ (i : Nat) (u : Value), [Value.int .i64 x, Value.int .i64 y][i]? = some u → (w.alloc (.cells #[.int .i64 x, .int .i64 y] 53)).cell? ((⟨w.heap.size, 0, none⟩ : Addr).add i) = some u := fun i u hu => by
  rw [add_zero_off, (Lrow.new w _ [.int .i64 x, .int .i64 y]).cell]; exact hu
theorem two_one (x y : Int) : ∀ u ∈ [Value.int .i64 x, Value.int .i64 y], u.oneCell' = true := by
  intro u hu; simp at hu; rcases hu with rfl | rfl <;> rfl
theorem own_below {w w1 w2 : World} {B : Nat} {v : Value} {t : TypeId} {n : Nat} {xs : List Value} (hb : Below B w w1) (hB : B ≤ w1.heap.size) (ho : w1.ownsRow B t 2 v n xs) (hg : w1.grownBy w2 v.ownBlock) : Below B w w2 :=
  hb.grown hg hB (fun k e => (ho.lt k e).1)
/-- The lists below an order, one behind the other, as blocks. -/
def catL (L : Nat → List Nat) : Nat → List (Nat × Nat)
  | 0 => []
  | k + 1 => catL L k ++ (L k).map fun x => (x, k)
theorem catL_mem (L : Nat → List Nat) (x : Nat × Nat) : ∀ k, x ∈ catL L k ↔ x.2 < k ∧ x.1 ∈ L x.2 := by
  intro k
  induction k with
  | zero => simp [catL]
  | succ k ih =>
    simp only [catL, List.mem_append, ih, List.mem_map]
    constructor
    · rintro (⟨h1, h2⟩ | ⟨y, hy, rfl⟩)
      · exact ⟨by omega, h2⟩
      · exact ⟨by simp, hy⟩
    · rintro ⟨h1, h2⟩
      by_cases e : x.2 = k
      · right; exact ⟨x.1, by rw [← e]; exact h2, Prod.ext rfl e.symm⟩
      · left; exact ⟨by omega, h2⟩
theorem catL_len (L : Nat → List Nat) : ∀ k, (catL L k).length ≤ sumL L k := by
  intro k
  induction k with
  | zero => simp [catL, sumL]
  | succ k ih =>
    simp only [catL, List.length_append, List.length_map, sumL]
    have := Nat.le_mul_of_pos_right (L k).length (two_pos k)
    omega
section
variable {L : Nat → List Nat} {F : List Bool}
theorem catL_apart (hG : Good F L) : ∀ k, k ≤ 9 → (catL L k).Pairwise fun x y => x.1 ≠ y.1 := by
  intro k
  induction k with
  | zero => intro _; exact List.Pairwise.nil
  | succ k ih =>
    intro hk
    simp only [catL]
    rw [List.pairwise_append]
    refine ⟨ih (by omega), ?_, fun x hx y hy => ?_⟩
    · rw [List.pairwise_map]
      exact (hG.rise k (by omega)).imp fun {x y} h => Nat.ne_of_lt h
    · obtain ⟨z, hz, rfl⟩ := List.mem_map.1 hy
      obtain ⟨h1, h2⟩ := (catL_mem L x k).1 hx
      have m1 := (hG.mem x.2 (by omega) x.1).1 h2
      have m2 := (hG.mem k (by omega) z).1 hz
      intro e
      simp only at e
      have := mx_apart m1 m2 ⟨by have := two_pos k; omega, by have := two_pos x.2; omega⟩
      omega
theorem sorted_bk (hG : Good F L) {M : List (Nat × Nat)} (hp : M.Perm (catL L 9)) (hs : M.Pairwise fun x y => x.1 ≤ y.1) : M = bk F := by
  have hne : M.Pairwise fun x y => x.1 ≠ y.1 := (List.Perm.pairwise_iff (fun h => Ne.symm h) hp).2 (catL_apart hG 9 (by omega))
  refine rise_ext M (bk F) ((hs.and hne).imp fun {x y} h => by have := h.1; have := h.2; omega) (bk_rise F).less fun x => ?_
  rw [hp.mem_iff, catL_mem]
  constructor
  · rintro ⟨h1, h2⟩
    exact bk_mem.2 ((hG.mem x.2 (by omega) x.1).1 h2)
  · intro h
    have hm := bk_mem.1 (show (x.1, x.2) ∈ bk F from h)
    exact ⟨Nat.lt_succ_of_le hm.1, (hG.mem x.2 hm.1 x.1).2 hm⟩
end
section
variable {w : World} {B a n : Nat} {L : Nat → List Nat} {F : List Bool}
theorem own_row {W : World} {C : Nat} {A : Option Addr} {m c : Nat} {M : List (Nat × Nat)} (h : W.ownsRow C 53 2 (.slice A m c) m (bcells M)) : m = M.length ∧ BlkRow W A M ∧ ∀ g, A = some ⟨g, 0, none⟩ → C ≤ g := by
  have hl : m = M.length := by have := h.1; rw [bcells_length] at this; omega
  refine ⟨hl, ?_, ?_⟩
  · intro h0
    rcases h.2 with ⟨_, hn⟩ | ⟨g, cap, cur, hv, hb, hg, _, _, _, ht⟩
    · omega
    · injection hv with hA _ _
      exact ⟨g, cur.toList, hA, by unfold Lrow; rw [hg], by rw [← hl]; exact ht⟩
  · intro g hA
    rcases h.2 with ⟨hv, _⟩ | ⟨g', cap, cur, hv, hb, _⟩
    · injection hv with e _ _; rw [hA] at e; cases e
    · injection hv with e _ _
      rw [hA] at e
      injection e with e
      injection e with e
      omega
/-- The list of the free blocks. -/
def Lists (M : List (Nat × Nat)) (w : World) (e : Ending) (w' : World) : Prop := ∃ A c, e = .returned (.slice A M.length c) ∧ BlkRow w' A M ∧ Below w.heap.size w w'
set_option maxHeartbeats 1000000 in
set_option maxRecDepth 100000 in
theorem blocks_any (h : BudAt Xc B w a n L) (hG : Good F L) (hn : F.length ≤ 1024) :
    Calls Try.prog 40 #[.pointer (some ⟨a, 0, none⟩)] w (Lists (bk F) w) := by
  obtain ⟨p, c, hX⟩ := h
  have c0 := hX.field (k := 0) (by omega)
  have c1 := hX.field (k := 1) (by omega)
  have c2 := hX.field (k := 2) (by omega)
  have c3 := hX.field (k := 3) (by omega)
  have c4 := hX.field (k := 4) (by omega)
  have c5 := hX.field (k := 5) (by omega)
  have c6 := hX.field (k := 6) (by omega)
  have c7 := hX.field (k := 7) (by omega)
  have c8 := hX.field (k := 8) (by omega)
  simp only [Nat.reduceAdd] at c0 c1 c2 c3 c4 c5 c6 c7 c8
  obtain ⟨i0, hi0, hz0, hz1, hz2⟩ := info_parts info_block
  have HI := Lib.hid (And.intro hi0 (And.intro hz0 (And.intro hz1 hz2)))
  have hall : ∀ k, k ≤ 9 → (catL L k).length ≤ 1024 := fun k hk => by
    have h1 := catL_len L k
    have h2 := sumL_mono L hk
    have h3 := hG.cnt
    have h4 : F.count true ≤ F.length := List.count_le_length
    omega
  have hidx : ∀ k : Nat, k ≤ 8 → ∀ W, (Instr.index 93 (.agg #[.slice (slA (p 0)) (L 0).length (c 0), .slice (slA (p 1)) (L 1).length (c 1), .slice (slA (p 2)) (L 2).length (c 2), .slice (slA (p 3)) (L 3).length (c 3), .slice (slA (p 4)) (L 4).length (c 4), .slice (slA (p 5)) (L 5).length (c 5), .slice (slA (p 6)) (L 6).length (c 6), .slice (slA (p 7)) (L 7).length (c 7), .slice (slA (p 8)) (L 8).length (c 8)]) (.int .i64 k)).run Try.prog W = .ok (.slice (slA (p k)) (L k).length (c k)) W := fun k hk W => by
    rcases pow9 hk with rfl | rfl | rfl | rfl | rfl | rfl | rfl | rfl | rfl
    · exact idx0 _ _ _ _ _ _ _ _ _ W
    · exact idx1 _ _ _ _ _ _ _ _ _ W
    · exact idx2 _ _ _ _ _ _ _ _ _ W
    · exact idx3 _ _ _ _ _ _ _ _ _ W
    · exact idx4 _ _ _ _ _ _ _ _ _ W
    · exact idx5 _ _ _ _ _ _ _ _ _ W
    · exact idx6 _ _ _ _ _ _ _ _ _ W
    · exact idx7 _ _ _ _ _ _ _ _ _ W
    · exact idx8 _ _ _ _ _ _ _ _ _ W
  have HX := Lib.hid hX
  have HG := Lib.hid hG
  have HA := Lib.hid hall
  have HD := Lib.hid hidx
  clear hX hG hall hidx hi0 hz0 hz1 hz2 hn
  go_enter Try.func40, Try.ntmps40
  go_wp2
  clear c0 c1 c2 c3 c4 c5 c6 c7 c8
  generalize Value.agg #[.slice (slA (p 0)) (L 0).length (c 0), .slice (slA (p 1)) (L 1).length (c 1), .slice (slA (p 2)) (L 2).length (c 2), .slice (slA (p 3)) (L 3).length (c 3), .slice (slA (p 4)) (L 4).length (c 4), .slice (slA (p 5)) (L 5).length (c 5), .slice (slA (p 6)) (L 6).length (c 6), .slice (slA (p 7)) (L 7).length (c 7), .slice (slA (p 8)) (L 8).length (c 8)] = AG at HD ⊢
  go_loopw [3, 14] (fun v s wr => ∃ k : Nat, k ≤ 9 ∧ s = .int .i64 k ∧ wr.ownsRow w.heap.size 53 2 v (catL L k).length (bcells (catL L k)) ∧ Below w.heap.size w wr) (fun _ s _ => 9 - (intOf s).toNat)
  case atStart => exact ⟨0, by omega, rfl, World.ownsRow_nil _ _ _ _, Below.refl _ _⟩
  case round =>
    obtain ⟨k, hk, rfl, hown, hb⟩ := hrel
    by_cases hlt : k < 9
    · have hx := HD.out k (by omega)
      have HD9 : Hid (decide ((k : Int) < 9) = true) := by
        show _ = _
        simp; omega
      have HO := Lib.hid hown
      have HB := Lib.hid hb
      have hk8 : k ≤ 8 := by omega
      obtain ⟨A, hA⟩ : ∃ A, A = slA (p k) := ⟨_, rfl⟩
      obtain ⟨m, hm⟩ : ∃ m, m = (L k).length := ⟨_, rfl⟩
      rw [← hA, ← hm] at hx
      have HA' := Lib.hid hA
      have HM := Lib.hid hm
      clear hown hb hA hm
      go_wp2
      rw [HD9.out]
      clear hx
      obtain ⟨wo, rfl⟩ : ∃ wo : World, wo = wr := ⟨_, rfl⟩
      go_loopw [3, 20] (fun v s wi => ∃ j : Nat, j ≤ m ∧ s = .int .i64 j ∧ wi.ownsRow w.heap.size 53 2 v ((catL L k).length + j) (bcells (catL L k ++ ((L k).take j).map fun x => (x, k))) ∧ Below w.heap.size w wi) (fun _ s _ => m - (intOf s).toNat)
      case atStart => exact ⟨0, Nat.zero_le _, rfl, by simpa using HO.out, HB.out⟩
      case round =>
        obtain ⟨j, hj, rfl, hown, hbi⟩ := hrel
        by_cases hjm : j < m
        · have hXi := HX.out.call hbi
          have hjL : j < (L k).length := by rw [← HM.out]; exact hjm
          obtain ⟨b, hp⟩ : ∃ b, p k = some b := by
            cases hp : p k with
            | none => rw [(hXi.nil k hk8 hp).1] at hjL; simp at hjL
            | some b => exact ⟨b, rfl⟩
          obtain ⟨-, r, hr, -⟩ := hXi.row k hk8 b hp
          obtain ⟨x, hx'⟩ : ∃ x, x = (L k)[j] := ⟨_, rfl⟩
          have hc : wr.cell? ⟨b, j, none⟩ = some (.int .i64 x) := by
            rw [hr.cell, icells_get]
            unfold ints
            rw [List.getElem?_append_left (by simpa using hjL), List.getElem?_map, List.getElem?_eq_getElem hjL, hx']; rfl
          have hAb : A = some ⟨b, 0, none⟩ := by rw [HA'.out, hp]; rfl
          subst hAb
          have htk : (L k).take (j + 1) = (L k).take j ++ [x] := by rw [List.take_succ_eq_append_getElem hjL, hx']
          have HTK := Lib.hid htk
          have hlen : (catL L k).length + m ≤ 1024 := by
            have := HA.out (k + 1) (by omega)
            simp only [catL, List.length_append, List.length_map] at this
            rw [HM.out]; exact this
          obtain ⟨hi0, hz0, hz1, hz2⟩ := HI.out
          have hsz := hbi.size
          have HBI := Lib.hid hbi
          have HB2 := Lib.hid (hbi.alloc hsz (.cells #[.int .i64 x, .int .i64 k] 53))
          clear hbi hXi hr hx' htk hp
          go_wp2_with (at_builtin; refine wpList_append_own _ rfl _ _ 32 rfl w.heap.size 53 i0 (.agg #[.int .i64 0, .int .i64 0]) 2 16 Try.underlying32 hi0 hz0 hz1 hz2 rfl (by decide) _ ((catL L k).length + j) (bcells (catL L k ++ ((L k).take j).map fun x => (x, k))) rfl (hown.alloc _) ⟨wr.heap.size, 0, none⟩ 1 1 [.int .i64 x, .int .i64 k] rfl rfl (new_cells wr x k) (two_one x k) (by unfold maxLen; omega) (by omega) (by simp; omega) ?_; intro v' w2 hown2 hgr hn2)
          have HO2 := Lib.hid hown2
          have HB3 := Lib.hid (own_below HB2.out HB2.out.size (hown.alloc _) hgr)
          clear hown hown2 hgr hn2 HB2 hsz hi0 hz0 hz1 hz2
          go_wp2
          go_roundw
          case rel => exact ⟨j + 1, by omega, by go_num, by
              have h1 := HO2.out
              rw [HTK.out, List.map_append, ← List.append_assoc, bcells_append]
              exact h1, HB3.out⟩
          case measure => simp [intOf]; omega
        · obtain rfl : j = m := by omega
          have HOi := Lib.hid hown
          have HBi := Lib.hid hbi
          clear hown hbi
          go_wp2
          go_roundw
          case rel => exact ⟨k + 1, by omega, by go_num, by
              have h1 := HOi.out
              rw [HM.out, List.take_length] at h1
              simp only [catL, List.length_append, List.length_map]
              exact h1, HBi.out⟩
          case measure => simp [intOf]; omega
    · obtain rfl : k = 9 := by omega
      have hlen := HA.out 9 (by omega)
      obtain ⟨A, cc, hv⟩ : ∃ A cc, u3 = .slice A (catL L 9).length cc := by
        rcases hown.2 with ⟨h1, h2⟩ | ⟨g, cap, cur, h1, _⟩
        · exact ⟨none, 0, by rw [h1, h2]⟩
        · exact ⟨_, _, h1⟩
      subst hv
      obtain ⟨_, hrow, hbase⟩ := own_row hown
      have hS := sort_any hrow (by omega) cc
      have HB := Lib.hid hb
      have HBS := Lib.hid hbase
      clear hown hrow hb hbase
      go_wp2_with fail
      refine Calls.mono hS ?_
      rintro e w2 ⟨M', rfl, hr2, hp, hs, hbel⟩
      have HE := Lib.hid (sorted_bk HG.out hp hs)
      have hl := hp.length_eq
      have HL := Lib.hid hl
      have HR := Lib.hid hr2
      have HB2 := Lib.hid (HB.out.trans (hbel _ HBS.out HB.out.size))
      clear hr2 hp hs hbel hS hl
      go_wp2
      go_ret
      refine ⟨A, cc, ?_, by rw [← HE.out]; exact HR.out, HB2.out⟩
      show Ending.returned (.slice A (catL L 9).length cc) = _
      rw [← HE.out, HL.out]
end
end Go.Proofs.Ytfjphlickpgbnaa
