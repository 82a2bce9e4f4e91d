/- The reference of package table: the same leaves are the same. -/
import Derived.Test.YtpcpcgbejinlmaaMk33
import Derived.Test.YtpcpcgbejinlmaaMk48
import Derived.Test.YtpcpcgbejinlmaaMk50
import Derived.Test.YtpcpcgbejinlmaaMk38
import Derived.Test.YtpcpcgbejinlmaaMk28
namespace Go.Proofs.Ytpcpcgbejinlmaa
open Go.RowKit
section
variable {w : World}
end
end Go.Proofs.Ytpcpcgbejinlmaa
/- Package table: the laws' start; what a root's leaves are told to be. -/
namespace Go.Proofs.Ytpcpcgbejinlmaa
open Go.RowKit
section
variable {w W W' : World} {k : Lk} {v v' : Value} {ws L ws' L' : List Int} {v0 : Value} {L0 : List Mp} {v1 : Value} {L1 : List Mp} {lf : Int} {K : Nat}
theorem nice_made (s : Seat) (g x0 x1 m : Nat) (hm : m + 2 ≤ 100) : Nice ⟨s, g, x0, x1, 412 + ((m + 1 : Nat) : Int), 412 + (m : Int), m + 2, []⟩ := by
  refine ⟨hm, ⟨?_, ?_⟩, ⟨?_, ?_⟩⟩ <;> (dsimp only; omega)
theorem made_run (m : Nat) (hm : m + 2 ≤ 100) (w : World) : Calls Try.prog 6 #[.int .i64 ((m + 2 : Nat) : Int)] w fun e W => ∃ k, e = .returned (.pointer (some ⟨k.g, 0, none⟩)) ∧ (Nice k ∧ k.n = m + 2) ∧ ∃ v lf, Lw w W k v k0 (bagL m) (.slice none 0 0) [] (.slice none 0 0) [] lf 0 := by
  refine (made_any w (m + 2) (by omega) hm).mono ?_
  rintro e W ⟨s, v, g, x0, x1, rfl, hmd⟩
  rw [show m + 2 - 2 = m by omega, show m + 2 - 1 = m + 1 by omega] at hmd
  exact ⟨_, rfl, ⟨nice_made s g x0 x1 m hm, rfl⟩, v, _, made_lw hm hmd⟩
def lvR (k : Lk) (ws : List Int) (b : Bool) : List Mp := thL ws [k.r1, k.r0] (k.rt b)
theorem rt_mem (k : Lk) (b : Bool) : k.rt b ∈ [k.r1, k.r0] := by
  cases b
  · exact List.mem_cons_of_mem _ List.mem_cons_self
  · exact List.mem_cons_self
end
end Go.Proofs.Ytpcpcgbejinlmaa
/- Package table: Split and Merge over the state, told exactly; what a walk tells ahead of them and behind. -/
namespace Go.Proofs.Ytpcpcgbejinlmaa
open Go.RowKit
structure Like (r0 r1 : Fd) (o : Int) : Prop where
  er : r1.er = r0.er
  pl : lfP r1 o = lfP r0 o
  b1 : lfB r1 1 = lfB r0 1
  b0 : lfB r1 0 = lfB r0 0
  b9 : lfB r1 9 = lfB r0 9
theorem Like.refl (r0 : Fd) (o : Int) : Like r0 r0 o := ⟨rfl, rfl, rfl, rfl, rfl⟩
section
variable {ws L R : List Int} {p r q o : Int}
theorem keeps_all (h : Inv ws L r q) (hr : r ∈ R) (hE : spE ws L R r p = 0) (o : Int) : Like (fol ws r o) (fol (spW ws L r p) r o) o ∧
    (meE (spW ws L r p) R r p = 6 ∨ (meE (spW ws L r p) R r p = 0 ∧ leafE (fol (meW (spW ws L r p) r p) r o) o = leafE (fol ws r o) o ∧ (fol (meW (spW ws L r p) r p) r o).er = (fol ws r o).er)) := by
  have hI := (split_inv h hE).1
  obtain ⟨v, x, hv, hp, hx, hoff, hon⟩ := split_walks h hE
  generalize spW ws L r p = W at *
  rcases hv with rfl | rfl
  · have e8 : (8 : Int) ^ (0 + 1) = 8 := rfl
    obtain ⟨m1, m2, m3⟩ := merge_back hI hr hp hx (fun o a b => (hon o a b).2)
    rw [e8] at hoff hon
    by_cases c : o / 8 = p / 8
    · have hc : 0 ≤ o ∧ o ≤ 4095 := by omega
      obtain ⟨⟨ts0, s0, e0⟩, j, hj, hd, ts1, s1, e1⟩ := hon o hc c
      obtain ⟨y, ⟨ts2, s2, e2⟩, y1, y2, y3, y4, y5, y6, y7⟩ := m3 o hc c
      obtain ⟨-, -, p3, p4, p5, p6, p7, p8, p9⟩ := part_says (v := 0) (k := j) (Or.inl rfl) (by decide) hx hj
      obtain ⟨x0, x9, x7, -, -, -⟩ := huge_leaf (v := 0) (Or.inl rfl) hx
      have hd' : o % 8 = (j : Int) := by unfold dg at hd; have e1 : (8 : Int) ^ 0 = 1 := rfl; rw [e1] at hd; omega
      rw [e0, e1]
      refine ⟨⟨rfl, ?_, ?_, ?_, ?_⟩, Or.inr ⟨m1, ?_, by rw [e2]⟩⟩
      · show unF (partW x 0 j) + o % 8 ^ 0 = unF x + o % 8 ^ (0 + 1)
        rw [p3, e8]
        have e1 : (8 : Int) ^ 0 = 1 := rfl
        rw [e1]; omega
      · show (true && unB (partW x 0 j) 1) = (true && unB x 1); rw [p5]
      · show (true && unB (partW x 0 j) 0) = (true && unB x 0); rw [p4, x0]
      · show (true && unB (partW x 0 j) 9) = (true && unB x 9); rw [p7, x9]
      · rw [e2]
        have f1 : lfF ⟨0, 1, y, ts2, s2⟩ = lfF ⟨0, 0 + 1, x, ts0, s0⟩ := y1
        have f2 : lfP ⟨0, 1, y, ts2, s2⟩ o = lfP ⟨0, 0 + 1, x, ts0, s0⟩ o := by
          show unF y + o % 8 ^ 1 = unF x + o % 8 ^ (0 + 1)
          rw [y1]
        have f3 : ∀ b, unB y b = unB x b → lfB ⟨0, 1, y, ts2, s2⟩ b = lfB ⟨0, 0 + 1, x, ts0, s0⟩ b := fun b e => by
          show (true && unB y b) = (true && unB x b); rw [e]
        have f4 : lfV ⟨0, 1, y, ts2, s2⟩ = lfV ⟨0, 0 + 1, x, ts0, s0⟩ := rfl
        unfold leafE
        rw [f1, f2, f4, f3 0 y2, f3 1 y3, f3 7 y4, f3 9 y5, f3 5 y6, f3 6 y7]
    · rw [hoff o c]
      refine ⟨Like.refl _ _, Or.inr ⟨m1, ?_, ?_⟩⟩
      · rw [m2 o c, hoff o c]
      · rw [m2 o c, hoff o c]
  · have e8 : (8 : Int) ^ (1 + 1) = 64 := rfl
    have m1 := merge_none hr hp (fun o a b => (hon o a b).2.elim fun j hj => ⟨_, hj.2.2⟩)
    refine ⟨?_, Or.inl m1⟩
    rw [e8] at hoff hon
    by_cases c : o / 64 = p / 64
    · have hc : 0 ≤ o ∧ o ≤ 4095 := by omega
      obtain ⟨⟨ts0, s0, e0⟩, j, hj, hd, ts1, s1, e1⟩ := hon o hc c
      obtain ⟨-, -, p3, p4, p5, p6, p7, p8, p9⟩ := part_says (v := 1) (k := j) (Or.inr rfl) (by decide) hx hj
      obtain ⟨x0, x9, x7, -, -, -⟩ := huge_leaf (v := 1) (Or.inr rfl) hx
      have e1' : (8 : Int) ^ 1 = 8 := rfl
      have hd' : o / 8 % 8 = (j : Int) := by unfold dg at hd; rw [e1'] at hd; exact hd
      rw [e0, e1]
      refine ⟨rfl, ?_, ?_, ?_, ?_⟩
      · show unF (partW x 1 j) + o % 8 ^ 1 = unF x + o % 8 ^ (1 + 1)
        rw [p3, e8, e1']
        omega
      · show (true && unB (partW x 1 j) 1) = (true && unB x 1); rw [p5]
      · show (true && unB (partW x 1 j) 0) = (true && unB x 0); rw [p4, x0]
      · show (true && unB (partW x 1 j) 9) = (true && unB x 9); rw [p7, x9]
    · rw [hoff o c]
      exact Like.refl _ _
end
section
variable {w W W' : World} {k : Lk} {v : Value} {ws L : List Int} {v0 : Value} {L0 : List Mp} {v1 : Value} {L1 : List Mp} {lf : Int} {K : Nat}
def spX (k : Lk) (ws L : List Int) (p : Int) : List Int := if spE ws L [k.r1, k.r0] k.r0 p = 0 then spW ws L k.r0 p else ws
def meX (k : Lk) (ws : List Int) (p : Int) : List Int := if meE ws [k.r1, k.r0] k.r0 p = 0 then meW ws k.r0 p else ws
theorem lw_split_is (h : Lw w W k v ws L v0 L0 v1 L1 lf K) (hk : Nice k) (p : Int) : Calls Try.prog 10 #[.pointer (some ⟨k.s.x, 0, none⟩), .int .i64 k.r0, .int .i64 p] W fun e W' => e = .returned (.int .i64 (spE ws L [k.r1, k.r0] k.r0 p)) ∧ ∃ v' L', Lw w W' k v' (spX k ws L p) L' v0 L0 v1 L1 lf K ∧ Mv k.s v W v' W' := by
  refine (tsplit_any h.tab h.inv.fr (by have := h.few hk.n; omega) k.r0 p hk.r0).mono ?_
  rintro e W' ⟨rfl, v', h1, h2, hm⟩
  refine ⟨rfl, ?_⟩
  unfold spX
  by_cases c : spE ws L [k.r1, k.r0] k.r0 p = 0
  · rw [if_pos c]
    exact ⟨v', _, h.prog (h2 c) hm (Or.inl (split_inv h.inv c)), hm⟩
  · rw [if_neg c]
    exact ⟨v', _, h.prog (h1 c) hm (Or.inl (Stp.refl h.inv)), hm⟩
theorem lw_merge_is (h : Lw w W k v ws L v0 L0 v1 L1 lf K) (hk : Nice k) (p : Int) (hp : Fits p) : Calls Try.prog 11 #[.pointer (some ⟨k.s.x, 0, none⟩), .int .i64 k.r0, .int .i64 p] W fun e W' => e = .returned (.int .i64 (meE ws [k.r1, k.r0] k.r0 p)) ∧ ∃ v' L', Lw w W' k v' (meX k ws p) L' v0 L0 v1 L1 lf K ∧ Mv k.s v W v' W' := by
  refine (tmerge_any h.tab (by have := h.few hk.n; omega) k.r0 p hk.r0 hp).mono ?_
  rintro e W' ⟨rfl, v', h1, h2, hm⟩
  refine ⟨rfl, ?_⟩
  unfold meX
  by_cases c : meE ws [k.r1, k.r0] k.r0 p = 0
  · rw [if_pos c]
    exact ⟨v', _, h.prog (h2 c) hm (Or.inl (merge_inv h.inv c)), hm⟩
  · rw [if_neg c]
    exact ⟨v', _, h.prog (h1 c) hm (Or.inl (Stp.refl h.inv)), hm⟩
theorem lw_walk (h : Lw w W k v ws L v0 L0 v1 L1 lf K) (o : Int) : Calls Try.prog 9 #[.pointer (some ⟨k.s.a, 0, none⟩), .int .i64 k.r0, .int .i64 o] W (WalkAns W (fol ws k.r0 o) o) := walk_any h.tab.ram k.r0 o
theorem RfT.leafB {C y e : Nat} {u : Value} {M : List Mp} {cs : List Value} (h : RfT W C y u M) (he : Row W e 30 cs) (hf : Foot (fun b => b = e) W W') : RfT W' C y u M := by
  refine ⟨hf.row h.top (h.top.apart he (by decide)), h.ms.keep8 fun b hb => hf.keep b (h.ms.lt b hb).2 ?_, h.ok, h.len⟩
  obtain ⟨cur, hc⟩ := h.ms.typed hb
  intro e'
  subst e'
  unfold Row at he
  rw [he] at hc
  injection hc with hc
  injection hc with _ hc
  exact absurd hc (by decide)
theorem Lw.leafB (h : Lw w W k v ws L v0 L0 v1 L1 lf K) {e : Nat} {cs : List Value} (he : Row W e 30 cs) (hl : w.heap.size ≤ e) (hf : Foot (fun b => b = e) W W') : Lw w W' k v ws L v0 L0 v1 L1 lf K := by
  have hg : Row _ _ _ _ := h.row
  refine ⟨h.tab.keep hf.size fun b hb => ?_, h.inv, h.all, hf.row hg (hg.apart he (by decide)), h.ref0.leafB he hf, h.ref1.leafB he hf, h.len0, h.len1, h.below.trans (hf.below h.below.size fun b hb => hb ▸ hl), h.lo, fun c hc => hf.row (h.acts c hc) ((h.acts c hc).apart he (by decide))⟩
  have ng := h.tab.apart he (by decide) (by decide) (by decide)
  have hlt : b < W.heap.size := by
    rcases hb with e | e | e
    · rw [e]; exact h.tab.ram.top.lt
    · rw [e]; exact h.tab.top.lt
    · exact h.tab.mine_lt e
  refine hf.keep b hlt ?_
  intro e'
  rcases hb with d | d | d
  · exact h.tab.ram.top.apart he (by decide) (d.symm.trans e')
  · exact h.tab.top.apart he (by decide) (d.symm.trans e')
  · rw [e'] at d; exact ng d
theorem foot9 (W : World) (q : Nat) (y0 y1 y2 y3 y4 y5 y6 y7 y8 : Value) :
    Foot (fun b => b = q) W (((((((((W.setCell ⟨q, 0, none⟩ y0).setCell ⟨q, 1, none⟩ y1).setCell ⟨q, 2, none⟩ y2).setCell ⟨q, 3, none⟩ y3).setCell ⟨q, 4, none⟩ y4).setCell ⟨q, 5, none⟩ y5).setCell ⟨q, 6, none⟩ y6).setCell ⟨q, 7, none⟩ y7).setCell ⟨q, 8, none⟩ y8) := by
  have s := fun (V : World) (o : Nat) (y : Value) => Foot.grown (X := fun b => b = q) (grown_set V q o y) rfl
  exact (foot7 W q 0 1 2 3 4 5 6 y0 y1 y2 y3 y4 y5 y6).trans ((s _ 7 y7).trans (s _ 8 y8) (fun _ e _ => e)) (fun _ e _ => e)
theorem row9 {q : Nat} {t : TypeId} {x0 x1 x2 x3 x4 x5 x6 x7 x8 y0 y1 y2 y3 y4 y5 y6 y7 y8 : Value} (h : Row W q t [x0, x1, x2, x3, x4, x5, x6, x7, x8]) :
    Row (((((((((W.setCell ⟨q, 0, none⟩ y0).setCell ⟨q, 1, none⟩ y1).setCell ⟨q, 2, none⟩ y2).setCell ⟨q, 3, none⟩ y3).setCell ⟨q, 4, none⟩ y4).setCell ⟨q, 5, none⟩ y5).setCell ⟨q, 6, none⟩ y6).setCell ⟨q, 7, none⟩ y7).setCell ⟨q, 8, none⟩ y8) q t [y0, y1, y2, y3, y4, y5, y6, y7, y8] :=
  ((((((((h.set_ 0 y0).set_ 1 y1).set_ 2 y2).set_ 3 y3).set_ 4 y4).set_ 5 y5).set_ 6 y6).set_ 7 y7).set_ 8 y8
end
end Go.Proofs.Ytpcpcgbejinlmaa
