/- A list of the law's calls that comes in, opened. -/
import Derived.Test.YtpcpcgbejinlmaaMk46
import Derived.Test.YtpcpcgbejinlmaaMk47
namespace Go.Proofs.Ytpcpcgbejinlmaa
open Go.RowKit
theorem add_blk8 (a : Addr) (n : Nat) : (a.add n).block = a.block := by unfold Addr.add; split <;> rfl
theorem add_at8 (a : Addr) (j : Nat) (h : 0 < j) : a.add j = ⟨a.block, a.off + j, none⟩ := by unfold Addr.add; rw [if_neg (by omega)]
structure AcAt (w : World) (p : Addr) (l : Ac) : Prop where
  c0 : w.cell? p = some (.int .i64 l.kd)
  c1 : w.cell? ⟨p.block, p.off + 1, none⟩ = some (.int .i64 l.r)
  c2 : w.cell? ⟨p.block, p.off + 2, none⟩ = some (.int .i64 l.pg)
  c3 : w.cell? ⟨p.block, p.off + 3, none⟩ = some (.int .i64 l.o)
  c4 : w.cell? ⟨p.block, p.off + 4, none⟩ = some (.int .i64 l.n)
  c5 : w.cell? ⟨p.block, p.off + 5, none⟩ = some (.int .i64 l.f)
  c6 : w.cell? ⟨p.block, p.off + 6, none⟩ = some (.bool l.p)
  c7 : w.cell? ⟨p.block, p.off + 7, none⟩ = some (.bool l.w)
  c8 : w.cell? ⟨p.block, p.off + 8, none⟩ = some (.bool l.h)
  c9 : w.cell? ⟨p.block, p.off + 9, none⟩ = some (.bool l.k)
  c10 : w.cell? ⟨p.block, p.off + 10, none⟩ = some (.bool l.u)
  c11 : w.cell? ⟨p.block, p.off + 11, none⟩ = some (.bool l.d)
theorem AcAt.below {w w' : World} {B : Nat} {p : Addr} {l : Ac} (h : AcAt w p l) (hb : Below B w w') (hp : p.block < B) : AcAt w' p l :=
  ⟨(hb.cell hp).trans h.c0, (hb.cell (p := ⟨_, _, none⟩) hp).trans h.c1, (hb.cell (p := ⟨_, _, none⟩) hp).trans h.c2, (hb.cell (p := ⟨_, _, none⟩) hp).trans h.c3, (hb.cell (p := ⟨_, _, none⟩) hp).trans h.c4, (hb.cell (p := ⟨_, _, none⟩) hp).trans h.c5, (hb.cell (p := ⟨_, _, none⟩) hp).trans h.c6, (hb.cell (p := ⟨_, _, none⟩) hp).trans h.c7, (hb.cell (p := ⟨_, _, none⟩) hp).trans h.c8, (hb.cell (p := ⟨_, _, none⟩) hp).trans h.c9, (hb.cell (p := ⟨_, _, none⟩) hp).trans h.c10, (hb.cell (p := ⟨_, _, none⟩) hp).trans h.c11⟩
def Acs (w : World) (b : Nat) (A : Option Addr) (n : Nat) : Prop :=
  0 < n → ∃ a, A = some a ∧ a.block < b ∧ ∀ i, i < n → ∃ l, IsAc l ∧ AcAt w (a.add (i * 12)) l
section
open Go.Joins Go.ChangeShapes Go.WideShapes Go.ChangeAt Go.RowKit Go.Deep
variable {H : Type} {enc : TypeId × Value → H} {w : World} {base : Nat} {spare : Nat → Bool} {held : Bool}
set_option maxRecDepth 100000 in
theorem ac_cells {fuel : Nat} {cs : List Value} {x : DataW H × List MemPlace} (hf' : DataW.trod enc Try.prog w base spare held fuel 52 cs = some x) : ∃ l, cs = acCells l ∧ IsAc l := by
  have hl' : cs.length = 12 := by
    obtain ⟨_, _, _, _, hl, _⟩ := DataW.trod_struct Try.underlying52 hf'
    rw [hl]; exact cellsAct8
  match cs, hl' with
  | [c0, c1, c2, c3, c4, c5, c6, c7, c8, c9, c10, c11], _ =>
    obtain ⟨n0, y0, h0⟩ := field_reads Try.underlying52 hf' 0 _ rfl 0 1 rfl (by kernel_rfl)
    obtain ⟨n1, y1, h1⟩ := field_reads Try.underlying52 hf' 1 _ rfl 1 1 rfl (by kernel_rfl)
    obtain ⟨n2, y2, h2⟩ := field_reads Try.underlying52 hf' 2 _ rfl 2 1 rfl (by kernel_rfl)
    obtain ⟨n3, y3, h3⟩ := field_reads Try.underlying52 hf' 3 _ rfl 3 1 rfl (by kernel_rfl)
    obtain ⟨n4, y4, h4⟩ := field_reads Try.underlying52 hf' 4 _ rfl 4 1 rfl (by kernel_rfl)
    obtain ⟨n5, y5, h5⟩ := field_reads Try.underlying52 hf' 5 _ rfl 5 7 rfl (by kernel_rfl)
    obtain ⟨f, b1, b2, b3, b4, b5, b6, w5, g0, g1, g2, g3, g4, g5, g6⟩ := entry_cells8 (by simpa using h5)
    obtain ⟨x0, e0, _, w0⟩ := DataW.trod_int Try.underlying3 h0
    obtain ⟨x1, e1, _, w1⟩ := DataW.trod_int Try.underlying3 h1
    obtain ⟨x2, e2, _, w2⟩ := DataW.trod_int Try.underlying3 h2
    obtain ⟨x3, e3, _, w3⟩ := DataW.trod_int Try.underlying3 h3
    obtain ⟨x4, e4, _, w4⟩ := DataW.trod_int Try.underlying3 h4
    simp at e0 e1 e2 e3 e4
    subst e0 e1 e2 e3 e4 g0 g1 g2 g3 g4 g5 g6
    exact ⟨⟨x0, x1, x2, x3, x4, f, b1, b2, b3, b4, b5, b6⟩, rfl, i64_in8 w0, i64_in8 w1, i64_in8 w2, i64_in8 w3, i64_in8 w4, w5⟩
theorem ac_at {p : Addr} {cs : List Value} {fuel : Nat} {x : DataW H × List MemPlace} (hc : w.cells? base p 12 = some cs) (ht : DataW.trod enc Try.prog w base spare held fuel 52 cs = some x) : ∃ l, IsAc l ∧ AcAt w p l := by
  obtain ⟨_, hl, hcell⟩ := World.cells?_some hc
  obtain ⟨l, rfl, ok⟩ := ac_cells ht
  have k : ∀ j, 0 < j → j < 12 → w.cell? ⟨p.block, p.off + j, none⟩ = (acCells l)[j]? := fun j h0 h1 => by
    rw [← add_at8 p j h0]
    exact hcell j (by omega)
  refine ⟨l, ok, ?_, k 1 (by omega) (by omega), k 2 (by omega) (by omega), k 3 (by omega) (by omega), k 4 (by omega) (by omega), k 5 (by omega) (by omega), k 6 (by omega) (by omega), k 7 (by omega) (by omega), k 8 (by omega) (by omega), k 9 (by omega) (by omega), k 10 (by omega) (by omega), k 11 (by omega) (by omega)⟩
  have := hcell 0 (by omega); simpa [Addr.add, acCells] using this
theorem acs_of {fuel : Nat} {cs : List Value} {x : DataW H × List MemPlace} (h : DataW.trod enc Try.prog w base spare held fuel 22 cs = some x) :
    ∃ A n c, cs = [.slice A n c] ∧ n ≤ maxLen ∧ Acs w w.heap.size A n := by
  rcases DataW.trod_slice Try.underlying22 h with ⟨rfl, _⟩ | ⟨a, len, cap, elems, rest, m, _, rfl, _, _, hlc, hcap, hlen, hel, _⟩
  · exact ⟨none, 0, 0, rfl, Nat.zero_le _, fun h0 => absurd h0 (Nat.lt_irrefl 0)⟩
  · have hat : ∀ i, i < len → ∃ l, IsAc l ∧ AcAt w (a.add (i * 12)) l := fun i hi => by
      have he := hel i hi
      rw [List.getElem?_eq_getElem (by omega), cellsAct8] at he
      obtain ⟨cs', hc, ht⟩ := Option.bind_eq_some_iff.1 he
      exact ac_at hc ht
    refine ⟨some a, len, cap, rfl, Nat.le_trans hlc hcap, fun h0 => ⟨a, rfl, ?_, hat⟩⟩
    obtain ⟨_, _, g⟩ := hat 0 h0
    have := World.block_lt_of_cell? w _ g.c0
    rwa [add_blk8] at this
set_option maxRecDepth 100000 in
theorem open_list_act8 {r : Reach} {b0 : Nat} {v : Value} {x : DataW H} {ps : List MemPlace} (hv : Value.okWide Try.prog w r b0 22 v) (h : DataW.Trod enc Try.prog w base spare held 22 v x ps) :
    ∃ A n c, v = .slice A n c ∧ n ≤ maxLen ∧ Acs w w.heap.size A n := by
  obtain ⟨A, n, c, rfl⟩ := okWide_slice Try.underlying22 hv
  obtain ⟨fuel, hf⟩ := h
  obtain ⟨A', n', c', e, hn, ha⟩ := acs_of hf
  simp only [Value.cells] at e
  injection e with e
  injection e with e1 e2 e3
  subst e1 e2 e3
  exact ⟨_, _, _, rfl, hn, ha⟩
end
end Go.Proofs.Ytpcpcgbejinlmaa
/- The law's World.Do, whatever the kind; the law's play: THE STATE STAYS. -/
namespace Go.Proofs.Ytpcpcgbejinlmaa
open Go.RowKit
theorem wpAnyH_weaken8 {P : Program} {md : Region.Mode} {ops : Array Oper} {Q : Exit → Act → World → Prop} {S S' : World → Prop} (hs : ∀ v, S' v → S v) : ∀ (fuel : Nat) (listed : Array Bool) (a : Act) (w : World), wpAnyH P md ops Q S' fuel listed a w → wpAnyH P md ops Q S fuel listed a w
  | 0, _, _, _, h => h
  | fuel + 1, _, _, _, h => ⟨h.1, fun i hi => wpOp_mono (fun a' w' h' => ⟨hs w' h'.1, wpAnyH_weaken8 hs fuel _ a' w' h'.2⟩) (h.2 i hi)⟩
section
variable {w W : World} {k : Lk} {K : Nat}
theorem Run.below (h : Run w W k K) : Below w.heap.size w W := by
  obtain ⟨v, ws, L, v0, L0, v1, L1, lf, h⟩ := h
  exact h.below
theorem do_run (h : Run w W k K) (hK : K + 64 ≤ 5000) (hk : Nice k) (l : Ac) (hl : IsAc l) : Calls Try.prog 22 #[.pointer (some ⟨k.g, 0, none⟩), .agg (acCells l).toArray] W fun e W' => (∃ b, e = .returned (.bool b)) ∧ Run w W' k (K + 64) := by
  obtain ⟨v, ws, L, v0, L0, v1, L1, lf, h⟩ := h
  have e : ∀ n : Int, (l.kd == n) = decide (l.kd = n) := fun n => by
    by_cases c : l.kd = n
    · rw [decide_eq_true c]; simpa using c
    · rw [decide_eq_false c]; simpa using c
  rcases and_one l.r with hb | hb
  · by_cases c7 : l.kd = 7
    · by_cases cn : 0 ≤ l.n ∧ l.n < (L0.length : Int)
      · exact do_leaf0 h hK hk l hl hb c7 l.n.toNat (by omega) (by omega)
      · exact do_none0 h hK hk l hl hb c7 cn
    · by_cases c8 : l.kd = 8
      · exact do_eight0_8 h hK hk l hl hb c8
      · by_cases c9 : l.kd = 9
        · exact do_eight0_9 h hK hk l hl hb c9
        · exact do_any0 h hK hk l hl hb (by rw [e, decide_eq_false c7]) (by rw [e, decide_eq_false c8]) (by rw [e, decide_eq_false c9])
  · by_cases c7 : l.kd = 7
    · by_cases cn : 0 ≤ l.n ∧ l.n < (L1.length : Int)
      · exact do_leaf1 h hK hk l hl hb c7 l.n.toNat (by omega) (by omega)
      · exact do_none1 h hK hk l hl hb c7 cn
    · by_cases c8 : l.kd = 8
      · exact do_eight1_8 h hK hk l hl hb c8
      · by_cases c9 : l.kd = 9
        · exact do_eight1_9 h hK hk l hl hb c9
        · exact do_any1 h hK hk l hl hb (by rw [e, decide_eq_false c7]) (by rw [e, decide_eq_false c8]) (by rw [e, decide_eq_false c9])
set_option maxRecDepth 100000 in
set_option maxHeartbeats 16000000 in
theorem play_run (h : Run w W k K) (hK : K + 1600 ≤ 5000) (hk : Nice k) (A : Option Addr) (n c : Nat) (hA : Acs w w.heap.size A n) : Calls Try.prog 8 #[.pointer (some ⟨k.g, 0, none⟩), .slice A n c] W fun e W' => (∃ b, e = .returned (.bool b)) ∧ Run w W' k (K + 1600) := by
  have HR0 := Lib.hid h
  have HA := Lib.hid hA
  have HKK := Lib.hid (And.intro hK hk)
  clear h hA hK hk
  go_enter Try.func8, Try.ntmps8
  go_wp2_with fail
  go_loopw [5] (fun i wr => ∃ j : Nat, j ≤ n ∧ j ≤ 25 ∧ i = .int .i64 j ∧ Run w wr k (K + 64 * j)) (fun i _ => 25 - (RowKit.intOf i).toNat)
  case atStart => exact ⟨0, by omega, by omega, rfl, HR0.out⟩
  case round =>
    obtain ⟨j, hj, hj25, rfl, hrun⟩ := hrel
    have HR := Lib.hid hrun
    clear HR0
    by_cases hboth : j < n ∧ j < 25
    · obtain ⟨hlt, hlim⟩ := hboth
      obtain ⟨ad, rfl, hab, hc⟩ := HA.out (by omega)
      obtain ⟨l, hl, hat⟩ := hc j hlt
      have HAT : Hid (∀ w', Below w.heap.size w w' → AcAt w' (ad.add (j * 12)) l) := fun w' hb => hat.below hb (by rw [add_blk8]; exact hab)
      have hjl : (j : Int) < n := by omega
      have hjm : (j : Int) < 25 := by omega
      have hj0 : (0 : Int) ≤ j := by omega
      have hw3 : IntKind.i64.wrap ((j : Int) + 1) = (j : Int) + 1 := IntWalk.i64_in _ (by omega)
      have HL := Lib.hid hl
      clear hc hat hl hrun
      go_wp2_with fail
      have h0 := HAT.out wr.drew (drewN_b HR.out.below 1)
      have hs0 : (fun v => v.cell? (ad.add (j * 12)) = some (.int .i64 l.kd) ∧ v.cell? ⟨(ad.add (j * 12)).block, (ad.add (j * 12)).off + 1, none⟩ = some (.int .i64 l.r) ∧ v.cell? ⟨(ad.add (j * 12)).block, (ad.add (j * 12)).off + 2, none⟩ = some (.int .i64 l.pg) ∧ v.cell? ⟨(ad.add (j * 12)).block, (ad.add (j * 12)).off + 3, none⟩ = some (.int .i64 l.o) ∧ v.cell? ⟨(ad.add (j * 12)).block, (ad.add (j * 12)).off + 4, none⟩ = some (.int .i64 l.n) ∧ v.cell? ⟨(ad.add (j * 12)).block, (ad.add (j * 12)).off + 5, none⟩ = some (.int .i64 l.f) ∧ v.cell? ⟨(ad.add (j * 12)).block, (ad.add (j * 12)).off + 6, none⟩ = some (.bool l.p) ∧ v.cell? ⟨(ad.add (j * 12)).block, (ad.add (j * 12)).off + 7, none⟩ = some (.bool l.w) ∧ v.cell? ⟨(ad.add (j * 12)).block, (ad.add (j * 12)).off + 8, none⟩ = some (.bool l.h) ∧ v.cell? ⟨(ad.add (j * 12)).block, (ad.add (j * 12)).off + 9, none⟩ = some (.bool l.k) ∧ v.cell? ⟨(ad.add (j * 12)).block, (ad.add (j * 12)).off + 10, none⟩ = some (.bool l.u) ∧ v.cell? ⟨(ad.add (j * 12)).block, (ad.add (j * 12)).off + 11, none⟩ = some (.bool l.d)) wr.drew := ⟨h0.c0, h0.c1, h0.c2, h0.c3, h0.c4, h0.c5, h0.c6, h0.c7, h0.c8, h0.c9, h0.c10, h0.c11⟩
      refine wp_region_held_drew (S := (fun v => v.cell? (ad.add (j * 12)) = some (.int .i64 l.kd) ∧ v.cell? ⟨(ad.add (j * 12)).block, (ad.add (j * 12)).off + 1, none⟩ = some (.int .i64 l.r) ∧ v.cell? ⟨(ad.add (j * 12)).block, (ad.add (j * 12)).off + 2, none⟩ = some (.int .i64 l.pg) ∧ v.cell? ⟨(ad.add (j * 12)).block, (ad.add (j * 12)).off + 3, none⟩ = some (.int .i64 l.o) ∧ v.cell? ⟨(ad.add (j * 12)).block, (ad.add (j * 12)).off + 4, none⟩ = some (.int .i64 l.n) ∧ v.cell? ⟨(ad.add (j * 12)).block, (ad.add (j * 12)).off + 5, none⟩ = some (.int .i64 l.f) ∧ v.cell? ⟨(ad.add (j * 12)).block, (ad.add (j * 12)).off + 6, none⟩ = some (.bool l.p) ∧ v.cell? ⟨(ad.add (j * 12)).block, (ad.add (j * 12)).off + 7, none⟩ = some (.bool l.w) ∧ v.cell? ⟨(ad.add (j * 12)).block, (ad.add (j * 12)).off + 8, none⟩ = some (.bool l.h) ∧ v.cell? ⟨(ad.add (j * 12)).block, (ad.add (j * 12)).off + 9, none⟩ = some (.bool l.k) ∧ v.cell? ⟨(ad.add (j * 12)).block, (ad.add (j * 12)).off + 10, none⟩ = some (.bool l.u) ∧ v.cell? ⟨(ad.add (j * 12)).block, (ad.add (j * 12)).off + 11, none⟩ = some (.bool l.d))) (by kernel_rfl) hs0 (fun hHeld => ?_)
      have HR3 : Hid (Run w wr.drew k (K + 64 * j)) := Lib.hid (HR.out.call (drewN_b (Below.refl _ _) 1))
      have hdo := do_run HR3.out (by have := HKK.out.1; omega) HKK.out.2 l HL.out
      unfold acCells at hdo
      generalize wr.drew = w3 at hHeld hs0 h0 HR3 hdo ⊢
      clear h0
      refine tkY 0 (at_lit rfl) (v := ?_) (Or.inl ⟨by rfl, ?_⟩) ?_
      rotate_left
      focus (intro _ h; (try dsimp only at h); go_simp; (try with_reducible rfl); done)
      (try simp only [Act.put, sAr, sZe, sSu])
      refine tkY 1 (at_lit rfl) (v := ?_) (Or.inl ⟨by rfl, ?_⟩) ?_
      rotate_left
      focus (intro _ h; (try dsimp only at h); go_simp; (try with_reducible rfl); done)
      (try simp only [Act.put, sAr, sZe, sSu])
      refine tkY 2 (at_lit rfl) (v := ?_) (Or.inl ⟨by rfl, ?_⟩) ?_
      rotate_left
      focus (intro _ h; (try dsimp only at h); go_simp; (try with_reducible rfl); done)
      (try simp only [Act.put, sAr, sZe, sSu])
      refine tkY 3 (at_lit rfl) (v := ?_) (Or.inl ⟨by rfl, ?_⟩) ?_
      rotate_left
      focus (intro _ h; (try dsimp only at h); go_simp; (try with_reducible rfl); done)
      (try simp only [Act.put, sAr, sZe, sSu])
      refine tkY 4 (at_lit rfl) (v := ?_) (Or.inl ⟨by rfl, ?_⟩) ?_
      rotate_left
      focus (intro _ h; (try dsimp only at h); go_simp; (try with_reducible rfl); done)
      (try simp only [Act.put, sAr, sZe, sSu])
      refine wpAnyH_ready (rs := [5]) (by kernel_rfl) (by simp) ?_
      refine AllReadyH.cons (o := _) (at_lit rfl) (fun K hK => ?_) AllReadyH.nil
      go_simp
      go_at_call 22
      refine hdo.mono ?_
      rintro e w4 ⟨⟨bb, rfl⟩, hr4⟩
      have HR4 := Lib.hid hr4
      have h4 := HAT.out w4 HR4.out.below
      clear hdo hr4
      go_wp2_with fail
      refine hK.out _ _ ?_ (fun hHeld => ?_)
      focus ((try dsimp only); exact ⟨h4.c0, h4.c1, h4.c2, h4.c3, h4.c4, h4.c5, h4.c6, h4.c7, h4.c8, h4.c9, h4.c10, h4.c11⟩)
      clear hK K
      (try simp only [Act.put, sAr, sZe, sSu])
      cases bb
      · skip
        refine tkY 6 (at_lit rfl) (v := ?_) (Or.inl ⟨by rfl, ?_⟩) ?_
        rotate_left
        focus (intro _ h; (try dsimp only at h); go_simp; (try with_reducible rfl); done)
        (try simp only [Act.put, sAr, sZe, sSu])
        refine tkY 7 (at_lit rfl) (v := ?_) (Or.inl ⟨by rfl, ?_⟩) ?_
        rotate_left
        focus (intro _ h; (try dsimp only at h); go_simp; (try with_reducible rfl); done)
        (try simp only [Act.put, sAr, sZe, sSu])
        refine tkY 8 (at_lit rfl) (v := undef) (Or.inr ⟨by rfl, rfl⟩) ?_
        (try simp only [Act.put, sAr, sZe, sSu])
        refine tkY 9 (at_lit rfl) (v := undef) (Or.inr ⟨by rfl, rfl⟩) ?_
        (try simp only [Act.put, sAr, sZe, sSu])
        refine tkY 10 (at_lit rfl) (v := undef) (Or.inr ⟨by rfl, rfl⟩) ?_
        (try simp only [Act.put, sAr, sZe, sSu])
        refine tkY 11 (at_lit rfl) (v := undef) (Or.inr ⟨by rfl, rfl⟩) ?_
        (try simp only [Act.put, sAr, sZe, sSu])
        refine tkY 12 (at_lit rfl) (v := undef) (Or.inr ⟨by rfl, rfl⟩) ?_
        (try simp only [Act.put, sAr, sZe, sSu])
        refine tkY 13 (at_lit rfl) (v := undef) (Or.inr ⟨by rfl, rfl⟩) ?_
        (try simp only [Act.put, sAr, sZe, sSu])
        refine tkY 14 (at_lit rfl) (v := undef) (Or.inr ⟨by rfl, rfl⟩) ?_
        (try simp only [Act.put, sAr, sZe, sSu])
        refine tkY 15 (at_lit rfl) (v := undef) (Or.inr ⟨by rfl, rfl⟩) ?_
        (try simp only [Act.put, sAr, sZe, sSu])
        refine tkY 16 (at_lit rfl) (v := undef) (Or.inr ⟨by rfl, rfl⟩) ?_
        (try simp only [Act.put, sAr, sZe, sSu])
        refine tkY 17 (at_lit rfl) (v := undef) (Or.inr ⟨by rfl, rfl⟩) ?_
        (try simp only [Act.put, sAr, sZe, sSu])
        refine tkY 18 (at_lit rfl) (v := undef) (Or.inr ⟨by rfl, rfl⟩) ?_
        (try simp only [Act.put, sAr, sZe, sSu])
        refine tkY 19 (at_lit rfl) (v := undef) (Or.inr ⟨by rfl, rfl⟩) ?_
        (try simp only [Act.put, sAr, sZe, sSu])
        refine tkY 20 (at_lit rfl) (v := undef) (Or.inr ⟨by rfl, rfl⟩) ?_
        (try simp only [Act.put, sAr, sZe, sSu])
        refine tkY 21 (at_lit rfl) (v := ?_) (Or.inl ⟨by rfl, ?_⟩) ?_
        rotate_left
        focus (intro _ h; (try dsimp only at h); go_simp; (try with_reducible rfl); done)
        (try simp only [Act.put, sAr, sZe, sSu])
        refine wpAnyH_done (by kernel_rfl) ?_ _
        go_wp2_with fail
        go_ret
        refine ⟨?_, HR4.out.more (by omega)⟩
        first
        | exact ⟨_, rfl⟩
        | exact Or.inr rfl
        | exact Or.inl rfl
      · obtain ⟨vb, wsb, Lb, v0b, L0b, v1b, L1b, lfb, hlw⟩ := HR4.out
        obtain ⟨Ab, cb, hvb⟩ := own_form hlw.tab.bag.row
        subst hvb
        obtain ⟨Nb, hNb⟩ : ∃ Nb, Nb = Lb.length := ⟨_, rfl⟩
        have g2 : w4.cell? ⟨k.g, 2, none⟩ = some (.pointer (some ⟨k.s.y, 0, none⟩)) := hlw.row.cell 2
        have g7 : w4.cell? ⟨k.g, 7, none⟩ = some (.int .i64 lfb) := hlw.row.cell 7
        have y0 : w4.cell? ⟨k.s.y, 0, none⟩ = some (.slice Ab Nb cb) := by rw [hNb]; exact hlw.tab.bag.top.cell 0
        have hs2 : (fun v => (v.cell? (ad.add (j * 12)) = some (.int .i64 l.kd) ∧ v.cell? ⟨(ad.add (j * 12)).block, (ad.add (j * 12)).off + 1, none⟩ = some (.int .i64 l.r) ∧ v.cell? ⟨(ad.add (j * 12)).block, (ad.add (j * 12)).off + 2, none⟩ = some (.int .i64 l.pg) ∧ v.cell? ⟨(ad.add (j * 12)).block, (ad.add (j * 12)).off + 3, none⟩ = some (.int .i64 l.o) ∧ v.cell? ⟨(ad.add (j * 12)).block, (ad.add (j * 12)).off + 4, none⟩ = some (.int .i64 l.n) ∧ v.cell? ⟨(ad.add (j * 12)).block, (ad.add (j * 12)).off + 5, none⟩ = some (.int .i64 l.f) ∧ v.cell? ⟨(ad.add (j * 12)).block, (ad.add (j * 12)).off + 6, none⟩ = some (.bool l.p) ∧ v.cell? ⟨(ad.add (j * 12)).block, (ad.add (j * 12)).off + 7, none⟩ = some (.bool l.w) ∧ v.cell? ⟨(ad.add (j * 12)).block, (ad.add (j * 12)).off + 8, none⟩ = some (.bool l.h) ∧ v.cell? ⟨(ad.add (j * 12)).block, (ad.add (j * 12)).off + 9, none⟩ = some (.bool l.k) ∧ v.cell? ⟨(ad.add (j * 12)).block, (ad.add (j * 12)).off + 10, none⟩ = some (.bool l.u) ∧ v.cell? ⟨(ad.add (j * 12)).block, (ad.add (j * 12)).off + 11, none⟩ = some (.bool l.d)) ∧ v.cell? ⟨k.g, 2, none⟩ = some (.pointer (some ⟨k.s.y, 0, none⟩)) ∧ v.cell? ⟨k.s.y, 0, none⟩ = some (.slice Ab Nb cb) ∧ v.cell? ⟨k.g, 7, none⟩ = some (.int .i64 lfb)) w4 := ⟨⟨h4.c0, h4.c1, h4.c2, h4.c3, h4.c4, h4.c5, h4.c6, h4.c7, h4.c8, h4.c9, h4.c10, h4.c11⟩, g2, y0, g7⟩
        refine wpAnyH_weaken8 (S' := (fun v => (v.cell? (ad.add (j * 12)) = some (.int .i64 l.kd) ∧ v.cell? ⟨(ad.add (j * 12)).block, (ad.add (j * 12)).off + 1, none⟩ = some (.int .i64 l.r) ∧ v.cell? ⟨(ad.add (j * 12)).block, (ad.add (j * 12)).off + 2, none⟩ = some (.int .i64 l.pg) ∧ v.cell? ⟨(ad.add (j * 12)).block, (ad.add (j * 12)).off + 3, none⟩ = some (.int .i64 l.o) ∧ v.cell? ⟨(ad.add (j * 12)).block, (ad.add (j * 12)).off + 4, none⟩ = some (.int .i64 l.n) ∧ v.cell? ⟨(ad.add (j * 12)).block, (ad.add (j * 12)).off + 5, none⟩ = some (.int .i64 l.f) ∧ v.cell? ⟨(ad.add (j * 12)).block, (ad.add (j * 12)).off + 6, none⟩ = some (.bool l.p) ∧ v.cell? ⟨(ad.add (j * 12)).block, (ad.add (j * 12)).off + 7, none⟩ = some (.bool l.w) ∧ v.cell? ⟨(ad.add (j * 12)).block, (ad.add (j * 12)).off + 8, none⟩ = some (.bool l.h) ∧ v.cell? ⟨(ad.add (j * 12)).block, (ad.add (j * 12)).off + 9, none⟩ = some (.bool l.k) ∧ v.cell? ⟨(ad.add (j * 12)).block, (ad.add (j * 12)).off + 10, none⟩ = some (.bool l.u) ∧ v.cell? ⟨(ad.add (j * 12)).block, (ad.add (j * 12)).off + 11, none⟩ = some (.bool l.d)) ∧ v.cell? ⟨k.g, 2, none⟩ = some (.pointer (some ⟨k.s.y, 0, none⟩)) ∧ v.cell? ⟨k.s.y, 0, none⟩ = some (.slice Ab Nb cb) ∧ v.cell? ⟨k.g, 7, none⟩ = some (.int .i64 lfb))) (fun v h => h.1) _ _ _ _ ?_
        clear g2 g7 y0 hlw hHeld h4
        refine tkY 6 (at_lit rfl) (v := ?_) (Or.inl ⟨by rfl, ?_⟩) ?_
        rotate_left
        focus (intro _ h; (try dsimp only at h); go_simp; (try with_reducible rfl); done)
        (try simp only [Act.put, sAr, sZe, sSu])
        refine tkY 7 (at_lit rfl) (v := ?_) (Or.inl ⟨by rfl, ?_⟩) ?_
        rotate_left
        focus (intro _ h; (try dsimp only at h); go_simp; (try with_reducible rfl); done)
        (try simp only [Act.put, sAr, sZe, sSu])
        refine tkY 8 (at_lit rfl) (v := ?_) (Or.inl ⟨by rfl, ?_⟩) ?_
        rotate_left
        focus (intro _ h; (try dsimp only at h); go_simp; (try with_reducible rfl); done)
        (try simp only [Act.put, sAr, sZe, sSu])
        refine tkY 9 (at_lit rfl) (v := ?_) (Or.inl ⟨by rfl, ?_⟩) ?_
        rotate_left
        focus (intro _ h; (try dsimp only at h); go_simp; (try with_reducible rfl); done)
        (try simp only [Act.put, sAr, sZe, sSu])
        refine tkY 10 (at_lit rfl) (v := ?_) (Or.inl ⟨by rfl, ?_⟩) ?_
        rotate_left
        focus (intro _ h; (try dsimp only at h); go_simp; (try with_reducible rfl); done)
        (try simp only [Act.put, sAr, sZe, sSu])
        refine tkY 11 (at_lit rfl) (v := ?_) (Or.inl ⟨by rfl, ?_⟩) ?_
        rotate_left
        focus (intro _ h; (try dsimp only at h); go_simp; (try with_reducible rfl); done)
        (try simp only [Act.put, sAr, sZe, sSu])
        refine tkY 12 (at_lit rfl) (v := ?_) (Or.inl ⟨by rfl, ?_⟩) ?_
        rotate_left
        focus (intro _ h; (try dsimp only at h); go_simp; (try with_reducible rfl); done)
        (try simp only [Act.put, sAr, sZe, sSu])
        refine tkY 13 (at_lit rfl) (v := ?_) (Or.inl ⟨by rfl, ?_⟩) ?_
        rotate_left
        focus (intro _ h; (try dsimp only at h); go_simp; (try with_reducible rfl); done)
        (try simp only [Act.put, sAr, sZe, sSu])
        refine tkY 14 (at_lit rfl) (v := ?_) (Or.inl ⟨by rfl, ?_⟩) ?_
        rotate_left
        focus (intro _ h; (try dsimp only at h); go_simp; (try with_reducible rfl); done)
        (try simp only [Act.put, sAr, sZe, sSu])
        refine tkY 15 (at_lit rfl) (v := ?_) (Or.inl ⟨by rfl, ?_⟩) ?_
        rotate_left
        focus (intro _ h; (try dsimp only at h); go_simp; (try with_reducible rfl); done)
        (try simp only [Act.put, sAr, sZe, sSu])
        refine tkY 16 (at_lit rfl) (v := ?_) (Or.inl ⟨by rfl, ?_⟩) ?_
        rotate_left
        focus (intro _ h; (try dsimp only at h); go_simp; (try with_reducible rfl); done)
        (try simp only [Act.put, sAr, sZe, sSu])
        refine tkY 17 (at_lit rfl) (v := ?_) (Or.inl ⟨by rfl, ?_⟩) ?_
        rotate_left
        focus (intro _ h; (try dsimp only at h); go_simp; (try with_reducible rfl); done)
        (try simp only [Act.put, sAr, sZe, sSu])
        refine tkY 18 (at_lit rfl) (v := ?_) (Or.inl ⟨by rfl, ?_⟩) ?_
        rotate_left
        focus (intro _ h; (try dsimp only at h); go_simp; (try with_reducible rfl); done)
        (try simp only [Act.put, sAr, sZe, sSu])
        refine tkY 19 (at_lit rfl) (v := ?_) (Or.inl ⟨by rfl, ?_⟩) ?_
        rotate_left
        focus (intro _ h; (try dsimp only at h); go_simp; (try with_reducible rfl); done)
        (try simp only [Act.put, sAr, sZe, sSu])
        refine tkY 20 (at_lit rfl) (v := ?_) (Or.inl ⟨by rfl, ?_⟩) ?_
        rotate_left
        focus (intro _ h; (try dsimp only at h); go_simp; (try with_reducible rfl); done)
        (try simp only [Act.put, sAr, sZe, sSu])
        refine tkY 21 (at_lit rfl) (v := ?_) (Or.inl ⟨by rfl, ?_⟩) ?_
        rotate_left
        focus (intro _ h; (try dsimp only at h); go_simp; (try with_reducible rfl); done)
        (try simp only [Act.put, sAr, sZe, sSu])
        refine wpAnyH_done (by kernel_rfl) ?_ _
        clear hs2
        go_wp2_with fail
        all_goals
          first
          | (go_roundw
             case rel => exact ⟨j + 1, by omega, by omega, by go_num, HR4.out.more (by omega)⟩
             case measure => simp [RowKit.intOf]; omega)
          | (go_ret
             refine ⟨?_, HR4.out.more (by omega)⟩
             first
             | exact ⟨_, rfl⟩
             | exact Or.inr rfl
             | exact Or.inl rfl)
    · by_cases hlt : j < n
      case' pos => have hlim : ¬ (j : Int) < 25 := by omega
      all_goals
        clear hboth hrun
        go_wp2_with fail
        go_ret
        refine ⟨?_, HR.out.more (by omega)⟩
        first
        | exact ⟨_, rfl⟩
        | exact Or.inr rfl
        | exact Or.inl rfl
end
end Go.Proofs.Ytpcpcgbejinlmaa
