/- The program's objects: all frames of one object, rising. -/
import Derived.Test.YtnpacdbkmpchnaaM6
import Derived.Test.YtnpacdbkmpchnaaMs
import Derived.Sort.OwnSortedInts
import Derived.Laws.MakeOwn
import Derived.Deep.RegionHeld3
namespace Go.Proofs.Ytnpacdbkmpchnaa
open Go.RowKit Go.Maps Go.Sort Go.Shelf
theorem ints_cells (l : List Int) : l.map (Value.int .i64) = EI.cells l := by
  induction l with
  | nil => rfl
  | cons x r ih => rw [List.map_cons, ih, Enc.cells_cons]; rfl
theorem sayF_some {H : List Int} {L : List Og} {i p : Int} {v : Value} (hG : Good H L) (e : sayF L i p = some v) : ∃ y ∈ L, y.i = i ∧ y.p = p ∧ v = .int .i64 y.f := by
  obtain ⟨y, hy, rfl, rfl⟩ := sayF_mem (by rw [e]; exact Option.some_ne_none v)
  rw [sayF_at hG hy] at e
  injection e with e
  exact ⟨y, hy, rfl, rfl, e.symm⟩
/-- What has been collected while some pages are still to come. -/
def ColF (L : List Og) (i : Int) (left : Lit → Bool) (R : List Int) : Prop := R.Nodup ∧ ∀ f, f ∈ R ↔ ∃ p, left (.int .i64 p) = false ∧ sayF L i p = some (.int .i64 f)
theorem ColF.start {H : List Int} {L : List Og} (hG : Good H L) {i : Int} {D : DataW Value} (hS : Says D (sayF L i)) : ColF L i (Maps.has D) [] := by
  refine ⟨List.nodup_nil, fun f => ⟨fun h => absurd h (by simp), ?_⟩⟩
  rintro ⟨p, hp, e⟩
  obtain ⟨y, hy, _, rfl, _⟩ := sayF_some hG e
  have hr := hG.rg y hy
  have := (hS y.p (by unfold FitM; omega)).1
  rw [hp, e] at this
  cases this
theorem ColF.step {H : List Int} {L : List Og} (hG : Good H L) {i x f : Int} {left : Lit → Bool} {R : List Int} (h : ColF L i left R) (hl : left (.int .i64 x) = true) (e : sayF L i x = some (.int .i64 f)) :
    ColF L i (fun z => left z && !z.sameKey (.int .i64 x)) (R ++ [f]) := by
  have hnew : f ∉ R := fun hf => by
    obtain ⟨p, hp, e2⟩ := (h.2 f).1 hf
    obtain ⟨y, hy, _, rfl, e4⟩ := sayF_some hG e
    obtain ⟨z, hz, _, rfl, e6⟩ := sayF_some hG e2
    injection e4 with _ e4
    injection e6 with _ e6
    have := hG.one hy hz (e4.symm.trans e6)
    subst this
    rw [hl] at hp
    cases hp
  refine ⟨List.nodup_append.2 ⟨h.1, by simp, fun a ha b hb => by simp at hb; subst hb; exact fun e => hnew (e ▸ ha)⟩, fun g => ?_⟩
  rw [List.mem_append, List.mem_singleton, h.2 g]
  constructor
  · rintro (⟨p, hp, e2⟩ | rfl)
    · exact ⟨p, by show (left (.int .i64 p) && _) = false; rw [hp]; rfl, e2⟩
    · exact ⟨x, by simp [Lit.sameKey], e⟩
  · rintro ⟨p, hp, e2⟩
    by_cases d : p = x
    · subst d
      rw [e] at e2
      injection e2 with e2
      injection e2 with _ e2
      exact Or.inr e2.symm
    · refine Or.inl ⟨p, ?_, e2⟩
      simpa [Lit.sameKey, d] using hp
theorem ColF.done {H : List Int} {L : List Og} (hG : Good H L) {i : Int} {left : Lit → Bool} {R : List Int} (h : ColF L i left R) (hl : ∀ kl, left kl = false) : R.mergeSort (fun x y => decide (x ≤ y)) = frs L i := by
  have hp : (R.mergeSort fun x y => decide (x ≤ y)).Perm R := List.mergeSort_perm _ _
  refine frs_is hG ?_ fun f => ?_
  · have h1 : (R.mergeSort fun x y => decide (x ≤ y)).Pairwise fun a b => decide (a ≤ b) = true := List.pairwise_mergeSort (fun a b c k1 k2 => by simp only [decide_eq_true_eq] at *; omega) (fun a b => by simp only [Bool.or_eq_true, decide_eq_true_eq]; omega) R
    have h2 : (R.mergeSort fun x y => decide (x ≤ y)).Nodup := hp.symm.nodup h.1
    exact (h1.and h2).imp fun {a b} k => by
      have k1 := k.1
      have k2 := k.2
      simp only [decide_eq_true_eq] at k1
      omega
  · rw [hp.mem_iff, h.2 f]
    constructor
    · rintro ⟨p, _, e⟩
      obtain ⟨y, hy, e1, _, e2⟩ := sayF_some hG e
      injection e2 with _ e2
      exact ⟨y, hy, e1, e2.symm⟩
    · rintro ⟨y, hy, rfl, rfl⟩
      exact ⟨y.p, hl _, sayF_at hG hy⟩
section
variable {w w' : World} {B : Nat} {T : ObT} {H H' : List Int} {L L' : List Og}
set_option maxRecDepth 100000 in
set_option maxHeartbeats 2000000 in
theorem rising_o {i : Int} {q : Nat × Nat} {x : Value} {n : Nat} (r : Lrow w q.1 67 [x, .map (some q.2)]) (hm : TF.At w q.2 n (sayF L i)) (hG : Good H L) (hn : n ≤ 1000) :
    Calls Try.prog 26 #[.pointer (some ⟨q.1, 0, none⟩)] w (ToldI (frs L i) w) := by
  obtain ⟨D, hown, hS⟩ := hm
  obtain ⟨N, hN⟩ : ∃ N, N = Maps.size D := ⟨_, rfl⟩
  have hlen : ∀ ty, (Builtin.len_ #[65] ty #[.map (some q.2)]).run Try.prog w = .ok (.int .i64 N) w := fun ty => by rw [hN]; exact hown.len TF.ht ty
  have hNn : N ≤ 1000 := by rw [hN]; exact Nat.le_trans hown.size_le hn
  obtain ⟨i0, hi0, hz0, hz1, hz2⟩ := info_parts EI.info
  obtain ⟨w1, hmk, hrow1, hg1⟩ := run_make_own (P := Try.prog) w w.heap.size EI.sl EI.el i0 EI.zero EI.sz EI.und hi0 hz0 hz1 .i64 .i64 N (by rw [hz2]; show 8 * N ≤ _; omega) (by unfold maxLen; omega) (Nat.le_refl _)
  have hmk : (Instr.makeSlice 29 (.int .i64 0) (.int .i64 N)).run Try.prog w = .ok (.slice (some ⟨w.heap.size, 0, none⟩) 0 N) w1 := hmk
  have hb1 : Below w.heap.size w w1 := (Below.refl _ _).grown hg1 (Nat.le_refl _) (fun j hj => by cases hj)
  have c1 := r.cell 1
  have c2 := (r.call hb1).cell 1
  have hbl := hown.lt
  have hown1 : w1.ownsMap Try.prog 3 heldM q.2 n D := hown.kept hg1 (by simp)
  have HB := Lib.hid hb1
  have HN := Lib.hid hN
  have HS := Lib.hid hS
  clear r hb1 hN hS hg1
  go_enter Try.func26, Try.ntmps26
  go_wp2_with (at_range; refine wpList_range_own _ rfl _ 65 rfl 3 3 TF.law TF.ht heldM q.2 n D rfl hown1 ?_; intro w0 hrg0 hg0 hs0)
  go_frame
  go_loopw [3] (fun v wr => ∃ (left : Lit → Bool) (cnt : Nat) (R : List Int), wr.ranges Try.prog 3 heldM q.2 w1.heap.size n D left cnt ∧ R.length + cnt ≤ N ∧ EI.Own w.heap.size wr v R ∧ v ≠ .slice none 0 0 ∧ ColF L i left R ∧ Go.RowKit.Below w.heap.size w wr) (fun _ wr => wr.rangeLeft q.2 w1.heap.size)
  case atStart =>
    exact ⟨_, _, [], hrg0, by have := HN.out; simp; omega, hrow1.kept hg0 (Or.inr (by simp [Value.ownBlock])), by simp, ColF.start hG HS.out, HB.out.grown hg0 HB.out.size (fun j hj => by cases hj)⟩
  case round =>
    obtain ⟨left, cnt, R, hrg, hcs, hrow, hnn, hC, hnx⟩ := hrel
    obtain ⟨A0, p0, rfl⟩ := hrow.form
    go_wp2_with (at_next; refine wpList_next_ranges _ rfl _ rfl 3 TF.law heldM encZ (fun v => v) (fun key kl hk => by obtain ⟨x, hx, _⟩ := Maps.keyOf_i64 TF.hk hk; exact ⟨x, hx⟩) (fun v y _ => ⟨v, rfl⟩) q.2 w1.heap.size n _ _ _ rfl hrg ?_ ?_)
    · intro hc0 hl0
      rcases hrow.2 with ⟨hnil, _⟩ | ⟨g, cap, cur, ev, hbase, hb, h1, h2, h3, h4⟩
      · exact absurd hnil hnn
      injection ev with ev _ ec
      subst ev ec
      have hH : Holds (Value.int .i64) wr g 0 R.toArray := holds_of_blockI hb (by rw [ints_cells]; rw [show R.length * EI.sz = R.length from Nat.mul_one _] at h4; exact h4)
      have hgl : g < wr.heap.size := (Array.getElem?_eq_some_iff.1 hb).1
      have hc := AnyM.slices_Sort_int Try.sortA g 0 p0 R wr hH hgl (by omega)
      change Calls Try.prog 37 _ _ _ at hc
      have e := hC.done hG hl0
      have el : (frs L i).length = R.length := by rw [← e, List.length_mergeSort]
      go_wp2_with (go_at_call 37; refine hc.mono ?_; rintro e1 w' ⟨rfl, nn, os, rfl⟩)
      go_ret
      refine ⟨some ⟨g, 0, none⟩, p0, by rw [el]; rfl, ?_, hnx.grown (grownBy_sortedI _) hnx.size (fun j hj => by cases hj; exact hbase)⟩
      show World.ownsRow _ _ _ _ _ _ _
      rw [← ints_cells, el]
      exact ownsRow_sortedI el hbase hb h1 h2 h3
    · intro xk cv kl yd yp w2 cnt2 hkey hlk hv hat hrg2 hlt hg2 hs2 hen
      obtain ⟨xq, exq, ekl, hwx⟩ := Maps.keyOf_i64 TF.hk hkey
      obtain rfl : xk = xq := encZ_inj exq
      subst ekl
      have hfit := wf_fitM hwx
      unfold heldM at hv
      injection hv with hv
      injection hv with hv _
      subst hv
      obtain ⟨f, hf, rfl⟩ : ∃ f, sayF L i xk = some (.int .i64 f) ∧ cv = .int .i64 f := by
        have hh := (HS.out xk hfit).1
        rw [has_true_of_atKey hat] at hh
        cases hm : sayF L i xk with
        | none => rw [hm] at hh; cases hh
        | some u =>
          have e2 := (HS.out xk hfit).2 u hm (.held u)
          rw [hat] at e2
          injection e2 with e2
          obtain ⟨y, _, _, _, e3⟩ := sayF_some hG hm
          exact ⟨y.f, by rw [e3], e2.trans e3⟩
      have hrow2 : EI.Own w.heap.size w2 (.slice A0 R.length p0) R := hrow.kept hg2 (Or.inr (row_ne_iter hrow hrg).symm)
      have hsz : w.heap.size ≤ w2.heap.size := Nat.le_trans hnx.size hg2.size
      obtain ⟨A5, c5, w5, r5, o5, g5, t5⟩ := hrow2.app1 hsz f (by omega) #[.int .i64 f] rfl
      have r5' := r5 _ rfl
      change (Builtin.append_ #[29, 29] 29 _).run Try.prog (w2.alloc (.cells #[.int .i64 f] 3)) = _ at r5'
      have hrg3 := hrg2.kept g5 (row_ne_low hrow2 hbl) (row_ne_iter hrow2 hrg2)
      have hnx2 := (hnx.grown hg2 hnx.size (fun j hj => by cases hj; exact HB.out.size)).grown g5 hsz (fun j hj => (hrow2.lt j hj).1)
      have HE := Lib.hid (hC.step hG hlk hf)
      clear hs2 r5 t5 g5 hat hkey
      go_wp2_with (at_builtin; refine wpList_append_run rfl _ _ 29 rfl _ _ rfl rfl r5' ?_)
      go_roundw
      case rel => exact ⟨_, cnt2, R ++ [f], hrg3, by simp; omega, o5, (fun e => by injection e with _ e _; omega), HE.out, hnx2⟩
      case measure => rw [hrg3.left_eq, hrg.left_eq]; exact hlt
end
end Go.Proofs.Ytnpacdbkmpchnaa
