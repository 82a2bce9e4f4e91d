/- What is put can be taken out, what is cut is room; a putting that is refused. -/
import Derived.Test.YtekfkglielmfaaaTgW
namespace Go.Proofs.Ytekfkglielmfaaa
open Go.RowKit
theorem ins_filter {a b : Nat} : ∀ {L : List (Nat × Nat)}, (∀ x ∈ L, x ≠ (a, b)) → (insS a b L).filter (kpS a b) = L
  | [], _ => by simp [insS, kpS]
  | y :: r, h => by
    have hk : ∀ x ∈ y :: r, kpS a b x = true := fun x hx => by
      unfold kpS
      simp only [Bool.not_eq_true', decide_eq_false_iff_not]
      rintro ⟨c1, c2⟩
      exact h x hx (Prod.ext (by show x.1 = a; omega) (by show x.2 = b; omega))
    have hab : kpS a b (a, b) = false := by simp [kpS]
    unfold insS
    split
    · rw [List.filter_cons, hab]
      simp only [Bool.false_eq_true, if_false]
      exact List.filter_eq_self.2 hk
    · rw [List.filter_cons, hk y List.mem_cons_self, ins_filter fun x hx => h x (List.mem_cons_of_mem _ hx)]
      rfl
/-- What is put can be taken out again. -/
theorem put_back {L : List (Nat × Nat)} {f t : Int} (h : ptE L f t = 0) : dlE (ptS L f t) f t = 0 ∧ dlS (ptS L f t) f t = L := by
  have hp : ptS L f t = insS f.toNat t.toNat L := by unfold ptS; rw [if_pos h]
  have hw : wrS f t = 0 := by
    apply Classical.byContradiction
    intro hc
    unfold ptE at h
    rw [if_pos hc] at h
    cases h
  obtain ⟨a, b, rfl, rfl, h1, h2, h3⟩ := wrS_ok hw
  rw [hp, Int.toNat_natCast, Int.toNat_natCast]
  have hm : (a, b) ∈ insS a b L := (insS_mem a b L (a, b)).2 (Or.inl rfl)
  have hh : hsS (insS a b L) a b = true := List.any_eq_true.2 ⟨(a, b), hm, decide_eq_true ⟨rfl, rfl⟩⟩
  have hv : ovS L a b = false := by
    cases c : ovS L a b with
    | false => rfl
    | true =>
      unfold ptE at h
      rw [if_neg (by rw [hw]; simp), if_pos c] at h
      cases h
  refine ⟨by unfold dlE; rw [if_neg (by rw [hw]; simp), if_pos hh], ?_⟩
  have hd : dlS (insS a b L) a b = (insS a b L).filter (kpS a b) := by unfold dlS; rw [if_neg (by rw [hw]; simp)]; rfl
  rw [hd]
  refine ins_filter fun x hx e => ?_
  subst e
  exact ovS_no hv _ hx ⟨by show (a : Int) < b; omega, by show (a : Int) < b; omega⟩
/-- What is cut is in no stretch. -/
theorem cut_gone {L : List (Nat × Nat)} (ok : OkS L) {a b : Nat} (hw : wrS a b = 0) : ∀ x ∈ ctS L a b, x.2 ≤ a ∨ b ≤ x.1 := by
  intro x hx
  have hc : ctS L a b = L.flatMap (ct1 a b) := by unfold ctS; rw [if_neg (by rw [hw]; simp), Int.toNat_natCast, Int.toNat_natCast]
  rw [hc] at hx
  obtain ⟨y, hy, hxy⟩ := List.mem_flatMap.1 hx
  exact (ct1_in (ok.in_ y hy).2.1 hxy).2.2.2
theorem gone_find {L : List (Nat × Nat)} {a b : Nat} (h : ∀ x ∈ L, x.2 ≤ a ∨ b ≤ x.1) {p x y : Int} {v : Bool} (hp : (a : Int) ≤ p ∧ p < b) (hf : FdIs L p x y v) : v = false := by
  rcases hf with ⟨h, -⟩ | ⟨-, z, hz, -, -, h1, h2⟩
  · exact h
  · have := h z hz
    omega
theorem gone_put {L : List (Nat × Nat)} {a b : Nat} (hw : wrS a b = 0) (h : ∀ x ∈ L, x.2 ≤ a ∨ b ≤ x.1) : ptE L a b = 0 := by
  have hv : ovS L a b = false := by
    unfold ovS
    rw [List.any_eq_false]
    intro y hy c
    have := h y hy
    have := of_decide_eq_true c
    omega
  unfold ptE
  rw [if_neg (by rw [hw]; simp), if_neg (by rw [hv]; simp)]
section
variable {w w' w1 w2 W W' : World} {B t x : Nat} {v : Value} {L L' : List (Nat × Nat)} {f z : Int}
theorem PrT.heap_ (h : PrT B w t L) (e : w'.heap = w.heap) : PrT B w' t L := by
  obtain ⟨o, T, h1, h2, h3⟩ := h
  exact ⟨o, T, (congrArg (·[t]?) e).trans h1, h2.keep fun _ _ _ => by rw [e], h3⟩
/-- A putting that is refused leaves all. -/
theorem put_same (h : PrT B w t L) (he : ptE L f z ≠ 0) : Calls Try.prog 23 #[.pointer (some ⟨t, 0, none⟩), .int .i64 f, .int .i64 z] w fun e w' => e = .returned (.int .i64 (ptE L f z)) ∧ w' = w := by
  by_cases hw : wrS f z = 0
  · have hov : ovS L f z = true := by
      cases c : ovS L f z with
      | true => rfl
      | false =>
        exfalso
        apply he
        unfold ptE
        rw [if_neg (by rw [hw]; simp), if_neg (by rw [c]; simp)]
    have hE : ptE L f z = 7 := by unfold ptE; rw [if_neg (by rw [hw]; simp), if_pos hov]
    rw [hE]
    have hW := wrong_p (x := t) f z w
    rw [hw] at hW
    obtain ⟨a, b, rfl, rfl, h1, h2, h3⟩ := wrS_ok hw
    obtain ⟨o, T, r0, nT, bT, okT, rfl, hB⟩ := h
    obtain ⟨om, nm, hm⟩ := meets_w nT (a : Int) ((b : Int) - 1)
    have hm := hm w (Below.refl _ _)
    have e1 : IntKind.i64.wrap ((b : Int) - 1) = (b : Int) - 1 := IntWalk.i64_in _ (by omega)
    have c0 := r0.cell 0
    rcases mt_spec (a := a) (b := (b : Int) - 1) (by omega) okT with ⟨em, hno⟩ | ⟨l, s, r, em, hs, hs1, hs2⟩
    · exfalso
      obtain ⟨y, hy, c⟩ := List.any_eq_true.1 hov
      have := hno y hy
      have := of_decide_eq_true c
      omega
    · rw [em] at nm
      obtain ⟨mb, hmb⟩ := nm.open_
      obtain rfl : om = some ⟨mb, 0, none⟩ := by simpa using hmb
      clear hw h1 h2 h3 r0 nT bT okT nm em hov hE hmb hs hs1 hs2 hB he
      go_enter Try.func23, Try.ntmps23
      go_wp2_with (first | (go_at_call 37; (with_reducible refine hW.mono ?_); rintro e w1 ⟨rfl, rfl⟩) | (go_at_call 30; (with_reducible refine hm.mono ?_); rintro e w1 ⟨rfl, rfl⟩) | fail)
      go_ret
      exact ⟨rfl, rfl⟩
  · have hE : ptE L f z = 3 := by unfold ptE; rw [if_pos hw]
    have hW := wrong_p (x := t) f z w
    rw [wrS_no hw] at hW
    rw [hE]
    clear h hw he hE
    go_enter Try.func23, Try.ntmps23
    go_wp2_with (first | (go_at_call 37; (with_reducible refine hW.mono ?_); rintro e w1 ⟨rfl, rfl⟩) | fail)
    go_ret
    exact ⟨rfl, rfl⟩
end
end Go.Proofs.Ytekfkglielmfaaa
