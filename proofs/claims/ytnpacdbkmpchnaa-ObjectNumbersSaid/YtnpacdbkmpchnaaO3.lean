/- The reference of objects: Make, Hold, Set, Change. -/
import Derived.Test.YtnpacdbkmpchnaaO2
namespace Go.Proofs.Ytnpacdbkmpchnaa
open Go.RowKit
section
variable {w w' : World} {B xa : Nat} {vh vl : Value} {H : List Int} {L : List Og}
/-- What a call that answers a number comes to. -/
def DidN (B : Nat) (w : World) (xa : Nat) (vh vl : Value) (H : List Int) (L : List Og) (r : Int) (e : Ending) (w' : World) : Prop := e = .returned (.int .i64 r) ∧ DidR B w xa vh vl H L w'
set_option maxRecDepth 100000 in
theorem make_x (h : Rx B w xa vh vl H L) (hl : H.length < 1000) : Calls Try.prog 32 #[.pointer (some ⟨xa, 0, none⟩)] w (DidN B w xa vh vl (mkH H) L H.length) := by
  obtain ⟨A, c, hv⟩ := h.hel.form
  have c0 := h.c0
  have hlt := h.top.lt
  obtain ⟨A5, c5, W5, r5, o5, g5, t5⟩ := h.hel.app1 h.lw 1 (by omega) #[.int .i64 1] rfl
  have r5' := r5 _ rfl
  obtain ⟨s0, f0, hR, hD⟩ := h.setH g5 o5 t5 (by rw [List.length_append]; simp; omega)
  have e0 := hR.c0
  rw [hv] at c0 r5' s0
  obtain ⟨n, hn⟩ : ∃ n, n = H.length := ⟨_, rfl⟩
  rw [← hn] at c0 r5' s0 e0 hD hl ⊢
  change (Builtin.append_ #[29, 29] 29 _).run Try.prog (w.alloc (.cells #[.int .i64 1] 3)) = _ at r5'
  have HD := Lib.hid hD
  have s1 : IntKind.i64.wrap (((n + 1 : Nat) : Int) - 1) = (n : Int) := by rw [IntKind.wrap_i64]; omega
  clear h hv r5 o5 g5 t5 hR hD hn
  go_enter Try.func32, Try.ntmps32
  go_wp2_with (at_builtin; refine wpList_append_run rfl _ _ 29 rfl _ _ rfl rfl r5' ?_)
  go_ret
  exact ⟨rfl, HD.out⟩
set_option maxRecDepth 100000 in
theorem hold_x (h : Rx B w xa vh vl H L) (i : Int) (hb : ∀ j, 0 ≤ H.getD j 0 ∧ H.getD j 0 ≤ 100000) : Calls Try.prog 33 #[.pointer (some ⟨xa, 0, none⟩), .int .i64 i] w (DidN B w xa vh vl (hoH H i) L (hoE H i)) := by
  have his := is_x h i
  by_cases hi : isB H i = true
  · rw [hi] at his
    rw [show hoE H i = 0 from if_pos hi, show hoH H i = H.set i.toNat (H.getD i.toNat 0 + 1) from if_pos hi]
    have hi' := hi
    unfold isB at hi'
    simp only [Bool.and_eq_true, decide_eq_true_eq] at hi'
    obtain ⟨⟨h1, h2⟩, _⟩ := hi'
    obtain ⟨j, rfl⟩ : ∃ j : Nat, i = j := ⟨i.toNat, by omega⟩
    rw [Int.toNat_natCast]
    have hj : j < H.length := by omega
    obtain ⟨A, c, hv⟩ := h.hel.form
    have hd := h.drewN 1
    obtain ⟨-, g, rfl, -, d0⟩ := hd.held hv hj
    obtain ⟨f0, hD, -⟩ := hd.put1 hv hj (H.getD j 0 + 1)
    have c0 := hd.c0
    have c0' := h.c0
    rw [hv] at c0 c0'
    have hbj := hb j
    have hl9 := h.hl
    have hlj : (j : Int) < (H.length : Int) := by omega
    have HD := Lib.hid (hD.pre (below_dN (Below.refl w.heap.size w) 1))
    obtain ⟨x, hx⟩ : ∃ x, x = H.getD j 0 := ⟨_, rfl⟩
    rw [← hx] at d0 hbj HD
    change w.drew.cell? _ = _ at d0 c0
    change w.drew.frozen? _ = _ at f0
    change Hid (DidR B w xa vh vl (H.set j (x + 1)) L (w.drew.setCell _ _)) at HD
    have s1 : IntKind.i64.wrap (x + 1) = x + 1 := IntWalk.i64_in _ (by omega)
    have j0 : (0 : Int) ≤ j := by omega
    rw [hx] at s1 d0 HD
    generalize H.getD j 0 = y at *
    generalize H.length = n at c0 c0' hlj
    clear h hi h1 h2 hj hd hD hv hb hbj hx
    go_enter Try.func33, Try.ntmps33
    go_wp2_with (go_at_call 38; (with_reducible refine his.mono ?_); rintro e w1 ⟨rfl, rfl⟩)
    go_still_tail 14, (by kernel_rfl)
    clear c0'
    change wpList _ _ _ _ _ w.drew
    generalize w.drew = w3 at c0 d0 f0 HD ⊢
    go_wp2
    go_ret
    exact ⟨rfl, HD.out⟩
  · have hi' : isB H i = false := by simpa using hi
    rw [hi'] at his
    rw [show hoE H i = 6 from if_neg hi, show hoH H i = H from if_neg hi]
    have HD := Lib.hid (h.did (Below.refl w.heap.size w))
    clear h hi hi' hb
    go_enter Try.func33, Try.ntmps33
    go_wp2_with (go_at_call 38; (with_reducible refine his.mono ?_); rintro e w1 ⟨rfl, rfl⟩)
    go_ret
    exact ⟨rfl, HD.out⟩
end
end Go.Proofs.Ytnpacdbkmpchnaa
