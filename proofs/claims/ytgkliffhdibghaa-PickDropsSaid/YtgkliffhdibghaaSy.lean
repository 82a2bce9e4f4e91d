/- The contracts of package heap's rising and sinking, over the queue. -/
import Derived.Test.YtgkliffhdibghaaSx
import Derived.Deep.LoopGhost
namespace Go.Proofs.Ytgkliffhdibghaa
open Go.RowKit

/-- The first n items have been put in order, the others stand. -/
def Sifted (B : Nat) (w : World) (q m : Nat) (iv : Value) (L : List It) (n : Nat) (w' : World) : Prop :=
  ∃ L' M', Que B w' q m iv L' M' ∧ L'.Perm L ∧ Heap L' n ∧ (∀ k, n ≤ k → at' L' k = at' L k) ∧ Foot (Mine q m iv) w w'
/-- On the way. -/
def Rising (B : Nat) (w : World) (q m : Nat) (iv : Value) (L : List It) (n j : Nat) (w' : World) : Prop :=
  ∃ L' M', Que B w' q m iv L' M' ∧ L'.Perm L ∧ UpI L' n j ∧ (∀ k, n ≤ k → at' L' k = at' L k) ∧ Foot (Mine q m iv) w w'
def hv (q : Nat) : Value := .iface 50 (.pointer (some ⟨q, 0, none⟩))
theorem meth_less (w : World) (a : Addr) : (method 194 50 (.pointer (some a)) "Less").run Try.prog w = .ok (52, .pointer (some a)) w := by kernel_rfl
theorem meth_swap (w : World) (a : Addr) : (method 194 50 (.pointer (some a)) "Swap").run Try.prog w = .ok (55, .pointer (some a)) w := by kernel_rfl
theorem meth_len (w : World) (a : Addr) : (method 194 50 (.pointer (some a)) "Len").run Try.prog w = .ok (29, .pointer (some a)) w := by kernel_rfl
theorem meth_push (w : World) (a : Addr) : (method 194 50 (.pointer (some a)) "Push").run Try.prog w = .ok (54, .pointer (some a)) w := by kernel_rfl
theorem meth_pop (w : World) (a : Addr) : (method 194 50 (.pointer (some a)) "Pop").run Try.prog w = .ok (53, .pointer (some a)) w := by kernel_rfl
set_option maxHeartbeats 1000000 in
theorem up_any {B : Nat} {w : World} {q m : Nat} {iv : Value} {L : List It} {M : Int → Option Int} (h : Que B w q m iv L M) {n j : Nat} (hn : n ≤ L.length) (hj : j < n) (hu : UpI L n j) :
    Calls Try.prog 33 #[.iface 50 (.pointer (some ⟨q, 0, none⟩)), .int .i64 j] w fun e w' => e = .returned (.tuple #[]) ∧ Sifted B w q m iv L n w' := by
  have HR : Hid (Rising B w q m iv L n j w) := ⟨L, M, h, List.Perm.refl _, hu, fun _ _ => rfl, Foot.refl _ _⟩
  have HN := Lib.hid hn
  have HL := Lib.hid h.len
  clear h hn hu
  go_enter Try.func33, Try.ntmps33
  go_wp2
  go_loopw [1] (fun s wr => ∃ k : Nat, k ≤ j ∧ s = .int .i64 k ∧ Rising B w q m iv L n k wr) (fun s _ => (intOf s).toNat)
  case atStart => exact ⟨j, Nat.le_refl _, rfl, HR.out⟩
  case round =>
    obtain ⟨k, hk, rfl, Lr, Mr, hq, hp, hi, hs, hft⟩ := hrel
    have hll := hp.length_eq
    have hkn : k < Lr.length := by rw [hll]; have := HN.out; omega
    by_cases k0 : k = 0
    · subst k0
      have HQ := Lib.hid (And.intro hq (And.intro hp (And.intro (hi.done (Or.inl rfl)) (And.intro hs hft))))
      clear hq hp hi hs hft hll hkn hk HR
      go_wp2
      go_end0
      exact ⟨rfl, Lr, Mr, HQ.out.1, HQ.out.2.1, HQ.out.2.2.1, HQ.out.2.2.2.1, HQ.out.2.2.2.2⟩
    · obtain ⟨p, hpp⟩ : ∃ p, p = (k - 1) / 2 := ⟨_, rfl⟩
      have ep : ((k : Int) - 1) / 2 = (p : Nat) := by omega
      have k1 : (1 : Int) ≤ k := by omega
      have k2 : (k : Int) ≤ 5000 := by have := HL.out; omega
      have hpk : (p : Int) < k := by omega
      have hpn : p < Lr.length := by omega
      have hLess := fun w1 (hb : Below wr.heap.size wr w1) => less_any (hq.call hb) hkn hpn
      cases hl : ltB (at' Lr k) (at' Lr p) with
      | false =>
        have HD := Lib.hid (hi.done (Or.inr (by rw [← hpp]; exact le_of_not hl)))
        have HQ := Lib.hid hq
        have HP := Lib.hid (And.intro hp (And.intro hs hft))
        have hne : ((p : Int) == k) = false := by simpa using (by omega : ¬ (p : Int) = k)
        have hml := meth_less wr ⟨q, 0, none⟩
        clear hi hs hp hft hLess hpp hll HR hq
        go_wp2_with (first | (go_at_call 52; refine (less_any HQ.out hkn hpn).mono ?_; rintro e w1 ⟨rfl, hb1⟩))
        go_end0
        exact ⟨rfl, Lr, Mr, HQ.out.call hb1, HP.out.1, HD.out, HP.out.2.1, HP.out.2.2.trans (Foot.of_below (X := fun _ => False) hb1) (fun _ h _ => h.elim)⟩
      | true =>
        have HD := Lib.hid (hi.step (by rw [hll]; exact HN.out) (by omega) (by omega) (by rw [← hpp]; exact hl))
        have HQ := Lib.hid hq
        have HP := Lib.hid (And.intro hp (And.intro hs hft))
        have HPP := Lib.hid hpp
        have HLL := Lib.hid hll
        have hne : ((p : Int) == k) = false := by simpa using (by omega : ¬ (p : Int) = k)
        have hml := meth_less wr ⟨q, 0, none⟩
        have hms := fun w1 => meth_swap w1 ⟨q, 0, none⟩
        clear hi hs hp hft hLess hpp hll HR hq
        go_wp2_with (first | (go_at_call 52; refine (less_any HQ.out hkn hpn).mono ?_; rintro e w1 ⟨rfl, hb1⟩) | (go_at_call 55; refine (swap_any (HQ.out.call hb1) hpn hkn).mono ?_; rintro e w2 ⟨rfl, M2, hq2, hf2⟩))
        go_roundw
        case rel =>
          refine ⟨p, by omega, rfl, swp Lr p k, M2, hq2, (swp_perm _ _ _ hpn hkn).trans HP.out.1, by rw [HPP.out]; exact HD.out, fun x hx => ?_, (HP.out.2.2.trans (Foot.of_below (X := fun _ => False) hb1) (fun _ h _ => h.elim)).trans hf2 (fun _ h _ => h)⟩
          rw [swp_at _ _ _ _ hpn hkn, if_neg (by omega), if_neg (by omega)]
          exact HP.out.2.1 x hx
        case measure => simp [intOf]; omega
end Go.Proofs.Ytgkliffhdibghaa
