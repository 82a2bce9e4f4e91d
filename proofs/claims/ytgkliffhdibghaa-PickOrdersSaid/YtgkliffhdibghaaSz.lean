/- The contracts of package heap's sinking, over the queue; of its calls. -/
import Derived.Test.YtgkliffhdibghaaSy
namespace Go.Proofs.Ytgkliffhdibghaa
open Go.RowKit

/-- What sinking comes to: it tells whether the item has moved; if not, it may have to rise. -/
def Sank (B : Nat) (w : World) (q m : Nat) (iv : Value) (L : List It) (n i0 : Nat) (e : Ending) (w' : World) : Prop :=
  ∃ L' M', Que B w' q m iv L' M' ∧ L'.Perm L ∧ (∀ k, n ≤ k → at' L' k = at' L k) ∧ Foot (Mine q m iv) w w' ∧ (e = .returned (.bool true) ∧ Heap L' n ∨ e = .returned (.bool false) ∧ UpI L' n i0)
/-- On the way. -/
def Sinking (B : Nat) (w : World) (q m : Nat) (iv : Value) (L : List It) (n i0 k : Nat) (w' : World) : Prop :=
  ∃ L' M', Que B w' q m iv L' M' ∧ L'.Perm L ∧ DownI L' n i0 k ∧ (∀ k, n ≤ k → at' L' k = at' L k) ∧ Foot (Mine q m iv) w w'
section
variable {B : Nat} {w wr w' : World} {q m n i0 k : Nat} {iv : Value} {L Lr : List It} {M Mr : Int → Option Int}
theorem sank_stop (hq : Que B wr q m iv Lr Mr) (hp : Lr.Perm L ∧ (∀ k, n ≤ k → at' Lr k = at' L k) ∧ Foot (Mine q m iv) w wr) (hb : Below wr.heap.size wr w') (hs : (i0 < k → Heap Lr n) ∧ (k = i0 → UpI Lr n i0)) (hi : i0 ≤ k) :
    Sank B w q m iv L n i0 (.returned (.bool (decide (i0 < k)))) w' := by
  refine ⟨Lr, Mr, hq.call hb, hp.1, hp.2.1, hp.2.2.trans (Foot.of_below (X := fun _ => False) hb) (fun _ h _ => h.elim), ?_⟩
  by_cases e : i0 < k
  · exact Or.inl ⟨by rw [decide_eq_true e], hs.1 e⟩
  · exact Or.inr ⟨by rw [decide_eq_false e], hs.2 (by omega)⟩
theorem sank_round {j : Nat} {w1 w2 : World} {M2 : Int → Option Int} (hp : Lr.Perm L ∧ (∀ k, n ≤ k → at' Lr k = at' L k) ∧ Foot (Mine q m iv) w wr) (hb : Below wr.heap.size wr w1) (hq2 : Que B w2 q m iv (swp Lr k j) M2) (hf2 : Foot (Mine q m iv) w1 w2) (hd : DownI (swp Lr k j) n i0 j) (hk : k < n) (hj : j < n) (hn : n ≤ Lr.length) :
    Sinking B w q m iv L n i0 j w2 := by
  refine ⟨swp Lr k j, M2, hq2, (swp_perm _ _ _ (by omega) (by omega)).trans hp.1, hd, fun x hx => ?_, (hp.2.2.trans (Foot.of_below (X := fun _ => False) hb) (fun _ h _ => h.elim)).trans hf2 (fun _ h _ => h)⟩
  rw [swp_at _ _ _ _ (by omega) (by omega), if_neg (by omega), if_neg (by omega)]
  exact hp.2.1 x hx
end
set_option maxHeartbeats 4000000 in
theorem down_any {B : Nat} {w : World} {q m : Nat} {iv : Value} {L : List It} {M : Int → Option Int} (h : Que B w q m iv L M) {n i0 : Nat} (hn : n ≤ L.length) (hi : i0 ≤ n) (hu : DownI L n i0 i0) :
    Calls Try.prog 32 #[.iface 50 (.pointer (some ⟨q, 0, none⟩)), .int .i64 i0, .int .i64 n] w (Sank B w q m iv L n i0) := by
  have HR : Hid (Sinking B w q m iv L n i0 i0 w) := ⟨L, M, h, List.Perm.refl _, hu, fun _ _ => rfl, Foot.refl _ _⟩
  have HN := Lib.hid hn
  have HL := Lib.hid h.len
  clear h hn hu
  go_enter Try.func32, Try.ntmps32
  go_wp2
  go_loopw [7] (fun s wr => ∃ k : Nat, i0 ≤ k ∧ k ≤ n ∧ s = .int .i64 k ∧ Sinking B w q m iv L n i0 k wr) (fun s _ => n - (intOf s).toNat)
  case atStart => exact ⟨i0, Nat.le_refl _, hi, rfl, HR.out⟩
  case round =>
    obtain ⟨k, hik, hkn, rfl, Lr, Mr, hq, hp, hd, hs, hft⟩ := hrel
    have hll := hp.length_eq
    have hnr : n ≤ Lr.length := by rw [hll]; exact HN.out
    have hn5 : n ≤ 5000 := by have := HN.out; have := HL.out; omega
    have HP := Lib.hid (And.intro hp (And.intro hs hft))
    have HQ := Lib.hid hq
    have HD := Lib.hid hd
    obtain ⟨c1, hc1⟩ : ∃ c1, c1 = 2 * k + 1 := ⟨_, rfl⟩
    obtain ⟨c2, hc2⟩ : ∃ c2, c2 = c1 + 1 := ⟨_, rfl⟩
    have e1 : 2 * (k : Int) + 1 = (c1 : Nat) := by omega
    have e2 : (c1 : Int) + 1 = (c2 : Nat) := by omega
    have n5 : (n : Int) ≤ 5000 := by omega
    have k0 : (0 : Int) ≤ k := by omega
    have k5 : (k : Int) ≤ 5000 := by omega
    have p1 : (0 : Int) ≤ c1 := by omega
    clear hp hs hft hq hd hll HR hi
    by_cases b1 : c1 < n
    · have b1' : (c1 : Int) < n := by omega
      have hml := fun w1 => meth_less w1 ⟨q, 0, none⟩
      have hms := fun w1 => meth_swap w1 ⟨q, 0, none⟩
      have h1r : c1 < Lr.length := by omega
      have hkr : k < Lr.length := by omega
      by_cases b2 : c2 < n
      · have h2r : c2 < Lr.length := by omega
        have b2' : (c2 : Int) < n := by omega
        cases t2 : ltB (at' Lr c2) (at' Lr c1) with
        | true =>
          cases t1 : ltB (at' Lr c2) (at' Lr k) with
          | true =>
            have HD2 : Hid (DownI (swp Lr k c2) n i0 c2) := HD.out.step hnr hik b2 (by omega) (by omega) t1 (fun x x0 xn xp => by
              rcases (by omega : x = c1 ∨ x = c2) with rfl | rfl
              · exact le_of_lt t2
              · exact le_refl _
            )
            have HC := Lib.hid (And.intro hc1 hc2)
            clear hc1 hc2
            go_wp2_with fail
            refine (less_any HQ.out h2r h1r).mono ?_
            rintro e w1 ⟨rfl, hb_w1⟩
            go_wp2_with fail
            refine (less_any (HQ.out.call hb_w1) h2r hkr).mono ?_
            rintro e w2 ⟨rfl, hb_w2⟩
            go_wp2_with fail
            refine (swap_any (HQ.out.call (hb_w1.trans (hb_w2.mono hb_w1.size))) hkr h2r).mono ?_
            rintro e w3 ⟨rfl, M2, hq2, hf2⟩
            go_wp2_with fail
            go_roundw
            case rel => exact ⟨c2, by have := HC.out; omega, by omega, rfl, sank_round HP.out (hb_w1.trans (hb_w2.mono hb_w1.size)) hq2 hf2 HD2.out (by have := HC.out; omega) b2 hnr⟩
            case measure => have := HC.out; simp [intOf]; omega
          | false =>
            have HS2 : Hid ((i0 < k → Heap Lr n) ∧ (k = i0 → UpI Lr n i0)) := HD.out.stop (fun x x0 xn xp => by
              rcases (by omega : x = c1 ∨ x = c2) with rfl | rfl
              · exact le_trans (le_of_not t1) (le_of_lt t2)
              · exact le_of_not t1
            )
            have HC := Lib.hid (And.intro hc1 hc2)
            clear hc1 hc2
            go_wp2_with fail
            refine (less_any HQ.out h2r h1r).mono ?_
            rintro e w1 ⟨rfl, hb_w1⟩
            go_wp2_with fail
            refine (less_any (HQ.out.call hb_w1) h2r hkr).mono ?_
            rintro e w2 ⟨rfl, hb_w2⟩
            go_wp2_with fail
            go_ret
            exact sank_stop HQ.out HP.out (hb_w1.trans (hb_w2.mono hb_w1.size)) (HS2.out) hik
        | false =>
          cases t1 : ltB (at' Lr c1) (at' Lr k) with
          | true =>
            have HD2 : Hid (DownI (swp Lr k c1) n i0 c1) := HD.out.step hnr hik b1 (by omega) (by omega) t1 (fun x x0 xn xp => by
              rcases (by omega : x = c1 ∨ x = c2) with rfl | rfl
              · exact le_refl _
              · exact le_of_not t2
            )
            have HC := Lib.hid (And.intro hc1 hc2)
            clear hc1 hc2
            go_wp2_with fail
            refine (less_any HQ.out h2r h1r).mono ?_
            rintro e w1 ⟨rfl, hb_w1⟩
            go_wp2_with fail
            refine (less_any (HQ.out.call hb_w1) h1r hkr).mono ?_
            rintro e w2 ⟨rfl, hb_w2⟩
            go_wp2_with fail
            refine (swap_any (HQ.out.call (hb_w1.trans (hb_w2.mono hb_w1.size))) hkr h1r).mono ?_
            rintro e w3 ⟨rfl, M2, hq2, hf2⟩
            go_wp2_with fail
            go_roundw
            case rel => exact ⟨c1, by have := HC.out; omega, by omega, rfl, sank_round HP.out (hb_w1.trans (hb_w2.mono hb_w1.size)) hq2 hf2 HD2.out (by have := HC.out; omega) b1 hnr⟩
            case measure => have := HC.out; simp [intOf]; omega
          | false =>
            have HS2 : Hid ((i0 < k → Heap Lr n) ∧ (k = i0 → UpI Lr n i0)) := HD.out.stop (fun x x0 xn xp => by
              rcases (by omega : x = c1 ∨ x = c2) with rfl | rfl
              · exact le_of_not t1
              · exact le_trans (le_of_not t1) (le_of_not t2)
            )
            have HC := Lib.hid (And.intro hc1 hc2)
            clear hc1 hc2
            go_wp2_with fail
            refine (less_any HQ.out h2r h1r).mono ?_
            rintro e w1 ⟨rfl, hb_w1⟩
            go_wp2_with fail
            refine (less_any (HQ.out.call hb_w1) h1r hkr).mono ?_
            rintro e w2 ⟨rfl, hb_w2⟩
            go_wp2_with fail
            go_ret
            exact sank_stop HQ.out HP.out (hb_w1.trans (hb_w2.mono hb_w1.size)) (HS2.out) hik
      · have b2' : ¬ (c2 : Int) < n := by omega
        cases t1 : ltB (at' Lr c1) (at' Lr k) with
        | true =>
          have HD2 : Hid (DownI (swp Lr k c1) n i0 c1) := HD.out.step hnr hik b1 (by omega) (by omega) t1 (fun x x0 xn xp => by
            obtain rfl : x = c1 := by omega
            exact le_refl _
          )
          have HC := Lib.hid (And.intro hc1 hc2)
          clear hc1 hc2
          go_wp2_with fail
          refine (less_any HQ.out h1r hkr).mono ?_
          rintro e w1 ⟨rfl, hb_w1⟩
          go_wp2_with fail
          refine (swap_any (HQ.out.call hb_w1) hkr h1r).mono ?_
          rintro e w3 ⟨rfl, M2, hq2, hf2⟩
          go_wp2_with fail
          go_roundw
          case rel => exact ⟨c1, by have := HC.out; omega, by omega, rfl, sank_round HP.out hb_w1 hq2 hf2 HD2.out (by have := HC.out; omega) b1 hnr⟩
          case measure => have := HC.out; simp [intOf]; omega
        | false =>
          have HS2 : Hid ((i0 < k → Heap Lr n) ∧ (k = i0 → UpI Lr n i0)) := HD.out.stop (fun x x0 xn xp => by
            obtain rfl : x = c1 := by omega
            exact le_of_not t1
          )
          have HC := Lib.hid (And.intro hc1 hc2)
          clear hc1 hc2
          go_wp2_with fail
          refine (less_any HQ.out h1r hkr).mono ?_
          rintro e w1 ⟨rfl, hb_w1⟩
          go_wp2_with fail
          go_ret
          exact sank_stop HQ.out HP.out hb_w1 (HS2.out) hik
    · have b1' : ¬ (c1 : Int) < n := by omega
      have HS2 : Hid ((i0 < k → Heap Lr n) ∧ (k = i0 → UpI Lr n i0)) := HD.out.stop (fun x x0 xn xp => by
        omega
      )
      have HC := Lib.hid (And.intro hc1 hc2)
      clear hc1 hc2
      go_wp2_with fail
      go_ret
      exact sank_stop HQ.out HP.out (Below.refl _ _) (HS2.out) hik
end Go.Proofs.Ytgkliffhdibghaa
