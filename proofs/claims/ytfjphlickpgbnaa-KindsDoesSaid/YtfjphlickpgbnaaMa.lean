/- The law KindsDoes. -/
import Derived.Test.YtfjphlickpgbnaaJh
import Derived.Test.YtfjphlickpgbnaaJi
import Derived.Test.YtfjphlickpgbnaaKm
namespace Go.Proofs.Ytfjphlickpgbnaa
open Go.RowKit

set_option maxHeartbeats 4000000 in
set_option maxRecDepth 100000 in
theorem does_walk (fr : Int) (A : Option Addr) (l0 c : Nat) (w : World) (hA : Acts w w.heap.size A l0) :
    Calls Try.prog 3 #[.int .i64 fr, .slice A l0 c] w fun e w' => e = .returned (.bool true) ∧ Below w.heap.size w w' := by
  by_cases hf : fr < 8 ∨ 1024 < fr
  · have hmd := fun W' => made_bad hf W'
    go_enter Try.func3, Try.ntmps3
    go_wp2_with (first | (go_at_call 8; refine (hmd _).mono ?_; rintro e w' ⟨rfl, rfl⟩))
    refine (awake_any _).mono ?_
    rintro e w1 ⟨rfl, hb1⟩
    go_wp2_with fail
    refine (awake_any _).mono ?_
    rintro e w2 ⟨rfl, hb2⟩
    go_wp2
    go_ret
    exact ⟨rfl, hb1.trans (hb2.mono hb1.size)⟩
  · obtain ⟨n, hn, h8, h150⟩ := smI_good hf
    have hmd := fun W' => made_any n hn h8 h150 W'
    have HA := Lib.hid hA
    clear hA hn hf
    go_enter Try.func3, Try.ntmps3
    go_wp2_with fail
    refine (hmd _).mono ?_
    intro e w1 h1
    obtain ⟨m, hmn, rfl, hg1, hb1⟩ := h1.going
    subst hmn
    clear h1 hmd
    go_wp2_with fail
    refine (awake_any _).mono ?_
    rintro e w2 ⟨rfl, hb2⟩
    have HG := Lib.hid (hg1.call hb2)
    have HB1 := Lib.hid hb1
    clear hg1 hb2 hb1
    go_wp2_with fail
    go_loopw [7] (fun i wr => ∃ j : Nat, j ≤ l0 ∧ i = .int .i64 j ∧ Going w.heap.size m w1 wr) (fun i _ => l0 - (intOf i).toNat)
    case atStart => exact ⟨0, by omega, rfl, HG.out⟩
    case round =>
      obtain ⟨j, hj, rfl, hgo⟩ := hrel
      clear HG
      have hbw : Below w.heap.size w wr := HB1.out.trans hgo.below
      by_cases hboth : j < l0 ∧ j < 40
      · obtain ⟨hlt, hlim⟩ := hboth
        obtain ⟨ad, rfl, ac, ok, hat⟩ := acts_now HA.out hbw hlt
        obtain ⟨K, Fr, o, Of, N⟩ := ac
        have c0 := hat.c0
        have c1 := hat.c1
        have c2 := hat.c2
        have c3 := hat.c3
        have c4 := hat.c4
        clear hat
        go_wp2_with fail
        refine (hgo.do_ ok).mono ?_
        rintro e w' ⟨rfl, hgo'⟩
        clear hgo hbw c0 c1 c2 c3 c4
        go_wp2
        go_roundw
        case rel => exact ⟨j + 1, by omega, by go_num, hgo'⟩
        case measure => simp [intOf]; omega
      · obtain ⟨F, S, T, tv, hst, hhe, hsp⟩ := hgo
        have HST := Lib.hid hst
        have HH := Lib.hid hhe
        have HSP := Lib.hid hsp
        have HBW := Lib.hid hbw
        clear hst hhe hsp hbw HA
        by_cases hlt : j < l0
        case' pos => have hlim : 40 ≤ j := by omega
        all_goals
          clear hboth
          go_wp2_with fail
          have HS9 := Lib.hid (HST.out.drewN 1)
          have HB9 := Lib.hid (below_dN HBW.out 1)
          have hs9 := And.intro HS9.out.c0 (And.intro HS9.out.c1 (And.intro HS9.out.ref.c0 HS9.out.ref.ref.field))
          have hKz : ∀ (z : Int) (w' : World), KinX (fun b => b = m.h) w.heap.size w' m.k m.a m.g m.n F S → z = -1 ∨ z = m.n → Calls Try.prog 12 #[.pointer (some ⟨m.k, 0, none⟩), .int .i64 z] w' fun e w2 => e = .returned (.int .i64 (-1)) ∧ w' = w2 := fun z w' h hz => by
            have := kind_any h z
            rw [show kdZ m.n S z = -1 from by unfold kdZ; rw [if_neg (by omega)]] at this
            exact this
          have HKZ := Lib.hid hKz
          clear HST HH HSP HBW HB1 hlt hj hKz
          try clear hlim
          go_region_held3 (fun v => v.cell? ⟨m.s, 0, none⟩ = some (.pointer (some ⟨m.k, 0, none⟩)) ∧ v.cell? ⟨m.s, 1, none⟩ = some (.pointer (some ⟨m.z, 0, none⟩)) ∧ v.cell? ⟨m.z, 0, none⟩ = some (.pointer (some ⟨m.x, 0, none⟩)) ∧ v.cell? ⟨m.x, 0, none⟩ = some (.slice (some ⟨m.y, 0, none⟩) m.n m.n)) (first | exact hs9 | exact hs10)
            (first | (go_at_call 11; refine (same_any HS9.out).mono ?_; rintro e w10 ⟨rfl, hb10⟩; have k10 := HS9.out.call hb10; have hs10 := And.intro k10.c0 (And.intro k10.c1 (And.intro k10.ref.c0 k10.ref.ref.field))) | (go_at_call 12; refine Calls.mono (HKZ.out _ _ k10.kin (by first | exact Or.inl rfl | exact Or.inr rfl)) ?_; rintro e w11 ⟨rfl, rfl⟩))
          have HB10 := Lib.hid (HB9.out.trans (hb10.mono HB9.out.size))
          go_wp2
          go_ret
          exact ⟨rfl, HB10.out⟩
end Go.Proofs.Ytfjphlickpgbnaa
