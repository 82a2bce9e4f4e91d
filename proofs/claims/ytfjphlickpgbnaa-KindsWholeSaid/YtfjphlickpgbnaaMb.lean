/- The law KindsWhole. -/
import Derived.Test.YtfjphlickpgbnaaJh
import Derived.Test.YtfjphlickpgbnaaJi
import Derived.Test.YtfjphlickpgbnaaKm
namespace Go.Proofs.Ytfjphlickpgbnaa
open Go.RowKit

/-- A row of blocks that is not what is taken lies as it lay. -/
theorem BlkRow.step {w w' : World} {B : Nat} {A : Option Addr} {M : List (Nat × Nat)} {tv' : Value} (h : BlkRow w A M) (hs : Step B w w' (.slice none 0 0) tv') : BlkRow w' A M := fun hn => by
  obtain ⟨g, vs, e, r, t⟩ := h hn
  refine ⟨g, vs, e, hs.keep _ _ _ r ?_ (by simp [Value.ownBlock]), t⟩
  unfold Own
  decide
set_option maxHeartbeats 4000000 in
set_option maxRecDepth 100000 in
theorem whole_walk (fr : Int) (A : Option Addr) (l0 c : Nat) (w : World) (hA : Acts w w.heap.size A l0) :
    Calls Try.prog 6 #[.int .i64 fr, .slice A l0 c] w fun e w' => e = .returned (.bool true) ∧ Below w.heap.size w w' := by
  by_cases hf : fr < 8 ∨ 1024 < fr
  · have hmd := fun W' => made_bad hf W'
    go_enter Try.func6, Try.ntmps6
    go_wp2_with (first | (go_at_call 8; refine (hmd _).mono ?_; rintro e w' ⟨rfl, rfl⟩))
    refine (awake_any _).mono ?_
    rintro e w1 ⟨rfl, hb1⟩
    go_wp2_with fail
    refine (awake_any _).mono ?_
    rintro e w2 ⟨rfl, hb2⟩
    go_wp2
    go_ret
    exact ⟨rfl, hb1.trans (hb2.mono hb1.size)⟩
  · obtain ⟨n, hn, h8, h150⟩ := smI_good hf
    have hmd := fun W' => made_any n hn h8 h150 W'
    have HA := Lib.hid hA
    clear hA hn hf
    go_enter Try.func6, Try.ntmps6
    go_wp2_with fail
    refine (hmd _).mono ?_
    intro e w1 h1
    obtain ⟨m, hmn, rfl, hg1, hb1⟩ := h1
    subst hmn
    clear hmd
    go_wp2_with fail
    refine (awake_any _).mono ?_
    rintro e w2 ⟨rfl, hb2⟩
    have HG2 := Lib.hid (hg1.call hb2)
    have HB2 := Lib.hid (hb1.trans (hb2.mono hb1.size))
    clear hg1 hb2 hb1
    have hc2 := HG2.out.c0
    go_wp2_with fail
    refine (kBlocks_any HG2.out.kin).mono ?_
    rintro e w4 ⟨A1, c1, rfl, r1, hb4⟩
    have HR1 := Lib.hid r1
    have HB4 := Lib.hid (HB2.out.trans (hb4.mono HB2.out.size))
    have HG : Hid (Going w.heap.size m w4 w4) := ⟨_, _, _, _, HG2.out.call hb4, held_start m.n, Step.refl _ _ _⟩
    have HML : Hid ((bk (List.replicate m.n true)).length ≤ 4096) := by
      show _ ≤ _
      have := bk_len (List.replicate m.n true)
      rw [List.length_replicate] at this
      omega
    clear r1 hb4 hc2 HG2 HB2
    go_wp2_with fail
    go_loopw [8] (fun i wr => ∃ j : Nat, j ≤ l0 ∧ i = .int .i64 j ∧ Going w.heap.size m w4 wr) (fun i _ => l0 - (intOf i).toNat)
    case atStart => exact ⟨0, by omega, rfl, HG.out⟩
    case round =>
      obtain ⟨j, hj, rfl, hgo⟩ := hrel
      clear HG
      have hbw : Below w.heap.size w wr := HB4.out.trans hgo.below
      by_cases hboth : j < l0 ∧ j < 60
      · obtain ⟨hlt, hlim⟩ := hboth
        obtain ⟨ad, rfl, ac, ok, hat⟩ := acts_now HA.out hbw hlt
        obtain ⟨K, Fr, o, Of, N⟩ := ac
        have c0 := hat.c0
        have c1 := hat.c1
        have c2 := hat.c2
        have c3 := hat.c3
        have c4 := hat.c4
        clear hat
        go_wp2_with fail
        refine (hgo.do_ ok).mono ?_
        rintro e w' ⟨rfl, hgo'⟩
        clear hgo hbw c0 c1 c2 c3 c4
        go_wp2
        go_roundw
        case rel => exact ⟨j + 1, by omega, by go_num, hgo'⟩
        case measure => simp [intOf]; omega
      · obtain ⟨F, S, T, tv, hst, hhe, hsp⟩ := hgo
        have HST := Lib.hid hst
        have HH := Lib.hid hhe
        have HSP := Lib.hid hsp
        have HBW := Lib.hid hbw
        clear hst hhe hsp hbw HA
        by_cases hlt : j < l0
        case' pos => have hlim : 60 ≤ j := by omega
        all_goals
          clear hboth
          go_wp2_with fail
          clear hlt hj HBW
          try clear hlim
          go_loopg [] (F.count false) (fun g wr => ∃ F S T tv, g = F.count false ∧ St w.heap.size wr m F F S S T tv ∧ Held F T ∧ Step w.heap.size w4 wr (.slice none 0 0) tv)
          case atStart => exact ⟨F, S, T, tv, rfl, HST.out, HH.out, HSP.out⟩
          case round =>
            clear HST HH HSP
            obtain ⟨F, S, T, tv, hgk, hst, hhe, hsp⟩ := hrel
            obtain ⟨A2, c2, hv⟩ := own_form hst.own
            subst hv
            have HST := Lib.hid hst
            have HH := Lib.hid hhe
            have HSP := Lib.hid hsp
            have HGK := Lib.hid hgk
            obtain ⟨l, hl⟩ : ∃ l, l = T.length := ⟨_, rfl⟩
            have hcz := hst.c2
            rw [← hl] at hcz
            have HL := Lib.hid hl
            by_cases hT : 0 < l
            · have hco : l ≤ 1024 := by have := hhe.len_n; have := hst.kin.len; have := hst.kin.hi; omega
              obtain ⟨z, hz⟩ : ∃ z : Nat, z = l / 2 := ⟨_, rfl⟩
              have hzl : z < l := by omega
              have hz1 : (l : Int).tdiv 2 = z := by rw [Int.tdiv_eq_ediv_of_nonneg (by omega)]; omega
              have hz2 : (l : Int) / 2 = z := by omega
              have hzw : IntKind.i64.wrap (z : Int) = z := IntWalk.i64_in _ (by omega)
              clear hst hhe hsp hl hgk hz
              have hlp : (0 : Int) < l := by omega
              go_wp2_with fail
              refine (do_give HST.out HH.out (K := 4) rfl).mono ?_
              rintro e w6 ⟨rfl, F', S', T', tv', k1, k2, k3, k4⟩
              have HK4 := Lib.hid (k4 (by omega) (by rw [← HL.out]; omega))
              have HK := Lib.hid (And.intro k1 (And.intro k2 (HSP.out.trans k3)))
              clear k1 k2 k3 k4 HST HH HSP HL hcz hz1 hz2 hzw
              go_wp2
              go_roundg (F'.count false)
              case measure => have := HK4.out; have := HGK.out; omega
              case rel => exact ⟨F', S', T', tv', rfl, HK.out.1, HK.out.2.1, HK.out.2.2⟩
            · obtain rfl : l = 0 := by omega
              have hTn : T = [] := List.length_eq_zero_iff.1 hl.symm
              subst hTn
              have hst : St w.heap.size wr m F F S S [] (.slice A2 0 c2) := hst
              have hF : F = List.replicate m.n true := by
                have := hhe.none
                rwa [hst.kin.len] at this
              subst hF
              have HB := Lib.hid (below_dN (HB4.out.trans hsp.below) 1)
              have HS9 := Lib.hid (hst.drewN 1)
              have HR9 := Lib.hid ((HR1.out.step hsp).below (below_dN (Below.refl _ _) 1))
              have hs9 := And.intro HS9.out.c0 (And.intro HS9.out.c1 (And.intro HS9.out.ref.c0 HS9.out.ref.ref.field))
              clear hst hhe hsp HST HH HSP HL hl hgk HGK
              go_wp2_with fail
              go_region_held3 (fun v => v.cell? ⟨m.s, 0, none⟩ = some (.pointer (some ⟨m.k, 0, none⟩)) ∧ v.cell? ⟨m.s, 1, none⟩ = some (.pointer (some ⟨m.z, 0, none⟩)) ∧ v.cell? ⟨m.z, 0, none⟩ = some (.pointer (some ⟨m.x, 0, none⟩)) ∧ v.cell? ⟨m.x, 0, none⟩ = some (.slice (some ⟨m.y, 0, none⟩) m.n m.n)) (first | exact hs9 | exact hs10 | exact hs12)
                (first | (go_at_call 19; refine (kBlocks_any HS9.out.kin).mono ?_; rintro e w10 ⟨A5, c5, rfl, r5, hb10⟩; have k10 := HS9.out.call hb10; have hs10 := And.intro k10.c0 (And.intro k10.c1 (And.intro k10.ref.c0 k10.ref.ref.field)); have r10 := HR9.out.below hb10) | (go_at_call 20; refine (same_same r10 r5 HML.out).mono ?_; rintro e w12 ⟨rfl, q, rfl⟩; have hs12 := And.intro (k10.drewN q).c0 (And.intro (k10.drewN q).c1 (And.intro (k10.drewN q).ref.c0 (k10.drewN q).ref.ref.field))) | (go_at_call 21; refine (kFree_any (k10.drewN q).kin).mono ?_; rintro e w13 ⟨rfl, rfl⟩; rw [List.count_replicate_self]))
              have HB10 := Lib.hid (HB.out.trans (hb10.mono HB.out.size))
              go_wp2
              go_ret
              exact ⟨rfl, below_dN HB10.out _⟩
end Go.Proofs.Ytfjphlickpgbnaa
