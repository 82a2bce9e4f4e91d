/- The law BuddyWhole. -/
import Derived.Test.YtgkjkjpeolhgbaaCi
namespace Go.Proofs.Ytgkjkjpeolhgbaa
open Go.RowKit

/-- A row of blocks that is not what is taken lies as it lay. -/
theorem BlkRow.step {w w' : World} {B : Nat} {A : Option Addr} {M : List (Nat × Nat)} {tv' : Value} (h : BlkRow w A M) (hs : Step B w w' (.slice none 0 0) tv') : BlkRow w' A M := fun hn => by
  obtain ⟨g, vs, e, r, t⟩ := h hn
  refine ⟨g, vs, e, hs.keep _ _ _ r ?_ (by simp [Value.ownBlock]), t⟩
  unfold Own
  decide
set_option maxHeartbeats 2000000 in
set_option maxRecDepth 100000 in
theorem whole_walk (fr : Int) (A : Option Addr) (m c : Nat) (t : Int) (w : World) (hA : Acts w w.heap.size A m) (ht0 : 0 ≤ t) (ht1 : t < 256) :
    Calls Try.prog 4 #[.int .i64 fr, .slice A m c, .int .u8 t] w fun e w' => e = .returned (.bool true) ∧ Below w.heap.size w w' := by
  by_cases hf : fr < 8 ∨ 1024 < fr
  · have hsm : ∀ W', Calls Try.prog 11 #[.int .i64 fr] W' fun e w' => e = .returned (.int .i64 fr) ∧ W' = w' := fun W' => by
      have := small_any fr W'
      rw [smI_bad hf] at this
      exact this
    have hmd := fun W' => made_bad hf W'
    go_enter Try.func4, Try.ntmps4
    go_wp2_with (first | (go_at_call 11; refine (hsm _).mono ?_; rintro e w' ⟨rfl, rfl⟩) | (go_at_call 10; refine (hmd _).mono ?_; rintro e w' ⟨rfl, rfl⟩))
    refine (awake_any _).mono ?_
    rintro e w1 ⟨rfl, hb1⟩
    go_wp2_with fail
    refine (awake_any _).mono ?_
    rintro e w2 ⟨rfl, hb2⟩
    go_wp2
    go_ret
    exact ⟨rfl, hb1.trans (hb2.mono hb1.size)⟩
  · obtain ⟨n, hn, h8, h300⟩ := smI_good hf
    have hsm : ∀ W', Calls Try.prog 11 #[.int .i64 fr] W' fun e w' => e = .returned (.int .i64 n) ∧ W' = w' := fun W' => by
      have := small_any fr W'
      rw [hn] at this
      exact this
    have hmd := fun W' => made_any n h8 (by omega) W'
    have HA := Lib.hid hA
    clear hA hn hf
    go_enter Try.func4, Try.ntmps4
    go_wp2_with (first | (go_at_call 11; refine (hsm _).mono ?_; rintro e w' ⟨rfl, rfl⟩))
    refine (hmd _).mono ?_
    intro e w1 h1
    obtain ⟨s, a, x, y, rfl, hg1, hb1⟩ := h1
    clear hsm hmd
    go_wp2_with fail
    refine (awake_any _).mono ?_
    rintro e w2 ⟨rfl, hb2⟩
    have HG := Lib.hid (hg1.call hb2)
    have HB1 := Lib.hid (hb1.trans (hb2.mono hb1.size))
    clear hg1 hb2 hb1
    have hc2 := HG.out.c0
    go_wp2_with fail
    refine HG.out.blocks_.mono ?_
    rintro e w4 ⟨A1, c1, rfl, r1, hb4⟩
    have HR1 := Lib.hid r1
    have HB4 := Lib.hid (HB1.out.trans (hb4.mono HB1.out.size))
    have HG4 : Hid (Going w.heap.size s a x y n w4 w4) := ⟨_, _, _, HG.out.call hb4, held_start n, Step.refl _ _ _⟩
    have HML : Hid ((bk (List.replicate n true)).length ≤ 4096) := by
      show _ ≤ _
      have := bk_len (List.replicate n true)
      rw [List.length_replicate] at this
      omega
    clear r1 hb4 hc2 HG HB1
    go_wp2_with fail
    go_loopw [10] (fun i wr => ∃ j : Nat, j ≤ m ∧ i = .int .i64 j ∧ Going w.heap.size s a x y n w4 wr) (fun i _ => m - (intOf i).toNat)
    case atStart => exact ⟨0, by omega, rfl, HG4.out⟩
    case round =>
      obtain ⟨j, hj, rfl, hgo⟩ := hrel
      clear HG4
      have hbw : Below w.heap.size w wr := HB4.out.trans hgo.below
      by_cases hboth : j < m ∧ j < 60
      · obtain ⟨hlt, hlim⟩ := hboth
        obtain ⟨ad, rfl, ac, ok, c0, c1, c2, c3, c4⟩ := acts_now HA.out hbw hlt
        go_wp2_with fail
        refine (hgo.do_ ok).mono ?_
        rintro e w' ⟨rfl, hgo'⟩
        clear hgo hbw c0 c1 c2 c3 c4
        go_wp2
        go_roundw
        case rel => exact ⟨j + 1, by omega, by go_num, hgo'⟩
        case measure => simp [intOf]; omega
      · obtain ⟨F, T, tv, hst, hhe, hsp⟩ := hgo
        have HST := Lib.hid hst
        have HH := Lib.hid hhe
        have HSP := Lib.hid hsp
        have HBW := Lib.hid hbw
        have hcz := hst.c0
        clear hst hhe hsp hbw HA
        by_cases hlt : j < m
        case' pos => have hlim : 60 ≤ j := by omega
        all_goals
          clear hboth
          go_wp2_with fail
          clear hcz hlt hj
          try clear hlim
          go_loopw [11] (fun i wr => ∃ k : Nat, ∃ F T tv, i = .int .i64 k ∧ St w.heap.size wr s a x y n F F T tv ∧ Held F T ∧ Step w.heap.size w4 wr (.slice none 0 0) tv ∧ k + F.count false ≤ n) (fun i _ => n - (intOf i).toNat)
          case atStart => exact ⟨0, F, T, tv, rfl, HST.out, HH.out, HSP.out, by have := HST.out.len; have := List.count_le_length (a := false) (l := F); omega⟩
          case round =>
            clear HST HH HSP HBW
            obtain ⟨k, F, T, tv, rfl, hst, hhe, hsp, hkn⟩ := hrel
            obtain ⟨A2, c2, hv⟩ := own_form hst.own
            subst hv
            have HST := Lib.hid hst
            have HH := Lib.hid hhe
            have HSP := Lib.hid hsp
            obtain ⟨l, hl⟩ : ∃ l, l = T.length := ⟨_, rfl⟩
            have hcz := hst.c2
            rw [← hl] at hcz
            have HL := Lib.hid hl
            by_cases hT : 0 < l
            · have hco : l ≤ 1024 := by have := hhe.len_n; have := hst.le; omega
              clear hst hhe hsp hl
              have hl0 : ¬ (l : Int) = 0 := by omega
              have hlp : (0 : Int) < l := by omega
              have hk5 : (k : Int) < 5000 := by omega
              have iwk : IntKind.i64.wrap ((k : Int) * 7) = k * 7 := IntWalk.i64_in _ (by omega)
              have iwu : IntKind.i64.wrap (t + k * 7) = t + k * 7 := IntWalk.i64_in _ (by omega)
              have iwt : IntKind.i64.wrap t = t := IntWalk.i64_in _ (by omega)
              have hu0 : 0 ≤ t + (k : Int) * 7 := by omega
              obtain ⟨i, hi⟩ : ∃ i : Nat, (t + (k : Int) * 7) % l = i := ⟨((t + (k : Int) * 7) % l).toNat, by have := Int.emod_nonneg (t + (k : Int) * 7) hl0; omega⟩
              have hil : i < l := by have := Int.emod_lt_of_pos (t + (k : Int) * 7) hlp; omega
              have hit : (t + (k : Int) * 7).tmod l = i := by rw [Int.tmod_eq_emod_of_nonneg hu0]; exact hi
              go_wp2_with fail
              refine (give_all HST.out HH.out (i := i) (by rw [← HL.out]; exact hil) _).mono ?_
              rintro e w6 ⟨rfl, F', T', tv', k1, k2, k3, k4⟩
              have HK := Lib.hid (And.intro k1 (And.intro k2 (HSP.out.trans k3)))
              clear k1 k2 k3 HST HH HSP HL hcz
              go_wp2
              go_roundw
              case rel => exact ⟨k + 1, F', T', tv', by go_num, HK.out.1, HK.out.2.1, HK.out.2.2, by omega⟩
              case measure => simp [intOf]; omega
            · obtain rfl : l = 0 := by omega
              have hTn : T = [] := List.length_eq_zero_iff.1 hl.symm
              subst hTn
              have hst : St w.heap.size wr s a x y n F F [] (.slice A2 0 c2) := hst
              have hF : F = List.replicate n true := by
                have := hhe.none
                rwa [hst.len] at this
              subst hF
              have HB := Lib.hid (below_dN (HB4.out.trans hsp.below) 1)
              have HS9 := Lib.hid (hst.drewN 1)
              have HR9 := Lib.hid ((HR1.out.step hsp).below (below_dN (Below.refl _ _) 1))
              have hs9 := And.intro HS9.out.c2 (And.intro HS9.out.c0 (And.intro HS9.out.c1 HS9.out.ref.field))
              clear hst hhe hsp HST HH HSP HL hl
              go_wp2_with fail
              go_region_held3 (fun v => v.cell? ⟨s, 2, none⟩ = some (.slice A2 0 c2) ∧ v.cell? ⟨s, 0, none⟩ = some (.pointer (some ⟨a, 0, none⟩)) ∧ v.cell? ⟨s, 1, none⟩ = some (.pointer (some ⟨x, 0, none⟩)) ∧ v.cell? ⟨x, 0, none⟩ = some (.slice (some ⟨y, 0, none⟩) n n)) (first | exact hs9 | exact hs10 | exact hs12)
                (first | (go_at_call 20; refine HS9.out.blocks_.mono ?_; rintro e w10 ⟨A5, c5, rfl, r5, hb10⟩; have k10 := HS9.out.call hb10; have hs10 := And.intro k10.c2 (And.intro k10.c0 (And.intro k10.c1 k10.ref.field)); have r10 := HR9.out.below hb10) | (go_at_call 19; refine (same_same r10 r5 HML.out).mono ?_; rintro e w12 ⟨rfl, q, rfl⟩; have hs12 := And.intro (k10.drewN q).c2 (And.intro (k10.drewN q).c0 (And.intro (k10.drewN q).c1 (k10.drewN q).ref.field))) | (go_at_call 14; refine (k10.drewN q).free_.mono ?_; rintro e w13 ⟨rfl, rfl⟩; rw [List.count_replicate_self]))
              have HB10 := Lib.hid (HB.out.trans (hb10.mono HB.out.size))
              go_wp2
              go_ret
              exact ⟨rfl, below_dN HB10.out _⟩
end Go.Proofs.Ytgkjkjpeolhgbaa
