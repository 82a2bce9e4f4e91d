/- Two lists of blocks that are the same. -/
import Derived.Test.YtklhcgekagimkaaGreatMg45
import Derived.BigQuiet
import Derived.Deep.RegionHeld3
namespace Go.Proofs.YtklhcgekagimkaaGreat
open Go.RowKit
section
variable {w : World} {A A' : Option Addr} {L M : List (Nat × Nat)} {c c' : Nat}
theorem same_same (h : BlkRow w A L) (h' : BlkRow w A' L) (hm : L.length ≤ 4096) : Calls Tryz.prog 22 #[.slice A L.length c, .slice A' L.length c'] w fun e w' => e = .returned (.bool true) ∧ ∃ q, w' = w.drewN q := by
  have H := Lib.hid h.at_
  have H' := Lib.hid h'.at_
  clear h h'
  obtain ⟨n, en⟩ : ∃ n, n = L.length := ⟨_, rfl⟩
  have HE := Lib.hid en
  rw [← en] at hm ⊢
  clear en
  go_enter Tryz.func22, Tryz.ntmps22
  go_wp2
  go_loopw [5] (fun i wr => ∃ j k : Nat, j ≤ n ∧ i = .int .i64 j ∧ wr = w.drewN k) (fun i _ => n - (intOf i).toNat)
  case atStart => exact ⟨0, 0, Nat.zero_le _, rfl, rfl⟩
  case round =>
    obtain ⟨j, k, hj, rfl, rfl⟩ := hrel
    by_cases hlt : j < n
    · obtain ⟨g, rfl, _, hc⟩ := (H.out.drewN k) (by rw [← HE.out]; omega)
      obtain ⟨g', rfl, _, hc'⟩ := (H'.out.drewN k) (by rw [← HE.out]; omega)
      obtain ⟨c0, c1⟩ := hc j (by rw [← HE.out]; omega)
      obtain ⟨e0, e1⟩ := hc' j (by rw [← HE.out]; omega)
      obtain ⟨x, ex⟩ : ∃ x, x = (L.getD j (0, 0)).1 := ⟨_, rfl⟩
      obtain ⟨y, ey⟩ : ∃ y, y = (L.getD j (0, 0)).2 := ⟨_, rfl⟩
      rw [← ex] at c0 e0
      rw [← ey] at c1 e1
      obtain ⟨w1, ew⟩ : ∃ w1, w1 = w.drewN k := ⟨_, rfl⟩
      rw [← ew] at c0 c1 e0 e1 ⊢
      have HW := Lib.hid ew
      clear ex ey ew hc hc'
      go_wp2_with fail
      go_quiet (fail)
      go_wp2_with fail
      go_roundw
      case rel => exact ⟨j + 1, k + _, by omega, by go_num, by rw [HW.out, drewN_add]⟩
      case measure => simp [intOf]; omega
    · go_wp2
      go_ret
      exact ⟨rfl, k, rfl⟩
end
end Go.Proofs.YtklhcgekagimkaaGreat
/- Memory: MemoryWhole, walked. -/
namespace Go.Proofs.YtklhcgekagimkaaGreat
open Go.RowKit
/-- The first j frames have been given back. -/
def whM (M : Me) (j : Nat) : Me := ⟨setR M.F 0 j true, M.S, putF M.I 0 j 0, M.W⟩
section
variable {M : Me} {n j : Nat}
theorem whM_ok (h : MeOk n M) (hj : j ≤ n) : MeOk n (whM M j) := by
  refine ⟨h.n8, h.hi, by simp only [whM]; rw [setR_length]; exact h.f, h.s, h.kin, by simp only [whM]; rw [put_len (by rw [h.i]; omega)]; exact h.i, ?_, ?_⟩
  · intro y hy
    obtain ⟨i, hi⟩ := List.mem_iff_getElem?.1 hy
    simp only [whM] at hi
    rw [put_get (by rw [h.i]; omega)] at hi
    split at hi
    · injection hi with hi; omega
    · exact h.is y (List.mem_of_getElem? hi)
  · intro i hi
    simp only [whM]
    rw [setR_get _ _ _ _ (by rw [h.f]; omega), put_get (by rw [h.i]; omega)]
    split
    · simp
    · exact h.fit i hi
theorem whM_zero (M : Me) : whM M 0 = M := by unfold whM; rw [put_zero]; rfl
theorem whM_skip (h : MeOk n M) (hj : j < n) (h0 : M.I[j]? = some 0) : whM M (j + 1) = whM M j := by
  have hF := (h.fit j hj).2 h0
  have e1 : setR M.F 0 (j + 1) true = setR M.F 0 j true := by
    apply List.ext_getElem?
    intro i
    rw [setR_get _ _ _ _ (by rw [h.f]; omega), setR_get _ _ _ _ (by rw [h.f]; omega)]
    by_cases c : i = j
    · subst c; rw [if_pos (by omega), if_neg (by omega), hF]
    · by_cases c2 : i < j
      · rw [if_pos (by omega), if_pos (by omega)]
      · rw [if_neg (by omega), if_neg (by omega)]
  have e2 : putF M.I 0 (j + 1) 0 = putF M.I 0 j 0 := by
    apply List.ext_getElem?
    intro i
    rw [put_get (by rw [h.i]; omega), put_get (by rw [h.i]; omega)]
    by_cases c : i = j
    · subst c; rw [if_pos (by omega), if_neg (by omega), h0]
    · by_cases c2 : i < j
      · rw [if_pos (by omega), if_pos (by omega)]
      · rw [if_neg (by omega), if_neg (by omega)]
  unfold whM
  rw [e1, e2]
theorem whM_at (h : MeOk n M) (hj : j < n) : (whM M j).I[j]? = M.I[j]? ∧ (whM M j).F[j]? = M.F[j]? := by
  simp only [whM]
  rw [put_get (by rw [h.i]; omega), if_neg (by omega), setR_get _ _ _ _ (by rw [h.f]; omega), if_neg (by omega)]
  exact ⟨rfl, rfl⟩
theorem whM_drop (h : MeOk n M) (hj : j < n) {x : Int} (h0 : M.I[j]? = some x) (hx : x ≠ 0) : drE (whM M j) j 0 = 0 ∧ drM (whM M j) j 0 = whM M (j + 1) := by
  have hF : M.F[j]? = some false := by
    obtain ⟨v, hv⟩ : ∃ v, M.F[j]? = some v := ⟨_, List.getElem?_eq_getElem (by rw [h.f]; exact hj)⟩
    cases v with
    | false => exact hv
    | true =>
      have := (h.fit j hj).1 hv
      rw [h0] at this; injection this with this; exact absurd this hx
  have he : drE (whM M j) j 0 = 0 := by
    unfold drE
    refine chE_free (k := 0) (by omega) (by omega) (by rw [(whM_ok h (by omega : j ≤ n)).f]; omega) ?_
    intro i h1 h2
    obtain rfl : i = j := by omega
    rw [(whM_at h hj).2]; exact hF
  refine ⟨he, ?_⟩
  unfold drM
  rw [if_pos he, chL_of he, Int.toNat_natCast, show (0 : Int).toNat = 0 from rfl, Nat.pow_zero]
  have e2 : putF (putF M.I 0 j 0) j 1 0 = putF M.I 0 (j + 1) 0 := by
    rw [put_one _ (by rw [put_len (by rw [h.i]; omega), h.i]; exact hj)]
    have := put_next (I := M.I) (f := 0) (m := j) (by rw [h.i]; omega) 0
    rw [Nat.zero_add] at this
    exact this
  simp only [whM]
  rw [e2]
  congr 1
  simp [setR]
theorem whM_all (h : MeOk n M) : (whM M n).F = List.replicate n true ∧ (whM M n).I = List.replicate n 0 := by
  constructor
  · apply List.ext_getElem?
    intro i
    simp only [whM]
    rw [setR_get _ _ _ _ (by rw [h.f]; omega), List.getElem?_replicate]
    by_cases c : i < n
    · rw [if_pos (by omega), if_pos c]
    · rw [if_neg (by omega), if_neg c, List.getElem?_eq_none (by rw [h.f]; omega)]
  · apply List.ext_getElem?
    intro i
    simp only [whM]
    rw [put_get (by rw [h.i]; omega), List.getElem?_replicate]
    by_cases c : i < n
    · rw [if_pos (by omega), if_pos c]
    · rw [if_neg (by omega), if_neg c, List.getElem?_eq_none (by rw [h.i]; omega)]
theorem isV_at {I : List Int} {j : Nat} {y : Int} (h : I[j]? = some y) : isV I j = y := by
  have hl := (List.getElem?_eq_some_iff.1 h).1
  unfold isV frB
  rw [decide_eq_true (by omega), if_pos rfl, Int.toNat_natCast, List.getD_eq_getElem?_getD, h]; rfl
end
set_option maxHeartbeats 16000000 in
set_option maxRecDepth 100000 in
theorem whole_walk (m mk : Int) (A : Option Addr) (n c : Nat) (w : World) (hA : Acs w w.heap.size A n) :
    Calls Tryz.prog 6 #[.int .i64 m, .int .i64 mk, .slice A n c] w fun e w' => e = .returned (.bool true) ∧ Below w.heap.size w w' := by
  cases c0 : mwB (mnN m) mk
  · have h1 := made_no c0 (.slice A n c) w
    clear c0 hA
    go_enter Tryz.func6, Tryz.ntmps6
    go_wp2_with fail
    refine h1.mono ?_
    rintro e w1 ⟨rfl, hb1⟩
    have HB1 := Lib.hid hb1
    have h2 := awake_any w1
    clear h1 hb1
    go_wp2_with fail
    refine h2.mono ?_
    rintro e w2 ⟨rfl, hb2⟩
    have HB2 := Lib.hid (HB1.out.trans (hb2.mono HB1.out.size))
    have h3 := awake_any w2
    clear h2 hb2
    go_wp2_with fail
    refine h3.mono ?_
    rintro e w3 ⟨rfl, hb3⟩
    have HB3 := Lib.hid (HB2.out.trans (hb3.mono HB2.out.size))
    clear h3 hb3
    go_wp2_with fail
    go_ret
    exact ⟨rfl, HB3.out⟩
  · have hm := of_decide_eq_true c0
    obtain ⟨k, hk⟩ : ∃ k : Nat, mnN m = k := ⟨(mnN m).toNat, by omega⟩
    rw [hk] at hm
    obtain ⟨mk, rfl⟩ : ∃ j : Nat, mk = j := ⟨mk.toNat, by omega⟩
    obtain ⟨k8, k1, hkm⟩ : 8 ≤ k ∧ k ≤ 1024 ∧ mk ≤ k := by omega
    have k80 : k ≤ 80 := by
      rcases mn_cases m with ⟨c1, c2, c3⟩ | ⟨c1, c2, c3⟩ | ⟨c1, c3⟩ <;> omega
    clear c0 hm
    obtain ⟨L, hL, hA⟩ := hA.list
    have hmade := made_any hk k8 k1 hkm A n c w.heap.size L w hL hA (Nat.le_refl _)
    have hok := mdE_ok k8 k1 mk L
    generalize mdE k mk L = M at *
    have HOK := Lib.hid (And.intro hok (And.intro k8 (And.intro k80 hkm)))
    clear hA hL k8 k1 hkm hk hok
    go_enter Tryz.func6, Tryz.ntmps6
    go_wp2_with fail
    refine hmade.mono ?_
    rintro e w1 ⟨p, r, rfl, hst, hb1⟩
    have HS1 := Lib.hid (And.intro hst hb1)
    have h2 := awake_any w1
    clear hmade hst hb1
    go_wp2_with fail
    refine h2.mono ?_
    rintro e w2 ⟨rfl, hb2⟩
    have HB2 := Lib.hid (HS1.out.2.trans (hb2.mono HS1.out.2.size))
    obtain ⟨X, v, hp, hr, hd⟩ := HS1.out.1.call hb2
    obtain ⟨g, cc, rfl, hvb⟩ := hr.form HOK.out.1.i (by have := HOK.out.2.1; omega)
    have H2 := Lib.hid (And.intro hp (And.intro hr (And.intro hd hvb)))
    have c2 := hr.c2
    clear h2 hb2 hp hr hd hvb
    go_wp2_with fail
    go_loopw [10] (fun i wr => ∃ (j : Nat) (Xj : Nat → Prop), j ≤ k ∧ i = .int .i64 j ∧ PmX w.heap.size wr p Xj k mk (whM M j) ∧ RmX w.heap.size wr r (.slice (some ⟨g, 0, none⟩) k cc) k mk M ∧ (∀ q, MineP p Xj q → ¬ MineR r (.slice (some ⟨g, 0, none⟩) k cc) q) ∧ Below w.heap.size w wr) (fun i _ => k - (RowKit.intOf i).toNat)
    case atStart => exact ⟨0, X, by omega, rfl, by rw [whM_zero]; exact H2.out.1, H2.out.2.1, H2.out.2.2.1, HB2.out⟩
    case round =>
      obtain ⟨j, Xj, hj, rfl, hp, hr, hd, hb⟩ := hrel
      have c2 := hr.c2
      by_cases hlt : j < k
      · obtain ⟨y, hy⟩ : ∃ y, M.I[j]? = some y := ⟨_, List.getElem?_eq_getElem (by rw [HOK.out.1.i]; exact hlt)⟩
        have hI := is_m hp j
        rw [isV_at (by rw [(whM_at HOK.out.1 hlt).1]; exact hy)] at hI
        have HR := Lib.hid (And.intro hp (And.intro hr (And.intro hd hb)))
        have j1 : (j : Int) < (k : Int) := by omega
        have hw3 : IntKind.i64.wrap ((j : Int) + 1) = (j : Int) + 1 := IntWalk.i64_in _ (by omega)
        have HJ := Lib.hid hlt
        by_cases hz : y = 0
        · have HN := Lib.hid (whM_skip HOK.out.1 hlt (by rw [hy, hz]))
          subst hz
          clear hp hr hd hb hy hj hlt
          go_wp2_with fail
          refine hI.mono ?_
          rintro e w3 ⟨rfl, hb3⟩
          have HB3 := Lib.hid hb3
          clear hb3 hI c2
          go_wp2_with fail
          go_roundw
          case rel => exact ⟨j + 1, Xj, HJ.out, by go_num, by rw [HN.out]; exact HR.out.1.call HB3.out, HR.out.2.1.call HB3.out, HR.out.2.2.1, HR.out.2.2.2.trans (HB3.out.mono HR.out.2.2.2.size)⟩
          case measure => simp [RowKit.intOf]; have := HJ.out; omega
        · have hz1 : (y == 0) = false := by simpa using hz
          obtain ⟨d1, d2⟩ := whM_drop HOK.out.1 hlt hy hz
          have HD0 := Lib.hid (And.intro d1 (And.intro d2 (whM_ok HOK.out.1 (Nat.le_of_lt hlt))))
          have HFT : Hid (Fits (j : Int)) := ⟨by omega, by have := HOK.out.2.2.1; omega⟩
          clear hp hr hd hb hy hj hlt d1 d2
          go_wp2_with fail
          refine hI.mono ?_
          rintro e w3 ⟨rfl, hb3⟩
          have hp3 := HR.out.1.call hb3
          have hr3 := HR.out.2.1.call hb3
          have hD := drop_m hp3 HD0.out.2.2 HFT.out 0
          rw [HD0.out.1, HD0.out.2.1] at hD
          have H3 := Lib.hid (And.intro hp3 (And.intro hr3 (HR.out.2.2.2.trans (hb3.mono HR.out.2.2.2.size))))
          clear hb3 hI c2 hp3 hr3
          go_wp2_with fail
          refine hD.mono ?_
          rintro e w4 ⟨rfl, hd4⟩
          have hb4 := PDid.below H3.out.1 hd4
          obtain ⟨X4, hp4, hf4, hx4⟩ := hd4
          have k1 := H3.out.2.1.foot hf4 fun q hq e => HR.out.2.2.1 q e hq
          have H4 : Hid (PmX w.heap.size w4 p X4 k mk (whM M (j + 1)) ∧ RmX w.heap.size w4 r (.slice (some ⟨g, 0, none⟩) k cc) k mk M ∧ (∀ q, MineP p X4 q → ¬ MineR r (.slice (some ⟨g, 0, none⟩) k cc) q) ∧ Below w.heap.size w w4) :=
            ⟨hp4, k1, fun q hq e => by
              rcases MineP.more hx4 hq with e1 | e1
              · exact HR.out.2.2.1 q e1 e
              · have := (H3.out.2.1.mine e).2; omega, H3.out.2.2.trans hb4⟩
          clear hD k1 hb4 hp4 hf4 hx4
          go_wp2_with fail
          go_roundw
          case rel => exact ⟨j + 1, X4, HJ.out, by go_num, H4.out.1, H4.out.2.1, H4.out.2.2.1, H4.out.2.2.2⟩
          case measure => simp [RowKit.intOf]; have := HJ.out; omega
      · obtain rfl : j = k := by omega
        have hall := whM_all HOK.out.1
        have HOA := Lib.hid (whM_ok HOK.out.1 (Nat.le_refl j))
        have HR := Lib.hid (And.intro hp (And.intro hr hb))
        have HALL := Lib.hid hall
        have hN := refNew_any j HOK.out.2.1 (by have := HOK.out.2.2.1; omega) wr
        clear hp hr hd hb hj hlt hall
        go_wp2_with fail
        refine hN.mono ?_
        rintro e w3 ⟨rfl, hb3, hy3⟩
        obtain ⟨yy, hyy⟩ : ∃ yy, yy = wr.heap.size + 1 := ⟨_, rfl⟩
        rw [← hyy] at hy3 ⊢
        have hp9 := (HR.out.1.call hb3).drewN 1
        have hr9 := (HR.out.2.1.call hb3).drewN 1
        have hy9 := hy3.drewN 1
        have HBV : Hid (Below w.heap.size w (w3.drewN 1)) := below_dN (HR.out.2.2.trans (hb3.mono HR.out.2.2.size)) 1
        have hml : (bk (List.replicate j true)).length ≤ 4096 := by have := bk_len (List.replicate j true); rw [List.length_replicate] at this; have := HOK.out.2.2.1; omega
        have hFr := free_m hp9
        rw [HALL.out.1, List.count_replicate_self] at hFr
        have hCo : ∀ U, Below (w3.drewN 1).heap.size (w3.drewN 1) U → Calls Tryz.prog 16 #[.pointer (some ⟨p.m, 0, none⟩), .int .i64 0] U fun e w' => e = .returned (.int .i64 j) ∧ Below U.heap.size U w' := fun U hU => by
          have := count_m (hp9.call hU) HOA.out.ok 0
          rw [HALL.out.2, List.count_replicate_self] at this
          exact this
        have hBl : ∀ U, Below (w3.drewN 1).heap.size (w3.drewN 1) U → Calls Tryz.prog 23 #[.pointer (some ⟨p.m, 0, none⟩)] U (Lists (bk (List.replicate j true)) U) := fun U hU => by
          have := blocks_m (hp9.call hU)
          rw [HALL.out.1] at this
          exact this
        have hRB : ∀ U, Below (w3.drewN 1).heap.size (w3.drewN 1) U → Calls Tryz.prog 24 #[.pointer (some ⟨yy, 0, none⟩)] U (Lists (bk (List.replicate j true)) U) := fun U hU => refBlocks_any (hy9.call hU)
        have hRi : ∀ U, Below (w3.drewN 1).heap.size (w3.drewN 1) U → Calls Tryz.prog 28 #[.pointer (some ⟨p.m, 0, none⟩)] U fun e w' => e = .returned (.bool true) ∧ Below U.heap.size U w' := fun U hU => right_m (hp9.call hU) HOA.out
        have hSS : ∀ U, Below (w3.drewN 1).heap.size (w3.drewN 1) U → U.cell? ⟨r.x, 2, none⟩ = some (.slice (some ⟨g, 0, none⟩) j cc) := fun U hU => (hr9.call hU).c2
        have S0 := hSS (w3.drewN 1) (Below.refl _ _)
        generalize bk (List.replicate j true) = LL at *
        clear hN hb3 hy3 hyy hp9 hr9 hy9 c2
        go_wp2_with fail
        go_region_held3 (fun v => v.cell? ⟨r.x, 2, none⟩ = some (.slice (some ⟨g, 0, none⟩) j cc))
          (first | exact S0 | exact S1 | exact S2 | exact S3 | exact S4 | exact S5 | exact S6)
          (first | (go_at_call 20; refine hFr.mono ?_; rintro e v1 ⟨rfl, b1⟩; have S1 := hSS v1 b1) | (go_at_call 16; refine (hCo _ b1).mono ?_; rintro e v2 ⟨rfl, b2'⟩; have b2 := b1.trans (b2'.mono b1.size); have S2 := hSS v2 b2) | (go_at_call 23; refine (hBl _ b2).mono ?_; rintro e v3 ⟨A1, e1, rfl, r1, b3'⟩; have b3 := b2.trans (b3'.mono b2.size); have S3 := hSS v3 b3) | (go_at_call 24; refine (hRB _ b3).mono ?_; rintro e v4 ⟨A2, e2, rfl, r2, b4'⟩; have b4 := b3.trans (b4'.mono b3.size); have r1' := r1.below b4'; have S4 := hSS v4 b4) | (go_at_call 22; refine (same_same r1' r2 hml).mono ?_; rintro e v5 ⟨rfl, q, rfl⟩; have b5 := below_dN b4 q; have S5 := hSS _ b5) | (go_at_call 28; refine (hRi _ b5).mono ?_; rintro e v6 ⟨rfl, b6'⟩; have b6 := b5.trans (b6'.mono b5.size); have S6 := hSS v6 b6))
        all_goals
          have HB6 := Lib.hid (HBV.out.trans (b6.mono HBV.out.size))
          clear S0 S1 S2 S3 S4 S5 S6 b1 b2 b3 b4 b5 b6 b2' b3' b4' b6' r1 r2 r1' hFr hCo hBl hRB hRi hSS
          go_wp2_with fail
          go_ret
          exact ⟨ret_bool (by simp), HB6.out⟩
end Go.Proofs.YtklhcgekagimkaaGreat
