/- The law KindsIsolated. -/
import Derived.Test.YtfjphlickpgbnaaJh
import Derived.Test.YtfjphlickpgbnaaJi
import Derived.Test.YtfjphlickpgbnaaKm
import Derived.BigQuiet
namespace Go.Proofs.Ytfjphlickpgbnaa
open Go.RowKit

/-- How many are true, counted from the start. -/
theorem count_cn (F : List Bool) : ∀ m, m ≤ F.length → (F.take m).count true = cnR (fun i => F[i]? == some true) 0 m := by
  intro m
  induction m with
  | zero => intro _; simp [cnR]
  | succ m ih =>
    intro h
    rw [List.take_succ_eq_append_getElem (by omega), List.count_append, ih (by omega), cnR_succ, Nat.zero_add, List.getElem?_eq_getElem (by omega)]
    cases F[m] <;> simp
theorem count_all (F : List Bool) : F.count true = cnR (fun i => F[i]? == some true) 0 F.length := by
  rw [← count_cn F _ (Nat.le_refl _), List.take_length]
theorem cnR_mono {p q : Nat → Bool} (h : ∀ i, p i = true → q i = true) (a : Nat) : ∀ m, cnR p a m ≤ cnR q a m := by
  intro m
  induction m with
  | zero => simp [cnR]
  | succ m ih =>
    rw [cnR_succ, cnR_succ]
    have := h (a + m)
    split <;> split <;> simp_all <;> omega
theorem cnR_less {p q : Nat → Bool} (h : ∀ i, p i = true → q i = true) (a : Nat) {j : Nat} (h1 : p (a + j) = false) (h2 : q (a + j) = true) : ∀ m, j < m → cnR p a m < cnR q a m := by
  intro m
  induction m with
  | zero => intro hj; omega
  | succ m ih =>
    intro hj
    rw [cnR_succ, cnR_succ]
    by_cases hm : j < m
    · have := ih hm
      have := h (a + m)
      split <;> split <;> simp_all <;> omega
    · obtain rfl : j = m := by omega
      have := cnR_mono h a j
      rw [h1, h2]
      simp
      omega
/-- A free frame that is not in an isolated section: there are more free ones than isolated free ones. -/
theorem free_more {F : List Bool} {S : List Nat} {f : Nat} (h1 : F[f]? = some true) (h2 : knd S f ≠ 3) : frO F S 3 < F.count true := by
  rw [count_all]
  have hl : f < F.length := (List.getElem?_eq_some_iff.1 h1).1
  exact cnR_less (p := frP F S 3) (fun i hi => by unfold frP at hi; rw [Bool.and_eq_true] at hi; exact hi.1) 0 (j := f) (by unfold frP kdP; rw [Nat.zero_add]; simp; intro _; omega) (by rw [Nat.zero_add, h1]; rfl) _ hl
theorem free_same {F : List Bool} {S : List Nat} (h : ∀ f, F[f]? = some true → knd S f = 3) : frO F S 3 = F.count true := by
  rw [count_all]
  refine cnR_congr fun i _ => ?_
  unfold frP kdP
  cases hv : (F[0 + i]? == some true) with
  | false => rfl
  | true =>
    rw [beq_iff_eq] at hv
    rw [h _ hv]
    rfl
theorem frO_count (F : List Bool) (S : List Nat) : frO F S 3 ≤ F.count true := by
  rw [count_all]
  exact cnR_mono (fun i hi => by unfold frP at hi; rw [Bool.and_eq_true] at hi; exact hi.1) 0 _
theorem chs_mem2 {M : Nat → List (Nat × Nat)} {kd : Nat} {x : Nat × Nat} (hk : kd ≤ 2) (h : chs M kd = some x) : ∃ i, i ≤ 2 ∧ x ∈ M i := by
  unfold chs at h
  split at h
  · rename_i y e; injection h with h; subst h; exact ⟨_, hk, bst_mem e⟩
  · split at h
    · rename_i y e; injection h with h; subst h; exact ⟨_, nxt_le _ _, bst_mem e⟩
    · exact ⟨_, nxt_le _ _, bst_mem h⟩
theorem bst_nothing {great : Bool} {l : List (Nat × Nat)} (h : bstB great l = none) : l = [] := by
  cases l with
  | nil => rfl
  | cons a r =>
    obtain ⟨x, hx⟩ := bst_some (great := great) (l := a :: r) (by simp)
    rw [hx] at h
    cases h
theorem chs_nothing {M : Nat → List (Nat × Nat)} {kd : Nat} (hk : kd ≤ 2) (h : chs M kd = none) : ∀ i, i ≤ 2 → M i = [] := by
  have h3 : M kd = [] ∧ M (nxt kd 0) = [] ∧ M (nxt kd 1) = [] := by
    unfold chs at h
    split at h
    · cases h
    · rename_i e1
      split at h
      · cases h
      · rename_i e2
        exact ⟨bst_nothing e1, bst_nothing e2, bst_nothing h⟩
  have hk' : kd = 0 ∨ kd = 1 ∨ kd = 2 := by omega
  intro i hi
  have hi' : i = 0 ∨ i = 1 ∨ i = 2 := by omega
  obtain ⟨a, b, c⟩ := h3
  rcases hk' with rfl | rfl | rfl <;> rcases hi' with rfl | rfl | rfl <;> first | exact a | exact b | exact c
/-- What is taken is in no isolated section. -/
theorem isolated_not {F : List Bool} {S : List Nat} {o kd : Nat} {y : Nat × Nat} (hk : kd ≤ 2) (h : ktP F S o kd = some y) {i : Nat} (hi : i < 2 ^ o) : knd S (y.1 + i) ≠ 3 := by
  obtain ⟨h1, h2, _⟩ := ktP_fre h
  obtain ⟨j, hj, hm⟩ := chs_mem2 hk h
  rw [putL_at] at hm
  have hs := (List.mem_filter.1 hm).2
  unfold selB at hs
  rw [Bool.and_eq_true, beq_iff_eq] at hs
  have hp := Nat.pow_le_pow_right (by omega : 0 < 2) h2
  intro e
  have := (pcs_kind h1 (f := y.1 + i) (by omega) (by omega)).1 e
  omega
/-- When not one frame can be taken, all free ones lie in isolated sections. -/
theorem isolated_all {F : List Bool} {S : List Nat} {kd : Nat} (hk : kd ≤ 2) (hS : ∀ x ∈ S, x ≤ 3) (h : ktP F S 0 kd = none) (f : Nat) (hf : F[f]? = some true) : knd S f = 3 := by
  obtain ⟨y, hy, h1, h2⟩ := pcs_cover S hf
  have hkk := pcs_kind hy h1 h2
  rw [hkk]
  have h3 : knd S y.1 ≤ 3 := by
    unfold knd
    rw [List.getD_eq_getElem?_getD]
    cases hg : S[y.1 / 8]? with
    | none => simp
    | some v => exact hS v (List.mem_of_getElem? hg)
  by_cases h4 : knd S y.1 = 3
  · exact h4
  · have := chs_nothing hk h (knd S y.1) (by omega)
    rw [putL_at] at this
    have hm : y ∈ (pcs F S).filter (selB S 0 (knd S y.1)) := List.mem_filter.2 ⟨hy, by unfold selB; simp⟩
    rw [this] at hm
    cases hm
theorem kcl_news {W : World} {z x y h n : Nat} {F : List Bool} {S : List Nat} (hR : RefK W z x y h n F S) : ∀ (j : Nat) (u : Value), (kcl S)[j]? = some u → W.cell? ((⟨h, 0, none⟩ : Addr).add j) = some u := fun j u hu => by
  obtain ⟨r, hr⟩ := hR.row
  have hj : j < (kcl S).length := (List.getElem?_eq_some_iff.1 hu).1
  rw [add_zero_off, hr.cell, List.getElem?_append_left hj]
  exact hu
theorem kcl_one (S : List Nat) : ∀ u ∈ kcl S, u.oneCell' = true := by
  intro u hu
  unfold kcl at hu
  obtain ⟨x, _, rfl⟩ := List.mem_map.1 hu
  rfl
set_option maxHeartbeats 40000000 in
set_option maxRecDepth 100000 in
theorem isolated_walk (fr : Int) (A : Option Addr) (l0 c : Nat) (t kq : Int) (w : World) (hA : Acts w w.heap.size A l0) (hfr : I64 fr) (ht0 : 0 ≤ t) (_ : t < 256) (hq0 : 0 ≤ kq) (_ : kq < 256) :
    Calls Try.prog 4 #[.agg #[.int .i64 fr, .slice A l0 c, .int .u8 t, .int .u8 kq]] w fun e w' => e = .returned (.bool true) ∧ Below w.heap.size w w' := by
  have _ := hfr
  clear hfr
  obtain ⟨o, ho⟩ : ∃ o : Nat, t % 9 = o := ⟨(t % 9).toNat, by omega⟩
  have ho8 : o ≤ 8 := by omega
  have hot : t.tmod 9 = o := by rw [Int.tmod_eq_emod_of_nonneg ht0]; exact ho
  obtain ⟨k, hk⟩ : ∃ k : Nat, kq % 3 = k := ⟨(kq % 3).toNat, by omega⟩
  have hk2 : k ≤ 2 := by omega
  have hkt : kq.tmod 3 = k := by rw [Int.tmod_eq_emod_of_nonneg hq0]; exact hk
  obtain ⟨i0, hi0, hz0, hz1, hz2⟩ := info_parts info_int
  have HI := Lib.hid (And.intro hi0 (And.intro hz0 (And.intro hz1 hz2)))
  clear hi0 hz0 hz1 hz2
  by_cases hf : fr < 8 ∨ 1024 < fr
  · have hmd := fun W' => made_bad hf W'
    go_enter Try.func4, Try.ntmps4
    go_wp2_with fail
    go_quiet (fail)
    go_wp2_with (first | (go_at_call 8; refine (hmd _).mono ?_; rintro e w' ⟨rfl, rfl⟩))
    refine (awake_any _).mono ?_
    rintro e w1 ⟨rfl, hb1⟩
    go_wp2_with fail
    refine (awake_any _).mono ?_
    rintro e w2 ⟨rfl, hb2⟩
    go_wp2
    go_ret
    exact ⟨rfl, ((below_dN ((Below.refl w.heap.size w).alloc (Nat.le_refl _) _) _).trans (hb1.mono (by simp))).trans (hb2.mono (Nat.le_trans (by simp) hb1.size))⟩
  · obtain ⟨n, hn, h8, h150⟩ := smI_good hf
    have hmd := fun W' => made_any n hn h8 h150 W'
    have HA := Lib.hid hA
    clear hA hn hf
    go_enter Try.func4, Try.ntmps4
    go_wp2_with fail
    go_quiet (fail)
    go_wp2_with fail
    refine (hmd _).mono ?_
    intro e w1 h1
    obtain ⟨m, hmn, rfl, hg1, hb1⟩ := h1.going
    obtain ⟨B0, hBw, hg1, hb1⟩ : ∃ B0, w.heap.size ≤ B0 ∧ Going B0 m w1 w1 ∧ Below w.heap.size w w1 := ⟨_, by simp, hg1, (below_dN ((Below.refl w.heap.size w).alloc (Nat.le_refl _) _) _).trans (hb1.mono (by simp))⟩
    subst hmn
    clear h1 hmd
    go_wp2_with fail
    refine (awake_any _).mono ?_
    rintro e w2 ⟨rfl, hb2⟩
    have HG := Lib.hid (hg1.call hb2)
    have HB1 := Lib.hid hb1
    clear hg1 hb2 hb1
    go_wp2_with fail
    go_loopw [9] (fun i wr => ∃ j : Nat, j ≤ l0 ∧ i = .int .i64 j ∧ Going B0 m w1 wr) (fun i _ => l0 - (intOf i).toNat)
    case atStart => exact ⟨0, by omega, rfl, HG.out⟩
    case round =>
      obtain ⟨j, hj, rfl, hgo⟩ := hrel
      clear HG
      have hbw : Below w.heap.size w wr := HB1.out.trans (hgo.below.mono hBw)
      by_cases hboth : j < l0 ∧ j < 60
      · obtain ⟨hlt, hlim⟩ := hboth
        obtain ⟨ad, rfl, ac, ok, hat⟩ := acts_now HA.out hbw hlt
        obtain ⟨K, Fr, o, Of, N⟩ := ac
        have c0 := hat.c0
        have c1 := hat.c1
        have c2 := hat.c2
        have c3 := hat.c3
        have c4 := hat.c4
        clear hat
        go_wp2_with fail
        refine (hgo.do_ ok).mono ?_
        rintro e w' ⟨rfl, hgo'⟩
        clear hgo hbw c0 c1 c2 c3 c4
        go_wp2
        go_roundw
        case rel => exact ⟨j + 1, by omega, by go_num, hgo'⟩
        case measure => simp [intOf]; omega
      · obtain ⟨F, S, T, tv, hst, hhe, hsp⟩ := hgo
        have HST := Lib.hid hst
        have HH := Lib.hid hhe
        have HSP := Lib.hid hsp
        have HBW := Lib.hid hbw
        clear hst hhe hsp hbw HA
        by_cases hlt : j < l0
        case' pos => have hlim : 60 ≤ j := by omega
        all_goals
          clear hboth
          go_wp2_with fail
          clear HB1 HSP HH hlt hj
          try clear hlim
          have hle := frO_count F S
          obtain ⟨ct, hct⟩ : ∃ ct, ct = F.count true := ⟨_, rfl⟩
          obtain ⟨fo, hfo⟩ : ∃ fo, fo = frO F S 3 := ⟨_, rfl⟩
          have hcl : ct ≤ 1024 := by have := List.count_le_length (a := true) (l := F); have := HST.out.kin.len; have := HST.out.kin.hi; omega
          have hF : ∀ q, Calls Try.prog 13 #[.pointer (some ⟨m.x, 0, none⟩)] (wr.drewN q) fun e w' => e = .returned (.int .i64 ct) ∧ w' = wr.drewN q := fun q => by
            rw [hct]; exact (refFree_any (HST.out.drewN q).ref.ref).mono fun _ _ h => ⟨h.1, h.2.symm⟩
          have hO : ∀ q, Calls Try.prog 14 #[.pointer (some ⟨m.z, 0, none⟩), .int .i64 3] (wr.drewN q) fun e w' => e = .returned (.int .i64 fo) ∧ w' = wr.drewN q := fun q => by
            rw [hfo]; exact (refFreeOf_any (HST.out.drewN q).ref 3).mono fun _ _ h => ⟨h.1, h.2.symm⟩
          rw [← hct, ← hfo] at hle
          have HF := Lib.hid hF
          have HO := Lib.hid hO
          have HCT := Lib.hid hct
          have HFO := Lib.hid hfo
          obtain ⟨z, hz⟩ : ∃ z : Nat, z = ct - fo := ⟨_, rfl⟩
          have HZ := Lib.hid hz
          have iws : IntKind.i64.wrap ((ct : Int) - fo) = z := by rw [IntWalk.i64_in _ (by omega)]; omega
          have hcz := HST.out.c1
          have hzz := HST.out.ref.c0
          clear hF hO hct hfo hz hle
          go_quiet ((first | (go_at_call 13; exact Calls.quiet_of_same (HF.out _)) | (go_at_call 14; exact Calls.quiet_of_same (HO.out _))))
          have HS5 := Lib.hid (HST.out.drewN nq)
          have HB5 := Lib.hid (below_dN HBW.out nq)
          generalize wr.drewN nq = W at HS5 HB5 ⊢
          clear hcz hzz HST HBW HF HO iws
          obtain ⟨ls, hls⟩ : ∃ ls, ls = S.length := ⟨_, rfl⟩
          obtain ⟨ck, hck, hcs⟩ := HS5.out.ref.c1
          rw [← hls] at hck hcs
          have hcz := HS5.out.c1
          have hl128 : ls ≤ 128 := by have := HS5.out.kin.cnt; have := HS5.out.kin.hi; omega
          have hl1 : 0 < ls := by have := HS5.out.kin.cnt; have := HS5.out.kin.n8; omega
          have HLS := Lib.hid hls
          have HNW := Lib.hid (kcl_news HS5.out.ref)
          have HKL : Hid ((kcl S).length = ls * 1) := by show _ = _; rw [kcl_length, HLS.out, Nat.mul_one]
          obtain ⟨KS, hKS⟩ : ∃ KS, KS = kcl S := ⟨_, rfl⟩
          have HK1 := Lib.hid (kcl_one S)
          rw [← hKS] at HNW HKL HK1
          have HKS := Lib.hid hKS
          clear hls hKS
          obtain ⟨hi0, hz0, hz1, hz2⟩ := HI.out
          go_wp2_with (at_builtin; refine wpList_append_own _ rfl _ _ 40 rfl W.heap.size 3 i0 (.int .i64 0) 1 8 Try.underlying40 hi0 hz0 hz1 hz2 rfl (by decide) _ 0 [] rfl (World.ownsRow_nil _ _ _ _) ⟨m.h, 0, none⟩ ls ck KS rfl HKL.out HNW.out HK1.out (by unfold maxLen; omega) (by omega) (Nat.le_refl _) ?_; intro v' w2 hown2 hgr hn2; obtain ⟨A2, c2, hv2⟩ := own_formI hown2; rw [Nat.zero_add] at hv2; subst hv2; have hb2 : Below W.heap.size W w2 := ⟨hgr.os, hgr.tape, hgr.output, hgr.size, fun k hk => hgr.block k hk (by intro e; cases e)⟩; have hkc : w2.cell? ⟨m.s, 0, none⟩ = some (.pointer (some ⟨m.k, 0, none⟩)) := (HS5.out.call hb2).c0)
          obtain ⟨g, hA2, hgW, hrow⟩ : ∃ g, A2 = some ⟨g, 0, none⟩ ∧ W.heap.size ≤ g ∧ ∃ r, Lrow w2 g 3 (KS ++ r) := by
            rcases hown2.2 with ⟨_, h0⟩ | ⟨g, cap, cur, hv, hgb, hg, hcap, _, _, htk⟩
            · exact absurd h0 (by omega)
            · injection hv with hA _ hc
              refine ⟨g, hA, hgb, cur.toList.drop (0 + ls), ?_⟩
              rw [Nat.mul_one] at htk
              rw [List.nil_append] at htk
              rw [← htk, List.take_append_drop]
              unfold Lrow
              rw [hg]
          subst hA2
          obtain ⟨r, hrow⟩ := hrow
          have HR := Lib.hid hrow
          have HS6 := Lib.hid (HS5.out.call hb2)
          have HB6 := Lib.hid (HB5.out.trans (hb2.mono HB5.out.size))
          have hkin := HS5.out.kin.more (Y := fun b => b = m.h ∨ b = g) hb2 (fun b hb => by
            rcases hb with rfl | rfl
            · exact ⟨(HS6.out.ref.lt).2, Or.inl rfl⟩
            · exact ⟨hrow.lt, Or.inr hgW⟩)
          have HKN := Lib.hid hkin
          have hT := kTake_any hkin o k
          clear hown2 hgr hn2 hb2 hgW hrow hkin HS5 HB5 HNW HKL HK1 hck hcs hcz hi0 hz0 hz1 hz2
          rcases hP : ktP F S o k with _ | y
          · obtain ⟨e1, e2, e3, e4⟩ := ktk_none ho8 hk2 hP
            rw [e1, e2, e3, e4] at hT
            have HT := Lib.hid hT
            by_cases ho0 : o = 0
            · subst ho0
              have hz0 : z = 0 := by
                have := free_same (isolated_all hk2 HS6.out.kin.kin hP)
                have := HZ.out
                have := HCT.out
                have := HFO.out
                omega
              subst hz0
              clear hT e1 e2 e3 e4 hP
              go_wp2_with fail
              refine HT.out.mono ?_
              rintro e w6 ⟨rfl, ht, hx⟩
              have HBF := Lib.hid (HB6.out.trans (ht.below.mono hBw))
              clear ht hx
              go_wp2
              go_ret
              exact ⟨rfl, HBF.out⟩
            · have hop : (0 : Int) < o := by omega
              clear hT e1 e2 e3 e4 hP
              go_wp2_with fail
              refine HT.out.mono ?_
              rintro e w6 ⟨rfl, ht, hx⟩
              have HBF := Lib.hid (HB6.out.trans (ht.below.mono hBw))
              clear ht hx
              go_wp2
              go_ret
              exact ⟨rfl, HBF.out⟩
          · obtain ⟨e1, e2, e3, e4⟩ := ktk_some ho8 hk2 hP
            obtain ⟨_, _, _, hfre, hfit⟩ := ktP_fre hP
            have hno : Hid (∀ i, i < 2 ^ o → knd S (y.1 + i) ≠ 3) := fun i hi => isolated_not hk2 hP hi
            have hz0 : 0 < z := by
              have h1 := hno.out 0 (two_pos o)
              have := free_more (F := F) (S := S) (f := y.1) (hfre.2 _ (Nat.le_refl _) (by have := two_pos o; omega)) h1
              have := HZ.out
              have := HCT.out
              have := HFO.out
              omega
            have hzi : decide (0 < z) = true := by simpa using hz0
            have hzj : decide ((0 : Int) < z) = true := by simpa using hz0
            rw [HS6.out.kin.len] at hfit
            obtain ⟨f, hf⟩ : ∃ f, f = y.1 := ⟨_, rfl⟩
            rw [← hf] at e2 hno hfit
            rw [e1, e2] at hT
            have HT := Lib.hid hT
            obtain ⟨sz, hsz⟩ : ∃ sz, sz = 2 ^ o := ⟨_, rfl⟩
            rw [← hsz] at hno hfit
            have hmn := HS6.out.kin.hi
            have HSZ : Hid (∀ W', Calls Try.prog 16 #[.int .i64 o] W' fun e w' => e = .returned (.int .i64 sz) ∧ W' = w') := fun W' => by
              have := size_any ho8 W'
              rw [← hsz] at this
              exact this
            have hsl : ∀ p, p < m.n → p / 8 < ls := fun p hp => by rw [HLS.out]; exact HS6.out.kin.sec hp
            have HSL := Lib.hid hsl
            clear hT e1 e2 e3 e4 hP hfre hf hsz hz0 hsl
            go_wp2_with fail
            refine HT.out.mono ?_
            rintro e w6 ⟨rfl, ht, hx⟩
            have HBF := Lib.hid (HB6.out.trans (ht.below.mono hBw))
            have HR6 : Hid (Lrow w6 g 3 (KS ++ r)) := (ht.exc g (Or.inr rfl) HR.out.lt).trans HR.out
            clear ht hx hkc HS6 HB6 HKN HT HR
            go_wp2_with fail
            go_loopw [15] (fun i wr => ∃ j : Nat, j ≤ sz ∧ i = .int .i64 j ∧ wr = w6) (fun i _ => sz - (intOf i).toNat)
            case atStart => exact ⟨0, Nat.zero_le _, rfl, rfl⟩
            case round =>
              obtain ⟨j, hj, rfl, rfl⟩ := hrel
              go_wp2_with fail
              refine (HSZ.out _).mono ?_
              rintro e w7 ⟨rfl, rfl⟩
              by_cases hlt : j < sz
              · obtain ⟨p, hp⟩ : ∃ p, p = f + j := ⟨_, rfl⟩
                have hpn : p < m.n := by omega
                have hps := HSL.out p hpn
                have iwp : IntKind.i64.wrap ((f : Int) + j) = p := by rw [IntWalk.i64_in _ (by omega)]; omega
                obtain ⟨kv, hkv⟩ : ∃ kv, kv = knd S p := ⟨_, rfl⟩
                have hk3 : kv ≠ 3 := by rw [hkv, hp]; exact hno.out j hlt
                have hcv : wr.cell? ⟨g, p / 8, none⟩ = some (.int .i64 kv) := by
                  rw [HR6.out.cell, HKS.out, List.getElem?_append_left (by rw [kcl_length, ← HLS.out]; exact hps), kcl_get, getD_of S 0 _ (by rw [← HLS.out]; exact hps), hkv]; rfl
                have hkb : ((kv : Int) == 3) = false := by simp; omega
                have hk3' : ¬ (kv : Int) = 3 := by omega
                clear hp hkv hk3
                go_wp2
                go_roundw
                case rel => exact ⟨j + 1, by omega, by go_num, trivial⟩
                case measure => simp [intOf]; omega
              · have hle : (sz : Int) ≤ j := by omega
                go_wp2
                go_ret
                exact ⟨rfl, HBF.out⟩
end Go.Proofs.Ytfjphlickpgbnaa
