/- Pools: PoolShrinks, walked. -/
import Derived.Test.YtllepijlebbjbaaPoL
import Derived.Test.YtllepijlebbjbaaPoM
namespace Go.Proofs.Ytllepijlebbjbaa
open Go.RowKit
/-- How many pages there are. -/
def totP (S : Pk) : Int := (S.I.count 1 : Nat) + (S.I.count 2 : Nat)
section
variable {S : Pk}
theorem tot_set {i : Nat} {x v P U : Int} (hx : S.I[i]? = some x) : totP ⟨S.o, S.m, S.I.set i v, P, U⟩ = totP S - (if x = 1 then 1 else 0) + (if v = 1 then 1 else 0) - (if x = 2 then 1 else 0) + (if v = 2 then 1 else 0) := by
  unfold totP
  show (((S.I.set i v).count 1 : Nat) : Int) + (((S.I.set i v).count 2 : Nat) : Int) = _
  rw [count_set hx, count_set hx]
  omega
theorem shS_is (h : POk S) (c : shE S = 0) : ∃ i : Nat, (frL S.I).getLastD 0 = i ∧ S.I[i]? = some 1 ∧ shS S = ⟨S.o, S.m, S.I.set i 0, S.P, S.U⟩ := by
  have c' := c
  unfold shE at c'
  split at c'
  · omega
  · rename_i c1
    have := h.p0
    obtain ⟨i, _, e, _, e1⟩ := frL_last (I := S.I) (by omega)
    exact ⟨i, e, e1, by unfold shS stP; rw [if_pos c, e, Int.toNat_natCast]⟩
theorem tot_do (h : POk S) (l : Ac) : totP (doS S l) ≤ totP S + 1 := by
  unfold doS
  split
  · unfold grS
    split
    · rename_i c
      obtain ⟨a, b, c1, d⟩ := maE_ok c
      unfold stP
      rw [tot_set d]; simp
    · omega
  · split
    · by_cases c : shE S = 0
      · obtain ⟨i, _, e1, e2⟩ := shS_is h c
        rw [e2, tot_set e1]; simp; omega
      · unfold shS; rw [if_neg c]; omega
    · split
      · unfold prS; split
        · show totP S ≤ _; omega
        · omega
      · split
        · unfold unS; split
          · show totP S ≤ _; omega
          · omega
        · split
          · unfold taS; split
            · rename_i c
              obtain ⟨c0, _, _⟩ := taE_ok h c
              obtain ⟨i, _, e, _, e1⟩ := frL_head c0
              rw [e, Int.toNat_natCast, tot_set e1]; simp; omega
            · omega
          · split
            · unfold exS; split
              · rename_i c
                have c' := c
                unfold exE at c'
                split at c'
                · omega
                · rename_i c2
                  obtain ⟨a, b, c1, d⟩ := maE_ok (Classical.not_not.1 c2)
                  rw [tot_set d]; simp
              · omega
            · unfold giS; split
              · rename_i c
                obtain ⟨a, a1, e1⟩ := giE_ok c
                split
                · rw [tot_set e1]; simp; omega
                · rw [tot_set e1]; simp; omega
              · omega
theorem tot_md : ∀ (M : List Ac) {S : Pk}, POk S → totP (mdS S M) ≤ totP S + M.length
  | [], _, _ => by unfold mdS; simp
  | l :: r, S, h => by
    have := tot_md r (h.do_ l)
    have := tot_do h l
    unfold mdS at *
    rw [List.foldl_cons, List.length_cons]
    omega
theorem tot_mdE (M : List Ac) : totP (mdE M) ≤ 60 := by
  have h := tot_md (M.take 60) (newP_ok nw32)
  have h1 : totP (newP 3 2) = 0 := by
    show (((List.replicate 1024 (0 : Int)).count 1 : Nat) : Int) + (((List.replicate 1024 (0 : Int)).count 2 : Nat) : Int) = 0
    rw [List.count_replicate, List.count_replicate]
    decide
  have h2 : (M.take 60).length ≤ 60 := by rw [List.length_take]; omega
  unfold mdE
  omega
end
set_option maxHeartbeats 4000000 in
set_option maxRecDepth 100000 in
theorem shrinks_walk (I : PoI) (A : Option Addr) (n c : Nat) (w : World) (hA : Acs w w.heap.size A n) :
    Calls Try.prog 6 #[.slice A n c] w fun e w' => e = .returned (.bool true) ∧ Below w.heap.size w w' := by
  obtain ⟨M, hM, hls⟩ := hA.list
  have hm := made_any I A n c w.heap.size M w hM hls (Nat.le_refl _)
  have hok := mdE_ok M
  have htt := tot_mdE M
  generalize mdE M = S at hm hok htt
  have HOK := Lib.hid (And.intro hok htt)
  clear hA hM hls hok htt
  go_enter Try.func6, Try.ntmps6
  go_wp2_with fail
  refine hm.mono ?_
  rintro e w1 ⟨s, x, rfl, hst, hb1⟩
  have HS1 := Lib.hid hst
  have HB1 := Lib.hid hb1
  have hak := awake_any I w1
  clear hm hst hb1
  go_wp2_with fail
  refine hak.mono ?_
  rintro e w2 ⟨rfl, hb2⟩
  have HB2 := Lib.hid (HB1.out.trans (hb2.mono HB1.out.size))
  obtain ⟨X, g, h1, -, -⟩ := HS1.out.call hb2
  have hc := I.promised h1 HOK.out.1
  have H1 := Lib.hid h1
  clear hak hb2 h1 HS1
  go_wp2_with fail
  refine hc.mono ?_
  rintro e w3 ⟨rfl, hb⟩
  have HB3 := Lib.hid (HB2.out.trans (hb.mono HB2.out.size))
  have h3 := I.call H1.out hb
  have hc := I.total h3 HOK.out.1
  have H3 := Lib.hid h3
  clear h3 hb
  obtain ⟨c1, hc1⟩ : ∃ c1, c1 = S.I.count 1 := ⟨_, rfl⟩
  obtain ⟨c2, hc2⟩ : ∃ c2, c2 = S.I.count 2 := ⟨_, rfl⟩
  have HC := Lib.hid (And.intro hc1 hc2)
  rw [← hc1, ← hc2] at hc
  have k1 : (c1 : Int) + (c2 : Int) ≤ 60 := by have := HOK.out.2; unfold totP at this; rw [hc1, hc2]; exact this
  clear hc1 hc2
  have hw1 : IntKind.i64.wrap ((c1 : Int) + (c2 : Int) - (c1 : Int)) = (c2 : Int) := by rw [show (c1 : Int) + (c2 : Int) - (c1 : Int) = (c2 : Int) by omega]; exact IntWalk.i64_in _ (by omega)
  go_wp2_with fail
  refine hc.mono ?_
  rintro e w4 ⟨rfl, hb⟩
  have HB4 := Lib.hid (HB3.out.trans (hb.mono HB3.out.size))
  have h4 := I.call H3.out hb
  have hc := I.free h4 HOK.out.1
  unfold ToldI at hc
  rw [frL_len HOK.out.1.ln, ← HC.out.1] at hc
  have H4 := Lib.hid h4
  clear h4 hb
  go_wp2_with fail
  refine hc.mono ?_
  rintro e w5 ⟨A5, c5, rfl, -, hb⟩
  have HB5 := Lib.hid (HB4.out.trans (hb.mono HB4.out.size))
  have H5 := Lib.hid (I.call H4.out hb)
  clear hb hc
  obtain ⟨P, hP⟩ : ∃ P, P = S.P := ⟨_, rfl⟩
  have HP := Lib.hid hP
  rw [← hP]
  clear hP
  go_wp2_with fail
  go_loopw [7] (fun i wr => ∃ (j : Nat) (S' : Pk) (X' : Nat → Prop), i = .int .i64 j ∧ POk S' ∧ S'.P = P ∧ S'.I.count 2 = c2 ∧ S'.I.count 1 + j = c1 ∧ I.Ob w.heap.size wr s X' S' ∧ Below w.heap.size w wr) (fun i _ => 200 - (RowKit.intOf i).toNat)
  case atStart => exact ⟨0, S, X, rfl, HOK.out.1, HP.out.symm, HC.out.2.symm, HC.out.1.symm, H5.out, HB5.out⟩
  case round =>
    clear HP HC H5 HB5 HOK
    obtain ⟨j, S', X', rfl, ok, hp, hq, hr, ho, hb⟩ := hrel
    have HK := Lib.hid (And.intro ok (And.intro hp (And.intro hq (And.intro hr (And.intro ho hb)))))
    have hsh := I.shrink ho ok
    have j2 : (j : Int) < 200 := by omega
    have j0 : (0 : Int) ≤ j := by omega
    have hw2 : IntKind.i64.wrap ((j : Int) + 1) = (j : Int) + 1 := IntWalk.i64_in _ (by omega)
    clear ok hp hq hr ho hb
    by_cases hcz : shE S' = 0
    · rw [hcz] at hsh
      obtain ⟨i, _, e1, e2⟩ := shS_is HK.out.1 hcz
      have HE := Lib.hid (And.intro e1 e2)
      generalize shV S' = V at hsh
      clear e1 e2
      go_wp2_with fail
      refine hsh.mono ?_
      rintro e w6 ⟨rfl, hd⟩
      have HB6 := Lib.hid (HK.out.2.2.2.2.2.trans (I.down HK.out.2.2.2.2.1 hd))
      obtain ⟨X6, h6, -, -⟩ := hd
      have H6 := Lib.hid h6
      clear hsh h6
      go_wp2_with fail
      go_roundw
      case rel =>
        refine ⟨j + 1, shS S', X6, by go_num, HK.out.1.shrink, ?_, ?_, ?_, H6.out, HB6.out⟩
        · rw [HE.out.2]; exact HK.out.2.1
        · rw [HE.out.2]
          have := count_set HE.out.1 0 2
          simp at this
          have h2 := HK.out.2.2.1
          show (S'.I.set i 0).count 2 = c2
          omega
        · rw [HE.out.2]
          have := count_set HE.out.1 0 1
          simp at this
          have h2 := HK.out.2.2.2.1
          show (S'.I.set i 0).count 1 + (j + 1) = c1
          omega
      case measure => simp [RowKit.intOf]; omega
    · have hc12 : shE S' = 12 := by unfold shE at hcz ⊢; split at hcz <;> simp_all
      have hst : shS S' = S' := by unfold shS; rw [if_neg hcz]
      have hcp : (S'.I.count 1 : Int) = P := by
        have h1 := HK.out.1.p1
        unfold shE at hcz
        split at hcz
        · rename_i h2
          rw [frL_len HK.out.1.ln] at h2
          have := HK.out.2.1
          omega
        · exact absurd rfl hcz
      rw [hc12, hst] at hsh
      generalize shV S' = V at hsh
      have HCP := Lib.hid hcp
      clear hcz hc12 hst hcp
      go_wp2_with fail
      refine hsh.mono ?_
      rintro e w6 ⟨rfl, hd⟩
      have HB6 := Lib.hid (HK.out.2.2.2.2.2.trans (I.down HK.out.2.2.2.2.1 hd))
      obtain ⟨X6, h6, -, -⟩ := hd
      have hc := I.free h6 HK.out.1
      unfold ToldI at hc
      rw [frL_len HK.out.1.ln] at hc
      have H6 := Lib.hid h6
      obtain ⟨d1, hd1⟩ : ∃ d1, d1 = S'.I.count 1 := ⟨_, rfl⟩
      rw [← hd1] at hc HCP
      have hdp : (d1 : Int) = P := HCP.out
      subst hdp
      have HD1 := Lib.hid hd1
      clear hsh h6 hd1
      go_wp2_with fail
      refine hc.mono ?_
      rintro e w7 ⟨A7, c7, rfl, -, hb⟩
      have HB7 := Lib.hid (HB6.out.trans (hb.mono HB6.out.size))
      have h7 := I.call H6.out hb
      have hc := I.total h7 HK.out.1
      rw [← HD1.out, HK.out.2.2.1] at hc
      have hw3 : IntKind.i64.wrap ((d1 : Int) + (c2 : Int)) = (d1 : Int) + (c2 : Int) := IntWalk.i64_in _ (by have := HK.out.2.2.2.1; have := HD1.out; omega)
      clear hb h7
      go_wp2_with fail
      refine hc.mono ?_
      rintro e w8 ⟨rfl, hb⟩
      have HB8 := Lib.hid (HB7.out.trans (hb.mono HB7.out.size))
      clear hc hb
      go_wp2_with fail
      go_ret
      exact ⟨ret_bool (by simp), HB8.out⟩
end Go.Proofs.Ytllepijlebbjbaa
