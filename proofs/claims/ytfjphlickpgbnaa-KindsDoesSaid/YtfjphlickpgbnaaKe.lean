/- The calls that go to the layer below, of a live one; Set. -/
import Derived.Test.YtfjphlickpgbnaaKd
namespace Go.Proofs.Ytfjphlickpgbnaa
variable {Xc : Nat → Prop}
open Go.RowKit

/-- What Set answers, and the sections' kinds behind it. -/
def stE (m : Nat) (s t : Int) : Int := if s < 0 ∨ (m : Int) ≤ s then 3 else if t < 0 ∨ 3 < t then 2 else 0
def stS (S : List Nat) (s t : Int) : List Nat := if stE S.length s t = 0 then S.set s.toNat t.toNat else S
theorem stS_length (S : List Nat) (s t : Int) : (stS S s t).length = S.length := by unfold stS; split <;> simp
theorem stE_ok {m : Nat} {s t : Int} (h : stE m s t = 0) : 0 ≤ s ∧ s < m ∧ 0 ≤ t ∧ t ≤ 3 := by
  unfold stE at h
  split at h
  · omega
  · split at h <;> omega
theorem stS_le {S : List Nat} (h : ∀ x ∈ S, x ≤ 3) (s t : Int) : ∀ x ∈ stS S s t, x ≤ 3 := by
  unfold stS
  split
  · rename_i he
    have := stE_ok he
    intro x hx
    rcases List.mem_or_eq_of_mem_set hx with g | g
    · exact h x g
    · omega
  · exact h
section
variable {w w' : World} {B k a g n : Nat} {F F' : List Bool} {S S' : List Nat}
theorem kTakeAt_any (h : KinX Xc B w k a g n F S) (f o : Int) (hl : -9223372036854775808 ≤ f) (hh : f ≤ 9223372036854775807) :
    Calls Try.prog 22 #[.pointer (some ⟨k, 0, none⟩), .int .i64 f, .int .i64 o] w (KChg Xc B k a g n (.int .i64 (chE F f o false)) (chL F f o false) S w) := by
  have hL := lower_any h
  obtain ⟨L, h1, h2⟩ := h.bud
  have hT := takeAt_any h1 h2 h.len h.hi f o hl hh
  have hl2 : (chL F f o false).length = n := by rw [chL_length]; exact h.len
  generalize chE F f o false = E at hT ⊢
  generalize chL F f o false = G at hT hl2 ⊢
  have HX := Lib.hid h
  have HT := Lib.hid hT
  clear h h1 h2 hT
  go_enter Try.func22, Try.ntmps22
  go_wp2_with (first | (go_at_call 39; refine hL.mono ?_; rintro e w' ⟨rfl, rfl⟩))
  refine Calls.mono HT.out ?_
  rintro e w1 ⟨rfl, ht, L', hb, hg⟩
  have HX2 := Lib.hid (HX.out.budTurn ht hb hg hl2)
  have HT2 := Lib.hid (ht.weak (Y := Xc) fun b hb => Or.inl hb)
  clear ht hb hg
  go_wp2
  go_ret
  exact ⟨rfl, HT2.out, HX2.out⟩
theorem kGive_any (h : KinX Xc B w k a g n F S) (f o : Int) (hl : -9223372036854775808 ≤ f) (hh : f ≤ 9223372036854775807) :
    Calls Try.prog 23 #[.pointer (some ⟨k, 0, none⟩), .int .i64 f, .int .i64 o] w (KChg Xc B k a g n (.int .i64 (chE F f o true)) (chL F f o true) S w) := by
  have hL := lower_any h
  obtain ⟨L, h1, h2⟩ := h.bud
  have hT := give_any h1 h2 h.len h.hi f o hl hh
  have hl2 : (chL F f o true).length = n := by rw [chL_length]; exact h.len
  generalize chE F f o true = E at hT ⊢
  generalize chL F f o true = G at hT hl2 ⊢
  have HX := Lib.hid h
  have HT := Lib.hid hT
  clear h h1 h2 hT
  go_enter Try.func23, Try.ntmps23
  go_wp2_with (first | (go_at_call 39; refine hL.mono ?_; rintro e w' ⟨rfl, rfl⟩))
  refine Calls.mono HT.out ?_
  rintro e w1 ⟨rfl, ht, L', hb, hg⟩
  have HX2 := Lib.hid (HX.out.budTurn ht hb hg hl2)
  have HT2 := Lib.hid (ht.weak (Y := Xc) fun b hb => Or.inl hb)
  clear ht hb hg
  go_wp2
  go_ret
  exact ⟨rfl, HT2.out, HX2.out⟩
theorem kFree_any (h : KinX Xc B w k a g n F S) : Calls Try.prog 21 #[.pointer (some ⟨k, 0, none⟩)] w fun e w' => e = .returned (.int .i64 (F.count true : Nat)) ∧ w = w' := by
  have hL := lower_any h
  obtain ⟨L, h1, h2⟩ := h.bud
  have hT := free_any h1 h2 (by rw [h.len]; exact h.hi)
  generalize ((F.count true : Nat) : Int) = E at hT ⊢
  clear h h1 h2
  go_enter Try.func21, Try.ntmps21
  go_wp2_with (first | (go_at_call 39; refine hL.mono ?_; rintro e w' ⟨rfl, rfl⟩) | (go_at_call 41; refine hT.mono ?_; rintro e w' ⟨rfl, rfl⟩))
  go_ret
  exact ⟨rfl, rfl⟩
theorem kBlocks_any (h : KinX Xc B w k a g n F S) : Calls Try.prog 19 #[.pointer (some ⟨k, 0, none⟩)] w (Lists (bk F) w) := by
  have hL := lower_any h
  obtain ⟨L, h1, h2⟩ := h.bud
  have hT := blocks_any h1 h2 (by rw [h.len]; exact h.hi)
  generalize bk F = M at hT ⊢
  have HT := Lib.hid hT
  clear h h1 h2 hT
  go_enter Try.func19, Try.ntmps19
  go_wp2_with (first | (go_at_call 39; refine hL.mono ?_; rintro e w' ⟨rfl, rfl⟩))
  refine Calls.mono HT.out ?_
  rintro e w1 ⟨A, c, rfl, hr, hb⟩
  have HR := Lib.hid hr
  have HB := Lib.hid hb
  clear hr hb
  go_wp2
  go_ret
  exact ⟨A, c, rfl, HR.out, HB.out⟩
theorem kHas_any (h : KinX Xc B w k a g n F S) (f : Int) (hl : -9223372036854775808 ≤ f) (hh : f ≤ 9223372036854775807) : Calls Try.prog 26 #[.pointer (some ⟨k, 0, none⟩), .int .i64 f] w fun e w' => e = .returned (.bool (hasB F f)) ∧ Below w.heap.size w w' := by
  have hL := lower_any h
  obtain ⟨L, h1, h2⟩ := h.bud
  have hT := has_frame h1 h2 (by rw [h.len]; exact h.hi) f hl hh
  generalize hasB F f = v at hT ⊢
  have HT := Lib.hid hT
  clear h h1 h2 hT
  go_enter Try.func26, Try.ntmps26
  go_wp2_with (first | (go_at_call 39; refine hL.mono ?_; rintro e w' ⟨rfl, rfl⟩))
  refine Calls.mono HT.out ?_
  rintro e w1 ⟨rfl, hb⟩
  have HB := Lib.hid hb
  clear hb
  go_wp2
  go_ret
  exact ⟨rfl, HB.out⟩
theorem kSet_any (h : KinX Xc B w k a g n F S) (s t : Int) : Calls Try.prog 24 #[.pointer (some ⟨k, 0, none⟩), .int .i64 s, .int .i64 t] w (KChg Xc B k a g n (.int .i64 (stE S.length s t)) F (stS S s t) w) := by
  have hc := h.c2
  have hm : S.length ≤ 128 := by have := h.cnt; have := h.hi; omega
  have HX := Lib.hid h
  by_cases h1 : s < 0
  · have HE : Hid (3 = stE S.length s t) := by show _ = _; unfold stE; rw [if_pos (Or.inl h1)]
    have HS : Hid (S = stS S s t) := by show _ = _; unfold stS; rw [if_neg (by rw [← HE.out]; decide)]
    generalize stE S.length s t = E at HE ⊢
    generalize stS S s t = S2 at HS ⊢
    clear h
    go_enter Try.func24, Try.ntmps24
    go_wp2
    go_ret
    exact ⟨ret_int HE.out, Turn.refl B w, by rw [← HS.out]; exact HX.out⟩
  · by_cases h2 : (S.length : Int) ≤ s
    · have HE : Hid (3 = stE S.length s t) := by show _ = _; unfold stE; rw [if_pos (Or.inr h2)]
      have HS : Hid (S = stS S s t) := by show _ = _; unfold stS; rw [if_neg (by rw [← HE.out]; decide)]
      generalize stE S.length s t = E at HE ⊢
      generalize stS S s t = S2 at HS ⊢
      clear h
      go_enter Try.func24, Try.ntmps24
      go_wp2
      go_ret
      exact ⟨ret_int HE.out, Turn.refl B w, by rw [← HS.out]; exact HX.out⟩
    · by_cases h3 : t < 0
      · have HE : Hid (2 = stE S.length s t) := by show _ = _; unfold stE; rw [if_neg (by omega), if_pos (Or.inl h3)]
        have HS : Hid (S = stS S s t) := by show _ = _; unfold stS; rw [if_neg (by rw [← HE.out]; decide)]
        generalize stE S.length s t = E at HE ⊢
        generalize stS S s t = S2 at HS ⊢
        clear h
        go_enter Try.func24, Try.ntmps24
        go_wp2
        go_ret
        exact ⟨ret_int HE.out, Turn.refl B w, by rw [← HS.out]; exact HX.out⟩
      · by_cases h4 : 3 < t
        · have HE : Hid (2 = stE S.length s t) := by show _ = _; unfold stE; rw [if_neg (by omega), if_pos (Or.inr h4)]
          have HS : Hid (S = stS S s t) := by show _ = _; unfold stS; rw [if_neg (by rw [← HE.out]; decide)]
          generalize stE S.length s t = E at HE ⊢
          generalize stS S s t = S2 at HS ⊢
          clear h
          go_enter Try.func24, Try.ntmps24
          go_wp2
          go_ret
          exact ⟨ret_int HE.out, Turn.refl B w, by rw [← HS.out]; exact HX.out⟩
        · have HE : Hid (0 = stE S.length s t) := by show _ = _; unfold stE; rw [if_neg (by omega), if_neg (by omega)]
          have HS : Hid (S.set s.toNat t.toNat = stS S s t) := by show _ = _; unfold stS; rw [if_pos HE.out.symm]
          have HL := Lib.hid (stS_length S s t)
          have HK := Lib.hid (stS_le h.kin s t)
          generalize stE S.length s t = E at HE ⊢
          generalize stS S s t = S2 at HS HL HK ⊢
          obtain ⟨s, rfl⟩ : ∃ x : Nat, s = x := ⟨s.toNat, by omega⟩
          obtain ⟨t, rfl⟩ : ∃ x : Nat, t = x := ⟨t.toNat, by omega⟩
          simp only [Int.toNat_natCast] at HS
          have hsl : s < S.length := by omega
          have hcs := h.at_ hsl
          have hz := h.row.frozen s
          have HR : Hid (Lrow (w.setCell ⟨g, s, none⟩ (.int .i64 t)) g 3 (kcl S2)) := by
            have := h.row.set_ s (.int .i64 t)
            rw [kcl_set, HS.out] at this
            exact this
          obtain ⟨m, em⟩ : ∃ m, m = S.length := ⟨_, rfl⟩
          rw [← em] at hc hm h2 hsl
          have HM := Lib.hid em
          clear h em h1 h3
          go_enter Try.func24, Try.ntmps24
          go_wp2
          go_ret
          exact ⟨ret_int HE.out, (Turn.refl B w).grown HX.out.row (Or.inl rfl) HX.out.lg HX.out.exg (grown_set _ _ _ _), HX.out.secTurn (grown_set _ _ _ _) HR.out HL.out HK.out⟩
end
end Go.Proofs.Ytfjphlickpgbnaa
