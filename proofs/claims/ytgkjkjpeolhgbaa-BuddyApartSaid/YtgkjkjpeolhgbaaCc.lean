/- The contracts of Take, Free and Greatest. -/
import Derived.Test.YtgkjkjpeolhgbaaCb
namespace Go.Proofs.Ytgkjkjpeolhgbaa
open Go.RowKit
section
variable {L : Nat → List Nat} {F : List Bool}
/-- Of the lists from order k on the first that is not empty has, at its front, the block that a taking takes. -/
theorem tkB_first (hG : Good F L) {k i x : Nat} {r : List Nat} (hk : k ≤ i) (hi : i ≤ 8) (he : ∀ j, k ≤ j → j < i → L j = []) (hx : L i = x :: r) : tkB F k = some (x, i) := by
  have hmx : Mx F x i := (hG.mem i hi x).1 (by rw [hx]; exact List.mem_cons_self)
  cases hb : tkB F k with
  | none =>
    have := tkB_none (by omega) hb x i hmx
    omega
  | some y =>
    obtain ⟨k', e, h1, h2, h3, h4⟩ := tkB_some hb
    obtain rfl : k = k' := by omega
    have hy : y.1 ∈ L y.2 := (hG.mem y.2 h3.1 y.1).2 h3
    have h5 := h4 x i hmx hk
    have h6 : y.2 = i := by
      rcases Nat.lt_or_ge y.2 i with g | g
      · rw [he y.2 h2 g] at hy; cases hy
      · omega
    have h7 : y.1 ≤ x := by omega
    rw [h6, hx] at hy
    have h8 : x ≤ y.1 := by
      rcases List.mem_cons.1 hy with g | g
      · omega
      · have hu := hG.rise i hi
        rw [hx] at hu
        have := (List.pairwise_cons.1 hu).1 _ g
        omega
    have e1 : y = (x, i) := Prod.ext (by simp; omega) (by simp; omega)
    rw [e1]
theorem tkB_empty (hG : Good F L) {k : Nat} (he : ∀ j, k ≤ j → j ≤ 8 → L j = []) : tkB F k = none := by
  cases hb : tkB F k with
  | none => rfl
  | some y =>
    obtain ⟨k', e, h1, h2, h3, h4⟩ := tkB_some hb
    obtain rfl : k = k' := by omega
    have hy : y.1 ∈ L y.2 := (hG.mem y.2 h3.1 y.1).2 h3
    rw [he y.2 h2 h3.1] at hy; cases hy
theorem orB_nat {k : Nat} (hk : k ≤ 8) : orB k = true := by simp [orB]; omega
end
section
variable {w : World} {B a n : Nat} {L : Nat → List Nat} {F : List Bool}
/-- A taking: what it answers, and the frames behind it. -/
def Took (B a n : Nat) (V E : Int) (G : List Bool) (w : World) (e : Ending) (w' : World) : Prop := e = .returned (.tuple #[.int .i64 V, .int .i64 E]) ∧ Turn B w w' ∧ ∃ L', BudAt B w' a n L' ∧ Good G L'
theorem take_nil (o : Int) (w : World) : Calls Try.prog 24 #[.pointer none, .int .i64 o] w fun e w' => e = .returned (.tuple #[.int .i64 0, .int .i64 1]) ∧ w = w' := by
  go_enter Try.func24, Try.ntmps24
  go_wp2
  go_step3
  go_wp2
  try rw [Exit.noGoto_ret]
  go_ret2
  exact ⟨rfl, rfl⟩
theorem take_any (h : BudAt B w a n L) (hG : Good F L) (hn : F.length ≤ 1024) (o : Int) :
    Calls Try.prog 24 #[.pointer (some ⟨a, 0, none⟩), .int .i64 o] w (Took B a n (tkV F o) (tkE F o) (tkL F o) w) := by
  rcases Bool.eq_false_or_eq_true (orB o) with ho | ho
  · have hO := isOrder_yes ho
    have h1 : 0 ≤ o ∧ o ≤ 8 := by simpa [orB] using ho
    obtain ⟨k, rfl⟩ : ∃ k : Nat, o = k := ⟨o.toNat, by omega⟩
    have hk : k ≤ 8 := by omega
    obtain ⟨p, c, hX⟩ := h
    have HX := Lib.hid hX
    have HG := Lib.hid hG
    have hlo : BudAt B w a n L := ⟨p, c, hX⟩
    have HA := Lib.hid hlo
    have HOR := Lib.hid ho
    clear hX hG h1 hlo ho
    go_enter Try.func24, Try.ntmps24
    go_wp2
    go_step3
    go_wp2_with (go_at_call 37; refine (hO _).mono ?_; rintro e w' ⟨rfl, rfl⟩)
    go_step3
    go_wp2
    go_loop [6] (fun s => ∃ i : Nat, k ≤ i ∧ i ≤ 9 ∧ s = .int .i64 i ∧ (∀ j, k ≤ j → j < i → L j = [])) (fun s => 9 - (intOf s).toNat)
    case atStart => exact ⟨k, Nat.le_refl _, by omega, rfl, fun j h1 h2 => by omega⟩
    case round =>
      obtain ⟨i, hi1, hi2, rfl, he⟩ := hrel
      have HE := Lib.hid he
      clear he
      by_cases hlt : i ≤ 8
      · have hc := HX.out.field hlt
        have i0 : (0 : Int) ≤ i := by omega
        have i9 : (i : Int) < 9 := by omega
        cases hl : L i with
        | nil =>
          rw [hl] at hc
          have HL := Lib.hid hl
          clear hl
          go_wp2
          go_round
          case rel => exact ⟨i + 1, by omega, by omega, by go_num, fun j h1 h2 => by
              rcases Nat.lt_or_ge j i with g | g
              · exact HE.out j h1 g
              · rw [show j = i by omega]; exact HL.out⟩
          case measure => simp [intOf]; omega
        | cons x r =>
          rw [hl] at hc
          have HT := Lib.hid (tkB_first HG.out hi1 hlt HE.out hl)
          have hxm : x ∈ L i := by rw [hl]; exact List.mem_cons_self
          obtain ⟨b, hp⟩ : ∃ b, p i = some b := by
            cases hp : p i with
            | none => rw [(HX.out.nil i hlt hp).1] at hl; cases hl
            | some b => exact ⟨b, rfl⟩
          obtain ⟨_, q, hr, _⟩ := HX.out.row i hlt b hp
          have hc2 : w.cell? ⟨b, 0, none⟩ = some (.int .i64 x) := by rw [hr.cell, hl]; rfl
          rw [hp] at hc
          have hP : Part F x k x i := part_first HG.out hi1 hlt hxm
          have HP := Lib.hid hP
          have HM := Lib.hid hxm
          have h0 : 0 < (x :: r).length := by simp
          generalize (x :: r).length = m at hc h0
          clear hl hp hr hxm hP
          simp only [slA, Option.map_some] at hc
          have HV : Hid (x = tkV F k ∧ 0 = tkE F k ∧ tkL F k = setR F x (2 ^ k) false) := by
            show _ ∧ _ ∧ _
            refine ⟨?_, ?_, ?_⟩
            · unfold tkV; rw [HT.out]
            · unfold tkE; rw [if_neg (by rw [HOR.out]; decide), HT.out]; rfl
            · unfold tkL; rw [HT.out, Int.toNat_natCast]
          go_wp2_with fail
          refine Calls.mono (carve_any HA.out HG.out hn HP.out HM.out) ?_
          rintro e w2 ⟨rfl, ht2, L2, hx2, hg2⟩
          have HX2 := Lib.hid hx2
          have HG2 := Lib.hid hg2
          have HT2 := Lib.hid ht2
          clear ht2 hx2 hg2
          go_wp2
          try rw [Exit.noGoto_ret]
          go_ret2
          exact ⟨ret2_int HV.out.1 HV.out.2.1, HT2.out, _, HX2.out, by rw [HV.out.2.2]; exact HG2.out⟩
      · have h9 : i = 9 := by omega
        have HT := Lib.hid (tkB_empty HG.out (fun j h1 h2 => HE.out j h1 (by omega)))
        have HV : Hid (0 = tkV F k ∧ 8 = tkE F k ∧ tkL F k = F) := by
          show _ ∧ _ ∧ _
          refine ⟨?_, ?_, ?_⟩
          · unfold tkV; rw [HT.out]
          · unfold tkE; rw [if_neg (by rw [HOR.out]; decide), HT.out]; rfl
          · unfold tkL; rw [HT.out]
        subst h9
        go_wp2
        try rw [Exit.noGoto_ret]
        go_ret2
        exact ⟨ret2_int HV.out.1 HV.out.2.1, Turn.refl B w, _, HA.out, by rw [HV.out.2.2]; exact HG.out⟩
  · have hO := isOrder_no ho
    have HE : Hid (2 = tkE F o) := by
      show _ = _
      unfold tkE; rw [if_pos ho]
    have HV : Hid (0 = tkV F o ∧ tkL F o = F) := by
      show _ ∧ _
      have : tkB F o = none := by unfold tkB; rw [if_neg (by simp [ho])]
      unfold tkV tkL; rw [this]; exact ⟨rfl, rfl⟩
    have HG := Lib.hid hG
    have HX := Lib.hid h
    clear ho hG h
    go_enter Try.func24, Try.ntmps24
    go_wp2
    go_step3
    go_wp2_with (go_at_call 37; refine (hO _).mono ?_; rintro e w' ⟨rfl, rfl⟩)
    try rw [Exit.noGoto_ret]
    go_ret2
    exact ⟨ret2_int HV.out.1 HE.out, Turn.refl B w, _, HX.out, by rw [HV.out.2]; exact HG.out⟩
end
end Go.Proofs.Ytgkjkjpeolhgbaa
