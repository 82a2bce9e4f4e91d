/- The reference of stretches: Del. -/
import Derived.Test.YtekfkglielmfaaaTrC
namespace Go.Proofs.Ytekfkglielmfaaa
open Go.RowKit
def kpS (a b : Nat) (x : Nat × Nat) : Bool := !decide ((x.1 : Int) = a ∧ (x.2 : Int) = b)
theorem kpS_all {a b : Nat} {L : List (Nat × Nat)} : (L.filter (kpS a b)).length = L.length ↔ hsS L a b = false := by
  rw [List.length_filter_eq_length_iff]
  unfold hsS kpS
  rw [List.any_eq_false]
  refine forall_congr' fun x => forall_congr' fun _ => ?_
  cases decide ((x.1 : Int) = a ∧ (x.2 : Int) = b) <;> simp
theorem kpS_same {a b : Nat} {L : List (Nat × Nat)} (h : (L.filter (kpS a b)).length = L.length) : L.filter (kpS a b) = L :=
  List.filter_eq_self.2 (List.length_filter_eq_length_iff.1 h)
section
variable {w w' : World} {B x : Nat} {v v' : Value} {L L' : List (Nat × Nat)} {f t : Int}
theorem rdel_no (h : RtT B w x v L) (hw : wrS f t ≠ 0) : Calls Try.prog 43 #[.pointer (some ⟨x, 0, none⟩), .int .i64 f, .int .i64 t] w fun e w' => e = .returned (.int .i64 3) ∧ DidT B x v L w w' := by
  have hW := wrong_r f t w
  rw [wrS_no hw] at hW
  have HD : Hid (DidT B x v L w w) := DidT.same h (Below.refl _ _)
  clear h hw
  go_enter Try.func43, Try.ntmps43
  go_wp2_with (go_at_call 48; (with_reducible refine hW.mono ?_); rintro e w1 ⟨rfl, rfl⟩)
  go_ret
  exact ⟨rfl, HD.out⟩
set_option maxHeartbeats 4000000 in
set_option maxRecDepth 100000 in
theorem rdel_yes (h : RtT B w x v L) (hl : L.length ≤ 1000) {a b : Nat} (hw : wrS a b = 0) : Calls Try.prog 43 #[.pointer (some ⟨x, 0, none⟩), .int .i64 a, .int .i64 b] w fun e w' => e = .returned (.int .i64 (dlE L a b)) ∧ DidT B x v (dlS L a b) w w' := by
  obtain ⟨A, c, hv⟩ := h.2.1.form
  subst hv
  have hW := wrong_r a b w
  rw [hw] at hW
  have hS : dlS L a b = L.filter (kpS a b) := by unfold dlS; rw [if_neg (by rw [hw]; simp)]; rfl
  have hE1 : (L.filter (kpS a b)).length = L.length → dlE L a b = 6 := fun e => by unfold dlE; rw [if_neg (by rw [hw]; simp), if_neg (by rw [kpS_all.1 e]; simp)]
  have hE0 : (L.filter (kpS a b)).length ≠ L.length → dlE L a b = 0 := fun e => by
    unfold dlE; rw [if_neg (by rw [hw]; simp), if_pos]
    cases hh : hsS L a b with
    | true => rfl
    | false => exact absurd (kpS_all.2 hh) e
  obtain ⟨n, hn⟩ : ∃ n, n = L.length := ⟨_, rfl⟩
  rw [← hn] at h hE1 hE0 ⊢
  obtain ⟨E, hE⟩ : ∃ E, E = dlE L a b := ⟨_, rfl⟩
  rw [← hE] at hE1 hE0 ⊢
  rw [hS]
  have HX := Lib.hid (And.intro h (And.intro hn (And.intro hE1 hE0)))
  have c0 : w.cell? ⟨x, 0, none⟩ = some (.slice A n c) := h.1.cell 0
  have hD : w.heap.size ≤ w.heap.size := Nat.le_refl _
  rw [← hn] at hl
  clear h hE1 hE0 hS hn hw hE
  go_enter Try.func43, Try.ntmps43
  go_wp2_with (go_at_call 48; (with_reducible refine hW.mono ?_); rintro e w1 ⟨rfl, rfl⟩)
  clear c0 hW
  go_loopw [8, 9] (fun ov i wr => ∃ (j lo co : Nat) (Ao : Option Addr), j ≤ n ∧ i = .int .i64 j ∧ ov = .slice Ao lo co ∧ lo = ((L.take j).filter (kpS a b)).length ∧ ETr.Own w.heap.size wr (.slice Ao lo co) ((L.take j).filter (kpS a b)) ∧ Below w.heap.size w wr) (fun _ i _ => n - (RowKit.intOf i).toNat)
  case atStart => exact ⟨0, 0, 0, none, Nat.zero_le _, rfl, rfl, rfl, Enc.Own.nil _ _, Below.refl _ _⟩
  case round =>
    obtain ⟨j, lo, co, Ao, hj, rfl, rfl, hlo, hown, hb⟩ := hrel
    have hrt := HX.out.1.call hb
    have c0 : wr.cell? ⟨x, 0, none⟩ = some (.slice A n c) := hrt.1.cell 0
    have htk : ((L.take j).filter (kpS a b)).length ≤ n := by
      have h1 := List.length_filter_le (kpS a b) (L.take j)
      rw [List.length_take] at h1
      have := HX.out.2.1
      omega
    by_cases hlt : j < n
    · have hjL : j < L.length := by have := HX.out.2.1; omega
      obtain ⟨g, rfl, -, hg, d0, d1⟩ := hrt.at_ hjL
      have htk1 := take_one L hjL
      obtain ⟨y, hy⟩ : ∃ y, y = L[j] := ⟨_, rfl⟩
      rw [← hy] at d0 d1 htk1
      obtain ⟨y0, y1⟩ := y
      dsimp only at d0 d1
      have j1 : (j : Int) < n := by omega
      have j0 : (0 : Int) ≤ j := by omega
      have hw3 : IntKind.i64.wrap ((j : Int) + 1) = (j : Int) + 1 := IntWalk.i64_in _ (by omega)
      have HJ := Lib.hid hlt
      by_cases hk : kpS a b (y0, y1) = true
      · have hf1 : (L.take (j + 1)).filter (kpS a b) = (L.take j).filter (kpS a b) ++ [(y0, y1)] := by rw [htk1, List.filter_append]; simp [hk]
        obtain ⟨A3, c3, w3, r3, o3, b3, k3⟩ := app_step hb hb.size hown (by omega) (y0, y1)
        rw [← hlo] at r3 o3
        rw [← hf1] at o3
        have HN := Lib.hid (And.intro o3 (And.intro b3 (show lo + 1 = ((L.take (j + 1)).filter (kpS a b)).length by rw [hf1, List.length_append, ← hlo]; rfl)))
        have hgd : (¬ (y0 : Int) = a) ∨ (a = y0 ∧ ¬ (y1 : Int) = b) := by
          by_cases e0 : (y0 : Int) = a
          · refine Or.inr ⟨by omega, fun e1 => ?_⟩
            unfold kpS at hk
            simp only [Bool.not_eq_true', decide_eq_false_iff_not] at hk
            exact hk ⟨e0, e1⟩
          · exact Or.inl e0
        clear htk1 hy hjL hrt hb hown hlo hj hlt htk o3 b3 k3 hk hf1
        rcases hgd with g1 | ⟨rfl, g2⟩
        all_goals
          go_wp2_with (at_builtin; refine wpList_append_run rfl _ _ 32 rfl (.slice Ao lo co) (.slice (some ⟨wr.heap.size, 0, none⟩) 1 1) rfl rfl r3 ?_)
          go_roundw
          case rel => exact ⟨j + 1, _, _, _, HJ.out, by go_num, rfl, HN.out.2.2, HN.out.1, HN.out.2.1⟩
          case measure => simp [RowKit.intOf]; have := HJ.out; omega
      · have hf1 : (L.take (j + 1)).filter (kpS a b) = (L.take j).filter (kpS a b) := by rw [htk1, List.filter_append]; simp [hk]
        have HN := Lib.hid (And.intro hown (And.intro hb (show lo = ((L.take (j + 1)).filter (kpS a b)).length by rw [hf1, ← hlo])))
        rw [← hf1] at HN
        have hgd : (y0 : Int) = a ∧ (y1 : Int) = b := by
          unfold kpS at hk
          simpa using hk
        obtain ⟨g1, g2⟩ := hgd
        clear htk1 hy hjL hrt hb hown hlo hj hlt htk hk hf1
        go_wp2_with fail
        go_roundw
        case rel => exact ⟨j + 1, _, _, _, HJ.out, by go_num, rfl, HN.out.2.2, HN.out.1, HN.out.2.1⟩
        case measure => simp [RowKit.intOf]; have := HJ.out; omega
    · obtain rfl : j = n := by omega
      have hall : L.take j = L := List.take_of_length_le (by have := HX.out.2.1; omega)
      rw [hall] at hown hlo htk
      have y0 := hrt.1.frozen 0
      have j1 : ¬ (j : Int) < j := by omega
      by_cases hsm : lo = j
      · have hsi : (lo : Int) = j := by omega
        have HS := Lib.hid (And.intro (HX.out.2.2.1 (by omega)) (kpS_same (a := a) (b := b) (L := L) (by have := HX.out.2.1; omega)))
        have HD : Hid (DidT B x (.slice A j c) L w wr) := DidT.same HX.out.1 hb
        clear hrt hb hown hlo hj htk hall hsm
        go_wp2_with fail
        go_ret
        exact ⟨ret_int (by rw [HS.out.1]), by rw [HS.out.2]; exact HD.out⟩
      · have hsi : ¬ (lo : Int) = j := by omega
        have HS := Lib.hid (HX.out.2.2.2 (by omega))
        have HD := Lib.hid (HX.out.1.laid hb hown)
        clear hrt hb hown hlo hj htk hall hsm
        go_wp2_with fail
        go_ret
        exact ⟨ret_int (by rw [HS.out]), HD.out⟩
theorem rdel (h : RtT B w x v L) (hl : L.length ≤ 1000) (f t : Int) : Calls Try.prog 43 #[.pointer (some ⟨x, 0, none⟩), .int .i64 f, .int .i64 t] w fun e w' => e = .returned (.int .i64 (dlE L f t)) ∧ DidT B x v (dlS L f t) w w' := by
  by_cases hw : wrS f t = 0
  · obtain ⟨a, b, rfl, rfl, -, -, -⟩ := wrS_ok hw
    exact rdel_yes h hl hw
  · have he : dlE L f t = 3 := by unfold dlE; rw [if_pos hw]
    have hs : dlS L f t = L := by unfold dlS; rw [if_pos hw]
    rw [he, hs]
    exact rdel_no h hw
end
end Go.Proofs.Ytekfkglielmfaaa
