/- The reference's Move, whole. -/
import Derived.Test.YtodepfgfgphkbaaW1
namespace Go.Proofs.Ytodepfgfgphkbaa
open Go.RowKit
section
variable {w w' : World} {B D xa xb : Nat} {v vb : Value} {P Q : Int → Pg}
set_option maxRecDepth 100000 in
set_option maxHeartbeats 1000000 in
theorem move_is (h : Px B w xa v P) {a n t : Int} (ha : Fits a) (hn : Fits n) (ht : Fits t) : Calls Try.prog 41 #[.pointer (some ⟨xa, 0, none⟩), .int .i64 a, .int .i64 n, .int .i64 t] w (ToldP B w xa P (mvP P a n t) (mvE P a n t) (pcs P a n.toNat)) := by
  obtain ⟨er, her⟩ : ∃ er, er = rtI a n 0 := ⟨_, rfl⟩
  obtain ⟨es, hes⟩ : ∃ es, es = rtI t n 0 := ⟨_, rfl⟩
  have hri := fun w => right_is ha hn w
  have hri2 := fun w => right_is ht hn w
  by_cases h0 : er = 0
  · have hr : rtI a n 0 = 0 := her.symm.trans h0
    rw [hr] at hri
    by_cases h02 : es = 0
    · have hr2 : rtI t n 0 = 0 := hes.symm.trans h02
      rw [hr2] at hri2
      obtain ⟨h1, h2, h3⟩ := rt_in hr
      obtain ⟨h4, _, h6⟩ := rt_in hr2
      obtain ⟨a, rfl⟩ : ∃ k : Nat, a = k := ⟨a.toNat, by omega⟩
      obtain ⟨n, rfl⟩ : ∃ k : Nat, n = k := ⟨n.toNat, by omega⟩
      obtain ⟨t, rfl⟩ : ∃ k : Nat, t = k := ⟨t.toNat, by omega⟩
      have hE0 : mvE P a n t = if (t : Int) < a + n ∧ (a : Int) < t + n then 2 else if covB P a n = false then 6 else if hugeB P a n = true then 2 else if usedB P t n = true then 7 else if fullB (mvP P a n t) = true then 13 else 0 := by
        unfold mvE; rw [if_neg (by rw [hr]; decide), if_neg (by rw [hr2]; decide)]; rfl
      rw [show ((n : Int)).toNat = n from Int.toNat_natCast n, hE0]
      clear hE0
      have hcv := covers_is h (a := a) (n := n) hr (by omega)
      by_cases ho : (t : Int) < a + n ∧ (a : Int) < t + n
      · rw [if_pos ho]
        have HN := Lib.hid (fun w' hb => ToldP.no (w := w) (w' := w') (er := 2) (by decide) (l := pcs P a n) (Q := mvP P a n t) h hb)
        obtain ⟨o1, o2⟩ := ho
        have d1 : decide ((t : Int) < (a : Int) + n) = true := decide_eq_true o1
        have d2 : decide ((a : Int) < (t : Int) + n) = true := decide_eq_true o2
        have n4 : (n : Int) ≤ 4096 := by omega
        have a4 : (a : Int) ≤ 4096 := by omega
        have t4 : (t : Int) ≤ 4096 := by omega
        clear h ha hn ht her hes hr hr2 h0 h02 h1 h2 h3 h4 h6 hcv
        go_enter Try.func41, Try.ntmps41
        go_wp2_with (go_at_call 54; first | ((with_reducible refine (hri _).mono ?_); rintro e w1 ⟨rfl, rfl⟩) | ((with_reducible refine (hri2 _).mono ?_); rintro e w1 ⟨rfl, rfl⟩))
        go_ret2
        exact HN.out _ (Below.refl _ _)
      · rw [if_neg ho]
        by_cases hc : covB P a n = true
        · rw [if_neg (by rw [hc]; decide)]
          by_cases hd : (a : Int) + n ≤ t
          · exact move_up h hr hr2 (by omega) hc
          · exact move_down h hr hr2 (by omega) hc
        · rw [if_pos (by simpa using hc)]
          rw [show covB P a n = false by simpa using hc] at hcv
          have HN := Lib.hid (fun w' hb => ToldP.no (w := w) (w' := w') (er := 6) (by decide) (l := pcs P a n) (Q := mvP P a n t) h hb)
          have n4 : (n : Int) ≤ 4096 := by omega
          have a4 : (a : Int) ≤ 4096 := by omega
          have t4 : (t : Int) ≤ 4096 := by omega
          by_cases o1 : (t : Int) < (a : Int) + n
          · have o2 : ¬ (a : Int) < (t : Int) + n := fun e => ho ⟨o1, e⟩
            have d1 : decide ((t : Int) < (a : Int) + n) = true := decide_eq_true o1
            have d2 : decide ((a : Int) < (t : Int) + n) = false := decide_eq_false o2
            clear h ha hn ht her hes hr hr2 h0 h02 h1 h2 h3 h4 h6 ho hc
            go_enter Try.func41, Try.ntmps41
            go_wp2_with (first | (go_at_call 54; first | ((with_reducible refine (hri _).mono ?_); rintro e w1 ⟨rfl, rfl⟩) | ((with_reducible refine (hri2 _).mono ?_); rintro e w1 ⟨rfl, rfl⟩)) | (go_at_call 56; (with_reducible refine hcv.mono ?_); rintro e w1 ⟨rfl, rfl⟩))
            go_ret2
            exact HN.out _ (Below.refl _ _)
          · have d1 : decide ((t : Int) < (a : Int) + n) = false := decide_eq_false o1
            clear h ha hn ht her hes hr hr2 h0 h02 h1 h2 h3 h4 h6 ho hc
            go_enter Try.func41, Try.ntmps41
            go_wp2_with (first | (go_at_call 54; first | ((with_reducible refine (hri _).mono ?_); rintro e w1 ⟨rfl, rfl⟩) | ((with_reducible refine (hri2 _).mono ?_); rintro e w1 ⟨rfl, rfl⟩)) | (go_at_call 56; (with_reducible refine hcv.mono ?_); rintro e w1 ⟨rfl, rfl⟩))
            go_ret2
            exact HN.out _ (Below.refl _ _)
    · have hE : mvE P a n t = es := by unfold mvE; rw [if_neg (by rw [hr]; decide), ← hes, if_pos h02]
      rw [hE]
      rw [← hes] at hri2
      have h0' : (es != 0) = true := by simpa using h02
      have HN := Lib.hid (fun w' hb => ToldP.no (w := w) (w' := w') (er := es) h02 (l := pcs P a n.toNat) (Q := mvP P a n t) h hb)
      clear h ha hn ht her hes hE hr h0
      go_enter Try.func41, Try.ntmps41
      go_wp2_with (go_at_call 54; first | ((with_reducible refine (hri _).mono ?_); rintro e w1 ⟨rfl, rfl⟩) | ((with_reducible refine (hri2 _).mono ?_); rintro e w1 ⟨rfl, rfl⟩))
      go_ret2
      exact HN.out _ (Below.refl _ _)
  · have hE : mvE P a n t = er := by unfold mvE; rw [← her, if_pos h0]
    rw [hE]
    rw [← her] at hri
    have h0' : (er != 0) = true := by simpa using h0
    have h0e : (er == 0) = false := by simpa using h0
    have HN := Lib.hid (fun w' hb => ToldP.no (w := w) (w' := w') (er := er) h0 (l := pcs P a n.toNat) (Q := mvP P a n t) h hb)
    clear h ha hn ht her hes hE hri2
    go_enter Try.func41, Try.ntmps41
    go_wp2_with (go_at_call 54; (with_reducible refine (hri _).mono ?_); rintro e w1 ⟨rfl, rfl⟩)
    go_ret2
    exact HN.out _ (Below.refl _ _)
end
end Go.Proofs.Ytodepfgfgphkbaa
