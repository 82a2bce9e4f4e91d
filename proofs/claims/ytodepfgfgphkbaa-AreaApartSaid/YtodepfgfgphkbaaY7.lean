/- Both behind some calls; AreaDoes, walked. -/
import Derived.Test.YtodepfgfgphkbaaY6
namespace Go.Proofs.Ytodepfgfgphkbaa
open Go.RowKit
theorem lsa_ok {w : World} {b : Nat} {A : Option Addr} {M : List Ac} (h : Lsa w b A M) : ∀ l ∈ M, IsAc l := fun l hl => by
  obtain ⟨i, hi, rfl⟩ := List.getElem_of_mem hl
  obtain ⟨a, _, hc⟩ := h (by omega)
  exact (hc i hi).1
theorem St.new {w w1 w2 : World} {s x : Nat} {v : Value} (h1 : AtX w.heap.size w1 s none 0 [] (fun _ => zP)) (h2 : Px w1.heap.size w2 x v (fun _ => zP)) (hb : Below w1.heap.size w1 w2) (hs : w.heap.size ≤ w1.heap.size) : St w.heap.size w2 s x (fun _ => zP) :=
  ⟨⟨_, _, _, h1.call hb⟩, v, ⟨h2.top, by obtain ⟨L, a, b, c⟩ := h2.own; exact ⟨L, a, b.base hs, c⟩, h2.ok, Nat.le_trans hs h2.lo, Nat.le_trans hs h2.lw⟩⟩
set_option maxHeartbeats 4000000 in
set_option maxRecDepth 100000 in
theorem made_any (A : Option Addr) (n c b : Nat) (M : List Ac) (w : World) (hM : M.length = n) (hA : Lsa w b A M) (hb : b ≤ w.heap.size) :
    Calls Try.prog 8 #[.slice A n c] w fun e w' => ∃ s x, e = .returned (.tuple #[.pointer (some ⟨s, 0, none⟩), .pointer (some ⟨x, 0, none⟩), .bool true]) ∧ St w.heap.size w' s x (mdE M) ∧ Below w.heap.size w w' := by
  have hnew := new_pr w
  have HA := Lib.hid hA
  have HB := Lib.hid hb
  have HM := Lib.hid hM
  clear hA hb hM
  go_enter Try.func8, Try.ntmps8
  go_wp2_with fail
  refine hnew.mono ?_
  rintro e w1 ⟨s, rfl, hx1, hb1⟩
  have HX1 := Lib.hid hx1
  have HB1 := Lib.hid hb1
  clear hnew hx1 hb1
  go_wp2_with fail
  refine (xnew_is w1).mono ?_
  rintro e w2 ⟨x, v, rfl, hx2, hb2⟩
  have HG : Hid (St w.heap.size w2 s x (mdP (M.take 0)) ∧ Below w.heap.size w w2) := ⟨St.new HX1.out hx2 hb2 HB1.out.size, HB1.out.trans (hb2.mono HB1.out.size)⟩
  clear hx2 hb2
  go_wp2_with fail
  go_loopw [7] (fun i wr => ∃ j : Nat, j ≤ n ∧ j ≤ 40 ∧ i = .int .i64 j ∧ St w.heap.size wr s x (mdP (M.take j)) ∧ Below w.heap.size w wr) (fun i _ => n - (RowKit.intOf i).toNat)
  case atStart => exact ⟨0, by omega, by omega, rfl, HG.out.1, HG.out.2⟩
  case round =>
    obtain ⟨j, hj, hj40, rfl, hst, hb⟩ := hrel
    have HST := Lib.hid hst
    have HBL := Lib.hid hb
    clear HG hst
    by_cases hboth : j < n ∧ j < 40
    · obtain ⟨hlt, hlim⟩ := hboth
      have hjM : j < M.length := by have := HM.out; omega
      obtain ⟨ad, rfl, hc⟩ := (HA.out.below (Below.mono hb HB.out)) (by omega)
      obtain ⟨ok, hab, hat⟩ := hc j hjM
      have hdo := do_any HST.out ok
      have HNX := Lib.hid (mdP_next M hjM)
      obtain ⟨l, hl⟩ : ∃ l, l = M[j] := ⟨_, rfl⟩
      rw [← hl] at hat hdo HNX
      have c0 := hat.c0
      have c1 := hat.c1
      have c2 := hat.c2
      have c3 := hat.c3
      have c4 := hat.c4
      have c5 := hat.c5
      have c6 := hat.c6
      rw [← HNX.out] at hdo
      have hjl : (j : Int) < n := by omega
      have hjm : (j : Int) < 40 := by omega
      have hj0 : (0 : Int) ≤ j := by omega
      clear hat hb hab ok hc hl HNX
      obtain ⟨K, A0, N0, G, Pt, O, T⟩ := l
      dsimp only at c0 c1 c2 c3 c4 c5 c6 hdo
      go_wp2_with fail
      refine hdo.mono ?_
      rintro e w3 ⟨rfl, hst3, hb3⟩
      have HS3 := Lib.hid hst3
      have HB3 := Lib.hid (HBL.out.trans hb3)
      clear hdo hst3 hb3
      go_wp2_with fail
      go_roundw
      case rel => exact ⟨j + 1, by omega, by omega, by go_num, HS3.out, HB3.out⟩
      case measure => simp [RowKit.intOf]; omega
    · have HE : Hid (mdP (M.take j) = mdE M) := by
        show _ = _
        unfold mdE
        rcases (show j = 40 ∨ (j = n ∧ n ≤ 40) by omega) with rfl | ⟨rfl, h⟩
        · rfl
        · rw [List.take_of_length_le (by have := HM.out; omega), List.take_of_length_le (by have := HM.out; omega)]
      by_cases hlt : j < n
      case' pos => have hlim : ¬ (j : Int) < 40 := by omega
      all_goals
        clear hboth hb
        go_wp2_with fail
        go_ret3
        exact ⟨s, x, rfl, by rw [← HE.out]; exact HST.out, HBL.out⟩
theorem same_yes {w : World} {A A' : Option Addr} {c c' n m : Nat} {L : List Ar} (hL : EAr.Ls w A L) (hM : EAr.Ls w A' L) (hn : L.length = n) (hm : L.length = m) (hl : L.length ≤ 5000) :
    Calls Try.prog 10 #[.slice A n c, .slice A' m c'] w fun e w' => e = .returned (.bool true) ∧ Below w.heap.size w w' := by
  subst hn hm
  have := sameA_any (c := c) (c' := c') hL hM hl hl
  rwa [show decide (L = L) = true from by simp] at this
/-- The program's All, by the pages. -/
theorem St.all {B : Nat} {w : World} {s x : Nat} {P : Int → Pg} (h : St B w s x P) : Calls Try.prog 11 #[.pointer (some ⟨s, 0, none⟩)] w (ToldL (allA P) w) := by
  obtain ⟨⟨A, c, l, h1⟩, _⟩ := h
  have := all_pr h1
  rw [h1.wh.all] at this; exact this
theorem all_len {P : Int → Pg} (ok : PsOk P) : (allA P).length ≤ 4096 := (pcs_is ok.ok 0 4096).len
set_option maxHeartbeats 2000000 in
set_option maxRecDepth 100000 in
theorem does_walk (A : Option Addr) (n c : Nat) (w : World) (hA : Acs w w.heap.size A n) :
    Calls Try.prog 3 #[.slice A n c] w fun e w' => e = .returned (.bool true) ∧ Below w.heap.size w w' := by
  obtain ⟨M, hM, hls⟩ := hA.list
  have hm := made_any A n c w.heap.size M w hM hls (Nat.le_refl _)
  obtain ⟨P, hP⟩ : ∃ P, P = mdE M := ⟨_, rfl⟩
  rw [← hP] at hm
  clear hA hM hls hP
  go_enter Try.func3, Try.ntmps3
  go_wp2_with fail
  refine hm.mono ?_
  rintro e w1 ⟨s, x, rfl, hst, hb⟩
  have HST := Lib.hid hst
  have HB1 := Lib.hid hb
  clear hm hst hb
  go_wp2_with fail
  refine (awake_any _).mono ?_
  rintro e w2 ⟨rfl, hb2⟩
  have HB2 : Hid (Below w.heap.size w w2) := HB1.out.trans (hb2.mono HB1.out.size)
  have HST2 := Lib.hid (HST.out.call hb2)
  have hal := HST2.out.all
  have HLN := Lib.hid (all_len HST2.out.ok)
  obtain ⟨L, hL⟩ : ∃ L, L = allA P := ⟨_, rfl⟩
  rw [← hL] at hal HLN
  have HL := Lib.hid hL
  clear hb2 hL
  go_wp2_with fail
  refine hal.mono ?_
  rintro e w3 ⟨A3, c3, rfl, ho3, hb3⟩
  have HB3 : Hid (Below w.heap.size w w3) := HB2.out.trans (hb3.mono HB2.out.size)
  have HST3 := Lib.hid (HST2.out.call hb3)
  have HO3 := Lib.hid ho3
  obtain ⟨v3, hr3⟩ := HST3.out.r
  have hxa := xall_is hr3
  rw [← HL.out] at hxa
  unfold ToldA at hxa
  obtain ⟨m, hm⟩ : ∃ m, m = L.length := ⟨_, rfl⟩
  rw [← hm] at hxa ⊢
  have HMM := Lib.hid hm
  clear hal ho3 hb3 hr3 hm
  go_wp2_with fail
  refine hxa.mono ?_
  rintro e w4 ⟨A4, c4, rfl, ho4, hb4⟩
  have HB4 : Hid (Below w.heap.size w w4) := HB3.out.trans (hb4.mono HB3.out.size)
  have hsm := same_yes (c := c3) (c' := c4) (n := m) (m := m) ((HO3.out.call hb4).ls) ((show EAr.Own w3.heap.size w4 (.slice A4 L.length c4) L by rw [← HMM.out]; exact ho4).ls) HMM.out.symm HMM.out.symm (by have := HLN.out; omega)
  clear hxa ho4 hb4
  go_wp2_with fail
  refine hsm.mono ?_
  rintro e w5 ⟨rfl, hb5⟩
  have HB5 : Hid (Below w.heap.size w w5) := HB4.out.trans (hb5.mono HB4.out.size)
  clear hsm hb5
  go_wp2_with fail
  go_ret
  exact ⟨rfl, HB5.out⟩
end Go.Proofs.Ytodepfgfgphkbaa
