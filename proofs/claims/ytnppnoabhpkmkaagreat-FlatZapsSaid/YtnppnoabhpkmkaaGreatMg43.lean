/- Spaces: do both say the same? -/
import Derived.Test.YtnppnoabhpkmkaaGreatMg42
namespace Go.Proofs.YtnppnoabhpkmkaaGreat
open Go.RowKit
theorem arsF_len {F : Fl} (h : FlOk F) (i : Int) : (arsF F i).length ≤ 5000 := by
  unfold arsF
  split
  · have := (pcs_is (h.sp i).ps.ok 0 4096).len
    show (pcs _ _ _).length ≤ _; omega
  · simp
theorem sameF_yes {w : World} {A A' : Option Addr} {c c' n m : Nat} {L : List Ar} (hL : EAr.Ls w A L) (hM : EAr.Ls w A' L) (hn : L.length = n) (hm : L.length = m) (hl : L.length ≤ 5000) :
    Calls Tryz.prog 26 #[.slice A n c, .slice A' m c'] w fun e w' => e = .returned (.bool true) ∧ Below w.heap.size w w' := by
  subst hn hm
  have := sameA_any (c := c) (c' := c') hL hM hl hl
  rwa [show decide (L = L) = true from by simp] at this
theorem fits_wrap64 (x : Int) : Fits (RowKit.wrap64 x) := by unfold Fits RowKit.wrap64; omega
theorem fits_wrapI (x : Int) : Fits (IntKind.i64.wrap x) := fits_wf (wf_wrap .i64 x)
set_option maxHeartbeats 4000000 in
set_option maxRecDepth 100000 in
theorem alike_any {I : FlI} {B : Nat} {w : World} {s x : Nat} {F : Fl} {m : Nat} (hst : St I B w s x F F) (hF : FlB m F) (hm : m ≤ 200) (i : Int) (hi : Fits i) (A : Option Addr) (n c b : Nat) (M : List Rq) (hM : M.length = n) (hA : Lsa w b A M) (hb : b ≤ w.heap.size) :
    Calls Tryz.prog 12 #[.pointer (some ⟨s, 0, none⟩), .pointer (some ⟨x, 0, none⟩), .int .i64 i, .slice A n c] w fun e w' => e = .returned (.bool true) ∧ Below w.heap.size w w' := by
  obtain ⟨X, T, rfl, h1, h2, -⟩ := hst
  have har := I.areas h1 hF.ok i hi
  obtain ⟨L, hL⟩ : ∃ L, L = arsF F i := ⟨_, rfl⟩
  rw [← hL] at har
  have HLL : Hid (L.length ≤ 5000) := by show _ ≤ _; rw [hL]; exact arsF_len hF.ok i
  have HL := Lib.hid hL
  have H1 := Lib.hid h1
  have H2 := Lib.hid h2
  have HF := Lib.hid hF
  have HI := Lib.hid (And.intro hi hm)
  have HA := Lib.hid hA
  have HB := Lib.hid hb
  have HM := Lib.hid hM
  clear h1 h2 hF hi hA hb hM hL hm
  go_enter Tryz.func12, Tryz.ntmps12
  go_wp2_with fail
  refine har.mono ?_
  rintro e w1 ⟨A1, c1, rfl, ho1, hb1⟩
  have hra := rareas_is (H2.out.call hb1) i
  change Calls _ _ _ _ (ToldA (arsF F i) w1) at hra
  rw [← HL.out] at hra
  have HO1 := Lib.hid ho1
  have HB1 := Lib.hid hb1
  generalize hll : L.length = ll at *
  have HLE := Lib.hid hll
  clear har ho1 hb1 hll
  go_wp2_with fail
  refine hra.mono ?_
  rintro e w2 ⟨A2, c2, rfl, ho2, hb2⟩
  have hsm := sameF_yes (c := c1) (c' := c2) ((HO1.out.call hb2).ls) ho2.ls HLE.out HLE.out (by rw [HLE.out]; exact HLL.out)
  have HB2 := Lib.hid (HB1.out.trans (hb2.mono HB1.out.size))
  clear hra ho2 hb2
  rw [HLE.out]
  go_wp2_with fail
  refine hsm.mono ?_
  rintro e w3 ⟨rfl, hb3⟩
  have HB3 := Lib.hid (HB2.out.trans (hb3.mono HB2.out.size))
  clear hsm hb3
  go_wp2_with fail
  go_loopw [9] (fun v wr => ∃ j : Nat, j ≤ n ∧ j ≤ 30 ∧ v = .int .i64 j ∧ Below w.heap.size w wr) (fun v _ => n - (RowKit.intOf v).toNat)
  case atStart => exact ⟨0, by omega, by omega, rfl, HB3.out⟩
  case round =>
    obtain ⟨j, hj, hj30, rfl, hb⟩ := hrel
    have HBL := Lib.hid hb
    by_cases hboth : j < n ∧ j < 30
    · obtain ⟨hlt, hlim⟩ := hboth
      have hjM : j < M.length := by have := HM.out; omega
      obtain ⟨ad, rfl, hc⟩ := (HA.out.below (Below.mono hb HB.out)) (by omega)
      obtain ⟨ok, hab, hat⟩ := hc j hjM
      have hab' : (ad.add (j * 9)).block < w.heap.size := Nat.lt_of_lt_of_le hab HB.out
      obtain ⟨l, hl⟩ : ∃ l, l = M[j] := ⟨_, rfl⟩
      rw [← hl] at hat ok
      obtain ⟨lk, ls, la, ln, lh, lp, lt, lc, lv⟩ := l
      have HN : Hid (∀ V, Below w.heap.size wr V → V.cell? (ad.add (j * 9)) = some (.int .i64 lk) ∧ V.cell? ⟨(ad.add (j * 9)).block, (ad.add (j * 9)).off + 2, none⟩ = some (.int .i64 la)) := fun V hV => ⟨(hat.below hV hab').c0, (hat.below hV hab').c2⟩
      have hjl : (j : Int) < n := by omega
      have hjm : (j : Int) < 30 := by omega
      have hj0 : (0 : Int) ≤ j := by omega
      have HLT := Lib.hid (And.intro hlt hlim)
      clear hat hab hab' ok hc hl hb hjM hlt hlim
      go_wp2_with fail
      go_loopw [10] (fun v wq => ∃ k : Nat, k ≤ 8 ∧ v = .int .i64 k ∧ Below w.heap.size wr wq) (fun v _ => 8 - (RowKit.intOf v).toNat)
      case atStart => exact ⟨0, by omega, rfl, Below.refl _ _⟩
      case round =>
        obtain ⟨k, hk, rfl, hbq⟩ := hrel
        have HBQ := Lib.hid hbq
        have hwr := HBL.out.trans hbq
        by_cases hk8 : k < 8
        · have hk8' : (k : Int) < 8 := by omega
          have hk0 : (0 : Int) ≤ k := by omega
          obtain ⟨n0, n2⟩ := HN.out _ hbq
          by_cases hk9 : 8 < lk
          all_goals
            clear hbq
            go_wp2_with fail
            refine (I.word (I.call H1.out hwr) HF.out.ok (Nat.le_trans HF.out.ob HI.out.2) i _ HI.out.1 (fits_wrap64 _)).mono ?_
            rintro e w5 ⟨rfl, hb5⟩
            have hb5' := hwr.trans (hb5.mono hwr.size)
            have HX5 := Lib.hid (HBQ.out.trans (hb5.mono hwr.size))
            have hrw : ∀ a : Int, Calls Tryz.prog 17 #[.pointer (some ⟨T.xa, 0, none⟩), .int .i64 i, .int .i64 a] w5 fun e w' => e = .returned (.tuple #[.int .u64 (wdV F i a), .int .i64 (wdE F i a)]) ∧ Below w5.heap.size w5 w' := fun a => rword_is (H2.out.call hb5') HF.out.ok i a
            obtain ⟨n0, n2⟩ := HN.out _ HX5.out
            have HW5 := Lib.hid hb5'
            clear hwr hb5 hb5'
            go_wp2_with fail
            refine (hrw _).mono ?_
            rintro e w6 ⟨rfl, hb6⟩
            have HX6 := Lib.hid (HX5.out.trans (hb6.mono HW5.out.size))
            clear hrw hb6
            go_wp2_with fail
            go_roundw
            case rel => exact ⟨k + 1, by omega, by go_num, HX6.out⟩
            case measure => simp [RowKit.intOf]; omega
        · have hk8' : ¬ (k : Int) < 8 := by omega
          clear hbq
          go_wp2_with fail
          go_roundw
          case rel => exact ⟨j + 1, HLT.out.1, HLT.out.2, by go_num, HBL.out.trans HBQ.out⟩
          case measure => have := HLT.out; simp [RowKit.intOf]; omega
    · by_cases hlt : j < n
      case' pos => have hlim : ¬ (j : Int) < 30 := by omega
      all_goals
        clear hboth hb
        go_wp2_with fail
        go_ret
        exact ⟨rfl, HBL.out⟩
end Go.Proofs.YtnppnoabhpkmkaaGreat
