/- Frames: FramesAll, walked. -/
import Derived.Test.YtnbphpkcpipbkaaFrL
namespace Go.Proofs.Ytnbphpkcpipbkaa
open Go.RowKit
theorem turn_at {I : List Int} {f n a b : Int} {j : Nat} (hj : j < I.length) : isV (tuL I f n a b) j = if tuE I f n a b = 0 ∧ f ≤ j ∧ (j : Int) - f < n then b else I[j] := by
  unfold isV frB
  rw [turn_len, decide_eq_true (show (0 : Int) ≤ j ∧ (j : Int) < I.length by omega), if_pos rfl, Int.toNat_natCast, List.getD_eq_getElem?_getD]
  unfold tuL
  by_cases c : tuE I f n a b = 0
  · obtain ⟨f', n', rfl, rfl, -, h2, -⟩ := tuE_ok c
    rw [if_pos c, Int.toNat_natCast, Int.toNat_natCast, put_get h2]
    by_cases d : f' ≤ j ∧ j < f' + n'
    · rw [if_pos d, if_pos ⟨c, by omega, by omega⟩]; rfl
    · rw [if_neg d, if_neg (fun e => d (by omega)), List.getElem?_eq_getElem hj]; rfl
  · rw [if_neg c, if_neg (fun e => c e.1), List.getElem?_eq_getElem hj]; rfl
theorem turn_was {I : List Int} {f n a b : Int} {j : Nat} (hj : j < I.length) (c : tuE I f n a b = 0) (h1 : f ≤ j) (h2 : (j : Int) - f < n) : I[j] = a := by
  obtain ⟨f', n', rfl, rfl, -, h3, -, -, -, h4, -⟩ := tuE_ok c
  unfold areF at h4
  have := of_decide_eq_true h4 (j - f') (by omega)
  rw [show f' + (j - f') = j by omega, List.getElem?_eq_getElem hj] at this
  injection this
set_option maxHeartbeats 16000000 in
set_option maxRecDepth 100000 in
theorem all_walk (m : Int) (A : Option Addr) (n c : Nat) (a : Ac) (ha : IsAc a) (w : World) (hA : Acs w w.heap.size A n) :
    Calls Try.prog 5 #[.int .i64 m, .slice A n c, .agg (acCells a).toArray] w fun e w' => e = .returned (.bool true) ∧ Below w.heap.size w w' := by
  obtain ⟨W0, hW0⟩ : ∃ W0, W0 = w.alloc (.cells (acCells a).toArray 39) := ⟨_, rfl⟩
  obtain ⟨q, hq⟩ : ∃ q, q = w.heap.size := ⟨_, rfl⟩
  have g0 : Below w.heap.size w W0 := by rw [hW0]; exact below_new _ _
  have rs : Lrow W0 q 39 (acCells a) := by rw [hW0, hq]; exact Lrow.new w _ (acCells a)
  have hA : Acs W0 W0.heap.size A n := fun hn => by
    obtain ⟨p, e, hl, hc⟩ := (hA.below g0) hn
    exact ⟨p, e, Nat.lt_of_lt_of_le hl g0.size, hc⟩
  have HG0 := Lib.hid (And.intro g0 (And.intro rs ha))
  have HW := Lib.hid (And.intro hW0 hq)
  clear hW0 hq g0 rs ha
  obtain ⟨Fr, Nn, Fm, To⟩ := a
  dsimp only [acCells] at HG0 HW ⊢
  have hF : Fits Fr := HG0.out.2.2.f
  cases c0 : nwF m
  · clear hA
    have hm := made_no c0 (.slice A n c) W0
    go_enter Try.func5, Try.ntmps5
    go_wp2_with fail
    rw [← HW.out.1]
    refine hm.mono ?_
    rintro e w1 ⟨rfl, rfl⟩
    clear hm
    go_wp2_with fail
    refine (awake_any _).mono ?_
    rintro e w2 ⟨rfl, hb2⟩
    have HB2 := Lib.hid hb2
    clear hb2
    go_wp2_with fail
    refine (awake_any _).mono ?_
    rintro e w3 ⟨rfl, hb3⟩
    have HB3 := Lib.hid (HB2.out.trans (hb3.mono HB2.out.size))
    clear hb3
    go_wp2_with fail
    go_ret
    exact ⟨rfl, HG0.out.1.trans (HB3.out.mono HG0.out.1.size)⟩
  · obtain ⟨M, hM, hls⟩ := hA.list
    have hm := made_any c0 A n c W0.heap.size M W0 hM hls (Nat.le_refl _)
    have hok := mdE_ok c0 M
    have hln := mdE_len m M
    have hm0 := of_decide_eq_true c0
    generalize mdE m M = S at hm hok hln
    obtain ⟨l, hl⟩ : ∃ l, l = S.length := ⟨_, rfl⟩
    obtain rfl : m = (l : Int) := by omega
    have l1 : l ≤ 1024 := by omega
    have l0 : 8 ≤ l := by omega
    have HOK := Lib.hid (And.intro hok hl)
    clear hA hM hls hok hln hl hm0 c0
    go_enter Try.func5, Try.ntmps5
    go_wp2_with fail
    rw [← HW.out.1, ← HW.out.2]
    refine hm.mono ?_
    rintro e w1 ⟨s, x, rfl, hst, hb1⟩
    have HS1 := Lib.hid hst
    have HB1 := Lib.hid hb1
    have hak := awake_any w1
    clear hm hst hb1
    go_wp2_with fail
    refine hak.mono ?_
    rintro e w2 ⟨rfl, hb2⟩
    have HB2 := Lib.hid (HB1.out.trans (hb2.mono HB1.out.size))
    obtain ⟨g, v, h1, h2, h3⟩ := HS1.out.call hb2
    obtain ⟨gr, cr, rfl⟩ := h2.form (by have := HOK.out.2; omega)
    have e0 := h2.1.cell 0
    rw [← HOK.out.2] at e0 h2 h3
    have H1 := Lib.hid (And.intro h1 (And.intro h2 h3))
    have hc0 : w2.cell? ⟨x, 0, none⟩ = some (.slice (some ⟨gr, 0, none⟩) l cr) := e0
    clear hak hb2 h1 h2 h3 e0
    have hrs := HG0.out.2.1.call HB2.out
    have q0 := hrs.cell 0
    have q1 := hrs.cell 1
    have q2 := hrs.cell 2
    have q3 := hrs.cell 3
    have ht := turn_f H1.out.1 HOK.out.1 Fr Nn Fm To
    obtain ⟨E, hE⟩ : ∃ E, E = tuE S Fr Nn Fm To := ⟨_, rfl⟩
    rw [← hE] at ht
    have HE := Lib.hid hE
    have HRS := Lib.hid hrs
    clear hE hc0 hrs
    go_wp2_with fail
    refine ht.mono ?_
    rintro e w3 ⟨rfl, hd⟩
    obtain ⟨k1, k2, kb⟩ := half H1.out.1 H1.out.2.1 H1.out.2.2 hd
    have hrs := hd.2.2.row HRS.out (fun e => by
      have h1 := (H1.out.1.mine q e).1
      have h2 := HG0.out.2.1.lt
      omega)
    have q0 := hrs.cell 0
    have q1 := hrs.cell 1
    have q2 := hrs.cell 2
    have q3 := hrs.cell 3
    have hc0 : w3.cell? ⟨x, 0, none⟩ = some (.slice (some ⟨gr, 0, none⟩) l cr) := k2.1.cell 0
    have HK := Lib.hid (And.intro k1 (And.intro k2 (HB2.out.trans kb)))
    clear ht hd k1 k2 kb hrs
    go_wp2_with fail
    go_loopw [11] (fun k wr => ∃ j : Nat, j ≤ l ∧ k = .int .i64 j ∧ w3 = wr) (fun k _ => l - (RowKit.intOf k).toNat)
    case atStart => exact ⟨0, by omega, rfl, rfl⟩
    case round =>
      obtain ⟨j, hj, rfl, rfl⟩ := hrel
      by_cases hlt : j < l
      · have hjl : j < S.length := by have := HOK.out.2; omega
        have d0 := HK.out.2.1.get hjl
        have hi := is_f HK.out.1 j
        rw [turn_at hjl, ← HE.out] at hi
        have HWAS : Hid (E = 0 → Fr ≤ j → (j : Int) - Fr < Nn → S[j] = Fm) := fun h1 => turn_was hjl (HE.out ▸ h1)
        have HF0 : Hid (E = 0 → 0 ≤ Fr) := fun h1 => by
          obtain ⟨f', n', h, -⟩ := tuE_ok (HE.out ▸ h1)
          omega
        generalize S[j] = y at d0 hi HWAS
        have j1 : (j : Int) < l := by omega
        have j0 : (0 : Int) ≤ j := by omega
        have hw3 : IntKind.i64.wrap ((j : Int) + 1) = (j : Int) + 1 := IntWalk.i64_in _ (by omega)
        clear hjl
        by_cases cE : E = 0
        · have f0 := HF0.out cE
          have hw4 : IntKind.i64.wrap ((j : Int) - Fr) = (j : Int) - Fr := IntWalk.i64_in _ (by have := hF.2; omega)
          by_cases c1 : Fr ≤ j
          · by_cases c2 : (j : Int) - Fr < Nn
            · have hy := HWAS.out cE c1 c2
              rw [if_pos ⟨cE, c1, c2⟩] at hi
              subst cE hy
              go_wp2_with fail
              refine hi.mono ?_
              rintro e w4 ⟨rfl, rfl⟩
              clear hi
              go_wp2_with fail
              go_roundw
              case rel => exact ⟨j + 1, by omega, by go_num, trivial⟩
              case measure => simp [RowKit.intOf]; omega
            · rw [if_neg (fun e => c2 e.2.2)] at hi
              subst cE
              go_wp2_with fail
              refine hi.mono ?_
              rintro e w4 ⟨rfl, rfl⟩
              clear hi
              go_wp2_with fail
              go_roundw
              case rel => exact ⟨j + 1, by omega, by go_num, trivial⟩
              case measure => simp [RowKit.intOf]; omega
          · rw [if_neg (fun e => c1 e.2.1)] at hi
            subst cE
            clear hw4
            go_wp2_with fail
            refine hi.mono ?_
            rintro e w4 ⟨rfl, rfl⟩
            clear hi
            go_wp2_with fail
            go_roundw
            case rel => exact ⟨j + 1, by omega, by go_num, trivial⟩
            case measure => simp [RowKit.intOf]; omega
        · rw [if_neg (fun e => cE e.1)] at hi
          have cb : (E == 0) = false := by simpa using cE
          go_wp2_with fail
          refine hi.mono ?_
          rintro e w4 ⟨rfl, rfl⟩
          clear hi
          go_wp2_with fail
          go_roundw
          case rel => exact ⟨j + 1, by omega, by go_num, trivial⟩
          case measure => simp [RowKit.intOf]; omega
      · have j1 : ¬ (j : Int) < l := by omega
        go_wp2_with fail
        go_ret
        exact ⟨rfl, HG0.out.1.trans (HK.out.2.2.mono HG0.out.1.size)⟩
end Go.Proofs.Ytnbphpkcpipbkaa
