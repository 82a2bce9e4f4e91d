/- Both behind some calls. -/
import Derived.Test.YtekfkglielmfaaaTgU
namespace Go.Proofs.Ytekfkglielmfaaa
open Go.RowKit
section
variable {w w' w1 w2 W W' : World} {B t x : Nat} {v : Value} {L L' : List (Nat × Nat)}
theorem DnT.below {B D : Nat} (h : DnT B t x L w w') (hB : D ≤ B) (hw : D ≤ w.heap.size) : ∃ L', L'.length ≤ L.length + 1 ∧ StT B w' t x L' ∧ Below D w w' := by
  obtain ⟨L', h1, h2, h3⟩ := h
  refine ⟨L', h1, h2, h3.below hw fun k e => ?_⟩
  have := h2.2.2
  rcases e with rfl | rfl <;> omega
theorem StT.new {w w1 : World} {t : Nat} (h1 : PrT w.heap.size w1 t []) (hb1 : Below w.heap.size w w1) : StT w.heap.size (w1.alloc (.cells #[.slice none 0 0] 34)) t w1.heap.size [] := by
  have hb : Below w1.heap.size w1 (w1.alloc (.cells #[.slice none 0 0] 34)) := below_new w1 _
  have ht : w.heap.size ≤ t := by obtain ⟨_, _, _, _, _, _, _, h⟩ := h1; exact h
  exact ⟨h1.call hb, ⟨.slice none 0 0, Lrow.new w1 _ _, Enc.Own.nil _ _, hb1.size⟩, ht, hb1.size⟩
set_option maxHeartbeats 8000000 in
set_option maxRecDepth 100000 in
theorem made_any (A : Option Addr) (n c b : Nat) (M : List Ac) (w : World) (hL : M.length = n) (hA : Lsa w b A M) (hb : b ≤ w.heap.size) :
    Calls Try.prog 10 #[.slice A n c] w fun e w' => ∃ t x, e = .returned (.tuple #[.pointer (some ⟨t, 0, none⟩), .pointer (some ⟨x, 0, none⟩), .bool true]) ∧ ∃ L, L.length ≤ 90 ∧ StT w.heap.size w' t x L ∧ Below w.heap.size w w' := by
  have hnew := new_p w
  have HA := Lib.hid (And.intro hA hb)
  have HM := Lib.hid hL
  clear hA hb hL
  go_enter Try.func10, Try.ntmps10
  go_wp2_with fail
  refine hnew.mono ?_
  rintro e w1 ⟨t, rfl, h1, hb1⟩
  obtain ⟨w2, hw2⟩ : ∃ w2, w2 = w1.alloc (.cells #[.slice none 0 0] 34) := ⟨_, rfl⟩
  obtain ⟨x, hx⟩ : ∃ x, x = w1.heap.size := ⟨_, rfl⟩
  have HG : Hid (StT w.heap.size w2 t x [] ∧ Below w.heap.size w w2) := ⟨by rw [hw2, hx]; exact StT.new h1 hb1, hb1.trans ((by rw [hw2]; exact below_new w1 _ : Below w1.heap.size w1 w2).mono hb1.size)⟩
  have HW := Lib.hid (And.intro hw2 hx)
  clear hnew h1 hb1 hw2 hx
  go_upto_region 2 with (fail)
  rw [← HW.out.1, ← HW.out.2]
  go_wp2_with fail
  go_loopw [7] (fun i wr => ∃ (j : Nat) (L : List (Nat × Nat)), j ≤ n ∧ j ≤ 90 ∧ i = .int .i64 j ∧ L.length ≤ j ∧ StT w.heap.size wr t x L ∧ Below w.heap.size w wr) (fun i _ => n - (RowKit.intOf i).toNat)
  case atStart => exact ⟨0, [], by omega, by omega, rfl, Nat.le_refl _, HG.out.1, HG.out.2⟩
  case round =>
    obtain ⟨j, L, hj, hj90, rfl, hlen, hst, hb⟩ := hrel
    have HST := Lib.hid hst
    have HBL := Lib.hid hb
    have HLN := Lib.hid hlen
    clear HG hst
    by_cases hboth : j < n ∧ j < 90
    · obtain ⟨hlt, hlim⟩ := hboth
      have hjM : j < M.length := by have := HM.out; omega
      obtain ⟨ad, rfl, hc⟩ := (HA.out.1.below (Below.mono hb HA.out.2)) (by omega)
      obtain ⟨ok, hab, hat⟩ := hc j hjM
      have hdo := do_any HST.out (by omega) M[j]
      generalize M[j] = l at hat hdo
      have c0 := hat.c0
      have c1 := hat.c1
      have c2 := hat.c2
      have c3 := hat.c3
      have hjl : (j : Int) < n := by omega
      have hjm : (j : Int) < 90 := by omega
      have hj0 : (0 : Int) ≤ j := by omega
      have hw3 : IntKind.i64.wrap ((j : Int) + 1) = (j : Int) + 1 := IntWalk.i64_in _ (by omega)
      clear hat hb hab ok hc hjM hlen
      obtain ⟨lk, lf, lt, ln⟩ := l
      dsimp only at c0 c1 c2 c3 hdo
      go_wp2_with fail
      refine hdo.mono ?_
      rintro e w3 ⟨rfl, hd⟩
      obtain ⟨L3, hl3, hs3, hb3⟩ := hd.below (Nat.le_refl _) HBL.out.size
      have HN := Lib.hid (And.intro hs3 (And.intro (HBL.out.trans hb3) (Nat.le_trans hl3 (Nat.add_le_add_right HLN.out 1))))
      clear hd hl3 hs3 hb3 hdo c0 c1 c2 c3
      go_wp2_with fail
      go_roundw
      case rel => exact ⟨j + 1, L3, by omega, by omega, by go_num, HN.out.2.2, HN.out.1, HN.out.2.1⟩
      case measure => simp [RowKit.intOf]; omega
    · by_cases hlt : j < n
      case' pos => have hlim : ¬ (j : Int) < 90 := by omega
      all_goals
        clear hboth hb
        go_wp2_with fail
        go_ret3
        exact ⟨t, x, rfl, L, Nat.le_trans HLN.out (by omega), HST.out, HBL.out⟩
end
end Go.Proofs.Ytekfkglielmfaaa
