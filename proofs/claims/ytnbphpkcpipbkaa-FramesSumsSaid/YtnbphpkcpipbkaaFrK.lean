/- Frames: both behind some turns. -/
import Derived.Test.YtnbphpkcpipbkaaFrJ
namespace Go.Proofs.Ytnbphpkcpipbkaa
open Go.RowKit
def Lsa (w : World) (b : Nat) (A : Option Addr) (M : List Ac) : Prop := 0 < M.length → ∃ a, A = some a ∧ ∀ i (h : i < M.length), IsAc M[i] ∧ (a.add (i * 4)).block < b ∧ AcAt w (a.add (i * 4)) M[i]
theorem Lsa.below {w w' : World} {b : Nat} {A : Option Addr} {M : List Ac} (h : Lsa w b A M) (hb : Below b w w') : Lsa w' b A M := fun h0 => by
  obtain ⟨a, e, hc⟩ := h h0
  exact ⟨a, e, fun i hi => ⟨(hc i hi).1, (hc i hi).2.1, (hc i hi).2.2.below hb (hc i hi).2.1⟩⟩
theorem Acs.list {w : World} {b n : Nat} {A : Option Addr} (h : Acs w b A n) : ∃ M : List Ac, M.length = n ∧ Lsa w b A M := by
  by_cases hn : 0 < n
  · obtain ⟨a, e, hlt, hc⟩ := h hn
    refine ⟨List.ofFn (n := n) fun i => (hc i.1 i.2).choose, by simp, fun _ => ⟨a, e, fun i hi => ?_⟩⟩
    have hi' : i < n := by simpa using hi
    rw [List.getElem_ofFn]
    exact ⟨(hc i hi').choose_spec.1, by rw [add_blk]; exact hlt, (hc i hi').choose_spec.2⟩
  · exact ⟨[], by simp; omega, fun h0 => absurd h0 (by simp)⟩
set_option maxHeartbeats 4000000 in
set_option maxRecDepth 100000 in
theorem made_no {m : Int} (h : nwF m = false) (v : Value) (w : World) :
    Calls Try.prog 9 #[.int .i64 m, v] w fun e w' => e = .returned (.tuple #[.pointer none, .pointer none, .bool true]) ∧ w = w' := by
  have h1 := new_no h w
  have h2 := rnew_no h w
  clear h
  go_enter Try.func9, Try.ntmps9
  go_wp2_with fail
  refine h1.mono ?_
  rintro e w1 ⟨rfl, rfl⟩
  clear h1
  go_wp2_with fail
  refine h2.mono ?_
  rintro e w1 ⟨rfl, rfl⟩
  clear h2
  go_wp2_with fail
  go_loopw [11] (fun i wr => i = .int .i64 0 ∧ w = wr) (fun _ _ => 0)
  case atStart => exact ⟨rfl, rfl⟩
  case round =>
    obtain ⟨rfl, rfl⟩ := hrel
    go_wp2_with fail
    go_ret3
    exact ⟨rfl, rfl⟩
set_option maxHeartbeats 8000000 in
set_option maxRecDepth 100000 in
theorem made_any {m : Int} (hm : nwF m = true) (A : Option Addr) (n c b : Nat) (M : List Ac) (w : World) (hM : M.length = n) (hA : Lsa w b A M) (hb : b ≤ w.heap.size) :
    Calls Try.prog 9 #[.int .i64 m, .slice A n c] w fun e w' => ∃ s x, e = .returned (.tuple #[.pointer (some ⟨s, 0, none⟩), .pointer (some ⟨x, 0, none⟩), .bool true]) ∧ St w.heap.size w' s x (mdE m M) ∧ Below w.heap.size w w' := by
  have hnew := new_f hm w
  have HA := Lib.hid hA
  have HB := Lib.hid hb
  have HM := Lib.hid (And.intro hM hm)
  clear hA hb hM hm
  go_enter Try.func9, Try.ntmps9
  go_wp2_with fail
  refine hnew.mono ?_
  rintro e w1 ⟨s, g, rfl, h1, hb1⟩
  have H1 := Lib.hid (And.intro h1 hb1)
  have hnx := rnew HM.out.2 w1
  clear hnew h1 hb1
  go_wp2_with fail
  refine hnx.mono ?_
  rintro e w2 ⟨x, v, rfl, ⟨hx, hk⟩, hb2⟩
  have HG : Hid (St w.heap.size w2 s x (mdF (newF m) (M.take 0)) ∧ Below w.heap.size w w2) := ⟨St.new H1.out.1 H1.out.2 hx hk hb2, H1.out.2.trans (hb2.mono H1.out.2.size)⟩
  clear hnx hx hb2 H1 hk
  go_wp2_with fail
  go_loopw [11] (fun i wr => ∃ j : Nat, j ≤ n ∧ j ≤ 60 ∧ i = .int .i64 j ∧ St w.heap.size wr s x (mdF (newF m) (M.take j)) ∧ Below w.heap.size w wr) (fun i _ => n - (RowKit.intOf i).toNat)
  case atStart => exact ⟨0, by omega, by omega, rfl, HG.out.1, HG.out.2⟩
  case round =>
    obtain ⟨j, hj, hj60, rfl, hst, hb⟩ := hrel
    have HST := Lib.hid hst
    have HBL := Lib.hid hb
    clear HG hst
    by_cases hboth : j < n ∧ j < 60
    · obtain ⟨hlt, hlim⟩ := hboth
      have hjM : j < M.length := by have := HM.out.1; omega
      obtain ⟨ad, rfl, hc⟩ := (HA.out.below (Below.mono hb HB.out)) (by omega)
      obtain ⟨ok, hab, hat⟩ := hc j hjM
      have HNX := Lib.hid (mdF_next (newF m) M hjM)
      have HOK : Hid (OkF (mdF (newF m) (M.take j))) := mdF_ok _ (newF_ok HM.out.2)
      obtain ⟨l, hl⟩ : ∃ l, l = M[j] := ⟨_, rfl⟩
      rw [← hl] at hat HNX
      have c0 := hat.c0
      have c1 := hat.c1
      have c2 := hat.c2
      have c3 := hat.c3
      have hjl : (j : Int) < n := by omega
      have hjm : (j : Int) < 60 := by omega
      have hj0 : (0 : Int) ≤ j := by omega
      have hw3 : IntKind.i64.wrap ((j : Int) + 1) = (j : Int) + 1 := IntWalk.i64_in _ (by omega)
      clear hat hb hab ok hc hl
      obtain ⟨Fr, Nn, Fm, To⟩ := l
      dsimp only at c0 c1 c2 c3 HNX
      obtain ⟨W0, hW0⟩ : ∃ W0, W0 = wr.alloc (.cells #[.int .i64 Fr, .int .i64 Nn, .int .i64 Fm, .int .i64 To] 39) := ⟨_, rfl⟩
      obtain ⟨q, hq⟩ : ∃ q, q = wr.heap.size := ⟨_, rfl⟩
      have g0 : Below wr.heap.size wr W0 := by rw [hW0]; exact below_new _ _
      have rs : Lrow W0 q 39 [.int .i64 Fr, .int .i64 Nn, .int .i64 Fm, .int .i64 To] := by rw [hW0, hq]; exact Lrow.new wr _ _
      obtain ⟨g', v', h1, h2, h3⟩ := HST.out
      have HQ : Hid ((∀ k, MineF s g' k → k ≠ q) ∧ x ≠ q) := ⟨fun k hk e => by have := (h1.mine k hk).2; omega, fun e => by have := h2.1.lt; omega⟩
      have HB0 : Hid (Below w.heap.size w W0) := HBL.out.trans (g0.mono HST.out.lw)
      have h1' := (h1.call g0).call (below_dN (Below.refl _ W0) 1)
      have h2' := (h2.call g0).call (below_dN (Below.refl _ W0) 1)
      have hrs := rs.drewN 1
      have HS0 : W0.drew.cell? ⟨q, 0, none⟩ = some (.int .i64 Fr) ∧ W0.drew.cell? ⟨q, 1, none⟩ = some (.int .i64 Nn) ∧ W0.drew.cell? ⟨q, 2, none⟩ = some (.int .i64 Fm) ∧ W0.drew.cell? ⟨q, 3, none⟩ = some (.int .i64 To) := ⟨hrs.cell 0, hrs.cell 1, hrs.cell 2, hrs.cell 3⟩
      have HW := Lib.hid (And.intro hW0 hq)
      clear hW0 hq g0 rs h1 h2
      go_wp2_with fail
      rw [← HW.out.1, ← HW.out.2]
      go_region_held3 (fun v => v.cell? ⟨q, 0, none⟩ = some (.int .i64 Fr) ∧ v.cell? ⟨q, 1, none⟩ = some (.int .i64 Nn) ∧ v.cell? ⟨q, 2, none⟩ = some (.int .i64 Fm) ∧ v.cell? ⟨q, 3, none⟩ = some (.int .i64 To))
        (first | exact HS0 | exact HS1 | exact HS2)
        (first | (go_at_call 17; refine (turn_f h1' HOK.out Fr Nn Fm To).mono ?_; rintro e w3 ⟨rfl, hd1⟩; obtain ⟨k1, k2, kb⟩ := half h1' h2' h3 hd1; have r1 := hd1.2.2.row hrs (fun e => HQ.out.1 q e rfl); have HS1 : w3.cell? ⟨q, 0, none⟩ = some (.int .i64 Fr) ∧ w3.cell? ⟨q, 1, none⟩ = some (.int .i64 Nn) ∧ w3.cell? ⟨q, 2, none⟩ = some (.int .i64 Fm) ∧ w3.cell? ⟨q, 3, none⟩ = some (.int .i64 To) := ⟨r1.cell 0, r1.cell 1, r1.cell 2, r1.cell 3⟩) | (go_at_call 20; refine (rturn k2 HOK.out Fr Nn Fm To).mono ?_; rintro e w4 ⟨rfl, hd2⟩; obtain ⟨hst2, hb2⟩ := whole k1 k2 h3 hd2; obtain ⟨v2, z1, z2, z3⟩ := hd2; have r2 := z2.row r1 (fun e => HQ.out.2 e.symm); have HS2 : w4.cell? ⟨q, 0, none⟩ = some (.int .i64 Fr) ∧ w4.cell? ⟨q, 1, none⟩ = some (.int .i64 Nn) ∧ w4.cell? ⟨q, 2, none⟩ = some (.int .i64 Fm) ∧ w4.cell? ⟨q, 3, none⟩ = some (.int .i64 To) := ⟨r2.cell 0, r2.cell 1, r2.cell 2, r2.cell 3⟩))
      all_goals
        go_wp2_with fail
        go_roundw
        case rel => exact ⟨j + 1, by omega, by omega, by go_num, by rw [HNX.out]; exact hst2, HB0.out.trans (Below.trans (below_dN (Below.refl _ _) 1) (Below.trans kb hb2))⟩
        case measure => simp [RowKit.intOf]; omega
    · have HE : Hid (mdF (newF m) (M.take j) = mdE m M) := by
        show _ = _
        unfold mdE
        rcases (show j = 60 ∨ (j = n ∧ n ≤ 60) by omega) with rfl | ⟨rfl, h⟩
        · rfl
        · rw [List.take_of_length_le (by have := HM.out.1; omega), List.take_of_length_le (by have := HM.out.1; omega)]
      by_cases hlt : j < n
      case' pos => have hlim : ¬ (j : Int) < 60 := by omega
      all_goals
        clear hboth hb
        go_wp2_with fail
        go_ret3
        exact ⟨s, x, rfl, by rw [← HE.out]; exact HST.out, HBL.out⟩
end Go.Proofs.Ytnbphpkcpipbkaa
