/- Reservations: both behind some calls. -/
import Derived.Test.YtfalmjibpkkjaaaL2
namespace Go.Proofs.Ytfalmjibpkkjaaa
open Go.RowKit
def Lsa (w : World) (b : Nat) (A : Option Addr) (M : List Ac) : Prop := 0 < M.length → ∃ a, A = some a ∧ ∀ i (h : i < M.length), IsAc M[i] ∧ (a.add (i * 4)).block < b ∧ AcAt w (a.add (i * 4)) M[i]
theorem Lsa.below {w w' : World} {b : Nat} {A : Option Addr} {M : List Ac} (h : Lsa w b A M) (hb : Below b w w') : Lsa w' b A M := fun h0 => by
  obtain ⟨a, e, hc⟩ := h h0
  exact ⟨a, e, fun i hi => ⟨(hc i hi).1, (hc i hi).2.1, (hc i hi).2.2.below hb (hc i hi).2.1⟩⟩
theorem Acs.list {w : World} {b n : Nat} {A : Option Addr} (h : Acs w b A n) : ∃ M : List Ac, M.length = n ∧ Lsa w b A M := by
  by_cases hn : 0 < n
  · obtain ⟨a, e, hlt, hc⟩ := h hn
    refine ⟨List.ofFn (n := n) fun i => (hc i.1 i.2).choose, by simp, fun _ => ⟨a, e, fun i hi => ?_⟩⟩
    have hi' : i < n := by simpa using hi
    rw [List.getElem_ofFn]
    exact ⟨(hc i hi').choose_spec.1, by rw [add_blk]; exact hlt, (hc i hi').choose_spec.2⟩
  · exact ⟨[], by simp; omega, fun h0 => absurd h0 (by simp)⟩
theorem lsa_ok {w : World} {b : Nat} {A : Option Addr} {M : List Ac} (h : Lsa w b A M) : ∀ l ∈ M, IsAc l := fun l hl => by
  obtain ⟨i, hi, rfl⟩ := List.getElem_of_mem hl
  obtain ⟨a, _, hc⟩ := h (by omega)
  exact (hc i hi).1
/-- What the laws' calls make. -/
def mdE (M : List Ac) : Rs := mdS (M.take 60)
theorem mdS_bnd (M : List Ac) (hM : ∀ l ∈ M, IsAc l) (j : Nat) (hj : j ≤ M.length) : Bnd j (mdS (M.take j)) := by
  induction j with
  | zero => exact Bnd.nil
  | succ j ih =>
    rw [mdS_next M (by omega)]
    exact (ih (by omega)).do_ (hM _ (List.getElem_mem _))
theorem mdE_bnd (M : List Ac) (hM : ∀ l ∈ M, IsAc l) : Bnd 60 (mdE M) := by
  unfold mdE
  by_cases h : 60 ≤ M.length
  · exact mdS_bnd M hM 60 h
  · have := mdS_bnd M hM M.length (Nat.le_refl _)
    rw [List.take_length] at this
    rw [List.take_of_length_le (by omega)]
    exact this.mono (by omega)
theorem Rx.new (w : World) {B : Nat} (hB : B ≤ w.heap.size) : Rx B (w.alloc (.cells #[.slice none 0 0, .int .i64 0] 48)) w.heap.size (.slice none 0 0) [] ⟨[], 0⟩ :=
  ⟨Lrow.new w _ [.slice none 0 0, .int .i64 0], Enc.Own.nil _ _, rfl, by simp, hB, Nat.le_trans hB (below_new w _).size, by simp⟩
theorem St.new {w1 : World} {B : Nat} {T : ObT} (hB : B ≤ w1.heap.size) (h : ObAt B w1 T ⟨[], 0⟩) : St B (w1.alloc (.cells #[.slice none 0 0, .int .i64 0] 48)) T.s w1.heap.size ⟨[], 0⟩ := by
  refine ⟨T, _, _, rfl, h.call (below_new _ _), Rx.new w1 hB, fun k hk e => ?_⟩
  have := h.lt k hk
  rcases e with e | e | ⟨y, e, _⟩
  · omega
  · cases e
  · cases e
set_option maxHeartbeats 4000000 in
set_option maxRecDepth 100000 in
theorem made_any (A : Option Addr) (n c b : Nat) (M : List Ac) (w : World) (hM : M.length = n) (hA : Lsa w b A M) (hb : b ≤ w.heap.size) :
    Calls Try.prog 8 #[.slice A n c] w fun e w' => ∃ s x, e = .returned (.tuple #[.pointer (some ⟨s, 0, none⟩), .pointer (some ⟨x, 0, none⟩), .bool true]) ∧ St w.heap.size w' s x (mdE M) ∧ Below w.heap.size w w' := by
  have hnew := new_r w
  have HOK := Lib.hid (lsa_ok hA)
  have HA := Lib.hid hA
  have HB := Lib.hid hb
  have HM := Lib.hid hM
  clear hA hb hM
  go_enter Try.func8, Try.ntmps8
  go_wp2_with fail
  refine hnew.mono ?_
  rintro e w1 ⟨s, X1, rfl, ⟨T, rfl, -, hT⟩, hb1⟩
  obtain ⟨x, hx⟩ : ∃ x, x = w1.heap.size := ⟨_, rfl⟩
  obtain ⟨W2, hW2⟩ : ∃ W2, W2 = w1.alloc (.cells #[.slice none 0 0, .int .i64 0] 48) := ⟨_, rfl⟩
  have HG : Hid (St w.heap.size W2 T.s x (mdS (M.take 0)) ∧ Below w.heap.size w W2) := ⟨by rw [hW2, hx]; exact St.new hb1.size hT, by rw [hW2]; exact hb1.alloc hb1.size _⟩
  have HW := Lib.hid (And.intro hW2 hx)
  clear hnew hT hb1 hW2 hx
  generalize T.s = s at HG ⊢
  go_upto_region 2 with (fail)
  rw [← HW.out.1, ← HW.out.2]
  go_wp2_with fail
  go_loopw [7] (fun i wr => ∃ j : Nat, j ≤ n ∧ j ≤ 60 ∧ i = .int .i64 j ∧ St w.heap.size wr s x (mdS (M.take j)) ∧ Below w.heap.size w wr) (fun i _ => n - (RowKit.intOf i).toNat)
  case atStart => exact ⟨0, by omega, by omega, rfl, HG.out.1, HG.out.2⟩
  case round =>
    obtain ⟨j, hj, hj60, rfl, hst, hb⟩ := hrel
    have HST := Lib.hid hst
    have HBL := Lib.hid hb
    clear HG hst
    by_cases hboth : j < n ∧ j < 60
    · obtain ⟨hlt, hlim⟩ := hboth
      have hjM : j < M.length := by have := HM.out; omega
      obtain ⟨ad, rfl, hc⟩ := (HA.out.below (Below.mono hb HB.out)) (by omega)
      obtain ⟨ok, hab, hat⟩ := hc j hjM
      have hdo := do_any HST.out (mdS_bnd M HOK.out j (by omega)) (by omega) ok
      have HNX := Lib.hid (mdS_next M hjM)
      obtain ⟨l, hl⟩ : ∃ l, l = M[j] := ⟨_, rfl⟩
      rw [← hl] at hat hdo HNX
      have c0 := hat.c0
      have c1 := hat.c1
      have c2 := hat.c2
      have c3 := hat.c3
      rw [← HNX.out] at hdo
      have hjl : (j : Int) < n := by omega
      have hjm : (j : Int) < 60 := by omega
      have hj0 : (0 : Int) ≤ j := by omega
      clear hat hb hab ok hc hl HNX
      obtain ⟨K, Sp, Pg, Fr⟩ := l
      dsimp only at c0 c1 c2 c3 hdo
      go_wp2_with fail
      refine hdo.mono ?_
      rintro e w3 ⟨rfl, hst3, hb3⟩
      have HS3 := Lib.hid hst3
      have HB3 := Lib.hid (HBL.out.trans hb3)
      clear hdo hst3 hb3
      go_wp2_with fail
      go_roundw
      case rel => exact ⟨j + 1, by omega, by omega, by go_num, HS3.out, HB3.out⟩
      case measure => simp [RowKit.intOf]; omega
    · have HE : Hid (mdS (M.take j) = mdE M) := by
        show _ = _
        unfold mdE
        rcases (show j = 60 ∨ (j = n ∧ n ≤ 60) by omega) with rfl | ⟨rfl, h⟩
        · rfl
        · rw [List.take_of_length_le (by have := HM.out; omega), List.take_of_length_le (by have := HM.out; omega)]
      by_cases hlt : j < n
      case' pos => have hlim : ¬ (j : Int) < 60 := by omega
      all_goals
        clear hboth hb
        go_wp2_with fail
        go_ret3
        exact ⟨s, x, rfl, by rw [← HE.out]; exact HST.out, HBL.out⟩
end Go.Proofs.Ytfalmjibpkkjaaa
