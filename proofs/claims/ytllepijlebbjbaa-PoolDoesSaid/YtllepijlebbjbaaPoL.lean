/- Pools: both behind some calls. -/
import Derived.Test.YtllepijlebbjbaaPoK
namespace Go.Proofs.Ytllepijlebbjbaa
open Go.RowKit
def Lsa (w : World) (b : Nat) (A : Option Addr) (M : List Ac) : Prop := 0 < M.length → ∃ a, A = some a ∧ ∀ i (h : i < M.length), IsAc M[i] ∧ (a.add (i * 4)).block < b ∧ AcAt w (a.add (i * 4)) M[i]
theorem Lsa.below {w w' : World} {b : Nat} {A : Option Addr} {M : List Ac} (h : Lsa w b A M) (hb : Below b w w') : Lsa w' b A M := fun h0 => by
  obtain ⟨a, e, hc⟩ := h h0
  exact ⟨a, e, fun i hi => ⟨(hc i hi).1, (hc i hi).2.1, (hc i hi).2.2.below hb (hc i hi).2.1⟩⟩
theorem Acs.list {w : World} {b n : Nat} {A : Option Addr} (h : Acs w b A n) : ∃ M : List Ac, M.length = n ∧ Lsa w b A M := by
  by_cases hn : 0 < n
  · obtain ⟨a, e, hlt, hc⟩ := h hn
    refine ⟨List.ofFn (n := n) fun i => (hc i.1 i.2).choose, by simp, fun _ => ⟨a, e, fun i hi => ?_⟩⟩
    have hi' : i < n := by simpa using hi
    rw [List.getElem_ofFn]
    exact ⟨(hc i hi').choose_spec.1, by rw [add_blk]; exact hlt, (hc i hi').choose_spec.2⟩
  · exact ⟨[], by simp; omega, fun h0 => absurd h0 (by simp)⟩
/-- What the laws' calls make. -/
def mdE (M : List Ac) : Pk := mdS (newP 3 2) (M.take 60)
theorem nw32 : nwB 3 2 = true := by decide
theorem mdE_ok (M : List Ac) : POk (mdE M) := (newP_ok nw32).md _
theorem Px.low {B B' : Nat} {w : World} {xa g : Nat} {S : Pk} (h : Px B w xa g S) (hb : B' ≤ B) : Px B' w xa g S := ⟨h.top, h.row, h.ap, by have := h.lo; omega⟩
theorem St.new {I : PoI} {w0 w1 w2 : World} {s xa g : Nat} {X : Nat → Prop} {S : Pk} (h : I.Ob w0.heap.size w1 s X S) (hb1 : Below w0.heap.size w0 w1) (hx : Px w1.heap.size w2 xa g S) (hb2 : Below w1.heap.size w1 w2) : St I w0.heap.size w2 s xa S := by
  refine ⟨X, g, I.call h hb2, hx.low hb1.size, fun k hk e => ?_⟩
  have := (I.lo h k hk).2
  have := hx.lo
  rcases e with e | e <;> omega
set_option maxHeartbeats 4000000 in
set_option maxRecDepth 100000 in
theorem made_any (I : PoI) (A : Option Addr) (n c b : Nat) (M : List Ac) (w : World) (hM : M.length = n) (hA : Lsa w b A M) (hb : b ≤ w.heap.size) :
    Calls Try.prog 20 #[.slice A n c] w fun e w' => ∃ s x, e = .returned (.tuple #[.pointer (some ⟨s, 0, none⟩), .pointer (some ⟨x, 0, none⟩)]) ∧ St I w.heap.size w' s x (mdE M) ∧ Below w.heap.size w w' := by
  have hnew := I.new nw32 w
  have HA := Lib.hid hA
  have HB := Lib.hid hb
  have HM := Lib.hid hM
  clear hA hb hM
  go_enter Try.func20, Try.ntmps20
  go_wp2_with fail
  refine hnew.mono ?_
  rintro e w1 ⟨s, X1, rfl, h1, hb1⟩
  have H1 := Lib.hid (And.intro h1 hb1)
  have hnx := new_x nw32 w1
  clear hnew h1 hb1
  go_wp2_with fail
  refine hnx.mono ?_
  rintro e w2 ⟨x, g, rfl, hx, hb2⟩
  have HG : Hid (St I w.heap.size w2 s x (mdS (newP 3 2) (M.take 0)) ∧ Below w.heap.size w w2) := ⟨St.new H1.out.1 H1.out.2 hx hb2, H1.out.2.trans (hb2.mono H1.out.2.size)⟩
  clear hnx hx hb2 H1
  go_wp2_with fail
  go_loopw [8] (fun i wr => ∃ j : Nat, j ≤ n ∧ j ≤ 60 ∧ i = .int .i64 j ∧ St I w.heap.size wr s x (mdS (newP 3 2) (M.take j)) ∧ Below w.heap.size w wr) (fun i _ => n - (RowKit.intOf i).toNat)
  case atStart => exact ⟨0, by omega, by omega, rfl, HG.out.1, HG.out.2⟩
  case round =>
    obtain ⟨j, hj, hj60, rfl, hst, hb⟩ := hrel
    have HST := Lib.hid hst
    have HBL := Lib.hid hb
    clear HG hst
    by_cases hboth : j < n ∧ j < 60
    · obtain ⟨hlt, hlim⟩ := hboth
      have hjM : j < M.length := by have := HM.out; omega
      obtain ⟨ad, rfl, hc⟩ := (HA.out.below (Below.mono hb HB.out)) (by omega)
      obtain ⟨ok, hab, hat⟩ := hc j hjM
      have hdo := do_any HST.out ((newP_ok nw32).md (M.take j)) ok
      have HNX := Lib.hid (mdS_next (newP 3 2) M hjM)
      obtain ⟨l, hl⟩ : ∃ l, l = M[j] := ⟨_, rfl⟩
      rw [← hl] at hat hdo HNX
      have c0 := hat.c0
      have c1 := hat.c1
      have c2 := hat.c2
      have c3 := hat.c3
      rw [← HNX.out] at hdo
      have hjl : (j : Int) < n := by omega
      have hjm : (j : Int) < 60 := by omega
      have hj0 : (0 : Int) ≤ j := by omega
      clear hat hb hab ok hc hl HNX
      obtain ⟨K, Fr, Nn, Ye⟩ := l
      dsimp only at c0 c1 c2 c3 hdo
      go_wp2_with fail
      refine hdo.mono ?_
      rintro e w3 ⟨rfl, hst3, hb3⟩
      have HS3 := Lib.hid hst3
      have HB3 := Lib.hid (HBL.out.trans hb3)
      clear hdo hst3 hb3
      go_wp2_with fail
      go_roundw
      case rel => exact ⟨j + 1, by omega, by omega, by go_num, HS3.out, HB3.out⟩
      case measure => simp [RowKit.intOf]; omega
    · have HE : Hid (mdS (newP 3 2) (M.take j) = mdE M) := by
        show _ = _
        unfold mdE
        rcases (show j = 60 ∨ (j = n ∧ n ≤ 60) by omega) with rfl | ⟨rfl, h⟩
        · rfl
        · rw [List.take_of_length_le (by have := HM.out; omega), List.take_of_length_le (by have := HM.out; omega)]
      by_cases hlt : j < n
      case' pos => have hlim : ¬ (j : Int) < 60 := by omega
      all_goals
        clear hboth hb
        go_wp2_with fail
        go_ret2
        exact ⟨s, x, rfl, by rw [← HE.out]; exact HST.out, HBL.out⟩
end Go.Proofs.Ytllepijlebbjbaa
