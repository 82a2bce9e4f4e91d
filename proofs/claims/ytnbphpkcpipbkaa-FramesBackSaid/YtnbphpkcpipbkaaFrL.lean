/- Frames: FramesSums, walked. -/
import Derived.Test.YtnbphpkcpipbkaaFrK
namespace Go.Proofs.Ytnbphpkcpipbkaa
open Go.RowKit
theorem Rx.form {B : Nat} {w : World} {x : Nat} {v : Value} {I : List Int} (h : Rx B w x v I) (h0 : 0 < I.length) : ∃ g c, v = .slice (some ⟨g, 0, none⟩) I.length c := by
  obtain ⟨A, c, rfl⟩ := h.2.1.form
  obtain ⟨g, rest, rfl, -⟩ := EI_row h.2.1 h0
  exact ⟨g, c, rfl⟩
theorem Rx.get {B : Nat} {w : World} {x g n c : Nat} {I : List Int} (h : Rx B w x (.slice (some ⟨g, 0, none⟩) n c) I) {j : Nat} (hj : j < I.length) : w.cell? ⟨g, j, none⟩ = some (.int .i64 I[j]) := by
  have hn : n = I.length := by obtain ⟨_, _, e⟩ := h.2.1.form; injection e
  subst hn
  obtain ⟨g', rest, e, hr, -⟩ := EI_row h.2.1 (by omega)
  injection e with e
  injection e with e
  subst e
  rw [hr.cell, List.getElem?_append_left (by rw [List.length_map]; exact hj), List.getElem?_map, List.getElem?_eq_getElem hj]; rfl
/-- How many there are of the states from -1 on. -/
def smF (I : List Int) : Nat → Nat
  | 0 => 0
  | j + 1 => smF I j + I.count ((j : Int) - 1)
theorem smF_le (I : List Int) : ∀ j, smF I j ≤ j * I.length
  | 0 => by simp [smF]
  | j + 1 => by
    have := smF_le I j
    have := count_len I ((j : Int) - 1)
    unfold smF
    rw [Nat.add_mul]; omega
theorem smF_all {I : List Int} (h : OkF I) : smF I 9 = I.length := by
  have h1 : I.count (-1) = 0 := h.none (by decide)
  have h2 : I.count 6 = 0 := h.none (by decide)
  have h3 : I.count 7 = 0 := h.none (by decide)
  have h4 := OkF.all h.is
  simp only [smF]
  simp
  omega
set_option maxHeartbeats 16000000 in
set_option maxRecDepth 100000 in
theorem sums_walk (m : Int) (A : Option Addr) (n c : Nat) (w : World) (hA : Acs w w.heap.size A n) :
    Calls Try.prog 4 #[.int .i64 m, .slice A n c] w fun e w' => e = .returned (.bool true) ∧ Below w.heap.size w w' := by
  cases c0 : nwF m
  · clear hA
    have hm := made_no c0 (.slice A n c) w
    go_enter Try.func4, Try.ntmps4
    go_wp2_with fail
    refine hm.mono ?_
    rintro e w1 ⟨rfl, rfl⟩
    clear hm
    go_wp2_with fail
    refine (awake_any _).mono ?_
    rintro e w2 ⟨rfl, hb2⟩
    have HB2 := Lib.hid hb2
    clear hb2
    go_wp2_with fail
    refine (awake_any _).mono ?_
    rintro e w3 ⟨rfl, hb3⟩
    have HB3 := Lib.hid (HB2.out.trans (hb3.mono HB2.out.size))
    clear hb3
    go_wp2_with fail
    go_ret
    exact ⟨rfl, HB3.out⟩
  · obtain ⟨M, hM, hls⟩ := hA.list
    have hm := made_any c0 A n c w.heap.size M w hM hls (Nat.le_refl _)
    have hok := mdE_ok c0 M
    have hln := mdE_len m M
    have hm0 := of_decide_eq_true c0
    generalize mdE m M = S at hm hok hln
    obtain ⟨l, hl⟩ : ∃ l, l = S.length := ⟨_, rfl⟩
    obtain rfl : m = (l : Int) := by omega
    have l1 : l ≤ 1024 := by omega
    have l0 : 8 ≤ l := by omega
    have HOK := Lib.hid (And.intro hok hl)
    clear hA hM hls hok hln hl hm0 c0
    go_enter Try.func4, Try.ntmps4
    go_wp2_with fail
    refine hm.mono ?_
    rintro e w1 ⟨s, x, rfl, hst, hb1⟩
    have HS1 := Lib.hid hst
    have HB1 := Lib.hid hb1
    have hak := awake_any w1
    clear hm hst hb1
    go_wp2_with fail
    refine hak.mono ?_
    rintro e w2 ⟨rfl, hb2⟩
    have HB2 := Lib.hid (HB1.out.trans (hb2.mono HB1.out.size))
    obtain ⟨g, v, h1, h2, h3⟩ := HS1.out.call hb2
    obtain ⟨gr, cr, rfl⟩ := h2.form (by have := HOK.out.2; omega)
    have e0 := h2.1.cell 0
    rw [← HOK.out.2] at e0 h2 h3
    have H1 := Lib.hid (And.intro h1 (And.intro h2 h3))
    have hc0 : w2.cell? ⟨x, 0, none⟩ = some (.slice (some ⟨gr, 0, none⟩) l cr) := e0
    clear hak hb2 h1 h2 h3 e0
    have hcf := fun i => count_f H1.out.1 HOK.out.1 i
    have hlen := len_f H1.out.1
    rw [← HOK.out.2] at hlen
    have HLE := Lib.hid (smF_le S)
    have HAL : Hid (smF S 9 = l) := by show _ = _; rw [smF_all HOK.out.1, HOK.out.2]
    go_wp2_with fail
    go_loopw [8, 9] (fun r k wr => ∃ i : Int, -1 ≤ i ∧ i ≤ 8 ∧ k = .int .i64 i ∧ r = .int .i64 (smF S (i + 1).toNat : Nat) ∧ w2 = wr) (fun _ k _ => (8 - (RowKit.intOf k)).toNat)
    case atStart => exact ⟨-1, by omega, by omega, rfl, rfl, rfl⟩
    case round =>
      obtain ⟨i, hi0, hi8, rfl, rfl, rfl⟩ := hrel
      by_cases hlt : i < 8
      · have hc := hcf i
        have HSU : Hid (smF S (i + 1 + 1).toNat = smF S (i + 1).toNat + S.count i) := by
          show _ = _
          obtain ⟨k, hk⟩ : ∃ k : Nat, i + 1 = k := ⟨(i + 1).toNat, by omega⟩
          rw [hk, show ((k : Int) + 1).toNat = k + 1 by omega, Int.toNat_natCast, show i = (k : Int) - 1 by omega]
          rfl
        have hle := HLE.out (i + 1).toNat
        have hcl := count_len S i
        rw [← HOK.out.2] at hle hcl
        have hle' : smF S (i + 1).toNat ≤ 9 * 1024 := Nat.le_trans hle (Nat.mul_le_mul (by omega) l1)
        generalize S.count i = y at hc HSU hcl
        generalize smF S (i + 1).toNat = z at HSU hle' ⊢
        have hw : IntKind.i64.wrap ((z : Int) + (y : Int)) = (z : Int) + (y : Int) := IntWalk.i64_in _ (by omega)
        have hw2 : IntKind.i64.wrap (i + 1) = i + 1 := IntWalk.i64_in _ (by omega)
        clear hcf hlen hle hle' hcl
        go_wp2_with fail
        refine hc.mono ?_
        rintro e w3 ⟨rfl, rfl⟩
        clear hc
        go_wp2_with fail
        go_roundw
        case rel => exact ⟨i + 1, by omega, by omega, rfl, by rw [HSU.out]; rfl, trivial⟩
        case measure => simp [RowKit.intOf]; omega
      · obtain rfl : i = 8 := by omega
        have e9 : smF S ((8 : Int) + 1).toNat = l := HAL.out
        rw [e9]
        clear e9 hcf
        go_wp2_with fail
        refine hlen.mono ?_
        rintro e w3 ⟨rfl, rfl⟩
        clear hlen
        go_wp2_with fail
        go_ret
        exact ⟨ret_bool (by simp), HB2.out⟩
end Go.Proofs.Ytnbphpkcpipbkaa
