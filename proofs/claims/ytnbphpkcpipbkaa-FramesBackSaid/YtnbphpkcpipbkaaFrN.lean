/- Frames: FramesBack, walked. -/
import Derived.Test.YtnbphpkcpipbkaaFrL
namespace Go.Proofs.Ytnbphpkcpipbkaa
open Go.RowKit
/-- The first j are free. -/
def bkF (I : List Int) (j : Nat) : List Int := List.replicate j 0 ++ I.drop j
theorem bk_len {I : List Int} {j : Nat} (h : j ≤ I.length) : (bkF I j).length = I.length := by
  unfold bkF; rw [List.length_append, List.length_replicate, List.length_drop]; omega
theorem bk_get (I : List Int) {j i : Nat} (h : j ≤ i) : (bkF I j)[i]? = I[i]? := by
  unfold bkF
  rw [List.getElem?_append_right (by rw [List.length_replicate]; exact h), List.length_replicate, List.getElem?_drop]
  congr 1; omega
theorem bk_step {I : List Int} {j : Nat} (h : j < I.length) : putF (bkF I j) j 1 0 = bkF I (j + 1) := by
  apply List.ext_getElem?
  intro i
  rw [put_get (by rw [bk_len (by omega)]; omega)]
  by_cases c : j ≤ i ∧ i < j + 1
  · rw [if_pos c]
    unfold bkF
    rw [List.getElem?_append_left (by rw [List.length_replicate]; omega), List.getElem?_replicate, if_pos (by omega)]
  · rw [if_neg c]
    by_cases d : i < j
    · unfold bkF
      rw [List.getElem?_append_left (by rw [List.length_replicate]; omega), List.getElem?_append_left (by rw [List.length_replicate]; omega), List.getElem?_replicate, List.getElem?_replicate, if_pos d, if_pos (by omega)]
    · rw [bk_get I (by omega), bk_get I (by omega)]
theorem bk_same {I : List Int} {j : Nat} (h : I[j]? = some 0) : bkF I j = bkF I (j + 1) := by
  have hj := (List.getElem?_eq_some_iff.1 h).1
  rw [← bk_step hj]
  apply List.ext_getElem?
  intro i
  rw [put_get (by rw [bk_len (by omega)]; omega)]
  by_cases c : j ≤ i ∧ i < j + 1
  · rw [if_pos c, bk_get I c.1, show i = j by omega, h]
  · rw [if_neg c]
theorem bk_ok {I : List Int} (h : OkF I) {j : Nat} (hj : j ≤ I.length) : OkF (bkF I j) := by
  refine ⟨by rw [bk_len hj]; exact h.l0, by rw [bk_len hj]; exact h.l1, fun x hx => ?_⟩
  unfold bkF at hx
  rcases List.mem_append.1 hx with e | e
  · have := List.eq_of_mem_replicate e
    omega
  · exact h.is x (List.mem_of_mem_drop e)
theorem bk_turn {I : List Int} (h : OkF I) {j : Nat} {y : Int} (hy : I[j]? = some y) (h0 : y ≠ 0) : tuE (bkF I j) j 1 y 0 = 0 ∧ tuL (bkF I j) j 1 y 0 = bkF I (j + 1) := by
  obtain ⟨hj, hm⟩ := List.getElem?_eq_some_iff.1 hy
  have hi := h.is y (by rw [← hm]; exact List.getElem_mem hj)
  have e : tuE (bkF I j) j 1 y 0 = 0 := by
    unfold tuE
    rw [bk_len (by omega), isF_iff.2 hi, if_neg (by rintro (c | c | c); omega; cases c; cases c), if_neg (by omega), if_neg, if_neg]
    · unfold areF
      rw [decide_eq_true]
      · decide
      · intro i hi'
        obtain rfl : i = 0 := by simp at hi'; omega
        rw [Int.toNat_natCast, Nat.add_zero, bk_get I (Nat.le_refl _), hy]
    · unfold mayF
      simp [h0]
  refine ⟨e, ?_⟩
  unfold tuL
  rw [if_pos e, Int.toNat_natCast]
  exact bk_step hj
theorem bk_all (I : List Int) : ((bkF I I.length).count 0 : Nat) = I.length := by
  unfold bkF
  rw [List.drop_length, List.append_nil, List.count_replicate]; simp
set_option maxHeartbeats 16000000 in
set_option maxRecDepth 100000 in
theorem back_walk (m : Int) (A : Option Addr) (n c : Nat) (w : World) (hA : Acs w w.heap.size A n) :
    Calls Try.prog 6 #[.int .i64 m, .slice A n c] w fun e w' => e = .returned (.bool true) ∧ Below w.heap.size w w' := by
  cases c0 : nwF m
  · clear hA
    have hm := made_no c0 (.slice A n c) w
    go_enter Try.func6, Try.ntmps6
    go_wp2_with fail
    refine hm.mono ?_
    rintro e w1 ⟨rfl, rfl⟩
    clear hm
    go_wp2_with fail
    refine (awake_any _).mono ?_
    rintro e w2 ⟨rfl, hb2⟩
    have HB2 := Lib.hid hb2
    clear hb2
    go_wp2_with fail
    refine (awake_any _).mono ?_
    rintro e w3 ⟨rfl, hb3⟩
    have HB3 := Lib.hid (HB2.out.trans (hb3.mono HB2.out.size))
    clear hb3
    go_wp2_with fail
    go_ret
    exact ⟨rfl, HB3.out⟩
  · obtain ⟨M, hM, hls⟩ := hA.list
    have hm := made_any c0 A n c w.heap.size M w hM hls (Nat.le_refl _)
    have hok := mdE_ok c0 M
    have hln := mdE_len m M
    have hm0 := of_decide_eq_true c0
    generalize mdE m M = S at hm hok hln
    obtain ⟨l, hl⟩ : ∃ l, l = S.length := ⟨_, rfl⟩
    obtain rfl : m = (l : Int) := by omega
    have l1 : l ≤ 1024 := by omega
    have l0 : 8 ≤ l := by omega
    have HOK := Lib.hid (And.intro hok hl)
    clear hA hM hls hok hln hl hm0 c0
    go_enter Try.func6, Try.ntmps6
    go_wp2_with fail
    refine hm.mono ?_
    rintro e w1 ⟨s, x, rfl, hst, hb1⟩
    have HS1 := Lib.hid hst
    have HB1 := Lib.hid hb1
    have hak := awake_any w1
    clear hm hst hb1
    go_wp2_with fail
    refine hak.mono ?_
    rintro e w2 ⟨rfl, hb2⟩
    have HB2 := Lib.hid (HB1.out.trans (hb2.mono HB1.out.size))
    obtain ⟨g, v, h1, h2, h3⟩ := HS1.out.call hb2
    obtain ⟨gr, cr, rfl⟩ := h2.form (by have := HOK.out.2; omega)
    have e0 := h2.1.cell 0
    rw [← HOK.out.2] at e0 h2 h3
    have H1 := Lib.hid (And.intro h1 (And.intro h2 h3))
    have hc0 : w2.cell? ⟨x, 0, none⟩ = some (.slice (some ⟨gr, 0, none⟩) l cr) := e0
    clear hak hb2 h1 h2 h3 e0
    clear hc0
    go_wp2_with fail
    go_loopw [8] (fun k wr => ∃ j : Nat, j ≤ l ∧ k = .int .i64 j ∧ (Fx w.heap.size wr s g (bkF S j) ∧ Rx w.heap.size wr x (.slice (some ⟨gr, 0, none⟩) l cr) S ∧ (Value.slice (some ⟨gr, 0, none⟩) l cr).ownBlock ≠ some g) ∧ Below w.heap.size w wr) (fun k _ => l - (RowKit.intOf k).toNat)
    case atStart => exact ⟨0, by omega, rfl, ⟨by rw [show bkF S 0 = S by unfold bkF; simp]; exact H1.out.1, H1.out.2⟩, HB2.out⟩
    case round =>
      obtain ⟨j, hj, rfl, ⟨k1, k2, k3⟩, hb⟩ := hrel
      have hc0 : wr.cell? ⟨x, 0, none⟩ = some (.slice (some ⟨gr, 0, none⟩) l cr) := k2.1.cell 0
      have HK := Lib.hid (And.intro k1 (And.intro k2 (And.intro k3 hb)))
      by_cases hlt : j < l
      · have hjl : j < S.length := by have := HOK.out.2; omega
        have d0 := k2.get hjl
        have HG : Hid (S[j]? = some S[j]) := List.getElem?_eq_getElem hjl
        generalize S[j] = y at d0 HG
        have j1 : (j : Int) < l := by omega
        have j0 : (0 : Int) ≤ j := by omega
        have hw3 : IntKind.i64.wrap ((j : Int) + 1) = (j : Int) + 1 := IntWalk.i64_in _ (by omega)
        clear k1 k2 k3 hb hjl
        by_cases hy : y = 0
        · have HB : Hid (bkF S j = bkF S (j + 1)) := bk_same (by rw [HG.out, hy])
          subst hy
          go_wp2_with fail
          go_roundw
          case rel => exact ⟨j + 1, by omega, by go_num, ⟨by rw [← HB.out]; exact HK.out.1, HK.out.2.1, HK.out.2.2.1⟩, HK.out.2.2.2⟩
          case measure => simp [RowKit.intOf]; omega
        · have hy1 : (y == 0) = false := by simpa using hy
          have ht := turn_f HK.out.1 (bk_ok HOK.out.1 (j := j) (by have := HOK.out.2; omega)) j 1 y 0
          rw [(bk_turn HOK.out.1 HG.out hy).1, (bk_turn HOK.out.1 HG.out hy).2] at ht
          have hy2 : (y ≠ 0) = True := eq_true hy
          go_wp2_with fail
          refine ht.mono ?_
          rintro e w3 ⟨rfl, hd⟩
          obtain ⟨q1, q2, q3⟩ := half HK.out.1 HK.out.2.1 HK.out.2.2.1 hd
          have HQ := Lib.hid (And.intro q1 (And.intro q2 (HK.out.2.2.2.trans q3)))
          clear ht hd q1 q2 q3
          go_wp2_with fail
          go_roundw
          case rel => exact ⟨j + 1, by omega, by go_num, ⟨HQ.out.1, HQ.out.2.1, HK.out.2.2.1⟩, HQ.out.2.2⟩
          case measure => simp [RowKit.intOf]; omega
      · obtain rfl : j = l := by omega
        have hc := count_f k1 (bk_ok HOK.out.1 (j := j) (by have := HOK.out.2; omega)) 0
        have hal := bk_all S
        rw [← HOK.out.2] at hal
        rw [hal] at hc
        clear k1 k2 k3 hb hal
        go_wp2_with fail
        refine hc.mono ?_
        rintro e w3 ⟨rfl, rfl⟩
        clear hc
        go_wp2_with fail
        go_ret
        exact ⟨ret_bool (by simp), HK.out.2.2.2⟩
end Go.Proofs.Ytnbphpkcpipbkaa
