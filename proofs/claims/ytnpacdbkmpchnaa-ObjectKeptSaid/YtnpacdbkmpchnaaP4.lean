/- Objects: ObjectNumbers, walked. -/
import Derived.Test.YtnpacdbkmpchnaaP3
namespace Go.Proofs.Ytnpacdbkmpchnaa
open Go.RowKit
section
variable {H : List Int} {L : List Og} {n : Nat}
theorem isB_new (H : List Int) : isB (mkH H) (H.length : Int) = true := by
  unfold mkH
  refine isB_of (by simp) ?_
  rw [getD_snoc, if_neg (by omega), if_pos rfl]; omega
theorem isB_old {i : Int} (h : isB H i = true) : i < H.length := by
  obtain ⟨j, rfl, hj, _⟩ := isB_get h
  omega
/-- An object that is made and dropped leaves its number used, and nothing else. -/
theorem made_drop (h : Bnd n H L) : drH (mkH H) (H.length : Int) = H ++ [0] ∧ drL (mkH H) L (H.length : Int) = L := by
  have hv : (mkH H).getD H.length 0 = 1 := by unfold mkH; rw [getD_snoc, if_neg (by omega), if_pos rfl]
  constructor
  · unfold drH
    rw [if_pos (isB_new H), Int.toNat_natCast, hv]
    unfold mkH
    rw [List.set_append_right _ _ (Nat.le_refl _), Nat.sub_self]
    rfl
  · unfold drL
    split
    · unfold outL
      rw [List.filter_eq_self]
      intro x hx
      have := isB_old (h.good.al x hx)
      exact decide_eq_true (by omega)
    · rfl
theorem Bnd.gone (h : Bnd n H L) : Bnd (n + 2) (H ++ [0]) L := by
  have := h.make.drop (H.length : Int)
  rw [(made_drop h).1, (made_drop h).2] at this
  exact this
theorem Bnd.gones (h : Bnd n H L) (k : Nat) : Bnd (n + 2 * k) (H ++ List.replicate k 0) L := by
  induction k with
  | zero => rw [List.replicate_zero, List.append_nil]; exact h
  | succ k ih =>
    rw [List.replicate_succ', ← List.append_assoc]
    exact ih.gone.mono (by omega)
theorem lenI_gones (k : Nat) : lenI (H ++ List.replicate k 0) = lenI H := by
  rw [lenI_append]
  have : lenI (List.replicate k 0) = 0 := by
    induction k with
    | zero => rfl
    | succ k ih => rw [List.replicate_succ]; show (if (0 : Int) < 0 then 1 else 0) + lenI (List.replicate k 0) = 0; rw [ih]; rfl
  omega
end
/-- The program's side goes on, the reference's stands. -/
def Ahead (I : ObI) (B : Nat) (w : World) (s x : Nat) (vh vl : Value) (H1 : List Int) (L1 : List Og) (H : List Int) (L : List Og) : Prop := ∃ X, I.Ob B w s X H1 L1 ∧ Rx B w x vh vl H L ∧ ∀ k, X k → ¬ MineX x vh vl k
theorem Ahead.call {I : ObI} {w w' : World} {B s x : Nat} {vh vl : Value} {H H1 : List Int} {L L1 : List Og} (h : Ahead I B w s x vh vl H1 L1 H L) (hb : Below w.heap.size w w') : Ahead I B w' s x vh vl H1 L1 H L := by
  obtain ⟨X, h1, h2, h3⟩ := h
  exact ⟨X, I.call h1 hb, h2.call hb, h3⟩
theorem Ahead.did {I : ObI} {w w' : World} {B s x : Nat} {vh vl : Value} {X : Nat → Prop} {H H1 H2 : List Int} {L L1 L2 : List Og} (h1 : I.Ob B w s X H1 L1) (h2 : Rx B w x vh vl H L) (h3 : ∀ k, X k → ¬ MineX x vh vl k) (d : DidO I.Ob B w s X H2 L2 w') : Ahead I B w' s x vh vl H2 L2 H L ∧ Below B w w' := by
  have hb := I.down h1 d
  obtain ⟨X', d1, d2, d3⟩ := d
  refine ⟨⟨X', d1, h2.keep d2.size fun k hk hl => d2.keep k hl fun e => h3 k e hk, fun k e hk => ?_⟩, hb⟩
  rcases d3 k e with e | e
  · exact h3 k e hk
  · have := (h2.mine k hk).2; omega
set_option maxHeartbeats 4000000 in
set_option maxRecDepth 100000 in
theorem numbers_walk (I : ObI) (A : Option Addr) (n c : Nat) (w : World) (hA : Acs w w.heap.size A n) :
    Calls Try.prog 7 #[.slice A n c] w fun e w' => e = .returned (.bool true) ∧ Below w.heap.size w w' := by
  obtain ⟨M, hM, hls⟩ := hA.list
  have hm := made_any I A n c w.heap.size M w hM hls (Nat.le_refl _)
  have HBD := Lib.hid (mdE_bnd M)
  generalize (mdE M).1 = H at hm HBD
  generalize (mdE M).2 = L at hm HBD
  clear hA hM hls
  go_enter Try.func7, Try.ntmps7
  go_wp2_with fail
  refine hm.mono ?_
  rintro e w1 ⟨s, x, rfl, hst, hb⟩
  have HST := Lib.hid hst
  have HB1 := Lib.hid hb
  clear hm hst hb
  go_wp2_with fail
  refine (awake_any I _).mono ?_
  rintro e w2 ⟨rfl, hb2⟩
  have HB2 : Hid (Below w.heap.size w w2) := HB1.out.trans (hb2.mono HB1.out.size)
  obtain ⟨X, vh, vl, h1, h2, h3⟩ := HST.out.call hb2
  obtain ⟨Ah, ch, hv⟩ := h2.hel.form
  have c0 := h2.c0
  rw [hv] at c0
  obtain ⟨m, hm⟩ : ∃ m, m = H.length := ⟨_, rfl⟩
  rw [← hm] at c0
  have HM := Lib.hid hm
  have HA0 : Hid (Ahead I w.heap.size w2 s x vh vl (H ++ List.replicate 0 0) L H L) := ⟨X, by rw [List.replicate_zero, List.append_nil]; exact h1, h2, h3⟩
  have hm60 : m ≤ 60 := by rw [hm]; exact HBD.out.hl
  have hm0 : 0 ≤ (m : Int) := by omega
  clear hb2 h1 h2 h3 hv hm
  go_wp2_with fail
  go_loopw [7] (fun i wr => ∃ j : Nat, j ≤ 3 ∧ i = .int .i64 j ∧ Ahead I w.heap.size wr s x vh vl (H ++ List.replicate j 0) L H L ∧ Below w.heap.size w wr) (fun i _ => 3 - (RowKit.intOf i).toNat)
  case atStart => exact ⟨0, by omega, rfl, HA0.out, HB2.out⟩
  case round =>
    obtain ⟨j, hj, rfl, ⟨X1, h1, h2, h3⟩, hb⟩ := hrel
    have HBL := Lib.hid hb
    have HBJ := Lib.hid ((HBD.out.gones j).mono (show 60 + 2 * j ≤ 66 by omega))
    have hj0 : 0 ≤ (j : Int) := by omega
    clear HA0 hb
    by_cases hlt : j < 3
    · have hjl : (j : Int) < 3 := by omega
      have hmk := I.make h1 (HBJ.out.mono (by decide))
      have hl : (((H ++ List.replicate j 0).length : Nat) : Int) = (m : Int) + j := by rw [List.length_append, List.length_replicate, ← HM.out]; omega
      rw [hl] at hmk
      have HL := Lib.hid hl
      have HH := Lib.hid (And.intro h1 (And.intro h2 h3))
      clear h1 h2 h3 hl
      go_wp2_with fail
      refine hmk.mono ?_
      rintro e w3 ⟨rfl, hd⟩
      obtain ⟨⟨X2, k1, k2, k3⟩, kb⟩ := Ahead.did HH.out.1 HH.out.2.1 HH.out.2.2 hd
      have hf : Fits ((m : Int) + j) := by unfold Fits; omega
      have hdr := I.drop k1 (HBJ.out.make.mono (by decide)) ((m : Int) + j) hf
      rw [show drH (mkH (H ++ List.replicate j 0)) ((m : Int) + j) = H ++ List.replicate (j + 1) 0 by rw [← HL.out, (made_drop HBJ.out).1, List.replicate_succ', List.append_assoc], show drL (mkH (H ++ List.replicate j 0)) L ((m : Int) + j) = L by rw [← HL.out, (made_drop HBJ.out).2]] at hdr
      have HK := Lib.hid (And.intro k1 (And.intro k2 (And.intro k3 (HBL.out.trans kb))))
      clear hmk hd k1 k2 k3 kb hf
      go_wp2_with fail
      refine hdr.mono ?_
      rintro e w4 ⟨A4, c4, rfl, -, hd⟩
      obtain ⟨ka, kb⟩ := Ahead.did HK.out.1 HK.out.2.1 HK.out.2.2.1 hd
      have HZ := Lib.hid (And.intro ka (HK.out.2.2.2.trans kb))
      clear hdr hd ka kb
      go_wp2_with fail
      go_roundw
      case rel => exact ⟨j + 1, by omega, by go_num, HZ.out.1, HZ.out.2⟩
      case measure => simp [RowKit.intOf]; omega
    · have hjl : ¬ (j : Int) < 3 := by omega
      have hln := I.len h1 (HBJ.out.mono (by decide))
      rw [lenI_gones] at hln
      have HR := Lib.hid h2
      clear h1 h2 h3
      go_wp2_with fail
      refine hln.mono ?_
      rintro e w3 ⟨rfl, hb3⟩
      have HB3 := Lib.hid (HBL.out.trans (hb3.mono HBL.out.size))
      have hlx := len_x (HR.out.call hb3)
      clear hln hb3
      go_wp2_with fail
      refine hlx.mono ?_
      rintro e w4 ⟨rfl, rfl⟩
      clear hlx
      go_wp2_with fail
      go_ret
      exact ⟨ret_bool (by simp), HB3.out⟩
end Go.Proofs.Ytnpacdbkmpchnaa
