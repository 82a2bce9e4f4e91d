/- The program's objects: Frames, Drop. -/
import Derived.Test.YtnpacdbkmpchnaaM7
namespace Go.Proofs.Ytnpacdbkmpchnaa
open Go.RowKit
section
variable {w w' : World} {B : Nat} {T : ObT} {H H' : List Int} {L L' : List Og}
theorem frs_gone (hG : Good H L) {i : Int} (c : isB H i = false) : frs L i = [] := by
  cases e : frs L i with
  | nil => rfl
  | cons f r =>
    obtain ⟨x, hx, h1, _⟩ := (frs_mem hG).1 (by rw [e]; exact List.mem_cons_self .. : f ∈ frs L i)
    have := hG.al x hx
    rw [h1, c] at this
    cases this
theorem frames_o (h : ObAt B w T H L) (hb : Bnd 200 H L) {i : Int} (hi : Fits i) : Calls Try.prog 10 #[.pointer (some ⟨T.s, 0, none⟩), .int .i64 i] w (ToldI (frs L i) w) := by
  cases e : T.A i with
  | none =>
    have hf := find_no h hi e
    have hB : isB H i = false := by rw [← h.isA i, e]; rfl
    rw [frs_gone hb.good hB]
    clear h hb e hB
    go_enter Try.func10, Try.ntmps10
    go_wp2_with (go_at_call 25; (with_reducible refine hf.mono ?_); rintro e w1 ⟨rfl, rfl⟩)
    go_ret
    exact ⟨none, 0, rfl, Enc.Own.nil _ _, Below.refl _ _⟩
  | some q =>
    have hf := find_yes h hi e
    have hr := rising_o (h.row i q e) (h.fra i q e) hb.good (by have := hb.ll; omega)
    clear h hb e
    go_enter Try.func10, Try.ntmps10
    go_wp2_with (first | (go_at_call 25; (with_reducible refine hf.mono ?_); rintro e w1 ⟨rfl, rfl⟩) | (go_at_call 26; (with_reducible refine hr.mono ?_); rintro e w2 ⟨A, c, rfl, ho, hb⟩))
    go_ret
    exact ⟨A, c, rfl, ho, hb⟩
theorem updM_gone {α : Type} {A : Int → Option α} {k i : Int} {r : α} (d : updM A k none i = some r) : i ≠ k ∧ A i = some r := by
  by_cases c : i = k
  · subst c; rw [updM_same] at d; cases d
  · rw [updM_other _ _ c] at d; exact ⟨c, d⟩
/-- The object is there no more. -/
theorem ObAt.dropped (h : ObAt B w T H L) (hG : Good H L) {k m : Nat} {v : Int} {q : Nat × Nat} (e : T.A k = some q) (hv : v ≤ 0) (hh : H.length ≤ 1000) (hl : lstB H k = true) (hdr : drH H k = H.set k v) {W : World} (kk : ∀ g, g < w.heap.size → g ≠ q.1 → g ≠ T.bw → W.heap[g]? = w.heap[g]?) (hs : w.heap.size ≤ W.heap.size)
    (hW : TW.At W T.bw m (sayW (outL L k))) (hF : Foot (MineO T) w W) : ∃ w4, (∀ ty, (Builtin.delete_ #[61, 3] ty #[.map (some T.bo), .int .i64 k]).run Try.prog W = .ok (.tuple #[]) w4) ∧ W.grownBy w4 (some T.bo) ∧ DidM B w T (drH H k) (drL H L k) w4 := by
  have hr := h.row _ q e
  have hdl : drL H L k = outL L k := by unfold drL; rw [hl, if_pos rfl]
  have hG' := hG.drop (k : Int)
  rw [hdl] at hG' ⊢
  obtain ⟨k', e', k1, k2⟩ := isB_get (h.is e)
  obtain rfl : k = k' := by omega
  have n1 : T.bo ≠ q.1 := fun e => h.obj.apart hr e.symm
  obtain ⟨w4, r4, g4, s4, m4⟩ := (h.obj.heap (kk _ h.obj.lt n1 h.apb)).drop (f := (k : Int)) (by unfold FitM; have := h.obj.lt; omega)
  have k4 := keep_of g4
  have kk4 : ∀ g, g < w.heap.size → g ≠ q.1 → g ≠ T.bw → g ≠ T.bo → w4.heap[g]? = w.heap[g]? := fun g h1 h2 h3 h4 => (k4 g (by omega) h4).trans (kk g h1 h2 h3)
  rw [hdr] at hG' ⊢
  refine ⟨w4, r4, g4, ⟨T.s, T.bo, T.bw, updM T.A k none⟩, rfl, ObAt.of (n := H.length) (m := m) ?_ ?_ ?_ ?_ ?_ ?_ ?_ ?_ ?_ h.apb h.lo ?_, ?_, ?_⟩
  · rw [List.length_set]
    exact (kk4 _ h.top.lt (h.top.apart hr (by decide)) (h.own.apart h.top) (h.obj.apart h.top)).trans h.top
  · exact m4.eq fun f _ => sayO_del _ _ _
  · exact hW.heap (k4 _ (by have := h.own.lt; omega) h.apb.symm)
  · intro i
    rw [isB_set k1]
    show (updM T.A k none i).isSome = _
    by_cases c : i = (k : Int)
    · subst c; rw [updM_same, if_pos rfl, decide_eq_false (by omega)]; rfl
    · rw [updM_other _ _ c, if_neg c]; exact h.isA i
  · intro i r d
    obtain ⟨d1, d2⟩ := updM_gone d
    have hi := h.row i r d2
    obtain ⟨j, rfl, _, _⟩ := isB_get (h.is d2)
    rw [Int.toNat_natCast, getD_set _ k1, if_neg (by omega)]
    rw [Int.toNat_natCast] at hi
    exact (kk4 _ hi.lt (fun c => d1 (h.ap1 _ _ r q d2 e c)) (h.own.apart hi) (h.obj.apart hi)).trans hi
  · intro i r d
    obtain ⟨d1, d2⟩ := updM_gone d
    have hi := h.fra i r d2
    have ho := h.apo i r d2
    exact ⟨_, (hi.heap (kk4 _ hi.lt (fun c => hi.apart hr c.symm) ho.2 ho.1)).eq fun f _ => sayF_out_ hG hG' f d1⟩
  · intro i j r s d1 d2 d3
    exact h.ap1 i j r s (updM_gone d1).2 (updM_gone d2).2 d3
  · intro i j r s d1 d2 d3
    exact h.ap2 i j r s (updM_gone d1).2 (updM_gone d2).2 d3
  · intro i r d
    exact h.apo i r (updM_gone d).2
  · intro i r d
    exact h.loq i r (updM_gone d).2
  · exact hF.trans (Foot.grown (X := MineO T) g4 (Or.inr (Or.inl rfl))) fun _ e _ => e
  · rintro g (rfl | rfl | rfl | ⟨i, r, d, hg⟩)
    · exact Or.inl (Or.inl rfl)
    · exact Or.inl (Or.inr (Or.inl rfl))
    · exact Or.inl (Or.inr (Or.inr (Or.inl rfl)))
    · exact Or.inl (Or.inr (Or.inr (Or.inr ⟨i, r, (updM_gone d).2, hg⟩)))
/-- What Drop comes to. -/
def DropO (B : Nat) (w : World) (T : ObT) (H : List Int) (L : List Og) (i : Int) (e : Ending) (w' : World) : Prop :=
  ∃ A c, e = .returned (.tuple #[.slice A (drT H L i).length c, .int .i64 (hoE H i)]) ∧ EI.Own w.heap.size w' (.slice A (drT H L i).length c) (drT H L i) ∧ DidM B w T (drH H i) (drL H L i) w'
set_option maxRecDepth 100000 in
set_option maxHeartbeats 2000000 in
theorem drop_o (h : ObAt B w T H L) (hb : Bnd 200 H L) {i : Int} (hi : Fits i) : Calls Try.prog 17 #[.pointer (some ⟨T.s, 0, none⟩), .int .i64 i] w (DropO B w T H L i) := by
  by_cases c : isB H i = true
  · obtain ⟨q, e⟩ := h.here c
    have hf := find_yes h hi e
    have e0 : hoE H i = 0 := if_pos c
    obtain ⟨k, rfl, k1, k2⟩ := isB_get c
    have r := h.row _ q e
    rw [Int.toNat_natCast] at r
    have c0 := r.cell 0
    have f0 := r.frozen 0
    have hbk := hb.hb k
    have hdr : drH H k = H.set k (H.getD k 0 - 1) := by unfold drH; rw [if_pos c, Int.toNat_natCast]
    have hls : lstB H k = decide (H.getD k 0 - 1 ≤ 0) := by unfold lstB; rw [c, Int.toNat_natCast]; rfl
    obtain ⟨x, hx⟩ : ∃ x, x = H.getD k 0 := ⟨_, rfl⟩
    rw [← hx] at c0 hbk k2 hdr hls
    have s1 : IntKind.i64.wrap (x - 1) = x - 1 := IntWalk.i64_in _ (by omega)
    by_cases d : 0 < x - 1
    · have hdl : drL H L k = L := by unfold drL; rw [hls, decide_eq_false (by omega), if_neg (by decide)]
      have hdt : drT H L k = [] := by unfold drT; rw [hls, decide_eq_false (by omega), if_neg (by decide)]
      obtain ⟨_, hD, hO⟩ := h.turn e d
      have c0' := (hO.row _ q e).cell 0
      have HD : Hid (DropO B w T H L k (.returned (.tuple #[.slice none 0 0, .int .i64 0])) (w.setCell ⟨q.1, 0, none⟩ (.int .i64 (x - 1)))) := by
        unfold DropO
        rw [hdt, hdl, hdr, e0]
        exact ⟨none, 0, rfl, Enc.Own.nil _ _, hD⟩
      have dd : decide (0 < x - 1) = true := decide_eq_true d
      clear h hb c e e0 r hbk hdr hls hdl hdt hO hD c0' k1 k2 hx hi
      go_enter Try.func17, Try.ntmps17
      go_wp2_with (go_at_call 25; (with_reducible refine hf.mono ?_); rintro e w1 ⟨rfl, rfl⟩)
      go_ret2
      exact HD.out
    · have hlt : lstB H k = true := by rw [hls, decide_eq_true (by omega)]
      have hdt : drT H L k = frs L k := by unfold drT; rw [hlt, if_pos rfl]
      have dd : decide (0 < x - 1) = false := decide_eq_false d
      obtain ⟨W1, hW1⟩ : ∃ W1, W1 = w.setCell ⟨q.1, 0, none⟩ (.int .i64 (x - 1)) := ⟨_, rfl⟩
      have g1 : w.grownBy W1 (some q.1) := by rw [hW1]; exact grown_set w q.1 0 _
      have sz1 : W1.heap.size = w.heap.size := by rw [hW1]; simp [World.setCell]
      have kk1 := keep_of g1
      have r1 : Lrow W1 q.1 67 [.int .i64 (x - 1), .map (some q.2)] := by rw [hW1]; exact r.set_ 0 _
      have m1 : TF.At W1 q.2 L.length (sayF L k) := (h.fra _ q e).heap (kk1 _ (h.fra _ q e).lt (fun c => (h.fra _ q e).apart r c.symm))
      have hr := rising_o r1 m1 hb.good (by have := hb.ll; omega)
      have hk : Hid (∀ w2, Below W1.heap.size W1 w2 → ∀ W, w2.grownBy W (some T.bw) → TW.At W T.bw L.length (fun f => if f ∈ frs L k then none else sayW L f) → W.cell? ⟨T.s, 1, none⟩ = some (.map (some T.bo)) ∧ ∃ w4, (∀ ty, (Builtin.delete_ #[61, 3] ty #[.map (some T.bo), .int .i64 k]).run Try.prog W = .ok (.tuple #[]) w4) ∧ W.grownBy w4 (some T.bo) ∧ DidM B w T (drH H k) (drL H L k) w4) := fun w2 b2 W g2 mW => by
        have b2' : Below w.heap.size W1 w2 := sz1 ▸ b2
        have kk : ∀ g, g < w.heap.size → g ≠ q.1 → g ≠ T.bw → W.heap[g]? = w.heap[g]? := fun g hg h1 h2 => (keep_of g2 g (by have := b2.size; omega) h2).trans ((b2'.block g hg).trans (kk1 g hg h1))
        have hG' := hb.good.drop (k : Int)
        rw [show drL H L k = outL L k by unfold drL; rw [hlt, if_pos rfl]] at hG'
        refine ⟨(World.cell?_of_block (a := ⟨T.s, 1, none⟩) (kk _ h.top.lt (h.top.apart r (by decide)) (h.own.apart h.top))).trans h.c1, h.dropped hb.good e (by omega) (by have := hb.hl; omega) hlt hdr kk (by have := b2.size; have := g2.size; omega) (mW.eq fun f _ => sayW_out hb.good hG' f) ?_⟩
        have f1 : Foot (MineO T) w W1 := Foot.grown g1 (Or.inr (Or.inr (Or.inr ⟨_, q, e, Or.inl rfl⟩)))
        exact (f1.trans (Foot.of_below (X := MineO T) b2) fun _ e _ => e).trans (Foot.grown (X := MineO T) g2 (Or.inr (Or.inr (Or.inl rfl)))) fun _ e _ => e
      have mw1 : TW.At W1 T.bw L.length (sayW L) := h.own.heap (kk1 _ h.own.lt (fun c => h.own.apart r c.symm))
      have t1 : Lrow W1 T.s 64 [.int .i64 H.length, .map (some T.bo), .map (some T.bw)] := (kk1 _ h.top.lt (h.top.apart r (by decide))).trans h.top
      have hwlt := h.own.lt
      have holt := h.obj.lt
      have hrng : ∀ f ∈ frs L k, FitM f := fun f hf => by
        obtain ⟨y, hy, _, rfl⟩ := (frs_mem hb.good).1 hf
        have := hb.good.rg y hy
        unfold FitM; omega
      have HX : Hid (∀ (e : Ending) (w' : World), (∃ A c, e = .returned (.tuple #[.slice A (frs L k).length c, .int .i64 0]) ∧ EI.Own w.heap.size w' (.slice A (frs L k).length c) (frs L k) ∧ DidM B w T (drH H k) (drL H L k) w') → DropO B w T H L k e w') := fun e w' hh => by
        unfold DropO; rw [hdt, e0]; exact hh
      have nts : T.s ≠ T.bw := h.own.apart h.top
      have hrl := frsN_len L (k : Int) 1024
      change (frs L k).length ≤ 1024 at hrl
      obtain ⟨R, hR⟩ : ∃ R, R = frs L k := ⟨_, rfl⟩
      rw [← hR] at hr hk hrng HX hrl
      have r10 := r1.cell 0
      have HR := Lib.hid r1
      have HT := Lib.hid t1
      have HM := Lib.hid mw1
      have HN := Lib.hid hrng
      have HW := Lib.hid hW1
      have HL := Lib.hid hwlt
      have HL2 := Lib.hid holt
      have HZ := Lib.hid sz1
      have HS := Lib.hid nts
      have HLR := Lib.hid hrl
      clear h hb c e e0 r hbk hdr hls hlt hdt g1 kk1 r1 m1 t1 mw1 hrng k1 k2 hx hi hR hW1 hwlt holt sz1 nts hrl r10
      go_enter Try.func17, Try.ntmps17
      go_upto_region 5 with (go_at_call 25; (with_reducible refine hf.mono ?_); rintro e w1 ⟨rfl, rfl⟩)
      rw [← HW.out]
      have r10 : W1.cell? ⟨q.1, 0, none⟩ = some (.int .i64 (x - 1)) := HR.out.cell 0
      clear c0 f0 s1
      go_wp2_with (go_at_call 26; (with_reducible refine hr.mono ?_); rintro e w2 ⟨A, c, rfl, ho, hb2⟩)
      have HO := Lib.hid ho
      have HB := Lib.hid hb2
      obtain ⟨N, hNl⟩ : ∃ N, N = R.length := ⟨_, rfl⟩
      rw [← hNl]
      have HNL := Lib.hid hNl
      clear ho hb2 hNl r10
      have HM2 := Lib.hid (HM.out.call HB.out)
      have hN9 : N ≤ 1024 := by have := HNL.out; have := HLR.out; omega
      go_loopw [36] (fun i wr => ∃ j : Nat, j ≤ N ∧ i = .int .i64 j ∧ TW.At wr T.bw L.length (fun f => if f ∈ R.take j then none else sayW L f) ∧ w2.grownBy wr (some T.bw)) (fun i _ => N - (intOf i).toNat)
      case atStart => exact ⟨0, Nat.zero_le _, rfl, HM2.out.eq fun f _ => by rw [List.take_zero, if_neg (by simp)], World.grownBy.refl _ _⟩
      case round =>
        obtain ⟨j, hj, rfl, hm, hg⟩ := hrel
        have hsz : w.heap.size ≤ w2.heap.size := by rw [← HZ.out]; exact HB.out.size
        have hg2 : ∀ g vs, Lrow w2 g 3 vs → w.heap.size ≤ g → Lrow wr g 3 vs := fun g vs r hge => r.grown hg (by intro e; injection e with e; have := HL.out; omega)
        by_cases hlt : j < N
        · have hjl : j < R.length := by rw [← HNL.out]; exact hlt
          obtain ⟨g, rfl, hgB, hgl, -, hat⟩ := HO.out.some_ (by omega)
          have he : w2.cell? ⟨g, j, none⟩ = some (.int .i64 R[j]) := by
            have := hat j hjl 0 (by decide)
            rw [show j * EI.sz + 0 = j from by show j * 1 + 0 = j; omega] at this
            exact this
          have he2 : wr.cell? ⟨g, j, none⟩ = some (.int .i64 R[j]) := (World.cell?_of_block (a := ⟨g, j, none⟩) (keep_of hg g hgl (by have := HL.out; have := HZ.out; omega))).trans he
          have c2 : wr.cell? ⟨T.s, 2, none⟩ = some (.map (some T.bw)) := ((HT.out.call HB.out).grown hg (by intro e; injection e with e; exact HS.out e)).cell 2
          obtain ⟨w5, r5, g5, s5, m5⟩ := hm.drop (HN.out R[j] (List.getElem_mem hjl))
          have r5' : ∀ ty, (Builtin.delete_ #[62, 3] ty #[.map (some T.bw), .int .i64 R[j]]).run Try.prog wr = .ok (.tuple #[]) w5 := r5
          have HE := Lib.hid (m5.eq (M' := fun f => if f ∈ R.take (j + 1) then none else sayW L f) fun f _ => by
            have hmm : f ∈ R.take (j + 1) ↔ f ∈ R.take j ∨ f = R[j] := by rw [List.take_succ_eq_append_getElem hjl, List.mem_append, List.mem_singleton]
            by_cases e : f = R[j]
            · subst e; rw [if_pos (hmm.2 (Or.inr rfl)), updM_same]
            · rw [updM_other _ _ e]
              by_cases e2 : f ∈ R.take j
              · rw [if_pos (hmm.2 (Or.inl e2)), if_pos e2]
              · rw [if_neg (fun k => (hmm.1 k).elim e2 e), if_neg e2])
          have HG := Lib.hid (grown_trans1 hg g5)
          have jl : (j : Int) < (N : Int) := by omega
          have j0 : (0 : Int) ≤ j := by omega
          generalize R[j] = f at he2 r5'
          clear hat he r5 s5 m5 g5 hg hm hg2
          go_wp2_with fail
          go_roundw
          case rel => exact ⟨j + 1, hlt, by go_num, HE.out, HG.out⟩
          case measure => simp [intOf]; omega
        · obtain ⟨d1, w4, r4, g4, hD⟩ := hk.out w2 HB.out wr hg (hm.eq fun f _ => by rw [List.take_of_length_le (by rw [← HNL.out]; omega)])
          have jl : ¬ (j : Int) < (N : Int) := by omega
          have hown : EI.Own w.heap.size w4 (.slice A R.length c) R := by
            rw [HZ.out] at HO
            refine HO.out.heap fun g e => ?_
            obtain ⟨vs, r, hge⟩ := HO.out.block e
            have h1 := hg2 g vs r hge
            exact (keep_of g4 g h1.lt (by have := HL2.out; omega)).trans (h1.trans r.symm)
          rw [← HNL.out] at hown
          have HE : Hid (DropO B w T H L k (.returned (.tuple #[.slice A N c, .int .i64 0])) w4) := HX.out _ _ ⟨A, c, by rw [← HNL.out], by rw [← HNL.out]; exact hown, hD⟩
          clear hown hD g4 hg2 hg hm
          go_wp2_with fail
          go_ret2
          exact HE.out
  · have c' : isB H i = false := by simpa using c
    have hf := find_no h hi (h.gone c')
    have hl : lstB H i = false := by unfold lstB; rw [c']; rfl
    have HD : Hid (DropO B w T H L i (.returned (.tuple #[.slice none 0 0, .int .i64 6])) w) := by
      unfold DropO
      rw [show drT H L i = [] by unfold drT; rw [hl, if_neg (by decide)], show drL H L i = L by unfold drL; rw [hl, if_neg (by decide)], show drH H i = H from if_neg c, show hoE H i = 6 from if_neg c]
      exact ⟨none, 0, rfl, Enc.Own.nil _ _, h.did (Below.refl _ _)⟩
    clear h hb c c' hl
    go_enter Try.func17, Try.ntmps17
    go_wp2_with (go_at_call 25; (with_reducible refine hf.mono ?_); rintro e w1 ⟨rfl, rfl⟩)
    go_ret2
    exact HD.out
end
end Go.Proofs.Ytnpacdbkmpchnaa
