/- The program's objects: New, Make, Hold; what a turned cell or map leaves. -/
import Derived.Test.YtnpacdbkmpchnaaM3
namespace Go.Proofs.Ytnpacdbkmpchnaa
open Go.RowKit
section
variable {w w' : World} {B : Nat} {T : ObT} {H H' : List Int} {L L' : List Og}
/-- Laid together, whatever bounds the maps have. -/
theorem ObAt.of {n m : Nat} (top : Lrow w T.s 64 [.int .i64 H.length, .map (some T.bo), .map (some T.bw)]) (obj : TO.At w T.bo n (sayO T.A)) (own : TW.At w T.bw m (sayW L)) (isA : ∀ i, (T.A i).isSome = isB H i)
    (row : ∀ i q, T.A i = some q → Lrow w q.1 67 [.int .i64 (H.getD i.toNat 0), .map (some q.2)]) (fra : ∀ i q, T.A i = some q → ∃ n, TF.At w q.2 n (sayF L i))
    (ap1 : ∀ i j q r, T.A i = some q → T.A j = some r → q.1 = r.1 → i = j) (ap2 : ∀ i j q r, T.A i = some q → T.A j = some r → q.2 = r.2 → i = j) (apo : ∀ i q, T.A i = some q → q.2 ≠ T.bo ∧ q.2 ≠ T.bw) (apb : T.bo ≠ T.bw)
    (lo : B ≤ T.s ∧ B ≤ T.bo ∧ B ≤ T.bw) (loq : ∀ i q, T.A i = some q → B ≤ q.1 ∧ B ≤ q.2) : ObAt B w T H L := by
  refine ⟨top, ?_, ?_, isA, row, fun i q e => ?_, ap1, ap2, apo, apb, lo, loq⟩
  · have := obj.small ((List.range H.length).map fun k => ((k : Nat) : Int)) fun f _ hne => by
      have hb : isB H f = true := by
        rw [← isA f]
        unfold sayO at hne
        cases c : T.A f with
        | none => rw [c] at hne; exact absurd rfl hne
        | some q => rfl
      obtain ⟨k, rfl, k1, _⟩ := isB_get hb
      exact List.mem_map.2 ⟨k, List.mem_range.2 k1, rfl⟩
    rw [List.length_map, List.length_range] at this
    exact this
  · have := own.small (L.map Og.f) fun f _ hne => by
      obtain ⟨x, hx, e⟩ := sayW_mem hne
      exact List.mem_map.2 ⟨x, hx, e⟩
    rw [List.length_map] at this
    exact this
  · obtain ⟨n, hn⟩ := fra i q e
    have := hn.small (L.map Og.p) fun f _ hne => by
      obtain ⟨x, hx, _, e⟩ := sayF_mem hne
      exact List.mem_map.2 ⟨x, hx, e⟩
    rw [List.length_map] at this
    exact this
theorem updM_some {α : Type} {A : Int → Option α} {i j : Int} {q r : α} (h : updM A i (some q) j = some r) : (j = i ∧ r = q) ∨ (j ≠ i ∧ A j = some r) := by
  by_cases e : j = i
  · subst e; rw [updM_same] at h; injection h with h; exact Or.inl ⟨rfl, h.symm⟩
  · rw [updM_other _ _ e] at h; exact Or.inr ⟨e, h⟩
theorem sayO_upd (A : Int → Option (Nat × Nat)) (i : Int) (q : Nat × Nat) (f : Int) : sayO (updM A i (some q)) f = updM (sayO A) i (some (.pointer (some ⟨q.1, 0, none⟩))) f := by
  by_cases e : f = i
  · subst e; unfold sayO; rw [updM_same, updM_same]; rfl
  · unfold sayO; rw [updM_other _ _ e, updM_other _ _ e]
theorem sayO_del (A : Int → Option (Nat × Nat)) (i f : Int) : sayO (updM A i none) f = updM (sayO A) i none f := by
  by_cases e : f = i
  · subst e; unfold sayO; rw [updM_same, updM_same]; rfl
  · unfold sayO; rw [updM_other _ _ e, updM_other _ _ e]
/-! New. -/
def NewedO (w : World) (e : Ending) (w' : World) : Prop := ∃ s X, e = .returned (.pointer (some ⟨s, 0, none⟩)) ∧ theOb w.heap.size w' s X [] [] ∧ Below w.heap.size w w'
theorem newedO (w : World) : NewedO w (.returned (.pointer (some ⟨w.heap.size + 1 + 1, 0, none⟩))) (((w.alloc (.map #[] 0)).alloc (.map #[] 0)).alloc (.cells #[.int .i64 0, .map (some w.heap.size), .map (some (w.heap.size + 1))] 64)) := by
  obtain ⟨W1, hW1⟩ : ∃ W1, W1 = w.alloc (.map #[] 0) := ⟨_, rfl⟩
  obtain ⟨W2, hW2⟩ : ∃ W2, W2 = W1.alloc (.map #[] 0) := ⟨_, rfl⟩
  have s1 : W1.heap.size = w.heap.size + 1 := by rw [hW1]; simp
  have s2 : W2.heap.size = w.heap.size + 1 + 1 := by rw [hW2]; simp [s1]
  have b1 : Below w.heap.size w W1 := by rw [hW1]; exact below_new _ _
  have b2 : Below W1.heap.size W1 W2 := by rw [hW2]; exact below_new _ _
  have m1 : TO.At W1 w.heap.size 0 (fun _ => none) := by rw [hW1]; exact MapTy.new w
  have m2 : TW.At W2 W1.heap.size 0 (fun _ => none) := by rw [hW2]; exact MapTy.new W1
  rw [← hW1, ← hW2]
  obtain ⟨W3, hW3⟩ : ∃ W3, W3 = W2.alloc (.cells #[.int .i64 0, .map (some w.heap.size), .map (some (w.heap.size + 1))] 64) := ⟨_, rfl⟩
  have b3 : Below W2.heap.size W2 W3 := by rw [hW3]; exact below_new _ _
  have r3 : Lrow W3 W2.heap.size 64 [.int .i64 0, .map (some w.heap.size), .map (some (w.heap.size + 1))] := by rw [hW3]; exact Lrow.new W2 _ [.int .i64 0, .map (some w.heap.size), .map (some (w.heap.size + 1))]
  rw [← hW3, ← s2]
  refine ⟨W2.heap.size, _, rfl, ⟨⟨W2.heap.size, w.heap.size, w.heap.size + 1, fun _ => none⟩, rfl, rfl, ?_⟩, b1.trans ((b2.trans (b3.mono b2.size)).mono b1.size)⟩
  rw [s1] at m2
  exact ⟨r3, (m1.call b2).call b3, (m2.call b3).eq fun f _ => sayW_no fun x hx => absurd hx (by simp), fun i => by
    show false = isB [] i
    cases c : isB [] i
    · rfl
    · obtain ⟨k, _, k1, _⟩ := isB_get c
      exact absurd k1 (by simp), fun i q e => (by cases e), fun i q e => (by cases e), fun i j q r e => (by cases e), fun i j q r e => (by cases e), fun i q e => (by cases e), (by show w.heap.size ≠ w.heap.size + 1; omega), ⟨by show _ ≤ W2.heap.size; omega, Nat.le_refl _, by show w.heap.size ≤ w.heap.size + 1; omega⟩, fun i q e => (by cases e)⟩
theorem new_o (w : World) : Calls Try.prog 13 #[] w (NewedO w) := by
  have hmm := @run_makeMap Try.prog
  have H := newedO w
  go_enter Try.func13, Try.ntmps13
  go_wp2
  go_ret
  exact H
/-! Make. -/
theorem ObAt.made (h : ObAt B w T H L) (hG : Good H L) (hl : H.length ≤ 1000) {W3 : World} (h3 : W3 = ((w.setCell ⟨T.s, 0, none⟩ (.int .i64 ((H.length : Int) + 1))).alloc (.map #[] 0)).alloc (.cells #[.int .i64 1, .map (some w.heap.size)] 67)) :
    ∃ w4, (Instr.mapUpdate 61 (.map (some T.bo)) (.int .i64 H.length) (.pointer (some ⟨w.heap.size + 1, 0, none⟩))).run Try.prog W3 = .ok () w4 ∧ DidM B w T (mkH H) L w4 := by
  rw [show ((H.length : Int) + 1) = ((H.length + 1 : Nat) : Int) by omega] at h3
  obtain ⟨W1, hW1⟩ : ∃ W1, W1 = w.setCell ⟨T.s, 0, none⟩ (.int .i64 (H.length + 1 : Nat)) := ⟨_, rfl⟩
  obtain ⟨W2, hW2⟩ : ∃ W2, W2 = W1.alloc (.map #[] 0) := ⟨_, rfl⟩
  rw [← hW1, ← hW2] at h3
  have g1 : w.grownBy W1 (some T.s) := by rw [hW1]; exact grown_set w T.s 0 _
  have s1 : W1.heap.size = w.heap.size := by rw [hW1]; simp [World.setCell]
  have s2 : W2.heap.size = w.heap.size + 1 := by rw [hW2]; simp [s1]
  have s3 : W3.heap.size = w.heap.size + 1 + 1 := by rw [h3]; simp [s2]
  have b2 : Below W1.heap.size W1 W2 := by rw [hW2]; exact below_new _ _
  have b3 : Below W2.heap.size W2 W3 := by rw [h3]; exact below_new _ _
  have b13 : Below W1.heap.size W1 W3 := b2.trans (b3.mono b2.size)
  have m2 : TF.At W2 w.heap.size 0 (fun _ => none) := by have := MapTy.new (T := TF) W1; rw [s1, ← hW2] at this; exact this
  have r3 : Lrow W3 (w.heap.size + 1) 67 [.int .i64 1, .map (some w.heap.size)] := by have := Lrow.new W2 67 [.int .i64 1, .map (some w.heap.size)]; rw [s2, ← h3] at this; exact this
  have t1 : Lrow W1 T.s 64 [.int .i64 (H.length + 1 : Nat), .map (some T.bo), .map (some T.bw)] := by rw [hW1]; exact h.top.set_ 0 _
  have n1 : T.bo ≠ T.s := fun e => h.obj.apart h.top e.symm
  have n2 : T.bw ≠ T.s := fun e => h.own.apart h.top e.symm
  have k3 : ∀ k, k < w.heap.size → k ≠ T.s → W3.heap[k]? = w.heap[k]? := fun k hk hne => (b13.block k (by omega)).trans (g1.block k hk (by intro e; injection e with e; exact hne e))
  have hob : TO.At W3 T.bo H.length (sayO T.A) := h.obj.heap (k3 _ h.obj.lt n1)
  obtain ⟨w4, hr, g4, s4, m4⟩ := hob.put (by omega) (f := H.length) (.pointer (some ⟨w.heap.size + 1, 0, none⟩)) (by unfold FitM; omega)
  have k4 : ∀ k, k < W3.heap.size → k ≠ T.bo → w4.heap[k]? = W3.heap[k]? := fun k hk hne => g4.block k hk (by intro e; injection e with e; exact hne e)
  have hno : isB H (H.length : Int) = false := by
    cases c : isB H (H.length : Int)
    · rfl
    · obtain ⟨k, e, k1, _⟩ := isB_get c
      omega
  have hbo := h.obj.lt
  have hle : (mkH H).length = H.length + 1 := by unfold mkH; simp
  refine ⟨w4, hr, ⟨T.s, T.bo, T.bw, updM T.A H.length (some (w.heap.size + 1, w.heap.size))⟩, rfl, ObAt.of (n := H.length + 1) (m := L.length) ?_ ?_ ?_ ?_ ?_ ?_ ?_ ?_ ?_ h.apb h.lo ?_, ?_, ?_⟩
  · have := (t1.call b2).call b3
    have := this.grown g4 (by intro e; injection e with e; exact n1 e.symm)
    rw [hle]
    exact this
  · exact m4.eq fun f _ => sayO_upd _ _ _ _
  · exact (h.own.heap (k3 _ h.own.lt n2)).heap (k4 _ (by have := h.own.lt; omega) h.apb.symm)
  · intro i
    rw [isB_make]
    show (updM T.A H.length (some (w.heap.size + 1, w.heap.size)) i).isSome = _
    by_cases e : i = (H.length : Int)
    · subst e; rw [updM_same, if_pos rfl]; rfl
    · rw [updM_other _ _ e, if_neg e]; exact h.isA i
  · intro i q e
    rcases updM_some e with ⟨rfl, rfl⟩ | ⟨hne, e⟩
    · have := r3.grown g4 (by intro e; injection e with e; omega)
      rw [Int.toNat_natCast, show (mkH H).getD H.length 0 = 1 by unfold mkH; rw [getD_snoc, if_neg (by omega), if_pos rfl]]
      exact this
    · obtain ⟨k, rfl, k1, _⟩ := isB_get (h.is e)
      rw [Int.toNat_natCast, show (mkH H).getD k 0 = H.getD k 0 by unfold mkH; rw [getD_snoc, if_pos k1]]
      have r := h.row _ q e
      rw [Int.toNat_natCast] at r
      have a1 : q.1 ≠ T.s := r.apart h.top (by decide)
      have a2 : q.1 ≠ T.bo := h.obj.apart r
      exact ((k4 _ (by have := r.lt; omega) a2).trans (k3 _ r.lt a1)).trans r
  · intro i q e
    rcases updM_some e with ⟨rfl, rfl⟩ | ⟨hne, e⟩
    · refine ⟨_, ((m2.call b3).heap (k4 _ (by show w.heap.size < _; omega) (by show w.heap.size ≠ _; omega))).eq fun f _ => sayF_out hG hno⟩
    · have r := h.fra i q e
      have a1 : q.2 ≠ T.s := fun e2 => r.apart h.top e2.symm
      exact ⟨_, (r.heap (k3 _ r.lt a1)).heap (k4 _ (by have := r.lt; omega) (h.apo i q e).1)⟩
  · intro i j q r e1 e2 e3
    rcases updM_some e1 with ⟨rfl, rfl⟩ | ⟨_, d1⟩
    · rcases updM_some e2 with ⟨rfl, rfl⟩ | ⟨_, d2⟩
      · rfl
      · have := (h.row _ _ d2).lt; have e3 : w.heap.size + 1 = r.1 := e3; omega
    · rcases updM_some e2 with ⟨rfl, rfl⟩ | ⟨_, d2⟩
      · have := (h.row _ _ d1).lt; have e3 : q.1 = w.heap.size + 1 := e3; omega
      · exact h.ap1 i j q r d1 d2 e3
  · intro i j q r e1 e2 e3
    rcases updM_some e1 with ⟨rfl, rfl⟩ | ⟨_, d1⟩
    · rcases updM_some e2 with ⟨rfl, rfl⟩ | ⟨_, d2⟩
      · rfl
      · have := (h.fra _ _ d2).lt; have e3 : w.heap.size = r.2 := e3; omega
    · rcases updM_some e2 with ⟨rfl, rfl⟩ | ⟨_, d2⟩
      · have := (h.fra _ _ d1).lt; have e3 : q.2 = w.heap.size := e3; omega
      · exact h.ap2 i j q r d1 d2 e3
  · intro i q e
    rcases updM_some e with ⟨rfl, rfl⟩ | ⟨_, d⟩
    · have := h.own.lt
      exact ⟨by show w.heap.size ≠ T.bo; omega, by show w.heap.size ≠ T.bw; omega⟩
    · exact h.apo i q d
  · intro i q e
    have := h.lw
    rcases updM_some e with ⟨rfl, rfl⟩ | ⟨_, d⟩
    · exact ⟨by show B ≤ w.heap.size + 1; omega, this⟩
    · exact h.loq i q d
  · have f1 : Foot (MineO T) w W1 := Foot.grown g1 (Or.inl rfl)
    have f3 : Foot (MineO T) w W3 := f1.trans (Foot.of_below (X := MineO T) b13) fun _ e _ => e
    exact f3.trans (Foot.grown (X := MineO T) g4 (Or.inr (Or.inl rfl))) fun _ e _ => e
  · rintro k (rfl | rfl | rfl | ⟨i, q, e, hk⟩)
    · exact Or.inl (Or.inl rfl)
    · exact Or.inl (Or.inr (Or.inl rfl))
    · exact Or.inl (Or.inr (Or.inr (Or.inl rfl)))
    · rcases updM_some e with ⟨rfl, rfl⟩ | ⟨_, d⟩
      · rcases hk with rfl | rfl
        · exact Or.inr (Nat.le_succ _)
        · exact Or.inr (Nat.le_refl _)
      · exact Or.inl (Or.inr (Or.inr (Or.inr ⟨i, q, d, hk⟩)))
set_option maxRecDepth 100000 in
theorem make_o (h : ObAt B w T H L) (hG : Good H L) (hl : H.length ≤ 1000) : Calls Try.prog 14 #[.pointer (some ⟨T.s, 0, none⟩)] w fun e w' => e = .returned (.int .i64 H.length) ∧ DidM B w T (mkH H) L w' := by
  have hmm := @run_makeMap Try.prog
  obtain ⟨w4, hr, hD⟩ := h.made hG hl rfl
  have c0 := h.c0
  have c1 := h.c1
  have f0 := h.top.frozen 0
  have hlt := h.top.lt
  have HD := Lib.hid hD
  have e1 : IntKind.i64.wrap ((H.length : Int) + 1) = (H.length : Int) + 1 := by rw [IntKind.wrap_i64]; omega
  generalize H.length = n at *
  clear h hG hl hD
  go_enter Try.func14, Try.ntmps14
  go_wp2_with fail
  go_ret
  exact ⟨rfl, HD.out⟩
/-! Hold, and Drop where it is held on. -/
theorem ObAt.turn (h : ObAt B w T H L) {k : Nat} {q : Nat × Nat} (e : T.A k = some q) {v : Int} (hv : 0 < v) : w.frozen? ⟨q.1, 0, none⟩ = false ∧ DidM B w T (H.set k v) L (w.setCell ⟨q.1, 0, none⟩ (.int .i64 v)) ∧ ObAt B (w.setCell ⟨q.1, 0, none⟩ (.int .i64 v)) T (H.set k v) L := by
  have r := h.row _ q e
  rw [Int.toNat_natCast] at r
  obtain ⟨k', e', k1, k2⟩ := isB_get (h.is e)
  obtain rfl : k = k' := by omega
  have g1 := grown_set w q.1 0 (.int .i64 v)
  have kk : ∀ g, g < w.heap.size → g ≠ q.1 → (w.setCell ⟨q.1, 0, none⟩ (.int .i64 v)).heap[g]? = w.heap[g]? := fun g hg hne => g1.block g hg (by intro e; injection e with e; exact hne e)
  have hO : ObAt B (w.setCell ⟨q.1, 0, none⟩ (.int .i64 v)) T (H.set k v) L := by
    refine ⟨?_, ?_, ?_, fun i => ?_, fun i p ei => ?_, fun i p ei => ?_, h.ap1, h.ap2, h.apo, h.apb, h.lo, h.loq⟩
    · rw [List.length_set]
      exact (kk _ h.top.lt (h.top.apart r (by decide))).trans h.top
    · rw [List.length_set]
      exact h.obj.heap (kk _ h.obj.lt (fun e => h.obj.apart r e.symm))
    · exact h.own.heap (kk _ h.own.lt (fun e => h.own.apart r e.symm))
    · rw [isB_set k1, h.isA i]
      by_cases c : i = (k : Int)
      · subst c; rw [if_pos rfl, decide_eq_true hv]; exact isB_of k1 k2
      · rw [if_neg c]
    · by_cases c : i = (k : Int)
      · subst c
        rw [e] at ei
        injection ei with ei
        subst ei
        rw [Int.toNat_natCast, getD_set _ k1, if_pos rfl]
        exact r.set_ 0 _
      · obtain ⟨m, rfl, _, _⟩ := isB_get (h.is ei)
        rw [Int.toNat_natCast, getD_set _ k1, if_neg (by omega)]
        have := h.row _ p ei
        rw [Int.toNat_natCast] at this
        exact (kk _ this.lt (fun e2 => c (h.ap1 _ _ p q ei e e2))).trans this
    · have := h.fra i p ei
      exact this.heap (kk _ this.lt (fun e => this.apart r e.symm))
  exact ⟨r.frozen 0, ⟨T, rfl, hO, Foot.grown (X := MineO T) g1 (Or.inr (Or.inr (Or.inr ⟨_, q, e, Or.inl rfl⟩))), fun _ e => Or.inl e⟩, hO⟩
theorem hold_o (h : ObAt B w T H L) (hb : Bnd 200 H L) {i : Int} (hi : Fits i) : Calls Try.prog 16 #[.pointer (some ⟨T.s, 0, none⟩), .int .i64 i] w fun e w' => e = .returned (.int .i64 (hoE H i)) ∧ DidM B w T (hoH H i) L w' := by
  by_cases c : isB H i = true
  · obtain ⟨q, e⟩ := h.here c
    rw [show hoE H i = 0 from if_pos c, show hoH H i = H.set i.toNat (H.getD i.toNat 0 + 1) from if_pos c]
    have hf := find_yes h hi e
    obtain ⟨k, rfl, k1, k2⟩ := isB_get c
    rw [Int.toNat_natCast]
    have r := h.row _ q e
    rw [Int.toNat_natCast] at r
    have c0 := r.cell 0
    have hbk := hb.hb k
    obtain ⟨x, hx⟩ : ∃ x, x = H.getD k 0 := ⟨_, rfl⟩
    rw [← hx] at c0 hbk k2 ⊢
    obtain ⟨f0, hD, _⟩ := h.turn e (v := x + 1) (by omega)
    have HD := Lib.hid hD
    have s1 : IntKind.i64.wrap (x + 1) = x + 1 := IntWalk.i64_in _ (by omega)
    clear h hb r hD hx c e k1
    go_enter Try.func16, Try.ntmps16
    go_wp2_with (go_at_call 25; (with_reducible refine hf.mono ?_); rintro e w1 ⟨rfl, rfl⟩)
    go_ret
    exact ⟨rfl, HD.out⟩
  · have c' : isB H i = false := by simpa using c
    rw [show hoE H i = 6 from if_neg c, show hoH H i = H from if_neg c]
    have hf := find_no h hi (h.gone c')
    have HD := Lib.hid (h.did (Below.refl w.heap.size w))
    clear h hb c c'
    go_enter Try.func16, Try.ntmps16
    go_wp2_with (go_at_call 25; (with_reducible refine hf.mono ?_); rintro e w1 ⟨rfl, rfl⟩)
    go_ret
    exact ⟨rfl, HD.out⟩
end
end Go.Proofs.Ytnpacdbkmpchnaa
