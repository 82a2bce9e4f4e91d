/- A buffer as it lies in memory; New, Drop. -/
import Derived.Test.YtbnnfgdlkldafaaAd
import Derived.Deep.CutRange
namespace Go.Proofs.Ytbnnfgdlkldafaa
open Go.RowKit
theorem Lrow.own {X Y : World} {g : Nat} {t : TypeId} {vs : List Value} {row : Option Nat} (h : Lrow X g t vs) (hg : X.grownBy Y row) (hr : ∀ r, row = some r → ∃ o : Obj, X.heap[r]? = some o ∧ o.isCells = false) : Lrow Y g t vs :=
  h.grown hg fun e => by
    obtain ⟨o, ho, hc⟩ := hr g e.symm
    unfold Lrow at h
    rw [h] at ho
    injection ho with ho
    subst ho
    cases hc
theorem Cs.own {X Y : World} {B : Nat} {v : Value} {L : List Cd} {row : Option Nat} (h : Cs X B v L) (hg : X.grownBy Y row) (hr : ∀ r, row = some r → ∃ o : Obj, X.heap[r]? = some o ∧ o.isCells = false) : Cs Y B v L :=
  h.heap fun g e => by
    obtain ⟨vs, r, _⟩ := own_block h e
    exact (r.own hg hr).trans r.symm
theorem HoB.own {X Y : World} {b ta : Nat} {sp q n : Int} {row : Option Nat} (h : HoB b ta sp q n X) (hg : X.grownBy Y row) (hr : ∀ r, row = some r → ∃ o : Obj, X.heap[r]? = some o ∧ o.isCells = false) : HoB b ta sp q n Y :=
  ⟨h.b0.own hg hr, h.b1.own hg hr, h.b2.own hg hr, h.b3.own hg hr⟩
/-- A buffer: its struct in block ta, its lines in a row of its own. -/
structure Tb (B : Nat) (w : World) (ta z : Nat) (v : Value) (L : List Cd) : Prop where
  top : Lrow w ta 64 [.int .i64 z, v]
  own : Cs w B v L
  good : Good z L
  z1 : 1 ≤ z
  z64 : z ≤ 64
  lo : B ≤ ta
  lw : B ≤ w.heap.size
def Mine (ta : Nat) (v : Value) (k : Nat) : Prop := k = ta ∨ v.ownBlock = some k
section
variable {w w' : World} {B ta z : Nat} {v v' : Value} {L L' : List Cd}
theorem Tb.keep (h : Tb B w ta z v L) (hs : w.heap.size ≤ w'.heap.size) (hk : ∀ k, Mine ta v k → k < w.heap.size → w'.heap[k]? = w.heap[k]?) : Tb B w' ta z v L :=
  ⟨(hk ta (Or.inl rfl) h.top.lt).trans h.top, h.own.heap (fun g e => hk g (Or.inr e) (by obtain ⟨vs, r, _⟩ := own_block h.own e; exact r.lt)), h.good, h.z1, h.z64, h.lo, Nat.le_trans h.lw hs⟩
theorem Tb.call (h : Tb B w ta z v L) (hb : Below w.heap.size w w') : Tb B w' ta z v L := h.keep hb.size fun k _ hl => hb.block k hl
theorem Tb.drewN (h : Tb B w ta z v L) (k : Nat) : Tb B (w.drewN k) ta z v L := h.call (below_dN (Below.refl _ _) k)
theorem Tb.ownG (h : Tb B w ta z v L) {row : Option Nat} (hg : w.grownBy w' row) (hr : ∀ r, row = some r → ∃ o : Obj, w.heap[r]? = some o ∧ o.isCells = false) : Tb B w' ta z v L :=
  ⟨h.top.own hg hr, h.own.own hg hr, h.good, h.z1, h.z64, h.lo, Nat.le_trans h.lw hg.size⟩
theorem Tb.lt (h : Tb B w ta z v L) {k : Nat} (hk : Mine ta v k) : k < w.heap.size := by
  rcases hk with rfl | e
  · exact h.top.lt
  · obtain ⟨vs, r, _⟩ := own_block h.own e; exact r.lt
theorem Tb.hi (h : Tb B w ta z v L) {k : Nat} (hk : Mine ta v k) : B ≤ k := by
  rcases hk with rfl | e
  · exact h.lo
  · obtain ⟨vs, _, r⟩ := own_block h.own e; exact r
/-- A block of another type is none of its own. -/
theorem Tb.other (h : Tb B w ta z v L) {g : Nat} {t : TypeId} {vs : List Value} (r : Lrow w g t vs) (h1 : t ≠ 64) (h2 : t ≠ 31) : ¬ Mine ta v g := by
  rintro (rfl | e)
  · exact r.apart h.top h1 rfl
  · obtain ⟨us, r2, _⟩ := own_block h.own e
    exact r.apart r2 h2 rfl
theorem Tb.len (h : Tb B w ta z v L) : L.length ≤ 64 := Nat.le_trans h.good.len h.z64
theorem new_any (n : Int) (w : World) : (1 ≤ n ∧ n ≤ 64 → Calls Try.prog 22 #[.int .i64 n] w fun e w' => ∃ ta, e = .returned (.tuple #[.pointer (some ⟨ta, 0, none⟩), .int .i64 0]) ∧ Tb w.heap.size w' ta n.toNat (.slice none 0 0) [] ∧ Below w.heap.size w w') ∧
    (¬ (1 ≤ n ∧ n ≤ 64) → Calls Try.prog 22 #[.int .i64 n] w fun e w' => e = .returned (.tuple #[.pointer none, .int .i64 2]) ∧ w = w') := by
  constructor
  · rintro ⟨h1, h2⟩
    obtain ⟨z, rfl⟩ : ∃ z : Nat, n = z := ⟨n.toNat, by omega⟩
    have HT : Hid (Tb w.heap.size (w.alloc (.cells #[.int .i64 z, .slice none 0 0] 64)) w.heap.size z (.slice none 0 0) []) :=
      ⟨Lrow.new w _ _, Cs.nil _ _, Good.nil _, by omega, by omega, Nat.le_refl _, by simp⟩
    go_enter Try.func22, Try.ntmps22
    go_wp2
    go_ret2
    exact ⟨w.heap.size, rfl, HT.out, below_1 _⟩
  · intro h
    by_cases h1 : n < 1
    · clear h
      go_enter Try.func22, Try.ntmps22
      go_wp2
      go_ret2
      exact ⟨rfl, rfl⟩
    · have h2 : 64 < n := by omega
      have h3 : 1 ≤ n := by omega
      clear h h1
      go_enter Try.func22, Try.ntmps22
      go_wp2
      go_ret2
      exact ⟨rfl, rfl⟩
/-- What a call that drops lines does. -/
def Dropped (B : Nat) (w : World) (ta z : Nat) (v : Value) (L' : List Cd) (r : Value) (e : Ending) (w' : World) : Prop :=
  e = .returned r ∧ ∃ v', Tb B w' ta z v' L' ∧ Foot (Mine ta v) w w' ∧ v'.ownBlock = v.ownBlock
theorem Tb.c0 (h : Tb B w ta z v L) : w.cell? ⟨ta, 0, none⟩ = some (.int .i64 z) := h.top.cell 0
theorem Tb.c1 (h : Tb B w ta z v L) : w.cell? ⟨ta, 1, none⟩ = some v := h.top.cell 1
set_option maxHeartbeats 1000000 in
theorem drop_any (h : Tb B w ta z v L) (i : Int) : Calls Try.prog 20 #[.pointer (some ⟨ta, 0, none⟩), .int .i64 i] w (Dropped B w ta z v (drL L i) (.int .i64 (drE L i))) := by
  obtain ⟨A, c, rfl⟩ := h.own.form
  by_cases hin : 0 ≤ i ∧ i < L.length
  · obtain ⟨k, rfl⟩ : ∃ k : Nat, i = k := ⟨i.toNat, by omega⟩
    have hk : k < L.length := by omega
    have eE : drE L k = 0 := if_pos hin
    have eL : drL L k = L.eraseIdx k := by unfold drL; rw [if_pos hin]; rfl
    rw [eE, eL]
    obtain ⟨g, R, rfl, hB, hr, hlc, hcm, hR⟩ := h.own.row (by omega)
    have hlen := h.len
    have hdel := fun w' (hw : Lrow w' g 31 (ccells L ++ R)) => delete_any hw hk hlc hcm (by omega)
    have hel : (L.eraseIdx k).length = L.length - 1 := by rw [List.length_eraseIdx, if_pos hk]
    have hdel := hdel w hr
    have hne : ta ≠ g := h.top.apart hr (by decide)
    have HD : Hid (∀ w1, Lrow w1 g 31 (ccells (L.eraseIdx k) ++ (zcell ++ R)) → w.grownBy w1 (some g) → Dropped B w ta z (.slice (some ⟨g, 0, none⟩) L.length c) (L.eraseIdx k) (.int .i64 0) (.returned (.int .i64 0)) (w1.setCell ⟨ta, 1, none⟩ (.slice (some ⟨g, 0, none⟩) (L.length - 1) c)) ∧ w1.cell? ⟨ta, 1, none⟩ = some (.slice (some ⟨g, 0, none⟩) L.length c) ∧ w1.frozen? ⟨ta, 1, none⟩ = false) := fun w1 h1 g1 => by
      have ht1 := h.top.grown g1 (by simpa using hne)
      refine ⟨⟨rfl, _, ⟨ht1.set_ 1 _, ?_, h.good.sub (List.eraseIdx_sublist _ _), h.z1, h.z64, h.lo, by simpa [World.setCell] using Nat.le_trans h.lw g1.size⟩, ?_, rfl⟩, ht1.cell 1, ht1.frozen 1⟩
      · rw [← hel]
        refine Cs.of_row (R := zcell ++ R) (h1.far (by simpa using hne.symm) _) hB (by omega) hcm ?_
        rw [List.length_append, hR]
        simp only [zcell, List.length_cons, List.length_nil]
        omega
      · exact (Foot.grown (X := Mine ta (.slice (some ⟨g, 0, none⟩) L.length c)) g1 (Or.inr rfl)).trans (Foot.grown (X := fun k => k = ta) (grown_set w1 ta 1 _) rfl) (fun b e _ => Or.inl e)
    have k1 := h.c1
    have i0 : (0 : Int) ≤ k := by omega
    have i1 : (k : Int) < L.length := by omega
    have i2 : (L.length : Int) ≤ 64 := by omega
    obtain ⟨m, hm⟩ : ∃ m, m = L.length := ⟨_, rfl⟩
    rw [← hm] at i1 i2 k1 hdel HD ⊢
    rw [show ((k + 1 : Nat) : Int) = (k : Int) + 1 by omega] at hdel
    clear eE eL hr hlc hcm hR hlen hel hne hin hk hm h hB
    go_enter Try.func20, Try.ntmps20
    go_wp2_with (go_at_call 29; refine hdel.mono ?_; rintro e w1 ⟨rfl, h1, g1⟩; obtain ⟨hd, hc1, hf1⟩ := HD.out w1 h1 g1)
    go_ret
    exact hd
  · have HL : Hid (Dropped B w ta z (.slice A L.length c) (drL L i) (.int .i64 3) (.returned (.int .i64 3)) w) := by
      refine ⟨rfl, _, ?_, Foot.refl _ _, rfl⟩
      rw [show drL L i = L from if_neg hin]; exact h
    have eE : drE L i = 3 := if_neg hin
    rw [eE]
    have k1 := h.c1
    clear eE
    by_cases h0 : i < 0
    · clear hin h
      go_enter Try.func20, Try.ntmps20
      go_wp2
      go_ret
      exact HL.out
    · have h1 : 0 ≤ i := by omega
      have h2 : (L.length : Int) ≤ i := by omega
      clear hin h h0
      go_enter Try.func20, Try.ntmps20
      go_wp2
      go_ret
      exact HL.out
end
end Go.Proofs.Ytbnnfgdlkldafaa
