/- The reference of objects as it lies; what it reads. -/
import Derived.Test.YtnpacdbkmpchnaaProg
import Derived.Test.YtnpacdbkmpchnaaO0
import Derived.Test.YtnpacdbkmpchnaaK0
import Derived.BigQuiet
import Derived.Deep.QuietTactic
import Derived.Deep.RegionHeld3
import Derived.Deep.LoopGhost
import Derived.Deep.CutRange
import Derived.Deep.RegionLaw
import Derived.WalkLawsBesides
import Derived.IntWalk
import Derived.Outline
import Derived.StillTailTactics
namespace Go.Proofs.Ytnpacdbkmpchnaa
open Go.RowKit
def Fits (n : Int) : Prop := -9223372036854775808 ≤ n ∧ n ≤ 9223372036854775807
def EOg : Enc Try.prog Og where
  enc x := [.int .i64 x.i, .int .i64 x.p, .int .i64 x.f]
  sz := 3
  el := 70
  sl := 30
  zero := .agg #[.int .i64 0, .int .i64 0, .int .i64 0]
  bytes := 24
  len _ := rfl
  one a u h := by
    simp only [List.mem_cons, List.not_mem_nil, or_false] at h
    rcases h with rfl | rfl | rfl <;> rfl
  pos := by decide
  zsz := rfl
  und := by kernel_rfl
  info := by kernel_rfl
  small := by decide
def EI : Enc Try.prog Int where
  enc x := [.int .i64 x]
  sz := 1
  el := 3
  sl := 29
  zero := .int .i64 0
  bytes := 8
  len _ := rfl
  one a u h := by
    simp only [List.mem_cons, List.not_mem_nil, or_false] at h
    rcases h with rfl
    rfl
  pos := by decide
  zsz := rfl
  und := by kernel_rfl
  info := by kernel_rfl
  small := by decide
theorem below_new (w : World) (o : Obj) : Below w.heap.size w (w.alloc o) := (Below.refl _ _).alloc (Nat.le_refl _) o
theorem og_at {w : World} {g o : Nat} {x : Og} (h : EOg.At w g o x) : w.cell? ⟨g, o, none⟩ = some (.int .i64 x.i) ∧ w.cell? ⟨g, o + 1, none⟩ = some (.int .i64 x.p) ∧ w.cell? ⟨g, o + 2, none⟩ = some (.int .i64 x.f) :=
  ⟨h 0 (by decide), h 1 (by decide), h 2 (by decide)⟩
/-- The reference: its struct in block xa, both lists in rows. -/
structure Rx (B : Nat) (w : World) (xa : Nat) (vh vl : Value) (H : List Int) (L : List Og) : Prop where
  top : Lrow w xa 32 [vh, vl]
  hel : EI.Own B w vh H
  ons : EOg.Own B w vl L
  lo : B ≤ xa
  lw : B ≤ w.heap.size
  hl : H.length ≤ 1000
  ll : L.length ≤ 1000
section
variable {w w' : World} {B xa : Nat} {vh vl : Value} {H : List Int} {L : List Og}
theorem Rx.keep (h : Rx B w xa vh vl H L) (hs : w.heap.size ≤ w'.heap.size) (hk : ∀ k, (k = xa ∨ vh.ownBlock = some k ∨ vl.ownBlock = some k) → k < w.heap.size → w'.heap[k]? = w.heap[k]?) : Rx B w' xa vh vl H L :=
  ⟨(hk xa (Or.inl rfl) h.top.lt).trans h.top, h.hel.heap (fun g e => hk g (Or.inr (Or.inl e)) (by obtain ⟨vs, r, _⟩ := h.hel.block e; exact r.lt)), h.ons.heap (fun g e => hk g (Or.inr (Or.inr e)) (by obtain ⟨vs, r, _⟩ := h.ons.block e; exact r.lt)), h.lo, Nat.le_trans h.lw hs, h.hl, h.ll⟩
theorem Rx.call (h : Rx B w xa vh vl H L) (hb : Below w.heap.size w w') : Rx B w' xa vh vl H L := h.keep hb.size fun k _ hl => hb.block k hl
theorem Rx.drewN (h : Rx B w xa vh vl H L) (k : Nat) : Rx B (w.drewN k) xa vh vl H L := h.call (below_dN (Below.refl _ _) k)
theorem Rx.c0 (h : Rx B w xa vh vl H L) : w.cell? ⟨xa, 0, none⟩ = some vh := h.top.cell 0
theorem Rx.c1 (h : Rx B w xa vh vl H L) : w.cell? ⟨xa, 1, none⟩ = some vl := h.top.cell 1
/-- The number at a place. -/
theorem Rx.held (h : Rx B w xa vh vl H L) {A : Option Addr} {n c : Nat} (hv : vh = .slice A n c) {j : Nat} (hj : j < H.length) : n = H.length ∧ ∃ g, A = some ⟨g, 0, none⟩ ∧ B ≤ g ∧ w.cell? ⟨g, j, none⟩ = some (.int .i64 (H.getD j 0)) := by
  subst hv
  have hn : n = H.length := by obtain ⟨_, _, e⟩ := h.hel.form; injection e
  obtain ⟨g, e, hB, hl, -, hat⟩ := h.hel.some_ (by omega)
  refine ⟨hn, g, e, hB, ?_⟩
  have := hat j hj 0 (by decide)
  rw [List.getD_eq_getElem?_getD, List.getElem?_eq_getElem hj]
  rw [show j * EI.sz + 0 = j from by show j * 1 + 0 = j; omega] at this
  exact this
theorem Rx.on (h : Rx B w xa vh vl H L) {A : Option Addr} {n c : Nat} (hv : vl = .slice A n c) {j : Nat} (hj : j < L.length) : n = L.length ∧ ∃ g, A = some ⟨g, 0, none⟩ ∧ B ≤ g ∧ EOg.At w g (j * 3) L[j] := by
  subst hv
  have hn : n = L.length := by obtain ⟨_, _, e⟩ := h.ons.form; injection e
  obtain ⟨g, e, hB, hl, -, hat⟩ := h.ons.some_ (by omega)
  exact ⟨hn, g, e, hB, hat j hj⟩
set_option maxRecDepth 100000 in
theorem is_x (h : Rx B w xa vh vl H L) (i : Int) : Calls Try.prog 38 #[.pointer (some ⟨xa, 0, none⟩), .int .i64 i] w fun e w' => e = .returned (.bool (isB H i)) ∧ w = w' := by
  obtain ⟨A, c, hv⟩ := h.hel.form
  have c0 := h.c0
  rw [hv] at c0
  have hl := h.hl
  by_cases h1 : 0 ≤ i
  · by_cases h2 : i < H.length
    · obtain ⟨j, rfl⟩ : ∃ j : Nat, i = j := ⟨i.toNat, by omega⟩
      obtain ⟨-, g, rfl, -, cj⟩ := h.held hv (j := j) (by omega)
      have HI : Hid (isB H j = decide (0 < H.getD j 0)) := by show _ = _; unfold isB; rw [decide_eq_true h1, decide_eq_true h2, Int.toNat_natCast]; rfl
      generalize H.getD j 0 = x at cj HI
      generalize H.length = n at c0 h2 hl
      clear h hv h1
      have j0 : (0 : Int) ≤ j := by omega
      go_enter Try.func38, Try.ntmps38
      go_wp2
      go_ret
      exact ⟨ret_bool HI.out.symm, rfl⟩
    · have HI : Hid (isB H i = false) := by show _ = _; unfold isB; rw [decide_eq_false h2, Bool.and_false, Bool.false_and]
      have h3 : decide (i < (H.length : Int)) = false := decide_eq_false h2
      generalize H.length = n at c0 h2 hl h3
      clear h hv
      go_enter Try.func38, Try.ntmps38
      go_wp2
      go_ret
      exact ⟨ret_bool HI.out.symm, rfl⟩
  · have HI : Hid (isB H i = false) := by show _ = _; unfold isB; rw [decide_eq_false h1]; rfl
    have h3 : decide (0 ≤ i) = false := decide_eq_false h1
    clear h hv hl
    go_enter Try.func38, Try.ntmps38
    go_wp2
    go_ret
    exact ⟨ret_bool HI.out.symm, rfl⟩
set_option maxRecDepth 100000 in
theorem of_x (h : Rx B w xa vh vl H L) (f : Int) : Calls Try.prog 31 #[.pointer (some ⟨xa, 0, none⟩), .int .i64 f] w fun e w' => e = .returned (.int .i64 (ofI L f)) ∧ w = w' := by
  obtain ⟨A, c, hv⟩ := h.ons.form
  obtain ⟨n, hn⟩ : ∃ n, n = L.length := ⟨_, rfl⟩
  have c1 := h.c1
  rw [hv, ← hn] at c1
  have n9 : (n : Int) ≤ 1000 := by have := h.ll; omega
  have HX := Lib.hid (And.intro h hv)
  have HN := Lib.hid hn
  clear h hv hn
  go_enter Try.func31, Try.ntmps31
  go_wp2
  go_loopw [5] (fun i wr => ∃ j : Nat, j ≤ n ∧ i = .int .i64 j ∧ j ≤ fi (byF f) L ∧ w = wr) (fun i _ => n - (RowKit.intOf i).toNat)
  case atStart => exact ⟨0, Nat.zero_le _, rfl, Nat.zero_le _, rfl⟩
  case round =>
    obtain ⟨j, hj, rfl, hji, rfl⟩ := hrel
    by_cases hlt : j < n
    · have hjl : j < L.length := by rw [← HN.out]; exact hlt
      obtain ⟨-, g, rfl, -, hat⟩ := HX.out.1.on HX.out.2 hjl
      obtain ⟨-, -, d2⟩ := og_at hat
      obtain ⟨x, hx⟩ : ∃ x, x = L[j].f := ⟨_, rfl⟩
      rw [← hx] at d2
      have HXX := Lib.hid hx
      have j0 : (0 : Int) ≤ j := by omega
      have j1 : (j : Int) < n := by omega
      clear hat hx
      by_cases he : x = f
      · subst he
        have HE : Hid (ofI L x = j) := by
          show _ = _
          have hz : ¬ j < fi (byF x) L := fun e => by
            have := fi_lt e hjl
            unfold byF at this
            rw [← HXX.out, decide_eq_true rfl] at this
            cases this
          have e : fi (byF x) L = j := by omega
          rw [ofI_yes (by rw [e]; exact hjl), e]
        go_wp2
        go_ret
        exact ⟨ret_int HE.out.symm, rfl⟩
      · have hne : (x == f) = false := by simpa using he
        have HE : Hid (j + 1 ≤ fi (byF f) L) := by
          show _ ≤ _
          by_cases hz : j < fi (byF f) L
          · exact hz
          · exfalso
            have e : fi (byF f) L = j := by omega
            have := fi_at (q := byF f) (L := L) (by rw [e]; exact hjl)
            simp only [e] at this
            unfold byF at this
            rw [← HXX.out] at this
            exact he (of_decide_eq_true this)
        go_wp2
        go_round
        case rel => exact ⟨j + 1, by omega, by go_num, HE.out, trivial⟩
        case measure => simp [RowKit.intOf]; omega
    · obtain rfl : j = n := by omega
      have HE : Hid (ofI L f = -1) := by show _ = _; exact ofI_no (by rw [← HN.out]; omega)
      go_wp2
      go_ret
      exact ⟨ret_int HE.out.symm, rfl⟩
set_option maxRecDepth 100000 in
set_option maxHeartbeats 1000000 in
theorem frame_x (h : Rx B w xa vh vl H L) (i p : Int) : Calls Try.prog 39 #[.pointer (some ⟨xa, 0, none⟩), .int .i64 i, .int .i64 p] w fun e w' => e = .returned (.tuple #[.int .i64 (frV L i p), .int .i64 (frE L i p)]) ∧ w = w' := by
  obtain ⟨A, c, hv⟩ := h.ons.form
  obtain ⟨n, hn⟩ : ∃ n, n = L.length := ⟨_, rfl⟩
  have c1 := h.c1
  rw [hv, ← hn] at c1
  have n9 : (n : Int) ≤ 1000 := by have := h.ll; omega
  have HX := Lib.hid (And.intro h hv)
  have HN := Lib.hid hn
  clear h hv hn
  go_enter Try.func39, Try.ntmps39
  go_wp2
  go_loopw [8] (fun k wr => ∃ j : Nat, j ≤ n ∧ k = .int .i64 j ∧ j ≤ fi (byP i p) L ∧ w = wr) (fun k _ => n - (RowKit.intOf k).toNat)
  case atStart => exact ⟨0, Nat.zero_le _, rfl, Nat.zero_le _, rfl⟩
  case round =>
    obtain ⟨j, hj, rfl, hji, rfl⟩ := hrel
    by_cases hlt : j < n
    · have hjl : j < L.length := by rw [← HN.out]; exact hlt
      obtain ⟨-, g, rfl, -, hat⟩ := HX.out.1.on HX.out.2 hjl
      obtain ⟨d0, d1, d2⟩ := og_at hat
      obtain ⟨x, hx⟩ : ∃ x, x = L[j] := ⟨_, rfl⟩
      rw [← hx] at d0 d1 d2
      have HXX := Lib.hid hx
      obtain ⟨xi, xp, xf⟩ := x
      dsimp only at d0 d1 d2
      have j0 : (0 : Int) ≤ j := by omega
      have j1 : (j : Int) < n := by omega
      clear hat hx
      by_cases he : xi = i ∧ xp = p
      · obtain ⟨rfl, rfl⟩ := he
        have HE : Hid (frV L xi xp = xf ∧ frE L xi xp = 0) := by
          have hz : ¬ j < fi (byP xi xp) L := fun e => by
            have := fi_lt e hjl
            unfold byP at this
            rw [← HXX.out, decide_eq_true rfl, decide_eq_true rfl] at this
            cases this
          have e : fi (byP xi xp) L = j := by omega
          refine ⟨?_, ?_⟩
          · unfold frV
            simp only [e]
            rw [dif_pos hjl, ← HXX.out]
          · unfold frE
            rw [e, if_pos hjl]
        go_wp2
        go_ret2
        exact ⟨by rw [HE.out.1, HE.out.2]; rfl, rfl⟩
      · have HE : Hid (j + 1 ≤ fi (byP i p) L) := by
          show _ ≤ _
          by_cases hz : j < fi (byP i p) L
          · exact hz
          · exfalso
            have e : fi (byP i p) L = j := by omega
            have := fi_at (q := byP i p) (L := L) (by rw [e]; exact hjl)
            simp only [e] at this
            unfold byP at this
            rw [← HXX.out, Bool.and_eq_true] at this
            exact he ⟨of_decide_eq_true this.1, of_decide_eq_true this.2⟩
        by_cases e1 : xi = i
        · have f1 : (xi == i) = true := by simpa using e1
          have f2 : (xp == p) = false := by simpa using (fun e => he ⟨e1, e⟩ : ¬ xp = p)
          clear e1 he
          go_wp2
          go_round
          case rel => exact ⟨j + 1, by omega, by go_num, HE.out, trivial⟩
          case measure => simp [RowKit.intOf]; omega
        · have f1 : (xi == i) = false := by simpa using e1
          clear e1 he
          go_wp2
          go_round
          case rel => exact ⟨j + 1, by omega, by go_num, HE.out, trivial⟩
          case measure => simp [RowKit.intOf]; omega
    · obtain rfl : j = n := by omega
      have hz : ¬ fi (byP i p) L < L.length := by rw [← HN.out]; omega
      have HE : Hid (frV L i p = 0 ∧ frE L i p = 6) := ⟨dif_neg hz, if_neg hz⟩
      clear hz
      go_wp2
      go_ret2
      exact ⟨by rw [HE.out.1, HE.out.2]; rfl, rfl⟩
end
end Go.Proofs.Ytnpacdbkmpchnaa
