/- The reference of reservations as it lies; At and Of. -/
import Derived.Test.YtfalmjibpkkjaaaProg
import Derived.Test.YtfalmjibpkkjaaaA0
import Derived.Test.YtfalmjibpkkjaaaK0
import Derived.BigQuiet
import Derived.Deep.QuietTactic
import Derived.Deep.RegionHeld3
import Derived.Deep.LoopGhost
import Derived.Deep.CutRange
import Derived.Deep.RegionLaw
import Derived.WalkLawsBesides
import Derived.IntWalk
import Derived.Outline
import Derived.StillTailTactics
namespace Go.Proofs.Ytfalmjibpkkjaaa
open Go.RowKit
def Fits (n : Int) : Prop := -9223372036854775808 ≤ n ∧ n ≤ 9223372036854775807
/-- A reservation of the reference, and where its eight marks lie. -/
structure Rw where
  v : Rv
  g : Nat
  c : Nat
def EOn : Enc Try.prog Rw where
  enc x := [.int .i64 x.v.s, .int .i64 x.v.p, .int .i64 x.v.f, .slice (some ⟨x.g, 0, none⟩) 8 x.c, .int .i64 x.v.t]
  sz := 5
  el := 53
  sl := 46
  zero := .agg #[.int .i64 0, .int .i64 0, .int .i64 0, .slice none 0 0, .int .i64 0]
  bytes := 56
  len _ := rfl
  one a u h := by
    simp only [List.mem_cons, List.not_mem_nil, or_false] at h
    rcases h with rfl | rfl | rfl | rfl | rfl <;> rfl
  pos := by decide
  zsz := rfl
  und := by kernel_rfl
  info := by kernel_rfl
  small := by decide
def EI : Enc Try.prog Int where
  enc x := [.int .i64 x]
  sz := 1
  el := 3
  sl := 42
  zero := .int .i64 0
  bytes := 8
  len _ := rfl
  one a u h := by
    simp only [List.mem_cons, List.not_mem_nil, or_false] at h
    rcases h with rfl
    rfl
  pos := by decide
  zsz := rfl
  und := by kernel_rfl
  info := by kernel_rfl
  small := by decide
def EB : Enc Try.prog Bool where
  enc x := [.bool x]
  sz := 1
  el := 4
  sl := 38
  zero := .bool false
  bytes := 1
  len _ := rfl
  one a u h := by
    simp only [List.mem_cons, List.not_mem_nil, or_false] at h
    rcases h with rfl
    rfl
  pos := by decide
  zsz := rfl
  und := by kernel_rfl
  info := by kernel_rfl
  small := by decide
theorem below_new (w : World) (o : Obj) : Below w.heap.size w (w.alloc o) := (Below.refl _ _).alloc (Nat.le_refl _) o
theorem on_at {w : World} {g o : Nat} {x : Rw} (h : EOn.At w g o x) : w.cell? ⟨g, o, none⟩ = some (.int .i64 x.v.s) ∧ w.cell? ⟨g, o + 1, none⟩ = some (.int .i64 x.v.p) ∧ w.cell? ⟨g, o + 2, none⟩ = some (.int .i64 x.v.f) ∧ w.cell? ⟨g, o + 3, none⟩ = some (.slice (some ⟨x.g, 0, none⟩) 8 x.c) ∧ w.cell? ⟨g, o + 4, none⟩ = some (.int .i64 x.v.t) :=
  ⟨h 0 (by decide), h 1 (by decide), h 2 (by decide), h 3 (by decide), h 4 (by decide)⟩
def bitsV (n : Nat) : List Value := (bitsL n).map Value.bool
/-- The reference: its struct in block xa, its list in a row, each one's marks. -/
structure Rx (B : Nat) (w : World) (xa : Nat) (v : Value) (K : List Rw) (S : Rs) : Prop where
  top : Lrow w xa 48 [v, .int .i64 S.T]
  own : EOn.Own B w v K
  is : K.map Rw.v = S.L
  bl : ∀ y ∈ K, ∃ rest, Lrow w y.g 4 (bitsV y.v.n ++ rest)
  lo : B ≤ xa
  lw : B ≤ w.heap.size
  bg : ∀ y ∈ K, B ≤ y.g
def MineX (xa : Nat) (v : Value) (K : List Rw) (k : Nat) : Prop := k = xa ∨ v.ownBlock = some k ∨ ∃ y, y ∈ K ∧ k = y.g
def DidR (B : Nat) (w : World) (xa : Nat) (v : Value) (K : List Rw) (S : Rs) (w' : World) : Prop :=
  ∃ v' K', Rx B w' xa v' K' S ∧ Foot (MineX xa v K) w w' ∧ ∀ k, MineX xa v' K' k → MineX xa v K k ∨ w.heap.size ≤ k
section
variable {w w' : World} {B xa : Nat} {v : Value} {K : List Rw} {S S' : Rs} {n : Nat}
theorem Rx.mine (h : Rx B w xa v K S) : ∀ k, MineX xa v K k → B ≤ k ∧ k < w.heap.size := by
  rintro k (rfl | e | ⟨y, hy, rfl⟩)
  · exact ⟨h.lo, h.top.lt⟩
  · obtain ⟨vs, r, hlo⟩ := h.own.block e
    exact ⟨hlo, r.lt⟩
  · obtain ⟨rest, r⟩ := h.bl y hy
    exact ⟨h.bg y hy, r.lt⟩
theorem Rx.keep (h : Rx B w xa v K S) (hs : w.heap.size ≤ w'.heap.size) (hk : ∀ k, MineX xa v K k → k < w.heap.size → w'.heap[k]? = w.heap[k]?) : Rx B w' xa v K S where
  top := (hk xa (Or.inl rfl) h.top.lt).trans h.top
  own := h.own.heap fun g e => hk g (Or.inr (Or.inl e)) (h.mine g (Or.inr (Or.inl e))).2
  is := h.is
  bl y hy := by
    obtain ⟨rest, r⟩ := h.bl y hy
    exact ⟨rest, (hk _ (Or.inr (Or.inr ⟨y, hy, rfl⟩)) r.lt).trans r⟩
  lo := h.lo
  lw := Nat.le_trans h.lw hs
  bg := h.bg
theorem Rx.call (h : Rx B w xa v K S) (hb : Below w.heap.size w w') : Rx B w' xa v K S := h.keep hb.size fun k _ hl => hb.block k hl
theorem Rx.drewN (h : Rx B w xa v K S) (k : Nat) : Rx B (w.drewN k) xa v K S := h.call (below_dN (Below.refl _ _) k)
theorem Rx.did (h : Rx B w xa v K S) (hb : Below w.heap.size w w') : DidR B w xa v K S w' := ⟨v, K, h.call hb, Foot.of_below hb, fun _ e => Or.inl e⟩
theorem DidR.pre {W : World} (h : Below W.heap.size W w) (d : DidR B w xa v K S w') : DidR B W xa v K S w' := by
  obtain ⟨a, b, d1, d2, d3⟩ := d
  exact ⟨a, b, d1, (Foot.of_below (X := MineX xa v K) h).trans d2 (fun _ e _ => e), fun k e => (d3 k e).imp id fun e => Nat.le_trans h.size e⟩
theorem Rx.c0 (h : Rx B w xa v K S) : w.cell? ⟨xa, 0, none⟩ = some v := h.top.cell 0
theorem Rx.c1 (h : Rx B w xa v K S) : w.cell? ⟨xa, 1, none⟩ = some (.int .i64 S.T) := h.top.cell 1
theorem Rx.len (h : Rx B w xa v K S) : K.length = S.L.length := by rw [← h.is, List.length_map]
theorem Rx.get (h : Rx B w xa v K S) {j : Nat} (hj : j < K.length) : ∃ hl : j < S.L.length, S.L[j] = K[j].v := by
  refine ⟨by rw [← h.len]; exact hj, ?_⟩
  have e : S.L[j]? = (K.map Rw.v)[j]? := by rw [h.is]
  rw [List.getElem?_map, List.getElem?_eq_getElem hj, List.getElem?_eq_getElem (by rw [← h.len]; exact hj)] at e
  simpa using e
theorem Rx.on (h : Rx B w xa v K S) {A : Option Addr} {n c : Nat} (hv : v = .slice A n c) {j : Nat} (hj : j < K.length) : n = K.length ∧ ∃ g, A = some ⟨g, 0, none⟩ ∧ B ≤ g ∧ EOn.At w g (j * 5) K[j] := by
  subst hv
  have hn : n = K.length := by obtain ⟨_, _, e⟩ := h.own.form; injection e
  obtain ⟨g, e, hB, hl, -, hat⟩ := h.own.some_ (by omega)
  exact ⟨hn, g, e, hB, hat j hj⟩
/-- The mark at a place. -/
theorem Rx.mark (h : Rx B w xa v K S) {y : Rw} (hy : y ∈ K) (hn : y.v.n < 256) {i : Nat} (hi : i < 8) : w.cell? ⟨y.g, i, none⟩ = some (.bool (y.v.n.testBit i)) := by
  obtain ⟨rest, r⟩ := h.bl y hy
  rw [r.cell i, List.getElem?_append_left (by unfold bitsV; rw [List.length_map, bitsL_len]; exact hi)]
  unfold bitsV
  rw [List.getElem?_map, bitsL_get hn hi]; rfl
/-! Where they stand. -/
def ixP (L : List Rv) (s p : Int) : Nat := L.findIdx (hitP s p)
def ixF (L : List Rv) (f : Int) : Nat := L.findIdx (hitF f)
def atI (L : List Rv) (s p : Int) : Int := if ixP L s p < L.length then (ixP L s p : Nat) else -1
def ofI (L : List Rv) (f : Int) : Int := if ixF L f < L.length then (ixF L f : Nat) else -1
theorem ix_next {α : Type} {q : α → Bool} {L : List α} {j : Nat} (hj : j < L.length) (hi : j ≤ L.findIdx q) (hq : q L[j] = false) : j + 1 ≤ L.findIdx q := by
  rcases Nat.lt_or_ge j (L.findIdx q) with h | h
  · exact h
  · have e : L.findIdx q = j := by omega
    have := List.findIdx_getElem (p := q) (xs := L) (w := by rw [e]; exact hj)
    simp only [e] at this
    rw [hq] at this; cases this
theorem ix_here {α : Type} {q : α → Bool} {L : List α} {j : Nat} (hj : j < L.length) (hi : j ≤ L.findIdx q) (hq : q L[j] = true) : L.findIdx q = j := by
  rcases Nat.lt_or_ge j (L.findIdx q) with h | h
  · have := List.not_of_lt_findIdx h
    rw [hq] at this; cases this
  · omega
theorem ix_yes {α : Type} {q : α → Bool} {L : List α} (h : L.findIdx q < L.length) : L.find? q = some L[L.findIdx q] := by
  have h1 := List.findIdx_getElem (p := q) (xs := L) (w := h)
  rw [List.find?_eq_some_iff_getElem]
  exact ⟨h1, L.findIdx q, h, rfl, fun j hj => by have := List.not_of_lt_findIdx hj; simp [this]⟩
theorem ix_no {α : Type} {q : α → Bool} {L : List α} (h : ¬ L.findIdx q < L.length) : L.find? q = none := by
  rw [List.find?_eq_none]
  intro x hx
  have h2 : L.findIdx q = L.length := by have := List.findIdx_le_length (p := q) (xs := L); omega
  have := List.findIdx_eq_length.1 h2 x hx
  simp [this]
set_option maxRecDepth 100000 in
set_option maxHeartbeats 1000000 in
theorem at_x (h : Rx B w xa v K S) (hb : Bnd n S) (hn : n ≤ 1000) (s p : Int) : Calls Try.prog 24 #[.pointer (some ⟨xa, 0, none⟩), .int .i64 s, .int .i64 p] w fun e w' => e = .returned (.int .i64 (atI S.L s p)) ∧ w = w' := by
  obtain ⟨A, c, hv⟩ := h.own.form
  obtain ⟨m, hm⟩ : ∃ m, m = K.length := ⟨_, rfl⟩
  have c1 := h.c0
  rw [hv, ← hm] at c1
  have n9 : (m : Int) ≤ 1000 := by have := hb.ln; have := h.len; omega
  have HX := Lib.hid (And.intro h hv)
  have HN := Lib.hid (And.intro hm hb)
  clear h hv hm hb hn
  go_enter Try.func24, Try.ntmps24
  go_wp2
  go_loopw [7] (fun i wr => ∃ j : Nat, j ≤ m ∧ i = .int .i64 j ∧ j ≤ ixP S.L s p ∧ w = wr) (fun i _ => m - (RowKit.intOf i).toNat)
  case atStart => exact ⟨0, Nat.zero_le _, rfl, Nat.zero_le _, rfl⟩
  case round =>
    obtain ⟨j, hj, rfl, hji, rfl⟩ := hrel
    by_cases hlt : j < m
    · have hjl : j < K.length := by rw [← HN.out.1]; exact hlt
      obtain ⟨-, g, rfl, -, hat⟩ := HX.out.1.on HX.out.2 hjl
      obtain ⟨d0, d1, -, -, -⟩ := on_at hat
      obtain ⟨hjs, hxv⟩ := HX.out.1.get hjl
      have hok := HN.out.2.ok _ (List.getElem_mem hjs)
      rw [← hxv] at d0 d1
      obtain ⟨x, hx⟩ : ∃ x, x = S.L[j] := ⟨_, rfl⟩
      have HH : Hid (∀ b, hitP s p x = b → hitP s p S.L[j] = b) := fun b e => by rw [← hx]; exact e
      rw [← hx] at d0 d1 hok
      have p0 := hok.p0
      have p1 := hok.p1
      have p8 := hok.p8
      have HJ : Hid (hitP s p x = false → j + 1 ≤ ixP S.L s p) := fun e => ix_next hjs hji (HH.out _ e)
      have HT : Hid (hitP s p x = true → atI S.L s p = j) := fun e => by
        have e2 : ixP S.L s p = j := ix_here hjs hji (HH.out _ e)
        unfold atI
        rw [if_pos (by rw [e2]; exact hjs), e2]
      have HD : Hid (hitP s p x = decide (x.s = s ∧ x.p = pd p)) := by show _ = _; rfl
      have j0 : (0 : Int) ≤ j := by omega
      have j1 : (j : Int) < m := by omega
      generalize x.s = xs at d0 HD
      generalize x.p = xp at d1 HD p0 p1 p8
      have e8 : IntKind.i64.wrap (xp + 8) = xp + 8 := IntWalk.i64_in _ (by omega)
      have HP := Lib.hid p8
      clear hat hxv hok hx HH hjs hji p8
      by_cases e1 : xs = s
      · subst e1
        by_cases e2 : xp ≤ p
        · have f2 : (decide (p ≥ xp)) = true := decide_eq_true e2
          by_cases e3 : p < xp + 8
          · have HE := Lib.hid (HT.out (by rw [HD.out]; exact decide_eq_true ⟨rfl, by have := HP.out; unfold pd; omega⟩))
            go_wp2
            go_ret
            exact ⟨ret_int HE.out.symm, rfl⟩
          · have HE := Lib.hid (HJ.out (by rw [HD.out]; exact decide_eq_false (by have := HP.out; unfold pd; omega)))
            go_wp2
            go_round
            case rel => exact ⟨j + 1, by omega, by go_num, HE.out, trivial⟩
            case measure => simp [RowKit.intOf]; omega
        · have HE := Lib.hid (HJ.out (by rw [HD.out]; exact decide_eq_false (by have := HP.out; unfold pd; omega)))
          have f2 : (decide (p ≥ xp)) = false := decide_eq_false e2
          go_wp2
          go_round
          case rel => exact ⟨j + 1, by omega, by go_num, HE.out, trivial⟩
          case measure => simp [RowKit.intOf]; omega
      · have HE := Lib.hid (HJ.out (by rw [HD.out]; exact decide_eq_false (fun e => e1 e.1)))
        have f1 : (xs == s) = false := by simpa using e1
        clear e1
        go_wp2
        go_round
        case rel => exact ⟨j + 1, by omega, by go_num, HE.out, trivial⟩
        case measure => simp [RowKit.intOf]; omega
    · obtain rfl : j = m := by omega
      have HE : Hid (atI S.L s p = -1) := by show _ = _; exact if_neg (by rw [← HX.out.1.len, ← HN.out.1]; omega)
      go_wp2
      go_ret
      exact ⟨ret_int HE.out.symm, rfl⟩
set_option maxRecDepth 100000 in
set_option maxHeartbeats 1000000 in
theorem of_x (h : Rx B w xa v K S) (hb : Bnd n S) (hn : n ≤ 1000) (f : Int) : Calls Try.prog 50 #[.pointer (some ⟨xa, 0, none⟩), .int .i64 f] w fun e w' => e = .returned (.int .i64 (ofI S.L f)) ∧ w = w' := by
  obtain ⟨A, c, hv⟩ := h.own.form
  obtain ⟨m, hm⟩ : ∃ m, m = K.length := ⟨_, rfl⟩
  have c1 := h.c0
  rw [hv, ← hm] at c1
  have n9 : (m : Int) ≤ 1000 := by have := hb.ln; have := h.len; omega
  have HX := Lib.hid (And.intro h hv)
  have HN := Lib.hid (And.intro hm hb)
  clear h hv hm hb hn
  go_enter Try.func50, Try.ntmps50
  go_wp2
  go_loopw [5] (fun i wr => ∃ j : Nat, j ≤ m ∧ i = .int .i64 j ∧ j ≤ ixF S.L f ∧ w = wr) (fun i _ => m - (RowKit.intOf i).toNat)
  case atStart => exact ⟨0, Nat.zero_le _, rfl, Nat.zero_le _, rfl⟩
  case round =>
    obtain ⟨j, hj, rfl, hji, rfl⟩ := hrel
    by_cases hlt : j < m
    · have hjl : j < K.length := by rw [← HN.out.1]; exact hlt
      obtain ⟨-, g, rfl, -, hat⟩ := HX.out.1.on HX.out.2 hjl
      obtain ⟨-, -, d2, -, -⟩ := on_at hat
      obtain ⟨hjs, hxv⟩ := HX.out.1.get hjl
      have hok := HN.out.2.ok _ (List.getElem_mem hjs)
      rw [← hxv] at d2
      obtain ⟨x, hx⟩ : ∃ x, x = S.L[j] := ⟨_, rfl⟩
      have HH : Hid (∀ b, hitF f x = b → hitF f S.L[j] = b) := fun b e => by rw [← hx]; exact e
      rw [← hx] at d2 hok
      have p0 := hok.f0
      have p1 := hok.f1
      have p8 := hok.f8
      have HJ : Hid (hitF f x = false → j + 1 ≤ ixF S.L f) := fun e => ix_next hjs hji (HH.out _ e)
      have HT : Hid (hitF f x = true → ofI S.L f = j) := fun e => by
        have e2 : ixF S.L f = j := ix_here hjs hji (HH.out _ e)
        unfold ofI
        rw [if_pos (by rw [e2]; exact hjs), e2]
      have HD : Hid (hitF f x = decide (x.f = pd f)) := by show _ = _; rfl
      have j0 : (0 : Int) ≤ j := by omega
      have j1 : (j : Int) < m := by omega
      generalize x.f = xp at d2 HD p0 p1 p8
      have e8 : IntKind.i64.wrap (xp + 8) = xp + 8 := IntWalk.i64_in _ (by omega)
      have HP := Lib.hid p8
      clear hat hxv hok hx HH hjs hji p8
      by_cases e2 : xp ≤ f
      · have f2 : (decide (f ≥ xp)) = true := decide_eq_true e2
        by_cases e3 : f < xp + 8
        · have HE := Lib.hid (HT.out (by rw [HD.out]; exact decide_eq_true (by have := HP.out; unfold pd; omega)))
          go_wp2
          go_ret
          exact ⟨ret_int HE.out.symm, rfl⟩
        · have HE := Lib.hid (HJ.out (by rw [HD.out]; exact decide_eq_false (by have := HP.out; unfold pd; omega)))
          go_wp2
          go_round
          case rel => exact ⟨j + 1, by omega, by go_num, HE.out, trivial⟩
          case measure => simp [RowKit.intOf]; omega
      · have HE := Lib.hid (HJ.out (by rw [HD.out]; exact decide_eq_false (by have := HP.out; unfold pd; omega)))
        have f2 : (decide (f ≥ xp)) = false := decide_eq_false e2
        go_wp2
        go_round
        case rel => exact ⟨j + 1, by omega, by go_num, HE.out, trivial⟩
        case measure => simp [RowKit.intOf]; omega
    · obtain rfl : j = m := by omega
      have HE : Hid (ofI S.L f = -1) := by show _ = _; exact if_neg (by rw [← HX.out.1.len, ← HN.out.1]; omega)
      go_wp2
      go_ret
      exact ⟨ret_int HE.out.symm, rfl⟩
end
end Go.Proofs.Ytfalmjibpkkjaaa
