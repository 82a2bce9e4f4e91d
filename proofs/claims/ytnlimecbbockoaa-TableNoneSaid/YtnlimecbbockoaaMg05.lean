/- Plain facts of package table, without the program: words and entries; a huge leaf's eight parts, and walks through them. -/
import Derived.Test.YtnlimecbbockoaaMg04
import Derived.Test.YtnlimecbbockoaaProg
import Derived.Test.YtnlimecbbockoaaMg00
import Derived.WalkKit
import Derived.WalkSpells
import Derived.Lib.Hide
import Derived.WalkLawsBesides
import Derived.Deep.QuietTactic
import Derived.BigQuiet
namespace Go.Proofs.Ytnlimecbbockoaa
open Go.RowKit
/-- A word that is packed says what was packed. -/
theorem word_says (f : Int) (p w h k u d : Bool) (hc : chkI f p w h k u d = 0) : unOK (wordI f p w h k u d) = true ∧ unF (wordI f p w h k u d) = f ∧ unB (wordI f p w h k u d) 0 = p ∧ unB (wordI f p w h k u d) 1 = w ∧ unB (wordI f p w h k u d) 7 = h ∧ unB (wordI f p w h k u d) 9 = k ∧ unB (wordI f p w h k u d) 5 = u ∧ unB (wordI f p w h k u d) 6 = d := by
  have ho := word_ok f p w h k u d hc
  obtain ⟨a0, a1, a2, a3, a4, a5, a6⟩ := word_bits f p w h k u d
  refine ⟨ho, ?_, ?_, ?_, ?_, ?_, ?_, ?_⟩
  · unfold unF; rw [ho]; exact a0
  · unfold unB; rw [ho, a1]; rfl
  · unfold unB; rw [ho, a2]; rfl
  · unfold unB; rw [ho, a3]; rfl
  · unfold unB; rw [ho, a4]; rfl
  · unfold unB; rw [ho, a5]; rfl
  · unfold unB; rw [ho, a6]; rfl
/-- What a leaf is. -/
theorem leaf_says {F l x : Int} (h : say F l x = 3) : unOK x = true ∧ (unB x 9 = true → l ≤ 0) ∧ (unB x 7 = true → l ≠ 0 ∧ l ≠ 3) ∧ noB (unF x) (unB x 0) (unB x 1) (unB x 7) (unB x 9) (unB x 5) (unB x 6) = false ∧ evB (unF x) (od l (unB x 7)) = true
    ∧ unF x ≤ F - 2 ^ (od l (unB x 7)).toNat ∧ (l = 0 ∨ unB x 7 = true) := by
  unfold say sayB at h
  split at h
  · omega
  rename_i h1
  split at h
  · omega
  rename_i h2
  split at h
  · omega
  rename_i h3
  split at h
  · omega
  rename_i h4
  split at h
  · omega
  rename_i h5
  split at h
  · rename_i h6
    simp only [Bool.not_eq_false, Bool.not_eq_true, not_or, Int.not_lt] at h1 h4 h5
    exact ⟨h1, fun k => Int.not_lt.1 fun g => h2 ⟨k, g⟩, fun k => ⟨fun e => h3 ⟨k, Or.inl e⟩, fun e => h3 ⟨k, Or.inr e⟩⟩, h4, h5.1, h5.2, h6⟩
  · omega
theorem say_leaf_of {F l x : Int} (h1 : unOK x = true) (h2 : unB x 9 = true → l ≤ 0) (h3 : unB x 7 = true → l ≠ 0 ∧ l ≠ 3) (h4 : noB (unF x) (unB x 0) (unB x 1) (unB x 7) (unB x 9) (unB x 5) (unB x 6) = false) (h5 : evB (unF x) (od l (unB x 7)) = true)
    (h6 : unF x ≤ F - 2 ^ (od l (unB x 7)).toNat) (h7 : l = 0 ∨ unB x 7 = true) : say F l x = 3 := by
  unfold say sayB
  rw [if_neg (by simp [h1]), if_neg (fun k => by have := h2 k.1; omega), if_neg (fun k => by have := h3 k.1; rcases k.2 with e | e; exact this.1 e; exact this.2 e), if_neg (by simp [h4]), if_neg (by simp [h5]; omega), if_pos h7]
/-- The k-th part of a leaf of level v + 1. -/
def partW (x : Int) (v : Nat) (k : Nat) : Int := wordI (unF x + k * 8 ^ v) (unB x 0) (unB x 1) (decide (0 < v)) (unB x 9) (unB x 5) (unB x 6)
theorem huge_leaf {F x : Int} {v : Nat} (hv : v = 0 ∨ v = 1) (h : say F ((v + 1 : Nat) : Int) x = 3) : unB x 0 = true ∧ unB x 9 = false ∧ unB x 7 = true ∧ unF x % 8 ^ (v + 1) = 0 ∧ 0 ≤ unF x ∧ unF x + 8 ^ (v + 1) ≤ F := by
  obtain ⟨h1, h2, h3, h4, h5, h6, h7⟩ := leaf_says h
  have hh : unB x 7 = true := by
    rcases h7 with e | e
    · omega
    · exact e
  have hk : unB x 9 = false := by
    cases e : unB x 9
    · rfl
    · have := h2 e; omega
  have hp : unB x 0 = true := by
    rcases kinds h1 with ⟨_, _, _, e, _⟩ | ⟨e, _⟩ | ⟨_, e, _⟩
    · rw [hh] at e; cases e
    · exact e
    · rw [hk] at e; cases e
  have hf := un_frame x
  rw [hh] at h5 h6
  refine ⟨hp, hk, hh, ?_, hf.1, ?_⟩
  · rcases hv with rfl | rfl
    · simp [od, evB, ordB] at h5 ⊢; omega
    · simp [od, evB, ordB] at h5 ⊢; omega
  · rcases hv with rfl | rfl
    · simp [od] at h6 ⊢; omega
    · simp [od] at h6 ⊢; omega
/-- A part is a leaf of the next level, with the leaf's bits. -/
theorem part_says {F x : Int} {v k : Nat} (hv : v = 0 ∨ v = 1) (hF : F ≤ 1024) (h : say F ((v + 1 : Nat) : Int) x = 3) (hk : k < 8) :
    chkI (unF x + k * 8 ^ v) (unB x 0) (unB x 1) (decide (0 < v)) (unB x 9) (unB x 5) (unB x 6) = 0 ∧ say F (v : Int) (partW x v k) = 3 ∧ unF (partW x v k) = unF x + k * 8 ^ v ∧ unB (partW x v k) 0 = true ∧ unB (partW x v k) 1 = unB x 1 ∧ unB (partW x v k) 7 = decide (0 < v) ∧ unB (partW x v k) 9 = false
      ∧ unB (partW x v k) 5 = unB x 5 ∧ unB (partW x v k) 6 = unB x 6 := by
  obtain ⟨hp, hk9, hh, hev, hf0, hf1⟩ := huge_leaf hv h
  have hb : (k : Int) * 8 ^ v ≤ 56 ∧ 0 ≤ (k : Int) * 8 ^ v ∧ (k : Int) * 8 ^ v + 8 ^ v ≤ 8 ^ (v + 1) ∧ (v = 0 ∨ (unF x + k * 8 ^ v) % 8 = 0) := by
    rcases hv with rfl | rfl
    · simp; omega
    · simp at hev ⊢; omega
  have hc : chkI (unF x + k * 8 ^ v) (unB x 0) (unB x 1) (decide (0 < v)) (unB x 9) (unB x 5) (unB x 6) = 0 := by
    unfold chkI
    rw [if_neg (by omega), if_neg (by have : (8 : Int) ^ v ≤ 8 := by rcases hv with rfl | rfl <;> simp
                                      omega), hp, hk9]
    rfl
  obtain ⟨s0, s1, s2, s3, s4, s5, s6, s7⟩ := word_says _ _ _ _ _ _ _ hc
  refine ⟨hc, ?_, s1, by rw [← hp]; exact s2, s3, s4, by rw [← hk9]; exact s5, s6, s7⟩
  have e0 : unB (partW x v k) 0 = true := s2.trans hp
  have e9 : unB (partW x v k) 9 = false := s5.trans hk9
  have e1 : unF (partW x v k) = unF x + k * 8 ^ v := s1
  have e7 : unB (partW x v k) 7 = decide (0 < v) := s4
  refine say_leaf_of s0 (by rw [e9]; simp) (by rw [e7]; rcases hv with rfl | rfl <;> simp) (by simp [noB, e0]) ?_ ?_ (by rw [e7]; rcases hv with rfl | rfl <;> simp)
  · rw [e7, e1]
    rcases hv with rfl | rfl
    · simp [od, evB, ordB]
    · simp [od, evB, ordB] at hb ⊢; omega
  · rw [e7, e1]
    rcases hv with rfl | rfl
    · simp [od] at hb hf1 ⊢; omega
    · simp [od] at hb hf1 ⊢; omega
end Go.Proofs.Ytnlimecbbockoaa
/- The contracts of the leaves of package entry and of its reference: what each call returns, and that it writes to new memory alone. -/
namespace Go.Proofs.Ytnlimecbbockoaa
open Go.RowKit

set_option maxHeartbeats 400000 in
theorem nothing_any (f : Int) (p w h k u d : Bool) (W : World) :
    Calls Try.prog 91 #[.agg #[.int .i64 f, .bool p, .bool w, .bool h, .bool k, .bool u, .bool d]] W fun e W' => e = .returned (.bool (noB f p w h k u d)) ∧ Below W.heap.size W W' := by
  go_enter Try.func91, Try.ntmps91
  go_wp2
  all_goals
    go_ret
    refine ⟨ret_bool ?_, (Below.refl _ _).alloc (Nat.le_refl _) _⟩
    simp [noB, *]


set_option maxHeartbeats 400000 in
theorem has_any (b n : Int) (a : Addr) (W : World) (hc : W.cell? a = some (.int .u64 n)) (h0 : 0 ≤ b) (h1 : b < 64) (h2 : 0 ≤ n) (h3 : n < 18446744073709551616) :
    Calls Try.prog 96 #[.int .u64 b, .pointer (some a)] W fun e W' => e = .returned (.bool (onB n b)) ∧ W = W' := by
  have hq : 0 ≤ n / 2 ^ b.toNat := Int.ediv_nonneg h2 (Int.pow_nonneg (by omega))
  have hq2 : n / 2 ^ b.toNat ≤ n := Int.ediv_le_self _ h2
  have hand : bits .and .u64 (n / 2 ^ b.toNat) 1 = n / 2 ^ b.toNat % 2 := and_one_u64 _ hq (by omega)
  have H := Lib.hid hand
  clear hand
  go_enter Try.func96, Try.ntmps96
  go_wp2
  go_ret
  exact ⟨ret_bool (by unfold onB; rw [H.out]), rfl⟩

theorem put_no (b : Int) (a : Addr) (W : World) :
    Calls Try.prog 94 #[.int .u64 b, .bool false, .pointer (some a)] W fun e W' => e = .returned (.tuple #[]) ∧ W = W' := by
  go_enter Try.func94, Try.ntmps94
  go_wp2
  go_end0
  exact ⟨rfl, rfl⟩
set_option maxHeartbeats 400000 in
theorem put_yes (b o : Int) (a a' : Addr) (W : World) (hp : W.cell? a = some (.pointer (some a'))) (hc : W.cell? a' = some (.int .u64 o)) (hf : W.frozen? a' = false) (h0 : 0 ≤ b) (h1 : b < 64)
    (h2 : 0 ≤ o) (h3 : o < 18446744073709551616) (hx : o.toNat / 2 ^ b.toNat % 2 = 0) :
    Calls Try.prog 94 #[.int .u64 b, .bool true, .pointer (some a)] W fun e W' => e = .returned (.tuple #[]) ∧ W.setCell a' (.int .u64 (o + 2 ^ b.toNat)) = W' := by
  have hor := u64_or_bit o b.toNat h2 h3 (by omega) hx
  have H := Lib.hid hor
  clear hor hx
  go_enter Try.func94, Try.ntmps94
  go_wp2
  go_end0
  exact ⟨rfl, by rw [H.out]⟩
/-- A bit is put: whether or not it is on, the word becomes what it was and the bit's worth. -/
theorem put_any (b v o : Int) (on : Bool) (a a' : Addr) (W : World) (hp : W.cell? a = some (.pointer (some a'))) (hc : W.cell? a' = some (.int .u64 o)) (hf : W.frozen? a' = false) (h0 : 0 ≤ b) (h1 : b < 64)
    (h2 : 0 ≤ o) (h3 : o < 18446744073709551616) (hv : 2 ^ b.toNat = v) (hx : o.toNat / 2 ^ b.toNat % 2 = 0) :
    Calls Try.prog 94 #[.int .u64 b, .bool on, .pointer (some a)] W fun e W' => e = .returned (.tuple #[]) ∧ W.setCell a' (.int .u64 (o + bitI on v)) = W' := by
  cases on
  · refine (put_no b a W).mono ?_
    rintro e W' ⟨rfl, rfl⟩
    exact ⟨rfl, setCell_self (by simpa [bitI] using hc)⟩
  · refine (put_yes b o a a' W hp hc hf h0 h1 h2 h3 hx).mono ?_
    rintro e W' ⟨rfl, rfl⟩
    exact ⟨rfl, by rw [hv]; rfl⟩

set_option maxHeartbeats 400000 in
theorem putter_any (a : Addr) (W : World) :
    Calls Try.prog 88 #[.pointer (some a)] W fun e W' => e = .returned (.func (.func 94) #[] #[.pointer (some ⟨W.heap.size, 0, none⟩)]) ∧ W.alloc (.cells #[.pointer (some a)] 144) = W' := by
  go_enter Try.func88, Try.ntmps88
  go_wp2
  go_ret
  exact ⟨rfl, rfl⟩
set_option maxHeartbeats 400000 in
theorem asker_any (n : Int) (W : World) :
    Calls Try.prog 90 #[.int .u64 n] W fun e W' => e = .returned (.func (.func 96) #[] #[.pointer (some ⟨W.heap.size, 0, none⟩)]) ∧ W.alloc (.cells #[.int .u64 n] 128) = W' := by
  go_enter Try.func90, Try.ntmps90
  go_wp2
  go_ret
  exact ⟨rfl, rfl⟩

set_option maxHeartbeats 400000 in
theorem may_any (f : Int) (p w h k u d : Bool) (W : World) :
    Calls Try.prog 78 #[.agg #[.int .i64 f, .bool p, .bool w, .bool h, .bool k, .bool u, .bool d]] W fun e W' => e = .returned (.bool (mayB f p w h k u d)) ∧ Below W.heap.size W W' := by
  cases p
  · cases k
    · go_enter Try.func78, Try.ntmps78
      go_wp2_with (go_at_call 91; refine (nothing_any _ _ _ _ _ _ _ _).mono ?_; rintro e w' ⟨rfl, hb⟩)
      go_ret
      refine ⟨ret_bool (by simp [mayB, noB]), ?_⟩
      exact ((Below.refl _ _).alloc (Nat.le_refl _) _).trans (hb.mono (by simp))
    · cases h
      all_goals
        go_enter Try.func78, Try.ntmps78
        go_wp2
        go_ret
        exact ⟨ret_bool (by simp [mayB]), (Below.refl _ _).alloc (Nat.le_refl _) _⟩
  · go_enter Try.func78, Try.ntmps78
    go_wp2
    go_ret
    exact ⟨ret_bool (by simp [mayB]), (Below.refl _ _).alloc (Nat.le_refl _) _⟩
set_option maxHeartbeats 400000 in
theorem check_any (f : Int) (p w h k u d : Bool) (W : World) :
    Calls Try.prog 60 #[.agg #[.int .i64 f, .bool p, .bool w, .bool h, .bool k, .bool u, .bool d]] W fun e W' => e = .returned (.int .i64 (chkI f p w h k u d)) ∧ Below W.heap.size W W' := by
  by_cases h1 : f < 0
  · go_enter Try.func60, Try.ntmps60
    go_wp2
    go_ret
    exact ⟨ret_int (chk_lo h1), (Below.refl _ _).alloc (Nat.le_refl _) _⟩
  · by_cases h2 : 1048576 ≤ f
    · go_enter Try.func60, Try.ntmps60
      go_wp2
      go_ret
      exact ⟨ret_int (chk_hi h2), (Below.refl _ _).alloc (Nat.le_refl _) _⟩
    · go_enter Try.func60, Try.ntmps60
      go_wp2_with (go_at_call 78; refine (may_any _ _ _ _ _ _ _ _).mono ?_; rintro e w' ⟨rfl, hb⟩)
      all_goals
        go_ret
        exact ⟨ret_int (by first | exact chk_bad (by omega) (by omega) ‹_› | exact chk_ok (by omega) (by omega) ‹_›), ((Below.refl _ _).alloc (Nat.le_refl _) _).trans (Below.mono (by assumption) (by simp))⟩
end Go.Proofs.Ytnlimecbbockoaa
