/- A list of calls as it lies in memory; both memories, held together; new memories by letters. -/
import Derived.Test.YtnlimecbbockoaaMg10
import Derived.Test.YtnlimecbbockoaaProg
import Derived.Test.YtnlimecbbockoaaMg01
import Derived.WalkKit
import Derived.WalkSpells
import Derived.Lib.Hide
import Derived.WalkLawsBesides
import Derived.Deep.QuietTactic
import Derived.BigQuiet
namespace Go.Proofs.Ytnlimecbbockoaa
open Go.RowKit

/-- Five cells that are a call. -/
def IsAct (c : Int × Int × Int × Int × Int) : Prop := c.1 ≤ 9223372036854775807 ∧ c.2.1 ≤ 9223372036854775807 ∧ -9223372036854775808 ≤ c.2.1 ∧ c.2.2.1 ≤ 9223372036854775807 ∧ c.2.2.2.1 ≤ 9223372036854775807 ∧ 0 ≤ c.2.2.2.2 ∧ c.2.2.2.2 < 18446744073709551616
/-- A call as it lies from an address on. -/
structure ActAt (w : World) (p : Addr) (K A B N V : Int) : Prop where
  c0 : w.cell? p = some (.int .i64 K)
  c1 : w.cell? ⟨p.block, p.off + 1, none⟩ = some (.int .i64 A)
  c2 : w.cell? ⟨p.block, p.off + 2, none⟩ = some (.int .i64 B)
  c3 : w.cell? ⟨p.block, p.off + 3, none⟩ = some (.int .i64 N)
  c4 : w.cell? ⟨p.block, p.off + 4, none⟩ = some (.int .u64 V)
/-- A list of calls as it lies below block b. -/
def Acts (w : World) (b : Nat) (A : Option Addr) (n : Nat) : Prop :=
  0 < n → ∃ a, A = some a ∧ a.block < b ∧ ∀ i, i < n → ∃ K A B N V : Int, IsAct (K, A, B, N, V) ∧ ActAt w (a.add (i * 5)) K A B N V
theorem block_add (a : Addr) (n : Nat) : (a.add n).block = a.block := by unfold Addr.add; split <;> rfl
theorem Acts.below {w w' : World} {b n : Nat} {A : Option Addr} (h : Acts w b A n) (hb : Below b w w') : Acts w' b A n := fun hn => by
  obtain ⟨a, e, hlt, hc⟩ := h hn
  refine ⟨a, e, hlt, fun i hi => ?_⟩
  obtain ⟨K, A, B, N, V, ok, g⟩ := hc i hi
  have hp : (a.add (i * 5)).block < b := by rw [block_add]; exact hlt
  exact ⟨K, A, B, N, V, ok, (hb.cell hp).trans g.c0, (hb.cell (p := ⟨_, _, none⟩) hp).trans g.c1, (hb.cell (p := ⟨_, _, none⟩) hp).trans g.c2, (hb.cell (p := ⟨_, _, none⟩) hp).trans g.c3, (hb.cell (p := ⟨_, _, none⟩) hp).trans g.c4⟩


/-- A new memory, its blocks by letters. -/
def Made (w : World) (T : TypeId) (n : Nat) (e : Ending) (w' : World) : Prop :=
  ∃ a b, e = .returned (.tuple #[.pointer (some ⟨a, 0, none⟩), .int .i64 0]) ∧ RamAt w' a b T n (List.replicate n 0) ∧ Below w.heap.size w w' ∧ w.heap.size ≤ b
theorem made_new (f : Nat) (w : World) (h1 : 8 ≤ f) (h2 : f ≤ 1024) : Calls Try.prog 23 #[.int .i64 f] w (Made w 104 (f * 8)) :=
  (new_ok f w h1 h2).mono fun _ _ ⟨he, hr, hb, _⟩ => ⟨_, _, he, hr, hb, Nat.le_refl _⟩
theorem made_new16 (w : World) : Calls Try.prog 23 #[.int .i64 16] w (Made w 104 128) := made_new 16 w (by omega) (by omega)
end Go.Proofs.Ytnlimecbbockoaa
/- The contracts of package geo and of its reference on orders: where blocks begin, what is wrong with a stretch. -/
namespace Go.Proofs.Ytnlimecbbockoaa
open Go.RowKit

theorem isOrder_yes {o : Int} (h : ordB o = true) (w : World) : Calls Try.prog 53 #[.int .i64 o] w fun e w' => e = .returned (.bool true) ∧ w = w' := by
  obtain ⟨k, rfl, hk⟩ := ord_nat h
  clear h
  go_enter Try.func53, Try.ntmps53
  go_wp2
  go_ret
  exact ⟨ret_bool (by simp; omega), rfl⟩
theorem isOrder_no {o : Int} (h : ordB o = false) (w : World) : Calls Try.prog 53 #[.int .i64 o] w fun e w' => e = .returned (.bool false) ∧ w = w' := by
  rcases ord_not h with h1 | h1
  · clear h
    go_enter Try.func53, Try.ntmps53
    go_wp2
    go_ret
    exact ⟨rfl, rfl⟩
  · clear h
    have h0 : 0 ≤ o := by omega
    go_enter Try.func53, Try.ntmps53
    go_wp2
    go_ret
    exact ⟨ret_bool (by simp; omega), rfl⟩
theorem down_any {o : Int} (p : Int) (hl : -9223372036854775808 ≤ p) (hh : p ≤ 9223372036854775807) (w : World) : Calls Try.prog 31 #[.int .i64 p, .int .i64 o] w fun e w' => e = .returned (.int .i64 (dnI p o)) ∧ w = w' := by
  rcases Bool.eq_false_or_eq_true (ordB o) with h | h
  · have h' := isOrder_yes h
    have H : ∀ k : Nat, o = k → bits .andNot .i64 p (2 ^ k - 1) = dnI p o := fun k hk => by
      subst hk
      rw [down_bits p k (by simp only [ordB, decide_eq_true_eq] at h; omega) hl hh]
      simp [dnI, h]
    rcases ord_cases h with rfl | rfl | rfl | rfl | rfl | rfl | rfl | rfl | rfl
    · have H2 := Lib.hid (H 0 rfl)
      clear H h hl hh
      go_enter Try.func31, Try.ntmps31
      go_wp2_with (go_at_call 53; refine (h' _).mono ?_; rintro e w' ⟨rfl, rfl⟩)
      go_ret
      exact ⟨ret_int H2.out, rfl⟩
    · have H2 := Lib.hid (H 1 rfl)
      clear H h hl hh
      go_enter Try.func31, Try.ntmps31
      go_wp2_with (go_at_call 53; refine (h' _).mono ?_; rintro e w' ⟨rfl, rfl⟩)
      go_ret
      exact ⟨ret_int H2.out, rfl⟩
    · have H2 := Lib.hid (H 2 rfl)
      clear H h hl hh
      go_enter Try.func31, Try.ntmps31
      go_wp2_with (go_at_call 53; refine (h' _).mono ?_; rintro e w' ⟨rfl, rfl⟩)
      go_ret
      exact ⟨ret_int H2.out, rfl⟩
    · have H2 := Lib.hid (H 3 rfl)
      clear H h hl hh
      go_enter Try.func31, Try.ntmps31
      go_wp2_with (go_at_call 53; refine (h' _).mono ?_; rintro e w' ⟨rfl, rfl⟩)
      go_ret
      exact ⟨ret_int H2.out, rfl⟩
    · have H2 := Lib.hid (H 4 rfl)
      clear H h hl hh
      go_enter Try.func31, Try.ntmps31
      go_wp2_with (go_at_call 53; refine (h' _).mono ?_; rintro e w' ⟨rfl, rfl⟩)
      go_ret
      exact ⟨ret_int H2.out, rfl⟩
    · have H2 := Lib.hid (H 5 rfl)
      clear H h hl hh
      go_enter Try.func31, Try.ntmps31
      go_wp2_with (go_at_call 53; refine (h' _).mono ?_; rintro e w' ⟨rfl, rfl⟩)
      go_ret
      exact ⟨ret_int H2.out, rfl⟩
    · have H2 := Lib.hid (H 6 rfl)
      clear H h hl hh
      go_enter Try.func31, Try.ntmps31
      go_wp2_with (go_at_call 53; refine (h' _).mono ?_; rintro e w' ⟨rfl, rfl⟩)
      go_ret
      exact ⟨ret_int H2.out, rfl⟩
    · have H2 := Lib.hid (H 7 rfl)
      clear H h hl hh
      go_enter Try.func31, Try.ntmps31
      go_wp2_with (go_at_call 53; refine (h' _).mono ?_; rintro e w' ⟨rfl, rfl⟩)
      go_ret
      exact ⟨ret_int H2.out, rfl⟩
    · have H2 := Lib.hid (H 8 rfl)
      clear H h hl hh
      go_enter Try.func31, Try.ntmps31
      go_wp2_with (go_at_call 53; refine (h' _).mono ?_; rintro e w' ⟨rfl, rfl⟩)
      go_ret
      exact ⟨ret_int H2.out, rfl⟩
  · have h' := isOrder_no h
    have H : Hid (p = dnI p o) := by show _ = _; simp [dnI, h]
    clear h hl hh
    go_enter Try.func31, Try.ntmps31
    go_wp2_with (go_at_call 53; refine (h' _).mono ?_; rintro e w' ⟨rfl, rfl⟩)
    go_ret
    exact ⟨ret_int H.out, rfl⟩
theorem even_any {o : Int} (p : Int) (hl : -9223372036854775808 ≤ p) (hh : p ≤ 9223372036854775807) (w : World) : Calls Try.prog 54 #[.int .i64 p, .int .i64 o] w fun e w' => e = .returned (.bool (evB p o)) ∧ w = w' := by
  rcases Bool.eq_false_or_eq_true (ordB o) with h | h
  · have h' := isOrder_yes h
    have H : Hid ((dnI p o == p) = evB p o) := by
      show _ = _
      simp only [dnI, evB, h, if_true, Bool.true_and]
      rw [Bool.eq_iff_iff, beq_iff_eq, decide_eq_true_eq]
      omega
    clear h
    go_enter Try.func54, Try.ntmps54
    go_wp2_with (first | (go_at_call 53; refine (h' _).mono ?_; rintro e w' ⟨rfl, rfl⟩) | (go_at_call 31; refine (down_any _ hl hh _).mono ?_; rintro e w' ⟨rfl, rfl⟩))
    go_ret
    exact ⟨ret_bool H.out, rfl⟩
  · have h' := isOrder_no h
    have H : Hid (false = evB p o) := by show _ = _; simp [evB, h]
    clear h
    go_enter Try.func54, Try.ntmps54
    go_wp2_with (go_at_call 53; refine (h' _).mono ?_; rintro e w' ⟨rfl, rfl⟩)
    go_ret
    exact ⟨ret_bool H.out, rfl⟩
theorem szI_yes {o : Int} (h : ordB o = true) : 1 ≤ szI o ∧ szI o ≤ 256 ∧ szI o = 2 ^ o.toNat := by
  obtain ⟨k, rfl, hk⟩ := ord_nat h
  have := pow_pos8 k hk
  simp only [szI, h, if_true, Int.toNat_natCast]
  exact ⟨this.1, this.2, trivial⟩
theorem szI_no {o : Int} (h : ordB o = false) : szI o = 0 := by simp [szI, h]
end Go.Proofs.Ytnlimecbbockoaa
