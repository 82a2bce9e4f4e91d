/- Each call of one side, in the state of both. -/
import Derived.Test.YtgkjkjpeolhgbaaCx
namespace Go.Proofs.Ytgkjkjpeolhgbaa
open Go.RowKit

section
variable {w : World} {B s a x y n : Nat} {F G : List Bool} {T : List (Nat × Nat)} {tv : Value}
theorem St.le (h : St B w s a x y n F G T tv) : F.length ≤ 1024 := by have := h.len; have := h.n10; omega
theorem St.free_ (h : St B w s a x y n F G T tv) : Calls Try.prog 14 #[.pointer (some ⟨a, 0, none⟩)] w fun e w' => e = .returned (.int .i64 (F.count true : Nat)) ∧ w = w' := by
  obtain ⟨L, h1, h2⟩ := h.bud
  exact free_any h1 h2 h.le
theorem St.greatest_ (h : St B w s a x y n F G T tv) : Calls Try.prog 16 #[.pointer (some ⟨a, 0, none⟩)] w fun e w' => e = .returned (.int .i64 (grt F)) ∧ w = w' := by
  obtain ⟨L, h1, h2⟩ := h.bud
  exact greatest_any h1 h2
theorem St.has_ (h : St B w s a x y n F G T tv) (f : Int) (hl : -9223372036854775808 ≤ f) (hh : f ≤ 9223372036854775807) :
    Calls Try.prog 18 #[.pointer (some ⟨a, 0, none⟩), .int .i64 f] w fun e w' => e = .returned (.bool (hasB F f)) ∧ Below w.heap.size w w' := by
  obtain ⟨L, h1, h2⟩ := h.bud
  exact has_frame h1 h2 h.le f hl hh
theorem St.blocks_ (h : St B w s a x y n F G T tv) : Calls Try.prog 20 #[.pointer (some ⟨a, 0, none⟩)] w (Lists (bk F) w) := by
  obtain ⟨L, h1, h2⟩ := h.bud
  exact blocks_any h1 h2 h.le
theorem St.take_ (h : St B w s a x y n F G T tv) (o : Int) : Calls Try.prog 24 #[.pointer (some ⟨a, 0, none⟩), .int .i64 o] w fun e w' => e = .returned (.tuple #[.int .i64 (tkV F o), .int .i64 (tkE F o)]) ∧ St B w' s a x y n (tkL F o) G T tv ∧ Turn B w w' := by
  obtain ⟨L, h1, h2⟩ := h.bud
  refine (take_any h1 h2 h.le o).mono ?_
  rintro e w' ⟨rfl, ht, L', k1, k2⟩
  exact ⟨rfl, h.budTurn ht k1 k2 (by rw [tkL_length]; exact h.len), ht⟩
theorem St.takeAt_ (h : St B w s a x y n F G T tv) (f o : Int) (hl : -9223372036854775808 ≤ f) (hh : f ≤ 9223372036854775807) :
    Calls Try.prog 27 #[.pointer (some ⟨a, 0, none⟩), .int .i64 f, .int .i64 o] w fun e w' => e = .returned (.int .i64 (chE F f o false)) ∧ St B w' s a x y n (chL F f o false) G T tv ∧ Turn B w w' := by
  obtain ⟨L, h1, h2⟩ := h.bud
  refine (takeAt_any h1 h2 h.len h.n10 f o hl hh).mono ?_
  rintro e w' ⟨rfl, ht, L', k1, k2⟩
  exact ⟨rfl, h.budTurn ht k1 k2 (by rw [chL_length]; exact h.len), ht⟩
theorem St.give_ (h : St B w s a x y n F G T tv) (f o : Int) (hl : -9223372036854775808 ≤ f) (hh : f ≤ 9223372036854775807) :
    Calls Try.prog 28 #[.pointer (some ⟨a, 0, none⟩), .int .i64 f, .int .i64 o] w fun e w' => e = .returned (.int .i64 (chE F f o true)) ∧ St B w' s a x y n (chL F f o true) G T tv ∧ Turn B w w' := by
  obtain ⟨L, h1, h2⟩ := h.bud
  refine (give_any h1 h2 h.len h.n10 f o hl hh).mono ?_
  rintro e w' ⟨rfl, ht, L', k1, k2⟩
  exact ⟨rfl, h.budTurn ht k1 k2 (by rw [chL_length]; exact h.len), ht⟩
/-- Is a frame free? -/
theorem hasB_off {f : Int} (h : ¬ (0 ≤ f ∧ f < F.length)) : hasB F f = false := by
  unfold hasB
  by_cases h0 : 0 ≤ f
  · have : F[f.toNat]? = none := List.getElem?_eq_none (by omega)
    rw [this]; simp
  · simp [h0]
theorem hasB_at {i : Nat} {v : Bool} (h : F[i]? = some v) : hasB F i = v := by
  unfold hasB
  rw [Int.toNat_natCast, h]
  cases v <;> simp
end
end Go.Proofs.Ytgkjkjpeolhgbaa
