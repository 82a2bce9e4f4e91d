/- Plain facts on numbers and worlds, without the program: a bit that is put adds its worth; a cell that is written with what it holds leaves the world as it is. -/
import Derived.WalkKit
import Derived.WalkSpells
import Derived.Deep.QuietTactic
namespace Go.Proofs.Ytpcpcgbejinlmaa
open Go.RowKit
theorem ret_bool {a b : Bool} (h : a = b) : Ending.returned (.bool a) = .returned (.bool b) := by rw [h]
theorem ret_int {k : IntKind} {a b : Int} (h : a = b) : Ending.returned (.int k a) = .returned (.int k b) := by rw [h]
def mayB (f : Int) (p w h k u d : Bool) : Bool := if p then !k else if k then (!h && !w) else (f == 0 && !w && !h && !u && !d)
def noB (f : Int) (p w h k u d : Bool) : Bool := f == 0 && !p && !w && !h && !k && !u && !d
def chkI (f : Int) (p w h k u d : Bool) : Int := if f < 0 then 3 else if 1048576 ≤ f then 3 else if mayB f p w h k u d then 0 else 2
def bitI (b : Bool) (n : Int) : Int := if b then n else 0
def wordI (f : Int) (p w h k u d : Bool) : Int := f * 4096 + bitI k 512 + bitI h 128 + bitI d 64 + bitI u 32 + bitI w 2 + bitI p 1
theorem chk_lo {f : Int} {p w h k u d : Bool} (h1 : f < 0) : 3 = chkI f p w h k u d := by simp [chkI, h1]
theorem chk_hi {f : Int} {p w h k u d : Bool} (h1 : 1048576 ≤ f) : 3 = chkI f p w h k u d := by simp [chkI, h1]
theorem chk_bad {f : Int} {p w h k u d : Bool} (h1 : 0 ≤ f) (h2 : f < 1048576) (h3 : (!mayB f p w h k u d) = true) : 2 = chkI f p w h k u d := by
  simp at h3
  simp [chkI, h3]
  omega
theorem chk_ok {f : Int} {p w h k u d : Bool} (h1 : 0 ≤ f) (h2 : f < 1048576) (h3 : (!mayB f p w h k u d) = false) : 0 = chkI f p w h k u d := by
  simp at h3
  simp [chkI, h3]
  omega
theorem bcell {W w1 : World} {B : Nat} (hb : Below B W w1) : (∀ b o, b < B → w1.cell? ⟨b, o, none⟩ = W.cell? ⟨b, o, none⟩) ∧ (∀ b o, b < B → w1.frozen? ⟨b, o, none⟩ = W.frozen? ⟨b, o, none⟩) :=
  ⟨fun b o h => hb.cell (p := ⟨b, o, none⟩) h, fun b o h => hb.frozen (p := ⟨b, o, none⟩) h⟩
theorem ret2_int {k l : IntKind} {a b c d : Int} (h : a = b) (g : c = d) : Ending.returned (.tuple #[.int k a, .int l c]) = .returned (.tuple #[.int k b, .int l d]) := by rw [h, g]
theorem chk_zero {f : Int} {p w h k u d : Bool} (h1 : (chkI f p w h k u d != 0) = false) : chkI f p w h k u d = 0 := by simpa using h1
theorem chk_range {f : Int} {p w h k u d : Bool} (h1 : chkI f p w h k u d = 0) : 0 ≤ f ∧ f < 1048576 := by
  unfold chkI at h1
  split at h1
  · omega
  · split at h1
    · omega
    · omega
def packI (f : Int) (p w h k u d : Bool) : Int := if chkI f p w h k u d = 0 then wordI f p w h k u d else 0
theorem packI_bad {f : Int} {p w h k u d : Bool} (h1 : (chkI f p w h k u d != 0) = true) : packI f p w h k u d = 0 := by
  simp at h1
  simp [packI, h1]
theorem packI_ok {f : Int} {p w h k u d : Bool} (h1 : (chkI f p w h k u d != 0) = false) : packI f p w h k u d = wordI f p w h k u d := by
  simp at h1
  simp [packI, h1]
def agg0 : Value := .agg #[.int .i64 0, .bool false, .bool false, .bool false, .bool false, .bool false, .bool false]
def onB (n : Int) (b : Int) : Bool := n / 2 ^ b.toNat % 2 == 1
def unChk (n : Int) : Int := chkI (n / 4096) (onB n 0) (onB n 1) (onB n 7) (onB n 9) (onB n 5) (onB n 6)
def unPack (n : Int) : Int := packI (n / 4096) (onB n 0) (onB n 1) (onB n 7) (onB n 9) (onB n 5) (onB n 6)
def unOK (n : Int) : Bool := unChk n == 0 && unPack n == n
def unErr (n : Int) : Int := if unOK n then 0 else 5
def unF (n : Int) : Int := if unOK n then n / 4096 else 0
def unB (n : Int) (b : Int) : Bool := unOK n && onB n b
def unE (n : Int) : Value := .agg #[.int .i64 (unF n), .bool (unB n 0), .bool (unB n 1), .bool (unB n 7), .bool (unB n 9), .bool (unB n 5), .bool (unB n 6)]
theorem unE_bad {n : Int} (h : unOK n = false) : unE n = agg0 := by simp [unE, agg0, unF, unB, h]
theorem unE_ok {n : Int} (h : unOK n = true) : unE n = .agg #[.int .i64 (n / 4096), .bool (onB n 0), .bool (onB n 1), .bool (onB n 7), .bool (onB n 9), .bool (onB n 5), .bool (onB n 6)] := by simp [unE, unF, unB, h]
theorem bit_bd (b : Bool) (n : Int) (h : 0 ≤ n) : 0 ≤ bitI b n ∧ bitI b n ≤ n := by
  cases b
  · exact ⟨Int.le_refl _, h⟩
  · exact ⟨h, Int.le_refl _⟩
theorem bit_free (f r : Int) (m : Nat) (h1 : 0 ≤ f) (h2 : f < 1048576) (h3 : 0 ≤ r) (h4 : r < 2 ^ m) (h5 : m < 12) : 0 ≤ f * 4096 + r ∧ f * 4096 + r < 18446744073709551616 ∧ (f * 4096 + r).toNat / 2 ^ m % 2 = 0 := by
  have hm : m = 0 ∨ m = 1 ∨ m = 2 ∨ m = 3 ∨ m = 4 ∨ m = 5 ∨ m = 6 ∨ m = 7 ∨ m = 8 ∨ m = 9 ∨ m = 10 ∨ m = 11 := by omega
  rcases hm with rfl | rfl | rfl | rfl | rfl | rfl | rfl | rfl | rfl | rfl | rfl | rfl
  all_goals
    simp at h4 ⊢
    omega
theorem nat_or_bit (b x : Nat) (hx : x / 2 ^ b % 2 = 0) : x ||| 2 ^ b = x + 2 ^ b := by
  have h1 : x = 2 ^ (b + 1) * (x / 2 ^ (b + 1)) + x % 2 ^ b := by
    have e1 := Nat.div_add_mod x (2 ^ b)
    have e2 := Nat.div_add_mod (x / 2 ^ b) 2
    have e3 : x / 2 ^ (b + 1) = x / 2 ^ b / 2 := by rw [Nat.pow_succ, Nat.div_div_eq_div_mul]
    rw [hx, Nat.add_zero] at e2
    rw [e3, Nat.pow_succ, Nat.mul_assoc, e2, e1]
  have hp : 0 < 2 ^ b := Nat.pow_pos (by omega)
  have hr : x % 2 ^ b < 2 ^ b := Nat.mod_lt _ hp
  have hs : 2 ^ (b + 1) = 2 ^ b + 2 ^ b := by rw [Nat.pow_succ]; omega
  generalize x % 2 ^ b = r at h1 hr
  generalize x / 2 ^ (b + 1) = q at h1
  have a1 : 2 ^ (b + 1) * q ||| r = 2 ^ (b + 1) * q + r := (Nat.two_pow_add_eq_or_of_lt (by omega) q).symm
  have a2 : 2 ^ b ||| r = 2 ^ b + r := by
    have := (Nat.two_pow_add_eq_or_of_lt hr 1).symm
    simpa using this
  have a3 : 2 ^ (b + 1) * q ||| (2 ^ b + r) = 2 ^ (b + 1) * q + (2 ^ b + r) := (Nat.two_pow_add_eq_or_of_lt (by omega) q).symm
  rw [h1, ← a1, Nat.or_assoc, Nat.or_comm r, a2, a3, a1]
  omega
theorem u64_or_bit (o : Int) (b : Nat) (h0 : 0 ≤ o) (h1 : o < 18446744073709551616) (hb : b < 64) (hx : o.toNat / 2 ^ b % 2 = 0) :
    bits .or .u64 o (IntKind.u64.wrap (2 ^ b)) = o + 2 ^ b := by
  have hp : (2 : Nat) ^ b ≤ 2 ^ 63 := Nat.pow_le_pow_right (by omega) (by omega)
  have hn := nat_or_bit b _ hx
  have hc : ((2 ^ b : Nat) : Int) = (2 : Int) ^ b := by simp
  rw [← hc]
  generalize (2 : Nat) ^ b = P at *
  have hw : IntKind.u64.wrap (P : Int) = (P : Int) := by
    rw [IntKind.wrap_u64]
    omega
  rw [hw, u64_or o _ h0 h1 (by omega) (by omega), Int.toNat_natCast, hn]
  omega
theorem setCell_self {w : World} {a : Addr} {v : Value} (h : w.cell? a = some v) : w.setCell a v = w := by
  have e : (w.setCell a v).heap = w.heap := by
    unfold World.setCell
    apply Array.ext
    · simp
    · intro i h1 h2
      rw [Array.getElem_modify]
      split
      · rename_i hi
        unfold World.cell? at h
        rw [hi, Array.getElem?_eq_getElem h2] at h
        split at h
        · rename_i c t fr heq
          simp only [Option.some.injEq] at heq
          rw [heq]
          by_cases hs : a.spot.isSome = true
          · simp [hs] at h
          · simp only [hs, Bool.false_eq_true, if_false] at h ⊢
            congr 1
            apply Array.ext
            · simp
            · intro j j1 j2
              rw [Array.getElem_setIfInBounds]
              split
              · rename_i hj
                subst hj
                rw [Array.getElem?_eq_getElem j2] at h
                simpa using h.symm
              · rfl
        · exact absurd h (by simp)
      · rfl
  cases w
  simp only [World.setCell] at e ⊢
  rw [e]
end Go.Proofs.Ytpcpcgbejinlmaa
/- Plain facts on entries' words, without the program: a word's bits are the entry's, unlike entries have unlike words. -/
namespace Go.Proofs.Ytpcpcgbejinlmaa
theorem bit_mul (b : Bool) (n : Int) : bitI b n = n * bitI b 1 := by cases b <;> simp [bitI]
theorem bit_one (b : Bool) : (bitI b 1 == 1) = b := by cases b <;> rfl
theorem word_parts (f : Int) (p w h k u d : Bool) : wordI f p w h k u d = f * 4096 + 512 * bitI k 1 + 128 * bitI h 1 + 64 * bitI d 1 + 32 * bitI u 1 + 2 * bitI w 1 + bitI p 1 := by
  unfold wordI
  rw [bit_mul k 512, bit_mul h 128, bit_mul d 64, bit_mul u 32, bit_mul w 2]
theorem word_bits (f : Int) (p w h k u d : Bool) :
    wordI f p w h k u d / 4096 = f ∧ onB (wordI f p w h k u d) 0 = p ∧ onB (wordI f p w h k u d) 1 = w ∧ onB (wordI f p w h k u d) 7 = h ∧ onB (wordI f p w h k u d) 9 = k ∧ onB (wordI f p w h k u d) 5 = u ∧ onB (wordI f p w h k u d) 6 = d := by
  rw [word_parts]
  have bp := bit_bd p 1 (by omega)
  have bw := bit_bd w 1 (by omega)
  have bh := bit_bd h 1 (by omega)
  have bk := bit_bd k 1 (by omega)
  have bu := bit_bd u 1 (by omega)
  have bd := bit_bd d 1 (by omega)
  refine ⟨by omega, ?_, ?_, ?_, ?_, ?_, ?_⟩
  · unfold onB
    rw [← bit_one p]
    congr 1
    show _ / 1 % 2 = _
    rw [bit_one p]
    omega
  · unfold onB
    rw [← bit_one w]
    congr 1
    show _ / 2 % 2 = _
    rw [bit_one w]
    omega
  · unfold onB
    rw [← bit_one h]
    congr 1
    show _ / 128 % 2 = _
    rw [bit_one h]
    omega
  · unfold onB
    rw [← bit_one k]
    congr 1
    show _ / 512 % 2 = _
    rw [bit_one k]
    omega
  · unfold onB
    rw [← bit_one u]
    congr 1
    show _ / 32 % 2 = _
    rw [bit_one u]
    omega
  · unfold onB
    rw [← bit_one d]
    congr 1
    show _ / 64 % 2 = _
    rw [bit_one d]
    omega
theorem word_bounds (f : Int) (p w h k u d : Bool) (h0 : 0 ≤ f) (h1 : f < 1048576) : 0 ≤ wordI f p w h k u d ∧ wordI f p w h k u d < 18446744073709551616 := by
  rw [word_parts]
  have bp := bit_bd p 1 (by omega)
  have bw := bit_bd w 1 (by omega)
  have bh := bit_bd h 1 (by omega)
  have bk := bit_bd k 1 (by omega)
  have bu := bit_bd u 1 (by omega)
  have bd := bit_bd d 1 (by omega)
  omega
theorem word_ok (f : Int) (p w h k u d : Bool) (hc : chkI f p w h k u d = 0) : unOK (wordI f p w h k u d) = true := by
  obtain ⟨a0, a1, a2, a3, a4, a5, a6⟩ := word_bits f p w h k u d
  unfold unOK unChk unPack
  rw [a0, a1, a2, a3, a4, a5, a6]
  simp [packI, hc]
end Go.Proofs.Ytpcpcgbejinlmaa
