/- The contracts of the reference of package ram: clearing and copying, by loops. -/
import Derived.Test.YtklhcgekagimkaaGreatMg01
import Derived.StillTailTactics
import Derived.Deep.RegionHeld3
import Derived.RegionTactic
import Derived.BigRegion
import Derived.IntWalk
import Derived.Lib.Hide
namespace Go.Proofs.YtklhcgekagimkaaGreat
open Go.RowKit

section
variable {w : World} {a b n : Nat} {T : TypeId} {ws : List Int}
theorem thB_of {n : Nat} {f k : Int} (hk : 1 ≤ k) : thB n f k = decide (errF n f k = 0) := by
  unfold thB errF
  rw [Bool.eq_iff_iff]
  simp only [Bool.and_eq_true, decide_eq_true_eq]
  constructor
  · rintro ⟨⟨h1, h2⟩, h3⟩; rw [if_neg (by omega)]
  · intro h
    split at h
    · omega
    · omega
/-- A row that reads as words. -/
def Says (w : World) (g : Nat) (ws : List Int) : Prop := ∀ i, i < ws.length → w.cell? ⟨g, i, none⟩ = some (.int .u64 (ws.getD i 0))
theorem Says.far {w w' : World} {g : Nat} {ws : List Int} (h : Says w g ws) {row : Option Nat} (hg : w.grownBy w' row) (hlt : g < w.heap.size) (hr : some g ≠ row) : Says w' g ws := fun i hi =>
  (World.cell?_of_block (a := ⟨g, i, none⟩) (hg.block g hlt hr)).trans (h i hi)
theorem own_words {w2 : World} {base n : Nat} {t : TypeId} {v : Value} {ws : List Int} (h : w2.ownsRow base t 1 v (0 + n) ([] ++ wcells ws)) (hn : 0 < n) :
    ∃ g cap, v = .slice (some ⟨g, 0, none⟩) n cap ∧ base ≤ g ∧ g < w2.heap.size ∧ Says w2 g ws := by
  rw [Nat.zero_add, List.nil_append] at h
  have h' := h
  rcases h.2 with ⟨_, h0⟩ | ⟨g, cap, cur, rfl, hb, hg, _⟩
  · omega
  · refine ⟨g, cap, rfl, hb, (Array.getElem?_eq_some_iff.1 hg).1, fun i hi => ?_⟩
    have hl := h'.1
    rw [wcells_length] at hl
    rw [h'.cellAt i (by omega), wcells_get, List.getD_eq_getElem?_getD, List.getElem?_eq_getElem hi]; rfl
theorem part_snoc (ws : List Int) (o j k : Nat) (hj : j < k) (hk : o + k ≤ ws.length) : (ws.drop o).take (j + 1) = (ws.drop o).take j ++ [ws.getD (o + j) 0] := by
  rw [List.take_succ_eq_append_getElem (by rw [List.length_drop]; omega), List.getElem_drop, List.getD_eq_getElem?_getD, List.getElem?_eq_getElem (by omega)]; rfl
theorem rep_snoc (j : Nat) : List.replicate (j + 1) (0 : Int) = List.replicate j 0 ++ [0] := List.replicate_succ'
set_option maxHeartbeats 400000 in
theorem refZero_any (h : RamAt w a b T n ws) (f k : Int) (hf : f ≤ 9223372036854775807) :
    Calls Tryz.prog 103 #[.pointer (some ⟨a, 0, none⟩), .int .i64 f, .int .i64 k] w fun e w' => e = .returned (.int .i64 (errZ n f k)) ∧ RamAt w' a b T n (zeL ws f k) ∧ w.grownBy w' (some b) := by
  have hi := h.hi
  have hl := h.len
  by_cases hk : k < 1
  · have hs : Hid (zeL ws f k = ws) := by show _ = _; simp [zeL, errZ, hk]
    have he : Hid (2 = errZ n f k) := by show _ = _; simp [errZ, hk]
    clear hl
    go_enter Tryz.func103, Tryz.ntmps103
    go_wp2
    go_ret
    refine ⟨ret_int he.out, ?_, World.grownBy.refl _ _⟩
    rw [hs.out]; exact h
  · have hk1 : 1 ≤ k := by omega
    have hT : thB n f k = decide (errF n f k = 0) := thB_of hk1
    by_cases hF : errF n f k = 0
    · obtain ⟨h0, h1⟩ : 0 ≤ f ∧ k ≤ (n : Int) / 8 - f := by unfold errF at hF; split at hF <;> omega
      obtain ⟨f, rfl⟩ : ∃ x : Nat, f = x := ⟨f.toNat, by omega⟩
      obtain ⟨k, rfl⟩ : ∃ x : Nat, k = x := ⟨k.toNat, by omega⟩
      have hth : thB n f k = true := by rw [hT, hF]; rfl
      have hs : Hid (zeL ws f k = splice ws (f * 8) (List.replicate (k * 8) 0)) := by show _ = _; simp [zeL, errZ, hk, hl, hF]
      have he : Hid (0 = errZ n f k) := by show _ = _; simp [errZ, hk, hF]
      have hfk : (f + k) * 8 ≤ n := by omega
      have HL := Lib.hid hl
      clear hl hF hk h0 h1 hT
      go_enter Tryz.func103, Tryz.ntmps103
      go_wp2_with (go_at_call 127; refine (there_any h _ _ hf).mono ?_; rintro e w' ⟨rfl, rfl⟩)
      go_loopw [7] (fun i wr => ∃ p : Nat, f * 8 ≤ p ∧ p ≤ (f + k) * 8 ∧ i = .int .i64 p ∧ RamAt wr a b T n (splice ws (f * 8) (List.replicate (p - f * 8) 0)) ∧ w.grownBy wr (some b)) (fun i _ => (f + k) * 8 - (intOf i).toNat)
      case atStart => exact ⟨f * 8, Nat.le_refl _, by omega, by go_num, by simpa [splice_nil] using h, World.grownBy.refl _ _⟩
      case round =>
        obtain ⟨p, hp1, hp2, rfl, hR, hG⟩ := hrel
        by_cases hlt : p < (f + k) * 8
        · have hpn : p < n := by omega
          have hc := hR.field
          have hc2 := hR.word hpn
          obtain ⟨x, hx⟩ : ∃ x, x = (splice ws (f * 8) (List.replicate (p - f * 8) 0)).getD p 0 := ⟨_, rfl⟩
          rw [← hx] at hc2
          have hfr := hR.row.frozen p
          have hR2 : RamAt (wr.setCell ⟨b, p, none⟩ (.int .u64 0)) a b T n (splice ws (f * 8) (List.replicate (p + 1 - f * 8) 0)) := by
            refine hR.turned (grown_set _ _ _ _) ?_ (by rw [length_splice _ _ _ (by have := HL.out; simp; omega)]; exact HL.out) (h.words.splice_ (Words.zeros _) _)
            have h3 := hR.row.set_ p (.int .u64 0)
            rw [wcells_set] at h3
            have h4 := splice_snoc ws (f * 8) 0 (List.replicate (p - f * 8) 0) (by have := HL.out; simp; omega)
            rw [List.length_replicate, show f * 8 + (p - f * 8) = p by omega, ← rep_snoc, show p - f * 8 + 1 = p + 1 - f * 8 by omega] at h4
            rwa [h4] at h3
          have hG2 := grown_trans1 hG (grown_set wr b p (.int .u64 0))
          have HR2 := Lib.hid hR2
          have HG2 := Lib.hid hG2
          clear hx hR2 hG2
          go_wp2
          go_roundw
          case rel => exact ⟨p + 1, by omega, by omega, by go_num, HR2.out, HG2.out⟩
          case measure => simp [intOf]; omega
        · obtain rfl : p = (f + k) * 8 := by omega
          have HR := Lib.hid hR
          have HG := Lib.hid hG
          clear hR hG
          go_wp2
          go_ret
          refine ⟨ret_int he.out, ?_, HG.out⟩
          have := HR.out
          rw [show (f + k) * 8 - f * 8 = k * 8 by omega] at this
          rw [hs.out]; exact this
    · have hth : thB n f k = false := by rw [hT]; simpa using hF
      have hs : Hid (zeL ws f k = ws) := by show _ = _; simp [zeL, errZ, hk, hl, hF]
      have he : Hid (3 = errZ n f k) := by show _ = _; simp [errZ, hk, errF_3 hF]
      clear hl hF hk hT
      go_enter Tryz.func103, Tryz.ntmps103
      go_wp2_with (go_at_call 127; refine (there_any h _ _ hf).mono ?_; rintro e w' ⟨rfl, rfl⟩)
      go_ret
      refine ⟨ret_int he.out, ?_, World.grownBy.refl _ _⟩
      rw [hs.out]; exact h
end
end Go.Proofs.YtklhcgekagimkaaGreat
/- Free blocks of a list of frames, without the program: which are greatest, what becomes of them when one is taken out or put back, and the list of them by rising frames. -/
namespace Go.Proofs.YtklhcgekagimkaaGreat

/-- Frames from a on, m of them, all as said. -/
def Alq (F : List Bool) (a m : Nat) (v : Bool) : Prop := ∀ i, a ≤ i → i < a + m → F[i]? = some v
/-- A block that begins evenly and is free as a whole. -/
def Fre (F : List Bool) (a k : Nat) : Prop := a % 2 ^ k = 0 ∧ Alq F a (2 ^ k) true
/-- The block of the next order that holds one. -/
def par (a k : Nat) : Nat := a / 2 ^ (k + 1) * 2 ^ (k + 1)
/-- Its other half. -/
def sib (a k : Nat) : Nat := if a / 2 ^ k % 2 = 0 then a + 2 ^ k else a - 2 ^ k
/-- A free block that is in no greater one. -/
def Mx (F : List Bool) (a k : Nat) : Prop := k ≤ 8 ∧ Fre F a k ∧ (k < 8 → ¬ Fre F (par a k) (k + 1))
/-- Have two blocks a frame in common? -/
def Ovl (a k b j : Nat) : Prop := a < b + 2 ^ j ∧ b < a + 2 ^ k
theorem Ovl.symm {a k b j : Nat} (h : Ovl a k b j) : Ovl b j a k := ⟨h.2, h.1⟩
theorem two_pos (k : Nat) : 0 < 2 ^ k := Nat.two_pow_pos k

theorem nest {a k b j : Nat} (ha : a % 2 ^ k = 0) (hb : b % 2 ^ j = 0) (hkj : k ≤ j) (h : Ovl a k b j) : b ≤ a ∧ a + 2 ^ k ≤ b + 2 ^ j := by
  obtain ⟨d, rfl⟩ : ∃ d, j = k + d := ⟨j - k, by omega⟩
  obtain ⟨x, rfl⟩ := Nat.dvd_of_mod_eq_zero ha
  obtain ⟨y, rfl⟩ := Nat.dvd_of_mod_eq_zero hb
  have hp := two_pos k
  obtain ⟨h1, h2⟩ := h
  rw [Nat.pow_add, Nat.mul_assoc] at h1 h2 ⊢
  rw [← Nat.mul_add] at h1
  have e : 2 ^ k * x + 2 ^ k = 2 ^ k * (x + 1) := by rw [Nat.mul_add, Nat.mul_one]
  rw [e] at h2 ⊢
  have g1 := Nat.lt_of_mul_lt_mul_left h1
  have g2 := Nat.lt_of_mul_lt_mul_left h2
  rw [← Nat.mul_add]
  exact ⟨Nat.mul_le_mul_left _ (by omega), Nat.mul_le_mul_left _ (by omega)⟩
theorem ovl_in {a k b j : Nat} (h1 : b ≤ a) (h2 : a + 2 ^ k ≤ b + 2 ^ j) : Ovl a k b j := ⟨by have := two_pos k; omega, by have := two_pos k; omega⟩
theorem par_al (a k : Nat) : par a k % 2 ^ (k + 1) = 0 := Nat.mul_mod_left _ _
theorem par_le (a k : Nat) : par a k ≤ a := Nat.div_mul_le_self _ _
theorem par_lt (a k : Nat) : a < par a k + 2 ^ (k + 1) := by
  have := Nat.div_add_mod a (2 ^ (k + 1))
  have hm := Nat.mod_lt a (two_pos (k + 1))
  unfold par
  rw [Nat.mul_comm] at this
  omega
theorem par_in {a k : Nat} (ha : a % 2 ^ k = 0) : par a k ≤ a ∧ a + 2 ^ k ≤ par a k + 2 ^ (k + 1) :=
  nest ha (par_al a k) (by omega) ⟨par_lt a k, by have := par_le a k; have := two_pos k; omega⟩
theorem al_less {a k j : Nat} (h : a % 2 ^ j = 0) (hkj : k ≤ j) : a % 2 ^ k = 0 :=
  Nat.mod_eq_zero_of_dvd (Nat.dvd_trans (Nat.pow_dvd_pow 2 hkj) (Nat.dvd_of_mod_eq_zero h))
/-- Halves: what the other half is. -/
theorem sib_split {a k : Nat} (ha : a % 2 ^ k = 0) : (sib a k = par a k ∧ a = par a k + 2 ^ k) ∨ (sib a k = par a k + 2 ^ k ∧ a = par a k) := by
  obtain ⟨x, rfl⟩ := Nat.dvd_of_mod_eq_zero ha
  have hp := two_pos k
  have e1 : 2 ^ k * x / 2 ^ k = x := Nat.mul_div_cancel_left _ hp
  have e2 : par (2 ^ k * x) k = 2 ^ k * (x / 2 * 2) := by
    unfold par
    rw [Nat.pow_succ, ← Nat.div_div_eq_div_mul, e1, Nat.mul_comm (2 ^ k) 2, ← Nat.mul_assoc, Nat.mul_comm]
  unfold sib
  rw [e1, e2]
  by_cases hx : x % 2 = 0
  · right
    rw [if_pos hx, show x / 2 * 2 = x by omega]
    exact ⟨rfl, rfl⟩
  · left
    rw [if_neg hx]
    have e3 : 2 ^ k * x = 2 ^ k * (x / 2 * 2) + 2 ^ k := by
      have : x = x / 2 * 2 + 1 := by omega
      conv => lhs; rw [this, Nat.mul_add, Nat.mul_one]
    exact ⟨by omega, e3⟩
theorem sib_al {a k : Nat} (ha : a % 2 ^ k = 0) : sib a k % 2 ^ k = 0 := by
  have hp := al_less (par_al a k) (by omega : k ≤ k + 1)
  rcases sib_split ha with h | h
  · rw [h.1]; exact hp
  · rw [h.1, Nat.add_mod_right]; exact hp
theorem sib_in {a k : Nat} (ha : a % 2 ^ k = 0) : par a k ≤ sib a k ∧ sib a k + 2 ^ k ≤ par a k + 2 ^ (k + 1) := by
  rw [Nat.pow_succ]
  rcases sib_split ha with h | h <;> omega
theorem sib_apart {a k : Nat} (ha : a % 2 ^ k = 0) : ¬ Ovl (sib a k) k a k := by
  rintro ⟨h1, h2⟩
  rcases sib_split ha with h | h <;> omega
theorem par_cover {a k i : Nat} (ha : a % 2 ^ k = 0) (h1 : par a k ≤ i) (h2 : i < par a k + 2 ^ (k + 1)) : (a ≤ i ∧ i < a + 2 ^ k) ∨ (sib a k ≤ i ∧ i < sib a k + 2 ^ k) := by
  rw [Nat.pow_succ] at h2
  rcases sib_split ha with h | h <;> omega

section
variable {F : List Bool}
theorem Fre.in_ {a k b j : Nat} (h : Fre F b j) (ha : a % 2 ^ k = 0) (h1 : b ≤ a) (h2 : a + 2 ^ k ≤ b + 2 ^ j) : Fre F a k := ⟨ha, fun i hi1 hi2 => h.2 i (by omega) (by omega)⟩
/-- Both halves free: the whole is. -/
theorem Fre.join {a k : Nat} (h : Fre F a k) (g : Fre F (sib a k) k) : Fre F (par a k) (k + 1) := ⟨par_al a k, fun i h1 h2 => by
  rcases par_cover h.1 h1 h2 with ⟨g1, g2⟩ | ⟨g1, g2⟩
  · exact h.2 i g1 g2
  · exact g.2 i g1 g2⟩
theorem Fre.half {a k : Nat} (ha : a % 2 ^ k = 0) (h : Fre F (par a k) (k + 1)) : Fre F (sib a k) k := h.in_ (sib_al ha) (sib_in ha).1 (sib_in ha).2
theorem same_of_eq_order {a b k : Nat} (ha : a % 2 ^ k = 0) (hb : b % 2 ^ k = 0) (h : Ovl a k b k) : a = b := by
  have h1 := nest ha hb (Nat.le_refl _) h
  have h2 := nest hb ha (Nat.le_refl _) h.symm
  omega
theorem mx_inside {a k b j : Nat} (hm : Mx F a k) (hf : Fre F b j) (hj : j ≤ 8) (hkj : k < j) : ¬ Ovl a k b j := fun ho => by
  have h1 := nest hm.2.1.1 hf.1 (by omega) ho
  have hp := par_in hm.2.1.1
  have h2 := nest (par_al a k) hf.1 (by omega : k + 1 ≤ j) (by
    have := two_pos k
    exact ⟨by omega, by omega⟩)
  exact hm.2.2 (by omega) (hf.in_ (par_al a k) h2.1 h2.2)
/-- Greatest blocks have no frame in common. -/
theorem mx_apart {a k b j : Nat} (hm : Mx F a k) (hn : Mx F b j) (ho : Ovl a k b j) : a = b ∧ k = j := by
  rcases Nat.lt_trichotomy k j with h | h | h
  · exact absurd ho (mx_inside hm hn.2.1 hn.1 h)
  · subst h; exact ⟨same_of_eq_order hm.2.1.1 hn.2.1.1 ho, rfl⟩
  · exact absurd ho.symm (mx_inside hn hm.2.1 hm.1 h)
/-- Each free block lies in a greatest one. -/
theorem mx_anc : ∀ (d a k : Nat), k + d = 8 → Fre F a k → ∃ b j, Mx F b j ∧ k ≤ j ∧ b ≤ a ∧ a + 2 ^ k ≤ b + 2 ^ j := by
  intro d
  induction d with
  | zero => intro a k hk h; exact ⟨a, k, ⟨by omega, h, fun h8 => by omega⟩, Nat.le_refl _, Nat.le_refl _, Nat.le_refl _⟩
  | succ d ih =>
    intro a k hk h
    by_cases hp : Fre F (par a k) (k + 1)
    · obtain ⟨b, j, hm, h1, h2, h3⟩ := ih (par a k) (k + 1) (by omega) hp
      have hq := par_in h.1
      exact ⟨b, j, hm, by omega, by omega, by omega⟩
    · exact ⟨a, k, ⟨by omega, h, fun _ => hp⟩, Nat.le_refl _, Nat.le_refl _, Nat.le_refl _⟩
end

/-! A stretch of frames laid anew. -/
def setR (F : List Bool) (a : Nat) : Nat → Bool → List Bool
  | 0, _ => F
  | m + 1, v => (setR F a m v).set (a + m) v
theorem setR_length (F : List Bool) (a m : Nat) (v : Bool) : (setR F a m v).length = F.length := by
  induction m with
  | zero => rfl
  | succ m ih => simp [setR, ih]
theorem setR_get (F : List Bool) (a m : Nat) (v : Bool) (h : a + m ≤ F.length) (i : Nat) : (setR F a m v)[i]? = if a ≤ i ∧ i < a + m then some v else F[i]? := by
  induction m with
  | zero => rw [if_neg (by omega)]; rfl
  | succ m ih =>
    simp only [setR, List.getElem?_set, setR_length, ih (by omega)]
    by_cases h1 : a + m = i
    · rw [if_pos h1, if_pos (by omega), if_pos (by omega)]
    · rw [if_neg h1]
      by_cases h2 : a ≤ i ∧ i < a + m
      · rw [if_pos h2, if_pos (by omega)]
      · rw [if_neg h2, if_neg (by omega)]
section
variable {F : List Bool} {a k : Nat}
theorem fre_off (hr : a + 2 ^ k ≤ F.length) (b j : Nat) : Fre (setR F a (2 ^ k) false) b j ↔ Fre F b j ∧ ¬ Ovl b j a k := by
  constructor
  · intro h
    have hn : ¬ Ovl b j a k := fun ho => by
      have hb := two_pos j
      have ha := two_pos k
      have := h.2 (max a b) (Nat.le_max_right _ _) (by have := ho.2; omega)
      rw [setR_get _ _ _ _ hr, if_pos ⟨Nat.le_max_left _ _, by have := ho.1; omega⟩] at this
      cases this
    refine ⟨⟨h.1, fun i h1 h2 => ?_⟩, hn⟩
    have := h.2 i h1 h2
    rwa [setR_get _ _ _ _ hr, if_neg (fun hc => hn ⟨by omega, by omega⟩)] at this
  · rintro ⟨h, hn⟩
    refine ⟨h.1, fun i h1 h2 => ?_⟩
    rw [setR_get _ _ _ _ hr, if_neg (fun hc => hn ⟨by omega, by omega⟩)]
    exact h.2 i h1 h2
theorem fre_on (hr : a + 2 ^ k ≤ F.length) {b j : Nat} (hn : ¬ Ovl b j a k) : Fre (setR F a (2 ^ k) true) b j ↔ Fre F b j := by
  constructor
  · intro h
    refine ⟨h.1, fun i h1 h2 => ?_⟩
    have := h.2 i h1 h2
    rwa [setR_get _ _ _ _ hr, if_neg (fun hc => hn ⟨by omega, by omega⟩)] at this
  · intro h
    refine ⟨h.1, fun i h1 h2 => ?_⟩
    rw [setR_get _ _ _ _ hr, if_neg (fun hc => hn ⟨by omega, by omega⟩)]
    exact h.2 i h1 h2
theorem fre_on_mono (hr : a + 2 ^ k ≤ F.length) {b j : Nat} (h : Fre F b j) : Fre (setR F a (2 ^ k) true) b j := by
  refine ⟨h.1, fun i h1 h2 => ?_⟩
  rw [setR_get _ _ _ _ hr]
  split
  · rfl
  · exact h.2 i h1 h2
/-- A greatest block is taken away: the others stay. -/
theorem mx_remove (hm : Mx F a k) (hr : a + 2 ^ k ≤ F.length) (b j : Nat) : Mx (setR F a (2 ^ k) false) b j ↔ Mx F b j ∧ ¬ (b = a ∧ j = k) := by
  constructor
  · rintro ⟨h8, hf, hx⟩
    obtain ⟨hf1, hn⟩ := (fre_off hr b j).1 hf
    refine ⟨⟨h8, hf1, fun hj hp => ?_⟩, ?_⟩
    · by_cases ho : Ovl (par b j) (j + 1) a k
      · have hin := par_in hf1.1
        rcases Nat.lt_or_ge k (j + 1) with hlt | hge
        · exact mx_inside hm hp (by omega) hlt ho.symm
        · have h1 := nest hp.1 hm.2.1.1 hge ho
          exact hn (ovl_in (by omega) (by omega))
      · exact hx hj ((fre_off hr _ _).2 ⟨hp, ho⟩)
    · rintro ⟨rfl, rfl⟩
      exact hn (ovl_in (Nat.le_refl _) (Nat.le_refl _))
  · rintro ⟨hb, hne⟩
    have hn : ¬ Ovl b j a k := fun ho => hne (mx_apart hb hm ho)
    exact ⟨hb.1, (fre_off hr b j).2 ⟨hb.2.1, hn⟩, fun hj hp => hb.2.2 hj ((fre_off hr _ _).1 hp).1⟩
/-- A block that was not free is put back, and its other half is not free: it is a greatest one, and the others stay. -/
theorem mx_add (hk : k ≤ 8) (ha : a % 2 ^ k = 0) (hr : a + 2 ^ k ≤ F.length) (h0 : Alq F a (2 ^ k) false) (hs : k < 8 → ¬ Fre F (sib a k) k) (b j : Nat) : Mx (setR F a (2 ^ k) true) b j ↔ Mx F b j ∨ (b = a ∧ j = k) := by
  have hap : ∀ {b j : Nat}, Fre F b j → ¬ Ovl b j a k := fun {b j} h ho => by
    have hb := two_pos j
    have hc := two_pos k
    have g1 := h.2 (max a b) (Nat.le_max_right _ _) (by have := ho.2; omega)
    have g2 := h0 (max a b) (Nat.le_max_left _ _) (by have := ho.1; omega)
    rw [g1] at g2; cases g2
  have hsx : k < 8 → ¬ Fre (setR F a (2 ^ k) true) (sib a k) k := fun h8 h => hs h8 ((fre_on hr (sib_apart ha)).1 h)
  have hself : Mx (setR F a (2 ^ k) true) a k := by
    refine ⟨hk, ⟨ha, fun i h1 h2 => by rw [setR_get _ _ _ _ hr, if_pos ⟨h1, h2⟩]⟩, fun h8 hp => hsx h8 (hp.half ha)⟩
  constructor
  · intro h
    by_cases ho : Ovl b j a k
    · exact Or.inr (mx_apart h hself ho)
    · exact Or.inl ⟨h.1, (fre_on hr ho).1 h.2.1, fun hj hp => h.2.2 hj (fre_on_mono hr hp)⟩
  · rintro (h | ⟨rfl, rfl⟩)
    · refine ⟨h.1, fre_on_mono hr h.2.1, fun hj hp => ?_⟩
      by_cases ho : Ovl (par b j) (j + 1) a k
      · have hin := par_in h.2.1.1
        rcases Nat.lt_or_ge k (j + 1) with hlt | hge
        · have h2 : Ovl (par a k) (k + 1) (par b j) (j + 1) := by
            have h3 := par_in ha
            obtain ⟨o1, o2⟩ := ho
            exact ⟨by omega, by omega⟩
          have h3 := nest (par_al a k) (par_al b j) (by omega) h2
          have h4 := sib_in ha
          exact hsx (by omega) (hp.in_ (sib_al ha) (by omega) (by omega))
        · have h1 := nest hp.1 ha hge ho
          exact hap h.2.1 (ovl_in (by omega) (by omega))
      · exact h.2.2 hj ((fre_on hr ho).1 hp)
    · exact hself
end
end Go.Proofs.YtklhcgekagimkaaGreat
