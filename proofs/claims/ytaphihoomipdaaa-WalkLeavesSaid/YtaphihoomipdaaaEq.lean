/- Plain facts on entries' words, without the program: a word's bits are the entry's, unlike entries have unlike words. -/
import Derived.Test.YtaphihoomipdaaaEp
namespace Go.Proofs.Ytaphihoomipdaaa

theorem bit_mul (b : Bool) (n : Int) : bitI b n = n * bitI b 1 := by cases b <;> simp [bitI]
theorem bit_one (b : Bool) : (bitI b 1 == 1) = b := by cases b <;> rfl
/-- A word's parts are the entry's. -/
theorem word_parts (f : Int) (p w h k u d : Bool) : wordI f p w h k u d = f * 4096 + 512 * bitI k 1 + 128 * bitI h 1 + 64 * bitI d 1 + 32 * bitI u 1 + 2 * bitI w 1 + bitI p 1 := by
  unfold wordI
  rw [bit_mul k 512, bit_mul h 128, bit_mul d 64, bit_mul u 32, bit_mul w 2]
theorem word_bits (f : Int) (p w h k u d : Bool) :
    wordI f p w h k u d / 4096 = f ∧ onB (wordI f p w h k u d) 0 = p ∧ onB (wordI f p w h k u d) 1 = w ∧ onB (wordI f p w h k u d) 7 = h ∧ onB (wordI f p w h k u d) 9 = k ∧ onB (wordI f p w h k u d) 5 = u ∧ onB (wordI f p w h k u d) 6 = d := by
  rw [word_parts]
  have bp := bit_bd p 1 (by omega)
  have bw := bit_bd w 1 (by omega)
  have bh := bit_bd h 1 (by omega)
  have bk := bit_bd k 1 (by omega)
  have bu := bit_bd u 1 (by omega)
  have bd := bit_bd d 1 (by omega)
  refine ⟨by omega, ?_, ?_, ?_, ?_, ?_, ?_⟩
  · unfold onB
    rw [← bit_one p]
    congr 1
    show _ / 1 % 2 = _
    rw [bit_one p]
    omega
  · unfold onB
    rw [← bit_one w]
    congr 1
    show _ / 2 % 2 = _
    rw [bit_one w]
    omega
  · unfold onB
    rw [← bit_one h]
    congr 1
    show _ / 128 % 2 = _
    rw [bit_one h]
    omega
  · unfold onB
    rw [← bit_one k]
    congr 1
    show _ / 512 % 2 = _
    rw [bit_one k]
    omega
  · unfold onB
    rw [← bit_one u]
    congr 1
    show _ / 32 % 2 = _
    rw [bit_one u]
    omega
  · unfold onB
    rw [← bit_one d]
    congr 1
    show _ / 64 % 2 = _
    rw [bit_one d]
    omega
theorem word_bounds (f : Int) (p w h k u d : Bool) (h0 : 0 ≤ f) (h1 : f < 1048576) : 0 ≤ wordI f p w h k u d ∧ wordI f p w h k u d < 18446744073709551616 := by
  rw [word_parts]
  have bp := bit_bd p 1 (by omega)
  have bw := bit_bd w 1 (by omega)
  have bh := bit_bd h 1 (by omega)
  have bk := bit_bd k 1 (by omega)
  have bu := bit_bd u 1 (by omega)
  have bd := bit_bd d 1 (by omega)
  omega
theorem word_ok (f : Int) (p w h k u d : Bool) (hc : chkI f p w h k u d = 0) : unOK (wordI f p w h k u d) = true := by
  obtain ⟨a0, a1, a2, a3, a4, a5, a6⟩ := word_bits f p w h k u d
  unfold unOK unChk unPack
  rw [a0, a1, a2, a3, a4, a5, a6]
  simp [packI, hc]
theorem word_apart {f f' : Int} {p w h k u d p' w' h' k' u' d' : Bool} (e : wordI f p w h k u d = wordI f' p' w' h' k' u' d') : f = f' ∧ p = p' ∧ w = w' ∧ h = h' ∧ k = k' ∧ u = u' ∧ d = d' := by
  obtain ⟨a0, a1, a2, a3, a4, a5, a6⟩ := word_bits f p w h k u d
  obtain ⟨b0, b1, b2, b3, b4, b5, b6⟩ := word_bits f' p' w' h' k' u' d'
  rw [e] at a0 a1 a2 a3 a4 a5 a6
  exact ⟨a0.symm.trans b0, a1.symm.trans b1, a2.symm.trans b2, a3.symm.trans b3, a4.symm.trans b4, a5.symm.trans b5, a6.symm.trans b6⟩
/-- What is allowed may be done. -/
theorem keeps_chk {f : Int} {p w h k u d : Bool} (w' u' d' : Bool) (hc : (chkI f p w h k u d != 0) = false) : chkI f true w' h false u' d' = 0 := by
  have hr := chk_range (chk_zero hc)
  unfold chkI mayB
  rw [if_neg (by omega), if_neg (by omega)]
  simp
theorem keeps_held {f : Int} {p w h k u d : Bool} (hc : (chkI f p w h k u d != 0) = false) : chkI f false false false true false false = 0 := by
  have hr := chk_range (chk_zero hc)
  unfold chkI mayB
  rw [if_neg (by omega), if_neg (by omega)]
  simp

end Go.Proofs.Ytaphihoomipdaaa
