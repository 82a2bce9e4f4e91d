/- Package frames: Len, Is, Count, Next, what they ask; of nil as well; New. -/
import Derived.Test.YtnbphpkcpipbkaaFrB
namespace Go.Proofs.Ytnbphpkcpipbkaa
open Go.RowKit
theorem info_int : (Try.prog.info? 3).map (fun i => (i.zero, i.size, i.bytes)) = some (some (.int .i64 0), 1, 8) := by kernel_rfl
theorem made_ints (n : Nat) : (madeCells #[Value.int .i64 0] n).toList = List.replicate n (.int .i64 0) := by
  apply List.ext_getElem?
  intro i
  rw [List.getElem?_replicate]
  simp only [madeCells, Array.getElem?_toList, Array.getElem?_map]
  by_cases hi : i < n
  · rw [if_pos hi]
    simp [hi, Nat.mod_one]
  · rw [if_neg hi]
    simp; omega
/-- Whether a number is a frame's. -/
def frB (I : List Int) (f : Int) : Bool := decide (0 ≤ f ∧ f < I.length)
def isV (I : List Int) (f : Int) : Int := if frB I f = true then I.getD f.toNat 0 else -1
def newF (n : Int) : List Int := List.replicate n.toNat 0
def nwF (n : Int) : Bool := decide (8 ≤ n ∧ n ≤ 1024)
theorem newF_ok {n : Int} (h : nwF n = true) : OkF (newF n) := by
  unfold nwF at h
  have h := of_decide_eq_true h
  unfold newF
  refine ⟨by rw [List.length_replicate]; omega, by rw [List.length_replicate]; omega, fun x hx => ?_⟩
  have := List.eq_of_mem_replicate hx
  omega
section
variable {w w' : World} {B s g : Nat} {I : List Int} {x f : Int}
theorem len_f (h : Fx B w s g I) : Calls Try.prog 16 #[.pointer (some ⟨s, 0, none⟩)] w fun e w' => e = .returned (.int .i64 I.length) ∧ w = w' := by
  have c0 := h.top.cell 0
  generalize I.length = n at *
  clear h
  go_enter Try.func16, Try.ntmps16
  go_wp2_with fail
  go_ret
  exact ⟨rfl, rfl⟩
theorem len_nil (w : World) : Calls Try.prog 16 #[.pointer none] w fun e w' => e = .returned (.int .i64 0) ∧ w = w' := by
  go_enter Try.func16, Try.ntmps16
  go_wp2_with fail
  go_ret
  exact ⟨rfl, rfl⟩
theorem isFrame_f (h : Fx B w s g I) (f : Int) : Calls Try.prog 21 #[.pointer (some ⟨s, 0, none⟩), .int .i64 f] w fun e w' => e = .returned (.bool (frB I f)) ∧ w = w' := by
  have hl := len_f h
  unfold frB
  generalize I.length = n at *
  clear h
  by_cases c1 : 0 ≤ f
  · have d1 : decide (0 ≤ f ∧ f < (n : Int)) = decide (f < (n : Int)) := by rw [decide_eq_decide]; omega
    rw [d1]
    go_enter Try.func21, Try.ntmps21
    go_wp2_with (go_at_call 16; (with_reducible refine hl.mono ?_); rintro e w1 ⟨rfl, rfl⟩)
    go_ret
    exact ⟨rfl, rfl⟩
  · have d1 : decide (0 ≤ f ∧ f < (n : Int)) = false := by rw [decide_eq_false_iff_not]; omega
    rw [d1]
    go_enter Try.func21, Try.ntmps21
    go_wp2_with (go_at_call 16; (with_reducible refine hl.mono ?_); rintro e w1 ⟨rfl, rfl⟩)
    go_ret
    exact ⟨rfl, rfl⟩
theorem isFrame_nil (f : Int) (w : World) : Calls Try.prog 21 #[.pointer none, .int .i64 f] w fun e w' => e = .returned (.bool false) ∧ w = w' := by
  have hl := len_nil w
  by_cases c1 : 0 ≤ f
  · have d1 : decide (f < 0) = false := by rw [decide_eq_false_iff_not]; omega
    go_enter Try.func21, Try.ntmps21
    go_wp2_with (go_at_call 16; (with_reducible refine hl.mono ?_); rintro e w1 ⟨rfl, rfl⟩)
    go_ret
    exact ⟨rfl, rfl⟩
  · go_enter Try.func21, Try.ntmps21
    go_wp2_with (go_at_call 16; (with_reducible refine hl.mono ?_); rintro e w1 ⟨rfl, rfl⟩)
    go_ret
    exact ⟨rfl, rfl⟩
theorem is_f (h : Fx B w s g I) (f : Int) : Calls Try.prog 11 #[.pointer (some ⟨s, 0, none⟩), .int .i64 f] w fun e w' => e = .returned (.int .i64 (isV I f)) ∧ w = w' := by
  have hl := isFrame_f h f
  unfold isV
  by_cases c1 : frB I f = true
  · rw [if_pos c1]
    rw [c1] at hl
    have c2 := of_decide_eq_true c1
    obtain ⟨k, rfl⟩ : ∃ k : Nat, f = k := ⟨f.toNat, by omega⟩
    have hk : k < I.length := by omega
    have c0 := h.top.cell 0
    have d0 : w.cell? ⟨g, k, none⟩ = some (.int .i64 (I.getD k 0)) := by rw [h.at_, List.getD_eq_getElem?_getD, List.getElem?_eq_getElem hk]; rfl
    rw [Int.toNat_natCast]
    generalize I.getD k 0 = y at *
    have k1 : (k : Int) < I.length := by omega
    have k0 : (0 : Int) ≤ k := by omega
    generalize I.length = n at *
    clear h c1 c2 hk
    go_enter Try.func11, Try.ntmps11
    go_wp2_with (go_at_call 21; (with_reducible refine hl.mono ?_); rintro e w1 ⟨rfl, rfl⟩)
    go_ret
    exact ⟨rfl, rfl⟩
  · rw [if_neg c1]
    have c2 : frB I f = false := by simpa using c1
    rw [c2] at hl
    clear h c1 c2
    go_enter Try.func11, Try.ntmps11
    go_wp2_with (go_at_call 21; (with_reducible refine hl.mono ?_); rintro e w1 ⟨rfl, rfl⟩)
    go_ret
    exact ⟨rfl, rfl⟩
theorem is_nil (f : Int) (w : World) : Calls Try.prog 11 #[.pointer none, .int .i64 f] w fun e w' => e = .returned (.int .i64 (-1)) ∧ w = w' := by
  have hl := isFrame_nil f w
  go_enter Try.func11, Try.ntmps11
  go_wp2_with (go_at_call 21; (with_reducible refine hl.mono ?_); rintro e w1 ⟨rfl, rfl⟩)
  go_ret
  exact ⟨rfl, rfl⟩
theorem count_f (h : Fx B w s g I) (ok : OkF I) (x : Int) : Calls Try.prog 12 #[.pointer (some ⟨s, 0, none⟩), .int .i64 x] w fun e w' => e = .returned (.int .i64 (I.count x : Nat)) ∧ w = w' := by
  have hs := state_f x w
  by_cases c1 : isF x = true
  · rw [c1] at hs
    have c2 := isF_iff.1 c1
    obtain ⟨k, rfl⟩ : ∃ k : Nat, x = k := ⟨x.toNat, by omega⟩
    have hk : k < 6 := by omega
    have d0 := h.ct hk
    have k1 : (k : Int) < 6 := by omega
    have k0 : (0 : Int) ≤ k := by omega
    generalize I.count (k : Int) = y at *
    clear h ok c1 c2 hk
    go_enter Try.func12, Try.ntmps12
    go_wp2_with (go_at_call 22; (with_reducible refine hs.mono ?_); rintro e w1 ⟨rfl, rfl⟩)
    go_ret
    exact ⟨rfl, rfl⟩
  · have c2 : isF x = false := by simpa using c1
    rw [c2] at hs
    rw [ok.none c2]
    clear h ok c1 c2
    go_enter Try.func12, Try.ntmps12
    go_wp2_with (go_at_call 22; (with_reducible refine hs.mono ?_); rintro e w1 ⟨rfl, rfl⟩)
    go_ret
    exact ⟨rfl, rfl⟩
theorem count_nil (x : Int) (w : World) : Calls Try.prog 12 #[.pointer none, .int .i64 x] w fun e w' => e = .returned (.int .i64 0) ∧ w = w' := by
  go_enter Try.func12, Try.ntmps12
  go_wp2_with fail
  go_ret
  exact ⟨rfl, rfl⟩
end
end Go.Proofs.Ytnbphpkcpipbkaa
