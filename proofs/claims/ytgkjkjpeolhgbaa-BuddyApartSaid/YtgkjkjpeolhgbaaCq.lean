/- Both sides made; the size of a run; two lists of blocks that are the same. -/
import Derived.Test.YtgkjkjpeolhgbaaCp
namespace Go.Proofs.Ytgkjkjpeolhgbaa
open Go.RowKit

/-- Not too many frames. -/
def smI (f : Int) : Int := if 300 < f ∧ f ≤ 1024 then 300 else f
theorem small_any (f : Int) (w : World) : Calls Try.prog 11 #[.int .i64 f] w fun e w' => e = .returned (.int .i64 (smI f)) ∧ w = w' := by
  by_cases h : 300 < f
  · by_cases h2 : f ≤ 1024
    · have HE : Hid (300 = smI f) := by
        show _ = _
        unfold smI; rw [if_pos ⟨h, h2⟩]
      go_enter Try.func11, Try.ntmps11
      go_wp2
      go_ret
      exact ⟨ret_int HE.out, rfl⟩
    · have HE : Hid (f = smI f) := by
        show _ = _
        unfold smI; rw [if_neg (fun g => h2 g.2)]
      go_enter Try.func11, Try.ntmps11
      go_wp2
      go_ret
      exact ⟨ret_int HE.out, rfl⟩
  · have HE : Hid (f = smI f) := by
      show _ = _
      unfold smI; rw [if_neg (fun g => h g.1)]
    go_enter Try.func11, Try.ntmps11
    go_wp2
    go_ret
    exact ⟨ret_int HE.out, rfl⟩
theorem made_bad {f : Int} (h : f < 8 ∨ 1024 < f) (w : World) : Calls Try.prog 10 #[.int .i64 f] w fun e w' => e = .returned (.tuple #[.pointer none, .bool true]) ∧ w = w' := by
  have h1 := fun W => new_bad h W
  have h2 := fun W => refNew_bad h W
  clear h
  go_enter Try.func10, Try.ntmps10
  go_wp2_with (first | (go_at_call 23; refine (h1 _).mono ?_; rintro e w' ⟨rfl, rfl⟩) | (go_at_call 29; refine (h2 _).mono ?_; rintro e w' ⟨rfl, rfl⟩))
  go_ret2
  exact ⟨rfl, rfl⟩
/-- Both, new, over n frames that are all free. -/
def Made (n : Nat) (w : World) (e : Ending) (w' : World) : Prop :=
  ∃ s a x y : Nat, e = .returned (.tuple #[.pointer (some ⟨s, 0, none⟩), .bool true]) ∧ St w.heap.size w' s a x y n (List.replicate n true) (List.replicate n true) [] (.slice none 0 0) ∧ Below w.heap.size w w'
theorem made_any (n : Nat) (h1 : 8 ≤ n) (h2 : n ≤ 1024) (w : World) : Calls Try.prog 10 #[.int .i64 n] w (Made n w) := by
  have hN := new_any n h1 h2 w
  have hR := fun W => refNew_any n h1 h2 W
  have HR := Lib.hid hR
  clear hR
  go_enter Try.func10, Try.ntmps10
  go_wp2_with fail
  refine Calls.mono hN ?_
  rintro e w1 ⟨L1, rfl, hb1, hx1, hg1⟩
  have HX1 := Lib.hid hx1
  have HG1 := Lib.hid hg1
  have HB1 := Lib.hid hb1
  clear hx1 hg1 hb1 hN
  generalize hgg : w.heap.size = g at HX1 HB1 ⊢
  have HGG := Lib.hid hgg
  clear hgg
  go_wp2_with fail
  refine Calls.mono (HR.out w1) ?_
  rintro e w2 ⟨rfl, hb2, hr2⟩
  have HX2 := Lib.hid (HX1.out.call hb2)
  have HB2 := Lib.hid (HB1.out.trans (hb2.mono (by have := HX1.out.lo; omega)))
  have HR2 := Lib.hid hr2
  have hgs : g ≤ w1.heap.size := by have := HX1.out.lt; omega
  clear hb2 hr2 HX1 HB1 HR
  go_wp2
  go_ret2
  have hs := HX2.out.lt
  refine ⟨w2.heap.size, g, w1.heap.size + 1, w1.heap.size, rfl, ?_, ?_⟩
  · rw [HGG.out]
    exact ⟨⟨L1, HX2.out.alloc _, HG1.out⟩, HR2.out.alloc _, Lrow.new w2 _ _, World.ownsRow_nil _ _ _ _, by simp, h2, by omega, by omega, hgs⟩
  · rw [HGG.out]
    exact HB2.out.alloc (by omega) _
section
variable {w : World} {A A' : Option Addr} {L M : List (Nat × Nat)} {c c' : Nat}
theorem same_same (h : BlkRow w A L) (h' : BlkRow w A' L) (hm : L.length ≤ 4096) : Calls Try.prog 19 #[.slice A L.length c, .slice A' L.length c'] w fun e w' => e = .returned (.bool true) ∧ ∃ q, w' = w.drewN q := by
  have H := Lib.hid h.at_
  have H' := Lib.hid h'.at_
  clear h h'
  obtain ⟨n, en⟩ : ∃ n, n = L.length := ⟨_, rfl⟩
  have HE := Lib.hid en
  rw [← en] at hm ⊢
  clear en
  go_enter Try.func19, Try.ntmps19
  go_wp2
  go_loopw [5] (fun i wr => ∃ j k : Nat, j ≤ n ∧ i = .int .i64 j ∧ wr = w.drewN k) (fun i _ => n - (intOf i).toNat)
  case atStart => exact ⟨0, 0, Nat.zero_le _, rfl, rfl⟩
  case round =>
    obtain ⟨j, k, hj, rfl, rfl⟩ := hrel
    by_cases hlt : j < n
    · obtain ⟨g, rfl, _, hc⟩ := (H.out.drewN k) (by rw [← HE.out]; omega)
      obtain ⟨g', rfl, _, hc'⟩ := (H'.out.drewN k) (by rw [← HE.out]; omega)
      obtain ⟨c0, c1⟩ := hc j (by rw [← HE.out]; omega)
      obtain ⟨e0, e1⟩ := hc' j (by rw [← HE.out]; omega)
      obtain ⟨x, ex⟩ : ∃ x, x = (L.getD j (0, 0)).1 := ⟨_, rfl⟩
      obtain ⟨y, ey⟩ : ∃ y, y = (L.getD j (0, 0)).2 := ⟨_, rfl⟩
      rw [← ex] at c0 e0
      rw [← ey] at c1 e1
      obtain ⟨w1, ew⟩ : ∃ w1, w1 = w.drewN k := ⟨_, rfl⟩
      rw [← ew] at c0 c1 e0 e1 ⊢
      have HW := Lib.hid ew
      clear ex ey ew hc hc'
      go_wp2_with fail
      go_quiet (fail)
      go_wp2_with fail
      go_roundw
      case rel => exact ⟨j + 1, k + _, by omega, by go_num, by rw [HW.out, drewN_add]⟩
      case measure => simp [intOf]; omega
    · go_wp2
      go_ret
      exact ⟨rfl, k, rfl⟩
end
end Go.Proofs.Ytgkjkjpeolhgbaa
