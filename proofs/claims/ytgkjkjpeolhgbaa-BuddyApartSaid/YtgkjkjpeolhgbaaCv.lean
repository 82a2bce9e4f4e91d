/- A call of both sides: a giving back, of what was taken or of a named block. -/
import Derived.Test.YtgkjkjpeolhgbaaCu
import Derived.BigQuiet
namespace Go.Proofs.Ytgkjkjpeolhgbaa
open Go.RowKit

section
variable {w : World} {B s a x y n : Nat} {F G : List Bool} {T : List (Nat × Nat)} {tv : Value}
set_option maxHeartbeats 1000000 in
set_option maxRecDepth 100000 in
theorem do_give (h : St B w s a x y n F F T tv) (hH : Held F T) {K Fr o N : Int} {hf : Bool} (hK : K = 4) :
    Calls Try.prog 13 #[.pointer (some ⟨s, 0, none⟩), .agg #[.int .i64 K, .int .i64 Fr, .int .i64 o, .int .i64 N, .bool hf]] w (Did B s a x y n tv w) := by
  obtain ⟨A, c, hv⟩ := own_form h.own
  subst hv
  have hT10 : T.length ≤ 1024 := by have := hH.len_n; have := h.len; have := h.n10; omega
  have hG : ∀ w1, St B w1 s a x y n F F T (.slice A T.length c) → ∀ i, i < T.length → Calls Try.prog 22 #[.pointer (some ⟨s, 0, none⟩), .int .i64 (i : Nat), .bool hf] w1 (Gave B s a x y n F (.slice A T.length c) w1) := fun w1 h1 i hi => give_all h1 hH hi hf
  obtain ⟨m1, hm1⟩ : ∃ m1, m1 = T.length := ⟨_, rfl⟩
  rw [← hm1] at h hT10 hG ⊢
  have HM1 := Lib.hid hm1
  have HS := Lib.hid h
  have HG := Lib.hid hG
  have HH := Lib.hid hH
  clear hm1 h hH hG
  have HS1 := HS.out.alloc (.cells #[.int .i64 K, .int .i64 Fr, .int .i64 o, .int .i64 N, .bool hf] 30)
  have HQ1 := Lrow.new w 30 [.int .i64 K, .int .i64 Fr, .int .i64 o, .int .i64 N, .bool hf]
  have HST1 := Lib.hid (fun q => Step.call (B := B) (below_dN ((Below.refl w.heap.size w).alloc (Nat.le_refl _) (.cells #[.int .i64 K, .int .i64 Fr, .int .i64 o, .int .i64 N, .bool hf] 30)) q) HS.out.lo (.slice A m1 c))
  have hcz := HS1.c2
  have hq3 : (w.alloc (.cells #[.int .i64 K, .int .i64 Fr, .int .i64 o, .int .i64 N, .bool hf] 30)).cell? ⟨w.heap.size, 3, none⟩ = some (.int .i64 N) := HQ1.cell 3
  have hq4 : (w.alloc (.cells #[.int .i64 K, .int .i64 Fr, .int .i64 o, .int .i64 N, .bool hf] 30)).cell? ⟨w.heap.size, 4, none⟩ = some (.bool hf) := HQ1.cell 4
  have HS2 := Lib.hid (fun q => HS1.drewN q)
  clear HS HS1 HQ1
  subst hK
  by_cases hN : 0 ≤ N
  · have d0 : decide (0 ≤ N) = true := by simpa using hN
    obtain ⟨i, rfl⟩ : ∃ i : Nat, N = i := ⟨N.toNat, by omega⟩
    by_cases hlt : i < m1
    · have d1 : decide ((i : Int) < m1) = true := by simpa using hlt
      go_enter Try.func13, Try.ntmps13
      go_wp2_with fail
      go_quiet (fail)
      go_wp2_with fail
      refine Calls.mono (HG.out _ (HS2.out _) i hlt) ?_
      rintro e w2 ⟨rfl, F', T', tv', h1, h2, h3, -⟩
      have HR := Lib.hid (And.intro h1 (And.intro h2 h3))
      clear h1 h2 h3 HS2
      go_wp2
      go_ret
      exact ⟨rfl, _, _, _, HR.out.1, HR.out.2.1, (HST1.out _).trans HR.out.2.2⟩
    · have d1 : decide ((i : Int) < m1) = false := by simpa using hlt
      go_enter Try.func13, Try.ntmps13
      go_wp2_with fail
      go_quiet (fail)
      go_wp2
      go_ret
      exact ⟨rfl, _, _, _, HS2.out _, HH.out, HST1.out _⟩
  · have d0 : decide (0 ≤ N) = false := by simpa using hN
    go_enter Try.func13, Try.ntmps13
    go_wp2_with fail
    go_quiet (fail)
    go_wp2
    go_ret
    exact ⟨rfl, _, _, _, HS2.out _, HH.out, HST1.out _⟩
end
end Go.Proofs.Ytgkjkjpeolhgbaa
