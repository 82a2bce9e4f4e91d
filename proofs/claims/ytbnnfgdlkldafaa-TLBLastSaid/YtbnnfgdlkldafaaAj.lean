/- The reference: which lines meet a stretch; Flush, Look, Same. -/
import Derived.Test.YtbnnfgdlkldafaaAq
import Derived.Test.YtbnnfgdlkldafaaAa
import Derived.Test.YtbnnfgdlkldafaaAc
import Derived.Test.YtbnnfgdlkldafaaAe
import Derived.Deep.LoopGhost
namespace Go.Proofs.Ytbnnfgdlkldafaa
open Go.RowKit
section
theorem drewN_add (w : World) (a b : Nat) : (w.drewN a).drewN b = w.drewN (a + b) := by simp
theorem meets_miss {c : Cd} {sp q n : Int} (h : ¬ c.s = sp) : metB c sp q n = false := by
  unfold metB; rw [decide_eq_false_iff_not]; exact fun k => h k.2.1
theorem meets_yes {c : Cd} {q n x : Int} (hn : 1 ≤ n) (h1 : c.p ≤ x) (h2 : x < c.p + szO c.o) (h3 : q ≤ x) (h4 : x < q + n) : metB c c.s q n = true := by
  unfold metB; rw [decide_eq_true_iff]; exact ⟨hn, rfl, by omega, by omega⟩
theorem meets_no {c : Cd} {q n : Int} (hz : 1 ≤ szO c.o) (h : ∀ j : Nat, (j : Int) < szO c.o → ¬ (q ≤ c.p + j ∧ c.p + j < q + n)) : metB c c.s q n = false := by
  unfold metB
  rw [decide_eq_false_iff_not]
  rintro ⟨h1, -, h2, h3⟩
  by_cases hq : q ≤ c.p
  · exact h 0 (by omega) ⟨by omega, by omega⟩
  · obtain ⟨j, hj⟩ : ∃ j : Nat, q - c.p = j := ⟨(q - c.p).toNat, by omega⟩
    exact h j (by omega) ⟨by omega, by omega⟩
set_option maxHeartbeats 4000000 in
set_option maxRecDepth 100000 in
theorem meets_any {c : Cd} (hc : ROk c) (sp : Int) {q n : Int} (hq : Fits q) (hn : Fits n) (h1 : 1 ≤ n) (w : World) : Calls Try.prog 27 #[cv c, .int .i64 sp, .int .i64 q, .int .i64 n] w fun e w' => e = .returned (.bool (metB c sp q n)) ∧ Below w.heap.size w w' := by
  obtain ⟨W0, hW0⟩ : ∃ W0, W0 = w.alloc (.cells (ccell c).toArray 31) := ⟨_, rfl⟩
  have g0 : Below w.heap.size w W0 := hW0 ▸ below_new w _
  obtain ⟨s0, hs0⟩ : ∃ s0, s0 = w.heap.size := ⟨_, rfl⟩
  have rs : Lrow W0 s0 31 (ccell c) := by rw [hW0, hs0]; exact Lrow.new w _ _
  have hsz := fun w => size8_q c.o w
  have hz := szO_pos c.o
  have hms := @meets_miss c sp q n
  have hyes := fun x => @meets_yes c q n x
  have hno := @meets_no c q n hz.1
  obtain ⟨-, -, p0, p1, -, -, -, -⟩ := hc
  have d0 := rs.cell 0
  have d1 := rs.cell 1
  have d2 := rs.cell 2
  obtain ⟨⟨s, p, o, f, b⟩, rfl⟩ : ∃ z, z = c := ⟨_, rfl⟩
  dsimp only [ccell] at hsz hz p0 p1 hyes hno hms
  replace d0 : W0.cell? ⟨s0, 0, none⟩ = some (.int .i64 s) := d0
  replace d1 : W0.cell? ⟨s0, 1, none⟩ = some (.int .i64 p) := d1
  replace d2 : W0.cell? ⟨s0, 2, none⟩ = some (.int .i64 o) := d2
  obtain ⟨z, ez⟩ : ∃ z, z = szO o := ⟨_, rfl⟩
  rw [← ez] at hsz hz hyes hno
  have HW := Lib.hid (And.intro hW0 hs0)
  have HB : Hid (∀ k {w1 : World}, w1 = W0.drewN k → Below w.heap.size w w1) := fun k w1 e => e ▸ below_dN g0 k
  obtain ⟨q0, q1⟩ := hq
  obtain ⟨n0, n1⟩ := hn
  obtain ⟨z0, z1⟩ := hz
  have HNO := Lib.hid hno
  have HY := Lib.hid hyes
  have HMS := Lib.hid hms
  dsimp only [ccell] at HW
  clear hW0 hs0 rs g0 hno hyes hms ez
  by_cases hsp : s = sp
  · have ksp : (s == sp) = true := by simpa using hsp
    subst hsp
    go_enter Try.func27, Try.ntmps27
    go_upto_region 1 with (fail)
    rw [← HW.out.1, ← HW.out.2]
    go_wp2
    go_loopw [9] (fun i wr => ∃ j k : Nat, (j : Int) ≤ z ∧ i = .int .i64 (p + j) ∧ wr = W0.drewN k ∧ ∀ j' : Nat, j' < j → ¬ (q ≤ p + (j' : Int) ∧ p + (j' : Int) < q + n)) (fun i _ => (p + z - intOf i).toNat)
    case atStart => exact ⟨0, 0, by omega, by simp, rfl, fun j' h => absurd h (Nat.not_lt_zero _)⟩
    case round =>
      obtain ⟨j, k, hj, rfl, rfl, hnx⟩ := hrel
      obtain ⟨x, hx⟩ : ∃ x, x = p + (j : Int) := ⟨_, rfl⟩
      rw [← hx]
      have e0 : (W0.drewN k).cell? ⟨s0, 0, none⟩ = some (.int .i64 s) := d0
      have e1 : (W0.drewN k).cell? ⟨s0, 1, none⟩ = some (.int .i64 p) := d1
      have e2 : (W0.drewN k).cell? ⟨s0, 2, none⟩ = some (.int .i64 o) := d2
      obtain ⟨w1, ew⟩ : ∃ w1, w1 = W0.drewN k := ⟨_, rfl⟩
      have HWR := Lib.hid ew
      rw [← ew] at e0 e1 e2 ⊢
      have HX := Lib.hid hx
      have HNX : Hid (¬ (q ≤ x ∧ x < q + n) → ∀ j' : Nat, j' < j + 1 → ¬ (q ≤ p + (j' : Int) ∧ p + (j' : Int) < q + n)) := fun h j' hj' => by
        by_cases e : j' = j
        · rw [e, ← hx]; exact h
        · exact hnx j' (by omega)
      have HNX0 := Lib.hid hnx
      have x0 : 0 ≤ x := by omega
      have x1 : x ≤ 4160 := by omega
      have HYES : Hid (x < p + z ∧ q ≤ x ∧ x < q + n → metB ⟨s, p, o, f, b⟩ s q n = true) := fun h => HY.out x h1 (by show p ≤ x; omega) h.1 h.2.1 h.2.2
      by_cases hlt : x < p + z
      · clear hnx ew
        clear hx
        by_cases hqx : q ≤ x
        · by_cases hq0 : q < 0
          · have hw1 : IntKind.i64.wrap (n + q) = n + q := IntWalk.i64_in _ (by omega)
            have hw2 : True := trivial
            by_cases hnx1 : x < n
            · by_cases hnq : x < n + q
              · have HIT : Hid (metB ⟨s, p, o, f, b⟩ s q n = true) := HYES.out (by omega)
                go_wp2_with fail
                go_quiet ((go_at_call 26; exact Calls.quiet_of_same (hsz _)))
                go_wp2_with fail
                go_ret
                exact ⟨ret_bool (HIT.out).symm, HB.out (k + nq) (by rw [HWR.out, drewN_add])⟩
              · have NOHIT : Hid (¬ (q ≤ x ∧ x < q + n)) := by show ¬ _; intro h; omega
                go_wp2_with fail
                go_quiet ((go_at_call 26; exact Calls.quiet_of_same (hsz _)))
                go_wp2_with fail
                clear hw1 hw2
                go_roundw
                case rel => exact ⟨j + 1, k + nq, by have := HX.out; omega, by have := HX.out; go_num, by rw [HWR.out, drewN_add], HNX.out NOHIT.out⟩
                case measure => have := HX.out; simp [intOf]; omega
            · have NOHIT : Hid (¬ (q ≤ x ∧ x < q + n)) := by show ¬ _; intro h; omega
              go_wp2_with fail
              go_quiet ((go_at_call 26; exact Calls.quiet_of_same (hsz _)))
              go_wp2_with fail
              clear hw1 hw2
              go_roundw
              case rel => exact ⟨j + 1, k + nq, by have := HX.out; omega, by have := HX.out; go_num, by rw [HWR.out, drewN_add], HNX.out NOHIT.out⟩
              case measure => have := HX.out; simp [intOf]; omega
          · have hq0' : 0 ≤ q := by omega
            have hw2 : IntKind.i64.wrap (x - q) = x - q := IntWalk.i64_in _ (by omega)
            have hw1 : True := trivial
            by_cases hxn : x - q < n
            · have HIT : Hid (metB ⟨s, p, o, f, b⟩ s q n = true) := HYES.out (by omega)
              go_wp2_with fail
              go_quiet ((go_at_call 26; exact Calls.quiet_of_same (hsz _)))
              go_wp2_with fail
              go_ret
              exact ⟨ret_bool (HIT.out).symm, HB.out (k + nq) (by rw [HWR.out, drewN_add])⟩
            · have NOHIT : Hid (¬ (q ≤ x ∧ x < q + n)) := by show ¬ _; intro h; omega
              go_wp2_with fail
              go_quiet ((go_at_call 26; exact Calls.quiet_of_same (hsz _)))
              go_wp2_with fail
              clear hw1 hw2
              go_roundw
              case rel => exact ⟨j + 1, k + nq, by have := HX.out; omega, by have := HX.out; go_num, by rw [HWR.out, drewN_add], HNX.out NOHIT.out⟩
              case measure => have := HX.out; simp [intOf]; omega
        · have hw1 : True := trivial
          have hw2 : True := trivial
          have NOHIT : Hid (¬ (q ≤ x ∧ x < q + n)) := by show ¬ _; intro h; omega
          go_wp2_with fail
          go_quiet ((go_at_call 26; exact Calls.quiet_of_same (hsz _)))
          go_wp2_with fail
          clear hw1 hw2
          go_roundw
          case rel => exact ⟨j + 1, k + nq, by have := HX.out; omega, by have := HX.out; go_num, by rw [HWR.out, drewN_add], HNX.out NOHIT.out⟩
          case measure => have := HX.out; simp [intOf]; omega
      · have hmf : Hid (metB ⟨s, p, o, f, b⟩ s q n = false) := HNO.out fun j' hj' => HNX0.out j' (by omega)
        clear hnx ew hx
        go_wp2_with fail
        go_quiet ((go_at_call 26; exact Calls.quiet_of_same (hsz _)))
        go_wp2_with fail
        go_ret
        exact ⟨ret_bool hmf.out.symm, HB.out (k + nq) (by rw [HWR.out, drewN_add])⟩
  · have ksp : (s == sp) = false := by simpa using hsp
    have hmf := Lib.hid (HMS.out hsp)
    go_enter Try.func27, Try.ntmps27
    go_upto_region 1 with (fail)
    rw [← HW.out.1, ← HW.out.2]
    go_wp2
    go_loopw [9] (fun i wr => ∃ j k : Nat, (j : Int) ≤ z ∧ i = .int .i64 (p + j) ∧ wr = W0.drewN k) (fun i _ => (p + z - intOf i).toNat)
    case atStart => exact ⟨0, 0, by omega, by simp, rfl⟩
    case round =>
      obtain ⟨j, k, hj, rfl, rfl⟩ := hrel
      obtain ⟨x, hx⟩ : ∃ x, x = p + (j : Int) := ⟨_, rfl⟩
      rw [← hx]
      have e0 : (W0.drewN k).cell? ⟨s0, 0, none⟩ = some (.int .i64 s) := d0
      have e1 : (W0.drewN k).cell? ⟨s0, 1, none⟩ = some (.int .i64 p) := d1
      have e2 : (W0.drewN k).cell? ⟨s0, 2, none⟩ = some (.int .i64 o) := d2
      obtain ⟨w1, ew⟩ : ∃ w1, w1 = W0.drewN k := ⟨_, rfl⟩
      have HWR := Lib.hid ew
      rw [← ew] at e0 e1 e2 ⊢
      have HX := Lib.hid hx
      have x0 : 0 ≤ x := by omega
      have x1 : x ≤ 4160 := by omega
      by_cases hlt : x < p + z
      · clear ew hx
        go_wp2_with fail
        go_quiet ((go_at_call 26; exact Calls.quiet_of_same (hsz _)))
        go_wp2_with fail
        go_roundw
        case rel => exact ⟨j + 1, k + nq, by have := HX.out; omega, by have := HX.out; go_num, by rw [HWR.out, drewN_add]⟩
        case measure => have := HX.out; simp [intOf]; omega
      · clear ew hx
        go_wp2_with fail
        go_quiet ((go_at_call 26; exact Calls.quiet_of_same (hsz _)))
        go_wp2_with fail
        go_ret
        exact ⟨ret_bool hmf.out.symm, HB.out (k + nq) (by rw [HWR.out, drewN_add])⟩
end
end Go.Proofs.Ytbnnfgdlkldafaa
