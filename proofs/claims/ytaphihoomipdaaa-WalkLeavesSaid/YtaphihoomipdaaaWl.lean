/- The walk of the law WalkPaths: a walk's tables begin with the root, and are as many as its levels. -/
import Derived.Test.YtaphihoomipdaaaWk
namespace Go.Proofs.Ytaphihoomipdaaa
open Go.RowKit
theorem fol_ok {ws : List Int} {root p : Int} (h : (fol ws root p).er = 0) : (fol ws root p).lv ≤ 3 ∧ (fol ws root p).ts.length = 4 - (fol ws root p).lv ∧ ∃ ts, (fol ws root p).ts = root :: ts := by
  unfold fol at h ⊢
  split
  · rename_i hc
    rw [if_pos hc] at h
    have hf := wk_fine ws p 3 root
    exact ⟨(hf.ok h).1, (hf.ok h).2, hf.head (by omega)⟩
  · rename_i hc
    rw [if_neg hc] at h
    simp at h
theorem fol_none {ws : List Int} {root p : Int} (h : (fol ws root p).er = 6) : (1 ≤ (fol ws root p).ts.length ∧ (fol ws root p).ts.length ≤ 4) ∧ ∃ ts, (fol ws root p).ts = root :: ts := by
  unfold fol at h ⊢
  split
  · rename_i hc
    rw [if_pos hc] at h
    have hf := wk_fine ws p 3 root
    exact ⟨hf.none h, hf.head (by omega)⟩
  · rename_i hc
    rw [if_neg hc] at h
    simp at h
theorem fol_bad {ws : List Int} {root p : Int} (h : (fol ws root p).er = 3 ∨ (fol ws root p).er = 5) : (fol ws root p).ts = [] := by
  unfold fol at h ⊢
  split
  · rename_i hc
    rw [if_pos hc] at h
    have hf := wk_fine ws p 3 root
    rcases h with h | h
    · rcases hf.er with k | k | k <;> omega
    · exact hf.bad h
  · rfl
set_option maxRecDepth 100000 in
set_option maxHeartbeats 2000000 in
theorem paths_bad (f root page : Int) (ap : Option Addr) (n c : Nat) (W : World) (hf : f < 8 ∨ 1024 < f) : Calls Try.prog 6 #[.agg #[.int .i64 f, .slice ap n c, .int .i64 root, .int .i64 page]] W fun e W' => e = .returned (.bool true) ∧ Below W.heap.size W W' := by
  have b0 := Lib.hid (below_new W 39 [.int .i64 f, .slice ap n c, .int .i64 root, .int .i64 page])
  have HF := Lib.hid hf
  clear hf
  go_enter Try.func6, Try.ntmps6
  go_wp2_with fail
  refine (made_bad f ap n c _ HF.out).mono ?_
  rintro e w1 ⟨rfl, k1⟩
  have B1 := Lib.hid (below_chain b0.out k1 b0.out.size)
  clear k1
  go_wp2_with fail
  refine (awake_any _).mono ?_
  rintro e w2 ⟨rfl, k2⟩
  have B2 := Lib.hid (below_chain B1.out k2 B1.out.size)
  clear k2 B1
  go_wp2_with fail
  refine (awake_any _).mono ?_
  rintro e w3 ⟨rfl, k3⟩
  have B3 := Lib.hid (below_chain B2.out k3 B2.out.size)
  clear k3 B2
  go_wp2_with fail
  go_ret
  exact ⟨rfl, B3.out⟩
set_option maxRecDepth 100000 in
set_option maxHeartbeats 4000000 in
theorem paths_ok (F : Nat) (root page : Int) (ap : Option Addr) (n c : Nat) (W : World) (h8 : 8 ≤ F) (h1024 : F ≤ 1024) (hl : Lds W W.heap.size ap n) : Calls Try.prog 6 #[.agg #[.int .i64 F, .slice ap n c, .int .i64 root, .int .i64 page]] W fun e W' => e = .returned (.bool true) ∧ Below W.heap.size W W' := by
  obtain ⟨g, hg⟩ : ∃ g, g = W.heap.size := ⟨_, rfl⟩
  have HG := Lib.hid hg
  obtain ⟨w0, hw0⟩ : ∃ w0, w0 = W.alloc (.cells #[.int .i64 F, .slice ap n c, .int .i64 root, .int .i64 page] 39) := ⟨_, rfl⟩
  have r0 : Row w0 g 39 [.int .i64 F, .slice ap n c, .int .i64 root, .int .i64 page] := by rw [hw0, hg]; exact Row.new W _ _
  have B0 : Below W.heap.size W w0 := by rw [hw0]; exact below_new W _ [.int .i64 F, .slice ap n c, .int .i64 root, .int .i64 page]
  have HL := Lib.hid (hl.call B0)
  have HW := Lib.hid hw0
  clear hg hw0 hl
  have c0 : w0.cell? ⟨g, 0, none⟩ = some (.int .i64 F) := r0.cell 0
  have c1 : w0.cell? ⟨g, 1, none⟩ = some (.slice ap n c) := r0.cell 1
  go_enter Try.func6, Try.ntmps6
  go_upto_region 1 with (fail)
  rw [← HW.out, ← HG.out]
  go_wp2_with fail
  refine (made_ok F ap n c _ h8 h1024 HL.out).mono ?_
  rintro e w1 ⟨ra, rb, xa, xb, ws, rfl, S1⟩
  have r1 := r0.below S1.bel r0.lt
  have B1 := below_chain B0 S1.bel B0.size
  clear HL r0 B0 c0 c1
  go_wp2_with fail
  refine (awake_any _).mono ?_
  rintro e w2 ⟨rfl, k2⟩
  have r2 := r1.below k2 r1.lt
  have B2 := below_chain B1 k2 B1.size
  have S2 := S1.call k2
  have c2 : w2.cell? ⟨g, 2, none⟩ = some (.int .i64 root) := r2.cell 2
  have c3 : w2.cell? ⟨g, 3, none⟩ = some (.int .i64 page) := r2.cell 3
  clear k2 r1 B1 S1
  go_wp2_with fail
  obtain ⟨r, hr⟩ : ∃ r, r = fol ws root page := ⟨_, rfl⟩
  have HR := Lib.hid hr
  refine (walk_any S2.r root page).mono ?_
  rw [← hr]
  unfold WalkAns leafE
  obtain ⟨er, her⟩ : ∃ y, y = r.er := ⟨_, rfl⟩
  obtain ⟨f, ef⟩ : ∃ y, y = lfF r := ⟨_, rfl⟩
  obtain ⟨y0, ey0⟩ : ∃ y, y = lfB r 0 := ⟨_, rfl⟩
  obtain ⟨y1, ey1⟩ : ∃ y, y = lfB r 1 := ⟨_, rfl⟩
  obtain ⟨y7, ey7⟩ : ∃ y, y = lfB r 7 := ⟨_, rfl⟩
  obtain ⟨y9, ey9⟩ : ∃ y, y = lfB r 9 := ⟨_, rfl⟩
  obtain ⟨y5, ey5⟩ : ∃ y, y = lfB r 5 := ⟨_, rfl⟩
  obtain ⟨y6, ey6⟩ : ∃ y, y = lfB r 6 := ⟨_, rfl⟩
  obtain ⟨lv, elv⟩ : ∃ y, y = lfV r := ⟨_, rfl⟩
  obtain ⟨fr, efr⟩ : ∃ y, y = lfP r page := ⟨_, rfl⟩
  rw [← her, ← ef, ← ey0, ← ey1, ← ey7, ← ey9, ← ey5, ← ey6, ← elv, ← efr]
  have HER := Lib.hid her
  have HLV := Lib.hid elv
  have HFR := Lib.hid efr
  have HE := Lib.hid (And.intro ef (And.intro ey0 (And.intro ey1 (And.intro ey7 (And.intro ey9 (And.intro ey5 ey6))))))
  rintro e w3 ⟨rfl, k3⟩
  obtain ⟨w4, hw4⟩ : ∃ w4, w4 = w3.alloc (.cells #[.int .i64 f, .bool y0, .bool y1, .bool y7, .bool y9, .bool y5, .bool y6, .int .i64 lv, .int .i64 fr] 41) := ⟨_, rfl⟩
  obtain ⟨q3, hq3⟩ : ∃ q, q = w3.heap.size := ⟨_, rfl⟩
  have k4 : Below w2.heap.size w2 w4 := by rw [hw4]; exact k3.alloc k3.size _
  have r4 := r2.below k4 r2.lt
  have l4 : Row w4 q3 41 [.int .i64 f, .bool y0, .bool y1, .bool y7, .bool y9, .bool y5, .bool y6, .int .i64 lv, .int .i64 fr] := by rw [hw4, hq3]; exact Row.new w3 _ _
  have B4 := below_chain B2 k4 B2.size
  have S4 := S2.call k4
  have HW4 := Lib.hid hw4
  have HQ3 := Lib.hid hq3
  have c2' : w4.cell? ⟨g, 2, none⟩ = some (.int .i64 root) := r4.cell 2
  have c3' : w4.cell? ⟨g, 3, none⟩ = some (.int .i64 page) := r4.cell 3
  clear c2 c3 k3 k4 hw4 hq3 r2 B2 S2 her hr ef ey0 ey1 ey7 ey9 ey5 ey6 elv efr
  go_upto_region 5 with (fail)
  rw [← HW4.out, ← HQ3.out]
  clear HW4 HQ3
  go_wp2_with fail
  refine (path_any S4.r root page).mono ?_
  rw [← HR.out]
  unfold PathAns
  rw [← HER.out]
  rintro e w5 ⟨A, m, cc, rfl, hi, k5⟩
  have r5 := r4.below k5 r4.lt
  have l5 := l4.below k5 l4.lt
  have B5 := Lib.hid (below_chain B4 k5 B4.size)
  have d2 : w5.cell? ⟨g, 2, none⟩ = some (.int .i64 root) := r5.cell 2
  have d7 : w5.cell? ⟨q3, 7, none⟩ = some (.int .i64 lv) := l5.cell 7
  have her4 : er = 0 ∨ er = 3 ∨ er = 5 ∨ er = 6 := by rw [HER.out, HR.out]; exact fol_er ws root page
  have hlen := hi.len
  clear c2' c3' k5 r4 l4 B4 S4 r5 l5
  have hbad : (er = 3 ∨ er = 5) → m = 0 := fun he => by
    rw [← hlen, HR.out, fol_bad (by rw [← HR.out, ← HER.out]; exact he)]; rfl
  rcases her4 with rfl | rfl | rfl | rfl
  · clear hbad
    have hk := fol_ok (ws := ws) (root := root) (p := page) (by rw [← HR.out]; exact HER.out.symm)
    rw [← HR.out] at hk
    obtain ⟨k1, k2, ts, k3⟩ := hk
    have hlv : lv = (r.lv : Int) := by rw [HLV.out]; unfold lfV; rw [if_pos HER.out.symm]
    have hm : (((m : Int)) == 4 - lv) = true := by
      rw [hlv]; simp only [beq_iff_eq]; omega
    have hlb : 0 ≤ lv ∧ lv ≤ 3 := by omega
    obtain ⟨l0, l1⟩ := hlb
    obtain ⟨ad, rfl, -, hc⟩ := hi.cell (j := 0) (by omega)
    have h0 : w5.cell? ad = some (.int .i64 root) := by
      have : r.ts.getD 0 0 = root := by rw [k3]; rfl
      rw [this] at hc; simpa [Addr.add] using hc
    have hm0 : 0 < m := by omega
    clear hi hc k1 k2 k3 hlv hlen
    go_wp2_with fail
    go_quiet (fail)
    go_wp2_with fail
    go_ret
    exact ⟨rfl, drewN_below B5.out _⟩
  · obtain rfl := hbad (Or.inl rfl)
    clear hi hlen hbad
    go_wp2_with fail
    go_ret
    exact ⟨rfl, B5.out⟩
  · obtain rfl := hbad (Or.inr rfl)
    clear hi hlen hbad
    go_wp2_with fail
    go_ret
    exact ⟨rfl, B5.out⟩
  · clear hbad
    have hk := fol_none (ws := ws) (root := root) (p := page) (by rw [← HR.out]; exact HER.out.symm)
    rw [← HR.out] at hk
    obtain ⟨⟨k1, k2⟩, ts, k3⟩ := hk
    have hm1 : decide (1 ≤ (m : Int)) = true := by simp; omega
    have hm4 : decide ((m : Int) ≤ 4) = true := by simp; omega
    have hg1 : 1 ≤ (m : Int) := by omega
    have hg4 : (m : Int) ≤ 4 := by omega
    obtain ⟨ad, rfl, -, hc⟩ := hi.cell (j := 0) (by omega)
    have h0 : w5.cell? ad = some (.int .i64 root) := by
      have : r.ts.getD 0 0 = root := by rw [k3]; rfl
      rw [this] at hc; simpa [Addr.add] using hc
    have hm0 : 0 < m := by omega
    clear hi hc k1 k2 k3 hlen
    go_wp2_with fail
    go_quiet (fail)
    go_wp2_with fail
    go_ret
    exact ⟨rfl, drewN_below B5.out _⟩
theorem paths7_walk (f root page : Int) (ap : Option Addr) (n c : Nat) (W : World) (hl : Lds W W.heap.size ap n) : Calls Try.prog 6 #[.agg #[.int .i64 f, .slice ap n c, .int .i64 root, .int .i64 page]] W fun e W' => e = .returned (.bool true) ∧ Below W.heap.size W W' := by
  by_cases hf : f < 8 ∨ 1024 < f
  · exact paths_bad f root page ap n c W hf
  · obtain ⟨F, rfl⟩ : ∃ F : Nat, f = F := ⟨f.toNat, by omega⟩
    exact paths_ok F root page ap n c W (by omega) (by omega) hl
end Go.Proofs.Ytaphihoomipdaaa
