/- The reference: Put. -/
import Derived.Test.YtbnnfgdlkldafaaAl
namespace Go.Proofs.Ytbnnfgdlkldafaa
open Go.RowKit
section
variable {w w' : World} {B xa z : Nat} {v : Value} {L : List Cd}
theorem first9 {Y X : World} {be : Nat} {sv : Value} {M : List Cd} (hb : Below Y.heap.size Y X) (he : Cs X Y.heap.size (.slice (some ⟨be, 0, none⟩) 0 0) []) (hbe : Y.heap.size ≤ be) (hs : Src Y sv M) (hl : M.length ≤ 1000) : ∃ A c X1,
    (Builtin.append_ #[35, 35] 35 #[.slice (some ⟨be, 0, none⟩) 0 0, sv]).run Try.prog X = .ok (.slice A M.length c) X1 ∧ Cs X1 Y.heap.size (.slice A M.length c) M ∧ X.grownBy X1 (some be) ∧ Below Y.heap.size Y X1 := by
  obtain ⟨A, c, X1, r1, o1, g1⟩ := app_src he hb.size (hs.call hb) hl
  exact ⟨A, c, X1, r1, o1, g1, hb.grown g1 hb.size (fun b e => by injection e with e; omega)⟩
theorem second9 {Y X1 : World} {bc A1 c1} {M : List Cd} {c : Cd} (hb : Below Y.heap.size Y X1) (ho : Cs X1 Y.heap.size (.slice A1 M.length c1) M) (hr : Lrow X1 bc 31 (ccell c)) (hl : M.length ≤ 1000) : ∃ A2 c2 X2,
    (Builtin.append_ #[35, 35] 35 #[.slice A1 M.length c1, .slice (some ⟨bc, 0, none⟩) 1 1]).run Try.prog X1 = .ok (.slice A2 (M.length + 1) c2) X2 ∧ Cs X2 Y.heap.size (.slice A2 (M ++ [c]).length c2) (M ++ [c]) ∧ Below Y.heap.size Y X2 := by
  obtain ⟨A2, c2, X2, r2, o2, g2, -⟩ := app_run ho hb.size ⟨bc, 0, none⟩ 1 [c] (fun j u hu => by rw [add_offs, hr.cell]; rw [ccells_one] at hu; exact hu) (by simp; omega)
  simp only [List.length_cons, List.length_nil, Nat.zero_add] at r2 o2
  refine ⟨A2, c2, X2, r2, by simpa using o2, hb.grown g2 hb.size (fun b e => ?_)⟩
  obtain ⟨vs, _, r⟩ := own_block ho e
  exact r
theorem emp_made (X : World) {D : Nat} (hD : D ≤ X.heap.size) : Cs (X.alloc (.cells #[] 31)) D (.slice (some ⟨X.heap.size, 0, none⟩) 0 0) [] := (Cs.made X).base hD
/-- The lines are laid anew, whatever stood there. -/
theorem set9 {Y X2 : World} {sv v' : Value} {L' : List Cd} (ht : Lrow Y xa 38 [.int .i64 z, sv]) (lo : B ≤ xa) (lw : B ≤ Y.heap.size) (hb : Below Y.heap.size Y X2) (ho : Cs X2 Y.heap.size v' L') :
    (X2.cell? ⟨xa, 1, none⟩ = some sv ∧ X2.frozen? ⟨xa, 1, none⟩ = false) ∧ Rb B (X2.setCell ⟨xa, 1, none⟩ v') xa z v' L' ∧ Foot (fun k => k = xa) Y (X2.setCell ⟨xa, 1, none⟩ v') ∧ ∀ g, v'.ownBlock = some g → Y.heap.size ≤ g := by
  have ht2 := ht.call hb
  refine ⟨⟨ht2.cell 1, ht2.frozen 1⟩, ⟨ht2.set_ 1 v', ?_, lo, by simpa [World.setCell] using Nat.le_trans lw hb.size⟩, ?_, fun g e => ?_⟩
  · refine (ho.base lw).heap fun g e => ?_
    obtain ⟨vs, r, _⟩ := own_block ho e
    exact Below.heap_setCell X2 _ _ g (r.apart ht2 (by decide))
  · exact (Foot.of_below (X := fun k => k = xa) hb).trans (Foot.grown (X := fun k => k = xa) (grown_set X2 xa 1 _) rfl) (fun _ h _ => h)
  · obtain ⟨vs, _, r⟩ := own_block ho e
    exact r
set_option maxHeartbeats 4000000 in
set_option maxRecDepth 100000 in
theorem refPut_any (h : Rb B w xa z v L) (hg : Good z L) (z1 : 1 ≤ z) (z64 : z ≤ 64) {c : Cd} (hc : CFits c) : Calls Try.prog 30 #[.pointer (some ⟨xa, 0, none⟩), cv c] w (DidR B w xa z v (putL z L c) (.int .i64 (putE c))) := by
  obtain ⟨W0, hW0⟩ : ∃ W0, W0 = w.alloc (.cells (ccell c).toArray 31) := ⟨_, rfl⟩
  obtain ⟨s, hs⟩ : ∃ s, s = w.heap.size := ⟨_, rfl⟩
  have g0 : Below w.heap.size w W0 := hW0 ▸ below_new w _
  have rs : Lrow W0 s 31 (ccell c) := by rw [hW0, hs]; exact Lrow.new w _ _
  have hmb := fun W => right9_any c W
  have hT0 := h.call g0
  have HW : Hid (W0 = w.alloc (.cells #[.int .i64 c.s, .int .i64 c.p, .int .i64 c.o, .int .i64 c.f, .bool c.w] 31) ∧ s = w.heap.size) := And.intro hW0 hs
  have d0 : W0.cell? ⟨s, 0, none⟩ = some (.int .i64 c.s) := rs.cell 0
  have d1 : W0.cell? ⟨s, 1, none⟩ = some (.int .i64 c.p) := rs.cell 1
  have d2 : W0.cell? ⟨s, 2, none⟩ = some (.int .i64 c.o) := rs.cell 2
  have d3 : W0.cell? ⟨s, 3, none⟩ = some (.int .i64 c.f) := rs.cell 3
  have d4 : W0.cell? ⟨s, 4, none⟩ = some (.bool c.w) := rs.cell 4
  cases hr : rgB c
  · have HD : Hid (∀ W1, Below W0.heap.size W0 W1 → DidR B w xa z v (putL z L c) (.int .i64 2) (.returned (.int .i64 2)) W1) := fun W1 hb => by
      refine ⟨rfl, v, ?_, Foot.of_below (g0.trans (hb.mono g0.size)), Or.inl rfl⟩
      rw [show putL z L c = L by unfold putL; rw [hr]; rfl]
      exact hT0.call hb
    rw [show putE c = 2 by unfold putE; rw [hr]; rfl]
    rw [hr] at hmb
    obtain ⟨sp, p, o, f, b⟩ := c
    dsimp only at HW d0 d1 d2 d3 d4
    clear hr hW0 hs g0 rs h hT0 hc
    go_enter Try.func30, Try.ntmps30
    go_upto_region 1 with (fail)
    rw [← HW.out.1, ← HW.out.2]
    go_wp2_with (go_at_call 16; refine (hmb _).mono ?_; rintro e W1 ⟨rfl, hb1⟩)
    go_ret
    exact HD.out _ hb1
  · rw [show putE c = 0 by unfold putE; rw [hr]; rfl]
    rw [hr] at hmb
    have hok : ROk c := of_decide_eq_true hr
    obtain ⟨M, hM⟩ : ∃ M, M = flL L c.s c.p (szO c.o) := ⟨_, rfl⟩
    have hgM : Good z M := hM ▸ hg.flush _ _ _
    rw [show putL z L c = cutL z M ++ [c] by unfold putL; rw [if_pos hr, hM]]
    have hxs : xa < s := hs ▸ h.top.lt
    have hzM : M.length ≤ z := hgM.len
    have HFL : Hid (∀ W1, Rb B W1 xa z v L → Calls Try.prog 18 #[.pointer (some ⟨xa, 0, none⟩), .int .i64 c.s, .int .i64 c.p, .int .i64 (szO c.o)] W1 (DidR B W1 xa z v M (.int .i64 (flN L c.s c.p (szO c.o))))) := fun W1 hT => by
      have := szO_pos c.o
      rw [hM]; exact refFlush_any hT hg.ok (Nat.le_trans hg.len z64) c.s hc.p ⟨by omega, by omega⟩
    have hsz := fun W => size8_any c.o W
    have HF0 : Hid (Foot (fun k => k = xa) w W0) := Foot.of_below g0
    have HT0 := Lib.hid hT0
    have HRS := Lib.hid rs
    have HMZ := Lib.hid hzM
    obtain ⟨sp, p, o, f, b⟩ := c
    dsimp only [ccell] at HW HRS HFL d0 d1 d2 d3 d4 hsz
    obtain ⟨n, hn⟩ : ∃ n, n = szO o := ⟨_, rfl⟩
    rw [← hn] at HFL hsz
    have hlw := h.lw
    clear hr hM hgM hW0 hs g0 rs h hT0 hc hzM hok hg hn
    have TAIL : Hid (∀ (Y : World) (sv : Value) (M' : List Cd), Lrow Y xa 38 [.int .i64 z, sv] → Src Y sv M' → Foot (fun k => k = xa) w Y → Lrow Y s 31 [.int .i64 sp, .int .i64 p, .int .i64 o, .int .i64 f, .bool b] → M'.length ≤ 64 → M' = cutL z M →
        (∃ A1 c1 X1 A2 c2 X2, (Builtin.append_ #[35, 35] 35 #[.slice (some ⟨Y.heap.size + 1, 0, none⟩) 0 0, sv]).run Try.prog ((Y.alloc (.cells #[.int .i64 sp, .int .i64 p, .int .i64 o, .int .i64 f, .bool b] 31)).alloc (.cells #[] 31)).drew = .ok (.slice A1 M'.length c1) X1 ∧ (Builtin.append_ #[35, 35] 35 #[.slice A1 M'.length c1, .slice (some ⟨Y.heap.size, 0, none⟩) 1 1]).run Try.prog X1 = .ok (.slice A2 (M'.length + 1) c2) X2 ∧ ((X2.cell? ⟨xa, 1, none⟩ = some sv ∧ X2.frozen? ⟨xa, 1, none⟩ = false) ∧ DidR B w xa z v (cutL z M ++ [⟨sp, p, o, f, b⟩]) (.int .i64 0) (.returned (.int .i64 0)) (X2.setCell ⟨xa, 1, none⟩ (.slice A2 (M'.length + 1) c2)))) ∧
        (∃ A1 c1 X1 A2 c2 X2, (Builtin.append_ #[35, 35] 35 #[.slice (some ⟨Y.heap.size, 0, none⟩) 0 0, sv]).run Try.prog ((Y.alloc (.cells #[] 31)).alloc (.cells #[.int .i64 sp, .int .i64 p, .int .i64 o, .int .i64 f, .bool b] 31)).drew = .ok (.slice A1 M'.length c1) X1 ∧ (Builtin.append_ #[35, 35] 35 #[.slice A1 M'.length c1, .slice (some ⟨Y.heap.size + 1, 0, none⟩) 1 1]).run Try.prog X1 = .ok (.slice A2 (M'.length + 1) c2) X2 ∧ ((X2.cell? ⟨xa, 1, none⟩ = some sv ∧ X2.frozen? ⟨xa, 1, none⟩ = false) ∧ DidR B w xa z v (cutL z M ++ [⟨sp, p, o, f, b⟩]) (.int .i64 0) (.returned (.int .i64 0)) (X2.setCell ⟨xa, 1, none⟩ (.slice A2 (M'.length + 1) c2)))) ∧
        (∃ A1 c1 X1 A2 c2 X2, (Builtin.append_ #[35, 35] 35 #[.slice (some ⟨Y.heap.size, 0, none⟩) 0 0, sv]).run Try.prog (Y.alloc (.cells #[] 31)).drew = .ok (.slice A1 M'.length c1) X1 ∧ X1.cell? ⟨xa, 1, none⟩ = some sv ∧ (X1.cell? ⟨s, 0, none⟩ = some (.int .i64 sp) ∧ X1.cell? ⟨s, 1, none⟩ = some (.int .i64 p) ∧ X1.cell? ⟨s, 2, none⟩ = some (.int .i64 o) ∧ X1.cell? ⟨s, 3, none⟩ = some (.int .i64 f) ∧ X1.cell? ⟨s, 4, none⟩ = some (.bool b)) ∧ s < X1.heap.size ∧ (Builtin.append_ #[35, 35] 35 #[.slice A1 M'.length c1, .slice (some ⟨X1.heap.size, 0, none⟩) 1 1]).run Try.prog (X1.alloc (.cells #[.int .i64 sp, .int .i64 p, .int .i64 o, .int .i64 f, .bool b] 31)) = .ok (.slice A2 (M'.length + 1) c2) X2 ∧ ((X2.cell? ⟨xa, 1, none⟩ = some sv ∧ X2.frozen? ⟨xa, 1, none⟩ = false) ∧ DidR B w xa z v (cutL z M ++ [⟨sp, p, o, f, b⟩]) (.int .i64 0) (.returned (.int .i64 0)) (X2.setCell ⟨xa, 1, none⟩ (.slice A2 (M'.length + 1) c2))))) := fun Y sv M' hx hs hF hrs hl hM' => by
      have lwY : B ≤ Y.heap.size := Nat.le_trans hlw hF.size
      have fin : ∀ {A2 : Option Addr} {c2 : Nat} {X2 : World}, Below Y.heap.size Y X2 → Cs X2 Y.heap.size (.slice A2 (M' ++ [(⟨sp, p, o, f, b⟩ : Cd)]).length c2) (M' ++ [(⟨sp, p, o, f, b⟩ : Cd)]) → ((X2.cell? ⟨xa, 1, none⟩ = some sv ∧ X2.frozen? ⟨xa, 1, none⟩ = false) ∧ DidR B w xa z v (cutL z M ++ [⟨sp, p, o, f, b⟩]) (.int .i64 0) (.returned (.int .i64 0)) (X2.setCell ⟨xa, 1, none⟩ (.slice A2 (M'.length + 1) c2))) := fun {A2 c2 X2} hb ho => by
        rw [List.length_append] at ho
        obtain ⟨h1, h2, h3, h4⟩ := set9 hx HT0.out.lo lwY hb ho
        refine ⟨h1, rfl, _, by rw [← hM']; exact h2, hF.trans h3 (fun _ h _ => h), Or.inr fun g e => Nat.le_trans hF.size (h4 g e)⟩
      refine ⟨?_, ?_, ?_⟩
      · have hb : Below Y.heap.size Y ((Y.alloc (.cells #[.int .i64 sp, .int .i64 p, .int .i64 o, .int .i64 f, .bool b] 31)).alloc (.cells #[] 31)).drew := below_dN ((below_new Y _).alloc (by simp) _) 1
        have he : Cs ((Y.alloc (.cells #[.int .i64 sp, .int .i64 p, .int .i64 o, .int .i64 f, .bool b] 31)).alloc (.cells #[] 31)).drew Y.heap.size (.slice (some ⟨Y.heap.size + 1, 0, none⟩) 0 0) [] := by
          have := Cs.call (emp_made (Y.alloc (.cells #[.int .i64 sp, .int .i64 p, .int .i64 o, .int .i64 f, .bool b] 31)) (D := Y.heap.size) (by simp)) (below_dN (Below.refl _ _) 1)
          rw [World.size_alloc] at this
          exact this
        obtain ⟨A1, c1, X1, q1, o1, g1, b1⟩ := first9 hb he (by omega) hs (by omega)
        have hr : Lrow X1 Y.heap.size 31 (ccell ⟨sp, p, o, f, b⟩) := by
          have : Lrow ((Y.alloc (.cells #[.int .i64 sp, .int .i64 p, .int .i64 o, .int .i64 f, .bool b] 31)).alloc (.cells #[] 31)).drew Y.heap.size 31 (ccell ⟨sp, p, o, f, b⟩) := ((Lrow.new Y _ _).alloc _).drewN 1
          exact this.grown g1 (by simp)
        obtain ⟨A2, c2, X2, q2, o2, b2⟩ := second9 b1 o1 hr (by omega)
        exact ⟨A1, c1, X1, A2, c2, X2, q1, q2, fin b2 o2⟩
      · have hb : Below Y.heap.size Y ((Y.alloc (.cells #[] 31)).alloc (.cells #[.int .i64 sp, .int .i64 p, .int .i64 o, .int .i64 f, .bool b] 31)).drew := below_dN ((below_new Y _).alloc (by simp) _) 1
        have he : Cs ((Y.alloc (.cells #[] 31)).alloc (.cells #[.int .i64 sp, .int .i64 p, .int .i64 o, .int .i64 f, .bool b] 31)).drew Y.heap.size (.slice (some ⟨Y.heap.size, 0, none⟩) 0 0) [] := by
          exact Cs.call (emp_made Y (D := Y.heap.size) (Nat.le_refl _)) (below_dN (below_new _ _) 1)
        obtain ⟨A1, c1, X1, q1, o1, g1, b1⟩ := first9 hb he (Nat.le_refl _) hs (by omega)
        have hr : Lrow X1 (Y.heap.size + 1) 31 (ccell ⟨sp, p, o, f, b⟩) := by
          have h0 : Lrow ((Y.alloc (.cells #[] 31)).alloc (.cells #[.int .i64 sp, .int .i64 p, .int .i64 o, .int .i64 f, .bool b] 31)).drew (Y.heap.size + 1) 31 (ccell ⟨sp, p, o, f, b⟩) := by
            have := (Lrow.new (Y.alloc (.cells #[] 31)) 31 (ccell ⟨sp, p, o, f, b⟩)).drewN 1
            rw [World.size_alloc] at this
            exact this
          exact h0.grown g1 (by simp)
        obtain ⟨A2, c2, X2, q2, o2, b2⟩ := second9 b1 o1 hr (by omega)
        exact ⟨A1, c1, X1, A2, c2, X2, q1, q2, fin b2 o2⟩
      · have hb : Below Y.heap.size Y (Y.alloc (.cells #[] 31)).drew := below_1d _ 1
        have he : Cs (Y.alloc (.cells #[] 31)).drew Y.heap.size (.slice (some ⟨Y.heap.size, 0, none⟩) 0 0) [] := Cs.call (emp_made Y (D := Y.heap.size) (Nat.le_refl _)) (below_dN (Below.refl _ _) 1)
        obtain ⟨A1, c1, X1, q1, o1, g1, b1⟩ := first9 hb he (Nat.le_refl _) hs (by omega)
        have b3 := below_new X1 (.cells #[.int .i64 sp, .int .i64 p, .int .i64 o, .int .i64 f, .bool b] 31)
        have hr : Lrow (X1.alloc (.cells #[.int .i64 sp, .int .i64 p, .int .i64 o, .int .i64 f, .bool b] 31)) X1.heap.size 31 (ccell ⟨sp, p, o, f, b⟩) := Lrow.new X1 _ _
        obtain ⟨A2, c2, X2, q2, o2, b2⟩ := second9 (b1.trans (b3.mono b1.size)) (o1.call b3) hr (by omega)
        have hrs1 := hrs.call b1
        exact ⟨A1, c1, X1, A2, c2, X2, q1, (hx.call b1).cell 1, ⟨hrs1.cell 0, hrs1.cell 1, hrs1.cell 2, hrs1.cell 3, hrs1.cell 4⟩, hrs1.lt, q2, fin b2 o2⟩
    go_enter Try.func30, Try.ntmps30
    go_upto_region 1 with (fail)
    rw [← HW.out.1, ← HW.out.2]
    go_wp2_with (go_at_call 16; refine (hmb _).mono ?_; rintro e W1 ⟨rfl, hb1⟩)
    have hb1d : Below W0.heap.size W0 W1.drew := below_dN hb1 1
    have hT1 := HT0.out.call hb1d
    have r1 := HRS.out.call hb1d
    have F1 : Foot (fun k => k = xa) w W1.drew := HF0.out.trans (Foot.of_below (X := fun k => k = xa) hb1d) (fun _ h _ => h)
    have e1 : W1.drew.cell? ⟨s, 0, none⟩ = some (.int .i64 sp) := r1.cell 0
    have e2 : W1.drew.cell? ⟨s, 1, none⟩ = some (.int .i64 p) := r1.cell 1
    have e3 : W1.drew.cell? ⟨s, 2, none⟩ = some (.int .i64 o) := r1.cell 2
    have HFC := Lib.hid (HFL.out _ hT1)
    have HF1 := Lib.hid F1
    have HR1 := Lib.hid r1
    clear hb1 hb1d hT1 r1 F1 d0 d1 d2 d3 d4 hmb HFL
    go_region_held3 (fun v => v.cell? ⟨s, 0, none⟩ = some (.int .i64 sp) ∧ v.cell? ⟨s, 1, none⟩ = some (.int .i64 p) ∧ v.cell? ⟨s, 2, none⟩ = some (.int .i64 o)) (first | exact ⟨e1, e2, e3⟩ | exact HS2) (first | (go_at_call 26; refine (hsz _).mono ?_; rintro e w' ⟨rfl, rfl⟩) | (go_at_call 18; refine HFC.out.mono ?_; rintro e W2 ⟨rfl, v2, hT2, hF2, ho2⟩; have r2 := hF2.row HR1.out (fun k => by omega); have HS2 : W2.cell? ⟨s, 0, none⟩ = some (.int .i64 sp) ∧ W2.cell? ⟨s, 1, none⟩ = some (.int .i64 p) ∧ W2.cell? ⟨s, 2, none⟩ = some (.int .i64 o) := ⟨r2.cell 0, r2.cell 1, r2.cell 2⟩))
    have F2 : Foot (fun k => k = xa) w W2 := HF1.out.trans hF2 (fun _ h _ => h)
    obtain ⟨A2, c2, eA⟩ := hT2.own.form
    subst eA
    have k0 := hT2.c0
    have k1 := hT2.c1
    have HT2 := Lib.hid hT2
    have HF2 := Lib.hid F2
    have HR2 := Lib.hid r2
    have kf := hT2.top.frozen 1
    clear hF2 ho2 F2 hT2 r2 HS2 e1 e2 e3 HFC HF1 HR1
    by_cases hz : z ≤ M.length
    · have hzi : (z : Int) ≤ M.length := by omega
      have h1i : (1 : Int) ≤ M.length := by omega
      have hm1 : 1 ≤ M.length := by omega
      obtain ⟨g, R, eA, -, hrg, hlc, hcm, -⟩ := HT2.out.own.row (by omega)
      subst eA
      have hcap : c2 ≤ 9223372036854775807 := by unfold maxLen at hcm; omega
      have h1c : 1 ≤ c2 := by omega
      have h1ci : (1 : Int) ≤ c2 := by omega
      have HRG := Lib.hid hrg
      have HCZ := Lib.hid (cutL_yes hz)
      obtain ⟨m0, hm0⟩ : ∃ m0, m0 = M.length := ⟨_, rfl⟩
      rw [← hm0] at hzi h1i hm1 k1 hlc
      have hm0c : (m0 : Int) ≤ c2 := by omega
      have HM0 := Lib.hid hm0
      clear hz hm0 hrg hcm
      by_cases hc1 : c2 = 1
      · subst hc1
        go_wp2_with fail
        go_region
        all_goals
          go_wp2_with fail
          have hmt : M.tail.length = 0 := by rw [List.length_tail, ← HM0.out]; omega
          obtain ⟨Y, hY⟩ : ∃ Y, Y = (W2.setCell ⟨xa, 1, none⟩ (.slice (some ⟨g, 0, none⟩) 0 0)).drew := ⟨_, rfl⟩
          have hxY : Lrow Y xa 38 [.int .i64 z, .slice (some ⟨g, 0, none⟩) 0 0] := by rw [hY]; exact (HT2.out.top.set_ 1 _).drewN 1
          have hsY : Src Y (.slice (some ⟨g, 0, none⟩) 0 0) M.tail := by
            have hl : g < Y.heap.size := by rw [hY]; have := HRG.out.lt; simpa [World.setCell] using this
            refine Or.inr ⟨⟨g, 0, none⟩, 0, by rw [hmt], hl, fun j u hu => ?_⟩
            have := (List.getElem?_eq_some_iff.1 hu).1
            rw [ccells_length, hmt] at this
            omega
          have hFY : Foot (fun k => k = xa) w Y := by rw [hY]; exact (HF2.out.trans (Foot.grown (X := fun k => k = xa) (grown_set W2 xa 1 _) rfl) (fun _ h _ => h)).drewN 1
          have hrY : Lrow Y s 31 [.int .i64 sp, .int .i64 p, .int .i64 o, .int .i64 f, .bool b] := by rw [hY]; exact (HR2.out.far (by show s ≠ xa; omega) _).drewN 1
          have hlY : M.tail.length ≤ 64 := by omega
          have hcY := HCZ.out.symm
          rw [← hY]
          obtain ⟨m, hm⟩ : ∃ m, m = M.tail.length := ⟨_, rfl⟩
          clear hY k0 k1 kf hmt
          obtain ⟨⟨A1a, c1a, X1a, A2a, c2a, X2a, q1a, q2a, ⟨xa1, xa2⟩, hfa⟩, ⟨A1b, c1b, X1b, A2b, c2b, X2b, q1b, q2b, ⟨xb1, xb2⟩, hfb⟩, ⟨A1c, c1c, X1c, A2c, c2c, X2c, q1c, xc0, ⟨y0, y1, y2, y3, y4⟩, ylt, q2c, ⟨xc1, xc2⟩, hfc⟩⟩ := TAIL.out Y _ _ hxY hsY hFY hrY hlY hcY
          rw [← hm] at q1a q2a hfa q1b q2b hfb q1c q2c hfc
          have HFA := Lib.hid hfa
          have HFB := Lib.hid hfb
          have HFC := Lib.hid hfc
          have u0 : Y.cell? ⟨s, 0, none⟩ = some (.int .i64 sp) := hrY.cell 0
          have u1 : Y.cell? ⟨s, 1, none⟩ = some (.int .i64 p) := hrY.cell 1
          have u2 : Y.cell? ⟨s, 2, none⟩ = some (.int .i64 o) := hrY.cell 2
          have u3 : Y.cell? ⟨s, 3, none⟩ = some (.int .i64 f) := hrY.cell 3
          have u4 : Y.cell? ⟨s, 4, none⟩ = some (.bool b) := hrY.cell 4
          have t1 := hxY.cell 1
          simp only [List.getElem?_cons_succ, List.getElem?_cons_zero] at t1
          have hls := hrY.lt
          have hlx := hxY.lt
          have hn1 : ¬ s = Y.heap.size := by omega
          have hn2 : ¬ xa = Y.heap.size := by omega
          have hn3 : ¬ s = Y.heap.size + 1 := by omega
          have hn4 : ¬ xa = Y.heap.size + 1 := by omega
          have hn5 : ¬ s = X1c.heap.size := by omega
          have HM := Lib.hid hm
          clear hfa hfb hfc hxY hsY hFY hrY hlY hcY hm
          go_region_law (first | (refine step_append_run (by rfl) _ _ 35 (by rfl) (.slice (some ⟨Y.heap.size + 1, 0, none⟩) 0 0) (.slice (some ⟨g, 0, none⟩) 0 0) (by simp [Act.eval]) (by simp [Act.eval]) q1a ?_) | (refine step_append_run (by rfl) _ _ 35 (by rfl) (.slice A1a m c1a) (.slice (some ⟨Y.heap.size, 0, none⟩) 1 1) (by simp [Act.eval]) (by simp [Act.eval]) q2a ?_) | (refine step_append_run (by rfl) _ _ 35 (by rfl) (.slice (some ⟨Y.heap.size, 0, none⟩) 0 0) (.slice (some ⟨g, 0, none⟩) 0 0) (by simp [Act.eval]) (by simp [Act.eval]) q1b ?_) | (refine step_append_run (by rfl) _ _ 35 (by rfl) (.slice A1b m c1b) (.slice (some ⟨Y.heap.size + 1, 0, none⟩) 1 1) (by simp [Act.eval]) (by simp [Act.eval]) q2b ?_) | (refine step_append_run (by rfl) _ _ 35 (by rfl) (.slice (some ⟨Y.heap.size, 0, none⟩) 0 0) (.slice (some ⟨g, 0, none⟩) 0 0) (by simp [Act.eval]) (by simp [Act.eval]) q1c ?_) | (refine step_append_run (by rfl) _ _ 35 (by rfl) (.slice A1c m c1c) (.slice (some ⟨X1c.heap.size, 0, none⟩) 1 1) (by simp [Act.eval]) (by simp [Act.eval]) q2c ?_))
          all_goals
            go_wp2_with fail
            go_ret
            first | exact HFA.out | exact HFB.out | exact HFC.out
      · go_wp2_with fail
        go_region
        all_goals
          go_wp2_with fail
          obtain ⟨m, hm⟩ : ∃ m, m = m0 - 1 := ⟨_, rfl⟩
          have hmt : M.tail.length = m := by rw [List.length_tail, ← HM0.out, hm]
          rw [← hm]
          obtain ⟨Y, hY⟩ : ∃ Y, Y = (W2.setCell ⟨xa, 1, none⟩ (.slice (some ⟨g, 5, none⟩) m (c2 - 1))).drew := ⟨_, rfl⟩
          have hxY : Lrow Y xa 38 [.int .i64 z, .slice (some ⟨g, 5, none⟩) m (c2 - 1)] := by rw [hY]; exact (HT2.out.top.set_ 1 _).drewN 1
          have hsY : Src Y (.slice (some ⟨g, 5, none⟩) m (c2 - 1)) M.tail := by
            have hne : g ≠ xa := (HRG.out.apart HT2.out.top (by decide))
            have hrY : Lrow Y g 31 (ccells M ++ R) := by rw [hY]; exact (HRG.out.far (by show g ≠ xa; exact hne) _).drewN 1
            have := src_part hrY 1 m (by have := HM0.out; omega) (c2 - 1) (a := ⟨g, 5, none⟩) (fun _ => rfl) rfl
            have e : (M.drop 1).take m = M.tail := by rw [List.drop_one, ← hmt, List.take_length]
            rw [e] at this
            exact this
          have hFY : Foot (fun k => k = xa) w Y := by rw [hY]; exact (HF2.out.trans (Foot.grown (X := fun k => k = xa) (grown_set W2 xa 1 _) rfl) (fun _ h _ => h)).drewN 1
          have hrY : Lrow Y s 31 [.int .i64 sp, .int .i64 p, .int .i64 o, .int .i64 f, .bool b] := by rw [hY]; exact (HR2.out.far (by show s ≠ xa; omega) _).drewN 1
          have hlY : M.tail.length ≤ 64 := by have := HMZ.out; have := HM0.out; omega
          have hcY := HCZ.out.symm
          rw [← hY]
          clear hY k0 k1 kf hm
          replace hm := hmt.symm
          clear hmt
          obtain ⟨⟨A1a, c1a, X1a, A2a, c2a, X2a, q1a, q2a, ⟨xa1, xa2⟩, hfa⟩, ⟨A1b, c1b, X1b, A2b, c2b, X2b, q1b, q2b, ⟨xb1, xb2⟩, hfb⟩, ⟨A1c, c1c, X1c, A2c, c2c, X2c, q1c, xc0, ⟨y0, y1, y2, y3, y4⟩, ylt, q2c, ⟨xc1, xc2⟩, hfc⟩⟩ := TAIL.out Y _ _ hxY hsY hFY hrY hlY hcY
          rw [← hm] at q1a q2a hfa q1b q2b hfb q1c q2c hfc
          have HFA := Lib.hid hfa
          have HFB := Lib.hid hfb
          have HFC := Lib.hid hfc
          have u0 : Y.cell? ⟨s, 0, none⟩ = some (.int .i64 sp) := hrY.cell 0
          have u1 : Y.cell? ⟨s, 1, none⟩ = some (.int .i64 p) := hrY.cell 1
          have u2 : Y.cell? ⟨s, 2, none⟩ = some (.int .i64 o) := hrY.cell 2
          have u3 : Y.cell? ⟨s, 3, none⟩ = some (.int .i64 f) := hrY.cell 3
          have u4 : Y.cell? ⟨s, 4, none⟩ = some (.bool b) := hrY.cell 4
          have t1 := hxY.cell 1
          simp only [List.getElem?_cons_succ, List.getElem?_cons_zero] at t1
          have hls := hrY.lt
          have hlx := hxY.lt
          have hn1 : ¬ s = Y.heap.size := by omega
          have hn2 : ¬ xa = Y.heap.size := by omega
          have hn3 : ¬ s = Y.heap.size + 1 := by omega
          have hn4 : ¬ xa = Y.heap.size + 1 := by omega
          have hn5 : ¬ s = X1c.heap.size := by omega
          have HM := Lib.hid hm
          clear hfa hfb hfc hxY hsY hFY hrY hlY hcY hm
          go_region_law (first | (refine step_append_run (by rfl) _ _ 35 (by rfl) (.slice (some ⟨Y.heap.size + 1, 0, none⟩) 0 0) (.slice (some ⟨g, 5, none⟩) m (c2 - 1)) (by simp [Act.eval]) (by simp [Act.eval]) q1a ?_) | (refine step_append_run (by rfl) _ _ 35 (by rfl) (.slice A1a m c1a) (.slice (some ⟨Y.heap.size, 0, none⟩) 1 1) (by simp [Act.eval]) (by simp [Act.eval]) q2a ?_) | (refine step_append_run (by rfl) _ _ 35 (by rfl) (.slice (some ⟨Y.heap.size, 0, none⟩) 0 0) (.slice (some ⟨g, 5, none⟩) m (c2 - 1)) (by simp [Act.eval]) (by simp [Act.eval]) q1b ?_) | (refine step_append_run (by rfl) _ _ 35 (by rfl) (.slice A1b m c1b) (.slice (some ⟨Y.heap.size + 1, 0, none⟩) 1 1) (by simp [Act.eval]) (by simp [Act.eval]) q2b ?_) | (refine step_append_run (by rfl) _ _ 35 (by rfl) (.slice (some ⟨Y.heap.size, 0, none⟩) 0 0) (.slice (some ⟨g, 5, none⟩) m (c2 - 1)) (by simp [Act.eval]) (by simp [Act.eval]) q1c ?_) | (refine step_append_run (by rfl) _ _ 35 (by rfl) (.slice A1c m c1c) (.slice (some ⟨X1c.heap.size, 0, none⟩) 1 1) (by simp [Act.eval]) (by simp [Act.eval]) q2c ?_))
          all_goals
            go_wp2_with fail
            go_ret
            first | exact HFA.out | exact HFB.out | exact HFC.out
    · have hzi : (M.length : Int) < z := by omega
      have HCZ := Lib.hid (cutL_no hz)
      clear hz
      go_wp2_with fail
      go_region
      all_goals
        go_wp2_with fail
        obtain ⟨Y, hY⟩ : ∃ Y, Y = W2.drewN 1 := ⟨_, rfl⟩
        have hxY : Lrow Y xa 38 [.int .i64 z, .slice A2 M.length c2] := hY ▸ HT2.out.top.drewN 1
        have hsY : Src Y (.slice A2 M.length c2) M := by
          rw [hY]
          rcases HT2.out.own.2 with ⟨q1, q2⟩ | ⟨g, cap, cur, q1, -⟩
          · refine Or.inl ⟨q1, List.eq_nil_of_length_eq_zero q2⟩
          · injection q1 with q1
            subst q1
            by_cases h0 : 0 < M.length
            · obtain ⟨g', R, eA, -, hrg, -⟩ := HT2.out.own.row h0
              injection eA with eA
              injection eA with eA
              subst eA
              have := src_part (hrg.drewN 1) 0 M.length (by omega) c2 (a := ⟨g, 0, none⟩) (fun _ => by simp) rfl
              rw [List.drop_zero, List.take_length] at this
              exact this
            · have h0' : M = [] := List.eq_nil_of_length_eq_zero (by omega)
              obtain ⟨vs, hro, -⟩ := own_block HT2.out.own rfl
              refine Or.inr ⟨_, _, rfl, hro.lt, fun j u hu => ?_⟩
              rw [h0'] at hu
              simp [ccells] at hu
        have hFY : Foot (fun k => k = xa) w Y := hY ▸ HF2.out.drewN 1
        have hrY := hY ▸ HR2.out.drewN 1
        have hlY : M.length ≤ 64 := by have := HMZ.out; omega
        have hcY := HCZ.out.symm
        change Code.wp _ _ _ _ (W2.drewN 1)
        rw [← hY]
        clear hY k0 k1 kf
        obtain ⟨m, hm⟩ : ∃ m, m = M.length := ⟨_, rfl⟩
        rw [← hm] at hxY hsY
        obtain ⟨⟨A1a, c1a, X1a, A2a, c2a, X2a, q1a, q2a, ⟨xa1, xa2⟩, hfa⟩, ⟨A1b, c1b, X1b, A2b, c2b, X2b, q1b, q2b, ⟨xb1, xb2⟩, hfb⟩, ⟨A1c, c1c, X1c, A2c, c2c, X2c, q1c, xc0, ⟨y0, y1, y2, y3, y4⟩, ylt, q2c, ⟨xc1, xc2⟩, hfc⟩⟩ := TAIL.out Y _ _ hxY hsY hFY hrY hlY hcY
        rw [← hm] at q1a q2a hfa q1b q2b hfb q1c q2c hfc
        have HFA := Lib.hid hfa
        have HFB := Lib.hid hfb
        have HFC := Lib.hid hfc
        have u0 : Y.cell? ⟨s, 0, none⟩ = some (.int .i64 sp) := hrY.cell 0
        have u1 : Y.cell? ⟨s, 1, none⟩ = some (.int .i64 p) := hrY.cell 1
        have u2 : Y.cell? ⟨s, 2, none⟩ = some (.int .i64 o) := hrY.cell 2
        have u3 : Y.cell? ⟨s, 3, none⟩ = some (.int .i64 f) := hrY.cell 3
        have u4 : Y.cell? ⟨s, 4, none⟩ = some (.bool b) := hrY.cell 4
        have t1 := hxY.cell 1
        simp only [List.getElem?_cons_succ, List.getElem?_cons_zero] at t1
        have hls := hrY.lt
        have hlx := hxY.lt
        have hn1 : ¬ s = Y.heap.size := by omega
        have hn2 : ¬ xa = Y.heap.size := by omega
        have hn3 : ¬ s = Y.heap.size + 1 := by omega
        have hn4 : ¬ xa = Y.heap.size + 1 := by omega
        have hn5 : ¬ s = X1c.heap.size := by omega
        have HM := Lib.hid hm
        clear hfa hfb hfc hxY hsY hFY hrY hlY hcY hm
        go_region_law (first | (refine step_append_run (by rfl) _ _ 35 (by rfl) (.slice (some ⟨Y.heap.size + 1, 0, none⟩) 0 0) (.slice A2 m c2) (by simp [Act.eval]) (by simp [Act.eval]) q1a ?_) | (refine step_append_run (by rfl) _ _ 35 (by rfl) (.slice A1a m c1a) (.slice (some ⟨Y.heap.size, 0, none⟩) 1 1) (by simp [Act.eval]) (by simp [Act.eval]) q2a ?_) | (refine step_append_run (by rfl) _ _ 35 (by rfl) (.slice (some ⟨Y.heap.size, 0, none⟩) 0 0) (.slice A2 m c2) (by simp [Act.eval]) (by simp [Act.eval]) q1b ?_) | (refine step_append_run (by rfl) _ _ 35 (by rfl) (.slice A1b m c1b) (.slice (some ⟨Y.heap.size + 1, 0, none⟩) 1 1) (by simp [Act.eval]) (by simp [Act.eval]) q2b ?_) | (refine step_append_run (by rfl) _ _ 35 (by rfl) (.slice (some ⟨Y.heap.size, 0, none⟩) 0 0) (.slice A2 m c2) (by simp [Act.eval]) (by simp [Act.eval]) q1c ?_) | (refine step_append_run (by rfl) _ _ 35 (by rfl) (.slice A1c m c1c) (.slice (some ⟨X1c.heap.size, 0, none⟩) 1 1) (by simp [Act.eval]) (by simp [Act.eval]) q2c ?_))
        all_goals
          go_wp2_with fail
          go_ret
          first | exact HFA.out | exact HFB.out | exact HFC.out
end
end Go.Proofs.Ytbnnfgdlkldafaa
