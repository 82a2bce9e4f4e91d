/- Both sides, held together; a call of both. -/
import Derived.Test.YtbnnfgdlkldafaaAm
import Derived.Test.YtbnnfgdlkldafaaAn
import Derived.Test.YtbnnfgdlkldafaaAo
namespace Go.Proofs.Ytbnnfgdlkldafaa
open Go.RowKit
/-- Their lines lie apart. -/
def Sep (tv xv : Value) : Prop := ∀ g, tv.ownBlock = some g → xv.ownBlock ≠ some g
structure St (B : Nat) (w : World) (ta xa z : Nat) (tv xv : Value) (L : List Cd) : Prop where
  t : Tb B w ta z tv L
  r : Rb B w xa z xv L
  sep : Sep tv xv
section
variable {w w' : World} {B ta xa z : Nat} {tv xv tv' xv' : Value} {L L' : List Cd}
theorem St.call (h : St B w ta xa z tv xv L) (hb : Below w.heap.size w w') : St B w' ta xa z tv xv L := ⟨h.t.call hb, h.r.call hb, h.sep⟩
theorem Dropped.grown {r : Value} {e : Ending} (h : Dropped B w ta z tv L' r e w') : Grown B w ta z tv L' r e w' := by
  obtain ⟨h1, v, h2, h3, h4⟩ := h
  exact ⟨h1, v, h2, h3, Or.inl h4⟩
theorem Rb.lt (h : Rb B w xa z xv L) {k : Nat} (hk : k = xa ∨ xv.ownBlock = some k) : k < w.heap.size := by
  rcases hk with rfl | e
  · exact h.top.lt
  · obtain ⟨vs, r, _⟩ := own_block h.own e; exact r.lt
/-- The program has made its call. -/
theorem St.half (h : St B w ta xa z tv xv L) {r : Value} {e : Ending} (d : Grown B w ta z tv L' r e w') : e = .returned r ∧ ∃ tv', Tb B w' ta z tv' L' ∧ Rb B w' xa z xv L ∧ Sep tv' xv ∧ Below B w w' ∧
    ∀ {g : Nat} {t : TypeId} {vs : List Value}, Lrow w g t vs → t ≠ 64 → t ≠ 31 → Lrow w' g t vs := by
  obtain ⟨e1, v, hT, hF, ho⟩ := d
  refine ⟨e1, v, hT, ?_, ?_, hF.below h.t.lw (fun b hb => h.t.hi hb), fun r h1 h2 => hF.row r (h.t.other r h1 h2)⟩
  · refine h.r.keep hF.size fun k hk hl => hF.keep k hl ?_
    rcases hk with rfl | e2
    · exact h.t.other h.r.top (by decide) (by decide)
    · rintro (rfl | e3)
      · obtain ⟨vs, r, _⟩ := own_block h.r.own e2
        exact r.apart h.t.top (by decide) rfl
      · exact h.sep k e3 e2
  · intro g e2 e3
    rcases ho with e4 | ⟨g', e4, hg⟩
    · exact h.sep g (e4 ▸ e2) e3
    · rw [e4] at e2
      injection e2 with e2
      have := h.r.lt (Or.inr e3)
      omega
/-- The reference has made its call. -/
theorem St.whole (hT : Tb B w ta z tv L') (hR : Rb B w xa z xv L) (hs : Sep tv xv) {r : Value} {e : Ending} (d : DidR B w xa z xv L' r e w') : e = .returned r ∧ ∃ xv', St B w' ta xa z tv xv' L' ∧ Below B w w' ∧
    ∀ {g : Nat} {t : TypeId} {vs : List Value}, Lrow w g t vs → t ≠ 38 → Lrow w' g t vs := by
  obtain ⟨e1, v, hR', hF, ho⟩ := d
  refine ⟨e1, v, ⟨?_, hR', ?_⟩, hF.below hT.lw (fun b hb => by rw [hb]; exact hR.lo), fun r h1 => hF.row r (fun e => h1 (by
    subst e
    unfold Lrow at r
    have := hR.top
    unfold Lrow at this
    rw [this] at r
    injection r with r
    injection r with _ r
    exact r.symm))⟩
  · refine hT.keep hF.size fun k hk hl => hF.keep k hl ?_
    rintro rfl
    exact hT.other hR.top (by decide) (by decide) hk
  · intro g e2 e3
    rcases ho with rfl | hf
    · exact hs g e2 e3
    · have := hf g e3
      have := hT.lt (Or.inr e2)
      omega
set_option maxHeartbeats 4000000 in
set_option maxRecDepth 100000 in
theorem do_any (h : St B w ta xa z tv xv L) {l : Kl} (hl : IsKl l) : Calls Try.prog 23 #[.pointer (some ⟨ta, 0, none⟩), .pointer (some ⟨xa, 0, none⟩), .agg #[.int .i64 l.k, .int .i64 l.s, .int .i64 l.p, .int .i64 l.n, .int .i64 l.c.s, .int .i64 l.c.p, .int .i64 l.c.o, .int .i64 l.c.f, .bool l.c.w]] w fun e w' => e = .returned (.bool true) ∧ ∃ tv' xv' L', St B w' ta xa z tv' xv' L' ∧ Below B w w' := by
  obtain ⟨W0, hW0⟩ : ∃ W0, W0 = w.alloc (.cells #[.int .i64 l.k, .int .i64 l.s, .int .i64 l.p, .int .i64 l.n, .int .i64 l.c.s, .int .i64 l.c.p, .int .i64 l.c.o, .int .i64 l.c.f, .bool l.c.w] 44) := ⟨_, rfl⟩
  obtain ⟨s, hs⟩ : ∃ s, s = w.heap.size := ⟨_, rfl⟩
  have g0 : Below w.heap.size w W0.drew := by rw [hW0]; exact below_1d _ 1
  have rs : Lrow W0.drew s 44 (klCells l) := by rw [hW0, hs]; exact (Lrow.new w _ (klCells l)).drewN 1
  have HST := Lib.hid (h.call g0)
  have HB0 : Hid (Below B w W0.drew) := g0.mono h.t.lw
  have HRS := Lib.hid rs
  have HOK := Lib.hid hl
  have HW := Lib.hid (And.intro hW0 hs)
  have d0 : W0.cell? ⟨s, 0, none⟩ = some (.int .i64 l.k) := rs.cell 0
  clear hW0 hs g0 rs h hl
  obtain ⟨K, S, P, N, sp, p, o, f, b⟩ := l
  dsimp only [klCells] at HRS HW d0
  by_cases h3 : K = 0 ∨ K = 1 ∨ K = 2
  · rcases h3 with rfl | rfl | rfl
    all_goals
      go_enter Try.func23, Try.ntmps23
      go_upto_region 1 with (fail)
      rw [← HW.out.1, ← HW.out.2]
      go_wp2_with fail
      have HS0 : W0.drew.cell? ⟨s, 4, none⟩ = some (.int .i64 sp) ∧ W0.drew.cell? ⟨s, 5, none⟩ = some (.int .i64 p) ∧ W0.drew.cell? ⟨s, 6, none⟩ = some (.int .i64 o) ∧ W0.drew.cell? ⟨s, 7, none⟩ = some (.int .i64 f) ∧ W0.drew.cell? ⟨s, 8, none⟩ = some (.bool b) := ⟨HRS.out.cell 4, HRS.out.cell 5, HRS.out.cell 6, HRS.out.cell 7, HRS.out.cell 8⟩
      go_region_held3 (fun v => v.cell? ⟨s, 4, none⟩ = some (.int .i64 sp) ∧ v.cell? ⟨s, 5, none⟩ = some (.int .i64 p) ∧ v.cell? ⟨s, 6, none⟩ = some (.int .i64 o) ∧ v.cell? ⟨s, 7, none⟩ = some (.int .i64 f) ∧ v.cell? ⟨s, 8, none⟩ = some (.bool b))
        (first | exact HS0 | exact HS1 | exact HS2)
        (first | (go_at_call 19; refine (put_any HST.out.t HOK.out.c).mono ?_; intro e w1 hd; obtain ⟨rfl, tv1, hT1, hR1, hs1, hb1, hk1⟩ := HST.out.half hd; have r1 := hk1 HRS.out (by decide) (by decide); have HS1 : w1.cell? ⟨s, 4, none⟩ = some (.int .i64 sp) ∧ w1.cell? ⟨s, 5, none⟩ = some (.int .i64 p) ∧ w1.cell? ⟨s, 6, none⟩ = some (.int .i64 o) ∧ w1.cell? ⟨s, 7, none⟩ = some (.int .i64 f) ∧ w1.cell? ⟨s, 8, none⟩ = some (.bool b) := ⟨r1.cell 4, r1.cell 5, r1.cell 6, r1.cell 7, r1.cell 8⟩) | (go_at_call 30; refine (refPut_any hR1 HST.out.t.good HST.out.t.z1 HST.out.t.z64 HOK.out.c).mono ?_; intro e w2 hd2; obtain ⟨rfl, xv2, hst, hb2, hk2⟩ := St.whole hT1 hR1 hs1 hd2; have r2 := hk2 r1 (by decide); have HS2 : w2.cell? ⟨s, 4, none⟩ = some (.int .i64 sp) ∧ w2.cell? ⟨s, 5, none⟩ = some (.int .i64 p) ∧ w2.cell? ⟨s, 6, none⟩ = some (.int .i64 o) ∧ w2.cell? ⟨s, 7, none⟩ = some (.int .i64 f) ∧ w2.cell? ⟨s, 8, none⟩ = some (.bool b) := ⟨r2.cell 4, r2.cell 5, r2.cell 6, r2.cell 7, r2.cell 8⟩))
      go_wp2
      go_ret
      exact ⟨rfl, _, _, _, hst, HB0.out.trans (hb1.trans hb2)⟩
  · have k0 : (K == 0) = false := by simpa using (by omega : ¬ K = 0)
    have k1 : (K == 1) = false := by simpa using (by omega : ¬ K = 1)
    have k2 : (K == 2) = false := by simpa using (by omega : ¬ K = 2)
    by_cases h4 : K = 3
    · clear k0 k1 k2 h3
      subst h4
      go_enter Try.func23, Try.ntmps23
      go_upto_region 1 with (fail)
      rw [← HW.out.1, ← HW.out.2]
      go_wp2_with fail
      have HS0 : W0.drew.cell? ⟨s, 1, none⟩ = some (.int .i64 S) ∧ W0.drew.cell? ⟨s, 2, none⟩ = some (.int .i64 P) ∧ W0.drew.cell? ⟨s, 3, none⟩ = some (.int .i64 N) := ⟨HRS.out.cell 1, HRS.out.cell 2, HRS.out.cell 3⟩
      go_region_held3 (fun v => v.cell? ⟨s, 1, none⟩ = some (.int .i64 S) ∧ v.cell? ⟨s, 2, none⟩ = some (.int .i64 P) ∧ v.cell? ⟨s, 3, none⟩ = some (.int .i64 N))
        (first | exact HS0 | exact HS1 | exact HS2)
        (first | (go_at_call 17; refine ((flush_any HST.out.t S HOK.out.p HOK.out.n).mono fun _ _ h => h.grown).mono ?_; intro e w1 hd; obtain ⟨rfl, tv1, hT1, hR1, hs1, hb1, hk1⟩ := HST.out.half hd; have r1 := hk1 HRS.out (by decide) (by decide); have HS1 : w1.cell? ⟨s, 1, none⟩ = some (.int .i64 S) ∧ w1.cell? ⟨s, 2, none⟩ = some (.int .i64 P) ∧ w1.cell? ⟨s, 3, none⟩ = some (.int .i64 N) := ⟨r1.cell 1, r1.cell 2, r1.cell 3⟩) | (go_at_call 18; refine (refFlush_any hR1 HST.out.t.good.ok (Nat.le_trans HST.out.t.good.len HST.out.t.z64) S HOK.out.p HOK.out.n).mono ?_; intro e w2 hd2; obtain ⟨rfl, xv2, hst, hb2, hk2⟩ := St.whole hT1 hR1 hs1 hd2; have r2 := hk2 r1 (by decide); have HS2 : w2.cell? ⟨s, 1, none⟩ = some (.int .i64 S) ∧ w2.cell? ⟨s, 2, none⟩ = some (.int .i64 P) ∧ w2.cell? ⟨s, 3, none⟩ = some (.int .i64 N) := ⟨r2.cell 1, r2.cell 2, r2.cell 3⟩))
      go_wp2
      go_ret
      exact ⟨rfl, _, _, _, hst, HB0.out.trans (hb1.trans hb2)⟩
    · have k3 : (K == 3) = false := by simpa using h4
      by_cases h5 : K = 4
      · clear k0 k1 k2 k3 h3 h4
        subst h5
        go_enter Try.func23, Try.ntmps23
        go_upto_region 1 with (fail)
        rw [← HW.out.1, ← HW.out.2]
        go_wp2_with fail
        have HS0 : W0.drew.cell? ⟨s, 1, none⟩ = some (.int .i64 S) := (HRS.out.cell 1)
        go_region_held3 (fun v => v.cell? ⟨s, 1, none⟩ = some (.int .i64 S))
          (first | exact HS0 | exact HS1 | exact HS2)
          (first | (go_at_call 21; refine ((flushSpace_any HST.out.t S).mono fun _ _ h => h.grown).mono ?_; intro e w1 hd; obtain ⟨rfl, tv1, hT1, hR1, hs1, hb1, hk1⟩ := HST.out.half hd; have r1 := hk1 HRS.out (by decide) (by decide); have HS1 : w1.cell? ⟨s, 1, none⟩ = some (.int .i64 S) := (r1.cell 1)) | (go_at_call 18; refine (refFlush_any hR1 HST.out.t.good.ok (Nat.le_trans HST.out.t.good.len HST.out.t.z64) S (q := 0) (n := 4096) ⟨by omega, by omega⟩ ⟨by omega, by omega⟩).mono ?_; intro e w2 hd2; obtain ⟨rfl, xv2, hst, hb2, hk2⟩ := St.whole hT1 hR1 hs1 hd2; have r2 := hk2 r1 (by decide); have HS2 : w2.cell? ⟨s, 1, none⟩ = some (.int .i64 S) := (r2.cell 1)))
        go_wp2
        go_ret
        exact ⟨rfl, _, _, _, hst, HB0.out.trans (hb1.trans hb2)⟩
      · have k4 : (K == 4) = false := by simpa using h5
        clear h3 h4 h5
        go_enter Try.func23, Try.ntmps23
        go_upto_region 1 with (fail)
        rw [← HW.out.1, ← HW.out.2]
        go_wp2_with fail
        have HS0 : W0.drew.cell? ⟨s, 3, none⟩ = some (.int .i64 N) := (HRS.out.cell 3)
        go_region_held3 (fun v => v.cell? ⟨s, 3, none⟩ = some (.int .i64 N))
          (first | exact HS0 | exact HS1 | exact HS2)
          (first | (go_at_call 20; refine ((drop_any HST.out.t N).mono fun _ _ h => h.grown).mono ?_; intro e w1 hd; obtain ⟨rfl, tv1, hT1, hR1, hs1, hb1, hk1⟩ := HST.out.half hd; have r1 := hk1 HRS.out (by decide) (by decide); have HS1 : w1.cell? ⟨s, 3, none⟩ = some (.int .i64 N) := (r1.cell 3)) | (go_at_call 31; refine (refDrop_any hR1 (Nat.le_trans HST.out.t.good.len HST.out.t.z64) N).mono ?_; intro e w2 hd2; obtain ⟨rfl, xv2, hst, hb2, hk2⟩ := St.whole hT1 hR1 hs1 hd2; have r2 := hk2 r1 (by decide); have HS2 : w2.cell? ⟨s, 3, none⟩ = some (.int .i64 N) := (r2.cell 3)))
        go_wp2
        go_ret
        exact ⟨rfl, _, _, _, hst, HB0.out.trans (hb1.trans hb2)⟩
end
end Go.Proofs.Ytbnnfgdlkldafaa
