/- The reference of package table: what a page's eight leaves are together. -/
import Derived.Test.YtpcpcgbejinlmaaMk33
namespace Go.Proofs.Ytpcpcgbejinlmaa
open Go.RowKit
def Mgd (w : World) (e : Ending) (w' : World) : Prop := ∃ m er, e = .returned (.tuple #[.agg (mcell m).toArray, .int .i64 er]) ∧ (er = 0 → MK m) ∧ Below w.heap.size w w'
def mz : Mp := ⟨0, 0, 0, false, false, false, false, false, false⟩
def All8 (L : List Mp) (a : Int) (n : Nat) : Prop := ∀ t : Nat, t < n → ∃ (k : Nat) (h : k < L.length), atF L (a + (t : Int)) 0 = k ∧ L[k].g = a + (t : Int) ∧ L[k].o = 0
section
variable {w : World} {C x : Nat} {v : Value} {L : List Mp}
theorem below_9c {B g : Nat} {w w' : World} {x0 x1 x2 x3 x4 x5 x6 x7 x8 : Value} (h : Below B w w') (hg : B ≤ g) :
    Below B w (((((((((w'.setCell ⟨g, 0, none⟩ x0).setCell ⟨g, 1, none⟩ x1).setCell ⟨g, 2, none⟩ x2).setCell ⟨g, 3, none⟩ x3).setCell ⟨g, 4, none⟩ x4).setCell ⟨g, 5, none⟩ x5).setCell ⟨g, 6, none⟩ x6).setCell ⟨g, 7, none⟩ x7).setCell ⟨g, 8, none⟩ x8) :=
  ((((((((h.setCell hg _).setCell hg _).setCell hg _).setCell hg _).setCell hg _).setCell hg _).setCell hg _).setCell hg _).setCell hg _
theorem mgd_end9 {W : World} {g : Nat} {m : Mp} {er : Int} {y0 y1 y2 y3 y4 y5 y6 y7 y8 : Value} (hm : er = 0 → MK m) (hb : Below w.heap.size w W) (hg : w.heap.size ≤ g) :
    Mgd w (.returned (.tuple #[.agg #[.int .i64 m.g, .int .i64 m.o, .int .i64 m.f, .bool m.p, .bool m.w, .bool m.h, .bool m.k, .bool m.u, .bool m.d], .int .i64 er])) (((((((((W.setCell ⟨g, 0, none⟩ y0).setCell ⟨g, 1, none⟩ y1).setCell ⟨g, 2, none⟩ y2).setCell ⟨g, 3, none⟩ y3).setCell ⟨g, 4, none⟩ y4).setCell ⟨g, 5, none⟩ y5).setCell ⟨g, 6, none⟩ y6).setCell ⟨g, 7, none⟩ y7).setCell ⟨g, 8, none⟩ y8) := by
  have b := below_9c (x0 := y0) (x1 := y1) (x2 := y2) (x3 := y3) (x4 := y4) (x5 := y5) (x6 := y6) (x7 := y7) (x8 := y8) hb hg
  generalize (((((((((W.setCell ⟨g, 0, none⟩ y0).setCell ⟨g, 1, none⟩ y1).setCell ⟨g, 2, none⟩ y2).setCell ⟨g, 3, none⟩ y3).setCell ⟨g, 4, none⟩ y4).setCell ⟨g, 5, none⟩ y5).setCell ⟨g, 6, none⟩ y6).setCell ⟨g, 7, none⟩ y7).setCell ⟨g, 8, none⟩ y8) = W' at b ⊢
  exact ⟨m, er, rfl, hm, b⟩
theorem Row.nineM {g : Nat} {t : TypeId} {x0 x1 x2 x3 x4 x5 x6 x7 x8 : Value} (h : Row w g t [x0, x1, x2, x3, x4, x5, x6, x7, x8]) :
    (w.cell? ⟨g, 0, none⟩ = some x0 ∧ w.cell? ⟨g, 1, none⟩ = some x1 ∧ w.cell? ⟨g, 2, none⟩ = some x2 ∧ w.cell? ⟨g, 3, none⟩ = some x3 ∧ w.cell? ⟨g, 4, none⟩ = some x4 ∧ w.cell? ⟨g, 5, none⟩ = some x5 ∧ w.cell? ⟨g, 6, none⟩ = some x6 ∧ w.cell? ⟨g, 7, none⟩ = some x7 ∧ w.cell? ⟨g, 8, none⟩ = some x8) ∧ (∀ o, w.frozen? ⟨g, o, none⟩ = false) :=
  ⟨⟨h.cell 0, h.cell 1, h.cell 2, h.cell 3, h.cell 4, h.cell 5, h.cell 6, h.cell 7, h.cell 8⟩, fun o => h.frozen o⟩
theorem rf_cells {W : World} {ad : Addr} {N k c : Nat} {m : Mp} (h : RfT W C x (.slice (some ad) L.length c) L) (hk : k < L.length) (hm : m = L[k]) (hN : N = L.length) : W.cell? ⟨x, 0, none⟩ = some (.slice (some ad) N c) ∧ W.cell? ⟨(ad.add (k * 9)).block, (ad.add (k * 9)).off + 2, none⟩ = some (.int .i64 m.f) ∧ W.cell? ⟨(ad.add (k * 9)).block, (ad.add (k * 9)).off + 3, none⟩ = some (.bool m.p) ∧ W.cell? ⟨(ad.add (k * 9)).block, (ad.add (k * 9)).off + 4, none⟩ = some (.bool m.w) ∧ W.cell? ⟨(ad.add (k * 9)).block, (ad.add (k * 9)).off + 5, none⟩ = some (.bool m.h) ∧ W.cell? ⟨(ad.add (k * 9)).block, (ad.add (k * 9)).off + 6, none⟩ = some (.bool m.k) ∧ W.cell? ⟨(ad.add (k * 9)).block, (ad.add (k * 9)).off + 7, none⟩ = some (.bool m.u) ∧ W.cell? ⟨(ad.add (k * 9)).block, (ad.add (k * 9)).off + 8, none⟩ = some (.bool m.d) := by
  obtain ⟨a, e, -, -, hat⟩ := h.ms.at_ k hk
  injection e with e
  subst e
  rw [← hm] at hat
  exact ⟨by rw [hN]; exact h.top.cell 0, hat.c2, hat.c3, hat.c4, hat.c5, hat.c6, hat.c7, hat.c8⟩
def Std (w W : World) (C x q : Nat) (v : Value) (L : List Mp) : Prop := RfT W C x v L ∧ Row W q 94 [.int .i64 0, .int .i64 0, .int .i64 0, .bool false, .bool false, .bool false, .bool false, .bool false, .bool false] ∧ Below w.heap.size w W
theorem Std.call {W W' : World} {q : Nat} (h : Std w W C x q v L) (hb : Below W.heap.size W W') : Std w W' C x q v L := ⟨h.1.call hb, h.2.1.below hb h.2.1.lt, h.2.2.trans (hb.mono h.2.2.size)⟩
theorem Std.fresh {W : World} {q : Nat} (h : Std w W C x q v L) : Std w (W.alloc (.cells #[.int .i64 0, .bool false, .bool false, .bool false, .bool false, .bool false, .bool false] 28)) C x q v L ∧ Row (W.alloc (.cells #[.int .i64 0, .bool false, .bool false, .bool false, .bool false, .bool false, .bool false] 28)) W.heap.size 28 [.int .i64 0, .bool false, .bool false, .bool false, .bool false, .bool false, .bool false] := ⟨h.call (below_new _ _ _), Row.new W _ _⟩
theorem Std.turn {W W' : World} {q y : Nat} {vs : List Value} (h : Std w W C x q v L) (hr : Row W y 28 vs) (hy : w.heap.size ≤ y) (hb : ∀ k, k ≠ y → W'.heap[k]? = W.heap[k]?) (hB : ∀ B, B ≤ y → Below B W W') : Std w W' C x q v L := by
  have hx : x ≠ y := h.1.top.apart hr (by decide)
  have hq : q ≠ y := h.2.1.apart hr (by decide)
  refine ⟨⟨(hb x hx).trans h.1.top, h.1.ms.keep8 fun g hg => hb g ?_, h.1.ok, h.1.len⟩, (hb q hq).trans h.2.1, h.2.2.trans (hB _ hy)⟩
  rintro rfl
  obtain ⟨cur, hc⟩ := h.1.ms.typed hg
  unfold Row at hr
  rw [hr] at hc
  injection hc with hc
  injection hc with _ hc
  exact absurd hc (by decide)
theorem Std.seven {W : World} {q y : Nat} {x0 x1 x2 x3 x4 x5 x6 y0 y1 y2 y3 y4 y5 y6 : Value} (h : Std w W C x q v L) (hr : Row W y 28 [x0, x1, x2, x3, x4, x5, x6]) (hy : w.heap.size ≤ y) :
    Std w (((((((W.setCell ⟨y, 0, none⟩ y0).setCell ⟨y, 1, none⟩ y1).setCell ⟨y, 2, none⟩ y2).setCell ⟨y, 3, none⟩ y3).setCell ⟨y, 4, none⟩ y4).setCell ⟨y, 5, none⟩ y5).setCell ⟨y, 6, none⟩ y6) C x q v L ∧ Row (((((((W.setCell ⟨y, 0, none⟩ y0).setCell ⟨y, 1, none⟩ y1).setCell ⟨y, 2, none⟩ y2).setCell ⟨y, 3, none⟩ y3).setCell ⟨y, 4, none⟩ y4).setCell ⟨y, 5, none⟩ y5).setCell ⟨y, 6, none⟩ y6) y 28 [y0, y1, y2, y3, y4, y5, y6] := by
  have r := seven_row (y0 := y0) (y1 := y1) (y2 := y2) (y3 := y3) (y4 := y4) (y5 := y5) (y6 := y6) hr
  have k := fun k hk => seven_heap W y y0 y1 y2 y3 y4 y5 y6 (k := k) hk
  have b := fun B (hB : B ≤ y) => below_7 (x0 := y0) (x1 := y1) (x2 := y2) (x3 := y3) (x4 := y4) (x5 := y5) (x6 := y6) (Below.refl B W) hB
  generalize (((((((W.setCell ⟨y, 0, none⟩ y0).setCell ⟨y, 1, none⟩ y1).setCell ⟨y, 2, none⟩ y2).setCell ⟨y, 3, none⟩ y3).setCell ⟨y, 4, none⟩ y4).setCell ⟨y, 5, none⟩ y5).setCell ⟨y, 6, none⟩ y6) = W' at r k b ⊢
  exact ⟨h.turn hr hy k b, r⟩
theorem Std.set1 {W : World} {q y i : Nat} {vs : List Value} (h : Std w W C x q v L) (hr : Row W y 28 vs) (hy : w.heap.size ≤ y) (u : Value) : Std w (W.setCell ⟨y, i, none⟩ u) C x q v L :=
  h.turn hr hy (fun k hk => Below.heap_setCell W _ _ k hk) fun B hB => (Below.refl B W).setCell (p := ⟨y, i, none⟩) hB _
def Std2 (w W : World) (C x q : Nat) (v : Value) (L : List Mp) (y : Nat) (vs : List Value) : Prop := Std w W C x q v L ∧ Row W y 28 vs ∧ w.heap.size ≤ y
theorem Std2.call {W W' : World} {q y : Nat} {vs : List Value} (h : Std2 w W C x q v L y vs) (hb : Below W.heap.size W W') : Std2 w W' C x q v L y vs := ⟨h.1.call hb, h.2.1.below hb h.2.1.lt, h.2.2⟩
theorem Std2.fresh {W : World} {q y : Nat} {vs : List Value} (h : Std2 w W C x q v L y vs) : Std2 w (W.alloc (.cells #[.int .i64 0, .bool false, .bool false, .bool false, .bool false, .bool false, .bool false] 28)) C x q v L y vs ∧ Row (W.alloc (.cells #[.int .i64 0, .bool false, .bool false, .bool false, .bool false, .bool false, .bool false] 28)) W.heap.size 28 [.int .i64 0, .bool false, .bool false, .bool false, .bool false, .bool false, .bool false] := ⟨h.call (below_new _ _ _), Row.new W _ _⟩
theorem Std2.seven {W : World} {q y z : Nat} {vs : List Value} {x0 x1 x2 x3 x4 x5 x6 y0 y1 y2 y3 y4 y5 y6 : Value} (h : Std2 w W C x q v L y vs) (hr : Row W z 28 [x0, x1, x2, x3, x4, x5, x6]) (hz : y < z) :
    Std2 w (((((((W.setCell ⟨z, 0, none⟩ y0).setCell ⟨z, 1, none⟩ y1).setCell ⟨z, 2, none⟩ y2).setCell ⟨z, 3, none⟩ y3).setCell ⟨z, 4, none⟩ y4).setCell ⟨z, 5, none⟩ y5).setCell ⟨z, 6, none⟩ y6) C x q v L y vs ∧ Row (((((((W.setCell ⟨z, 0, none⟩ y0).setCell ⟨z, 1, none⟩ y1).setCell ⟨z, 2, none⟩ y2).setCell ⟨z, 3, none⟩ y3).setCell ⟨z, 4, none⟩ y4).setCell ⟨z, 5, none⟩ y5).setCell ⟨z, 6, none⟩ y6) z 28 [y0, y1, y2, y3, y4, y5, y6] := by
  have r := seven_row (y0 := y0) (y1 := y1) (y2 := y2) (y3 := y3) (y4 := y4) (y5 := y5) (y6 := y6) hr
  have k := fun k hk => seven_heap W z y0 y1 y2 y3 y4 y5 y6 (k := k) hk
  have b := fun B (hB : B ≤ z) => below_7 (x0 := y0) (x1 := y1) (x2 := y2) (x3 := y3) (x4 := y4) (x5 := y5) (x6 := y6) (Below.refl B W) hB
  generalize (((((((W.setCell ⟨z, 0, none⟩ y0).setCell ⟨z, 1, none⟩ y1).setCell ⟨z, 2, none⟩ y2).setCell ⟨z, 3, none⟩ y3).setCell ⟨z, 4, none⟩ y4).setCell ⟨z, 5, none⟩ y5).setCell ⟨z, 6, none⟩ y6) = W' at r k b ⊢
  exact ⟨⟨h.1.turn hr (by have := h.2.2; omega) k b, (k y (by omega)).trans h.2.1, h.2.2⟩, r⟩
theorem Std2.set1 {W : World} {q y : Nat} {vs : List Value} (h : Std2 w W C x q v L y vs) (i : Nat) (u : Value) : Std2 w (W.setCell ⟨y, i, none⟩ u) C x q v L y (vs.set i u) := ⟨h.1.set1 h.2.1 h.2.2 u, h.2.1.set_ i u, h.2.2⟩
set_option maxRecDepth 100000 in
set_option maxHeartbeats 16000000 in
theorem merged8_any (h : RfT w C x v L) (p : Int) (p0 : 0 ≤ p) (p1 : p ≤ 4095) : Calls Try.prog 82 #[.pointer (some ⟨x, 0, none⟩), .int .i64 p] w (Mgd w) := by
  obtain ⟨n, rfl⟩ : ∃ n : Nat, p = n := ⟨p.toNat, by omega⟩
  obtain ⟨q, hq⟩ : ∃ q, q = w.heap.size := ⟨_, rfl⟩
  obtain ⟨w0, hw0⟩ : ∃ w0, w0 = w.alloc (.cells #[.int .i64 0, .int .i64 0, .int .i64 0, .bool false, .bool false, .bool false, .bool false, .bool false, .bool false] 94) := ⟨_, rfl⟩
  have b0 : Below w.heap.size w w0 := hw0 ▸ below_new w _ _
  have HR0 : Hid (Row w0 q 94 [.int .i64 0, .int .i64 0, .int .i64 0, .bool false, .bool false, .bool false, .bool false, .bool false, .bool false]) := by show Row _ _ _ _; rw [hw0, hq]; exact Row.new w _ _
  have H0 := Lib.hid (h.call b0)
  have HB0 := Lib.hid b0
  have HQ := Lib.hid hq
  have HW0 := Lib.hid hw0
  obtain ⟨a, ha⟩ : ∃ a : Nat, a = n - n % 8 := ⟨_, rfl⟩
  have hwa : IntKind.i64.wrap ((n : Int) - (n : Int) % 8) = (a : Int) := by rw [IntWalk.i64_in _ (by omega)]; omega
  have ha8 : a % 8 = 0 := by omega
  have ha1 : a + 8 ≤ 4096 := by omega
  clear h b0 hq hw0 ha p0 p1
  go_enter Try.func82, Try.ntmps82
  go_upto_region 1 with (fail)
  rw [← HW0.out, ← HQ.out]
  go_wp2_with fail
  go_loopw [7] (fun i wr => ∃ j nd : Nat, j ≤ 8 ∧ i = .int .i64 j ∧ wr = w0.drewN nd ∧ Hid (All8 L (a : Int) j)) (fun i _ => 8 - (intOf i).toNat)
  case atStart => exact ⟨0, 0, by omega, rfl, rfl, Lib.hid (fun t ht => absurd ht (by omega))⟩
  case round =>
    obtain ⟨j, nd, hj, rfl, rfl, HA⟩ := hrel
    have H1 := Lib.hid (H0.out.call (drewN_b (Below.refl _ _) nd))
    have HR1 : Hid (Row (w0.drewN nd) q 94 [.int .i64 0, .int .i64 0, .int .i64 0, .bool false, .bool false, .bool false, .bool false, .bool false, .bool false]) := HR0.out
    have HB1 := Lib.hid (drewN_b HB0.out nd)
    obtain ⟨w1, ew⟩ : ∃ w1, w1 = w0.drewN nd := ⟨_, rfl⟩
    rw [← ew] at H1 HR1 HB1 ⊢
    have HEW := Lib.hid ew
    clear ew
    by_cases hlt : j < 8
    · have hwi : IntKind.i64.wrap ((a : Int) + (j : Int)) = (a : Int) + (j : Int) := IntWalk.i64_in _ (by omega)
      go_wp2_with fail
      refine (at_is H1.out ((a : Int) + (j : Int)) 0 (by omega) (by omega)).mono ?_
      rintro e w2 ⟨rfl, m, rfl⟩
      rcases at_found L ((a : Int) + (j : Int)) 0 with hf | ⟨k, hk, hf, hkg, hko⟩
      · rw [hf]
        clear hf
        have HR2 : Hid (Row (w1.drewN m) q 94 [.int .i64 0, .int .i64 0, .int .i64 0, .bool false, .bool false, .bool false, .bool false, .bool false, .bool false]) := HR1.out
        have HB2 := Lib.hid (drewN_b HB1.out m)
        generalize w1.drewN m = w2 at HR2 HB2 ⊢
        obtain ⟨⟨d0, d1, d2, d3, d4, d5, d6, d7, d8⟩, df⟩ := HR2.out.nineM
        go_wp2_with fail
        exact bodyPost_ret (v := .tuple #[.agg #[.int .i64 0, .int .i64 0, .int .i64 0, .bool false, .bool false, .bool false, .bool false, .bool false, .bool false], .int .i64 6]) (by simp [results, Try.results82, go_sem, *]) rfl (mgd_end9 (m := mz) (fun h => by omega) HB2.out (Nat.le_of_eq HQ.out.symm))
      · have HA2 : Hid (All8 L (a : Int) (j + 1)) := fun t ht => by
          by_cases e : t = j
          · rw [e]; exact ⟨k, hk, hf, hkg, hko⟩
          · exact HA.out t (by omega)
        have hk0 : ¬ (k : Int) < 0 := by omega
        rw [hf]
        clear hf hkg
        go_wp2_with fail
        go_roundw
        case rel => exact ⟨j + 1, nd + m, by omega, by go_num, by rw [HEW.out, drewN_add], HA2⟩
        case measure => simp [intOf]; omega
    · obtain rfl : j = 8 := by omega
      rw [show ((8 : Nat) : Int) = 8 from rfl]
      go_upto_region 7 with (fail)
      obtain ⟨k, hk, hf, hkg, hko⟩ := HA.out 0 (by omega)
      rw [show (a : Int) + ((0 : Nat) : Int) = (a : Int) by omega] at hf hkg
      obtain ⟨m, hm⟩ : ∃ m, m = L[k] := ⟨_, rfl⟩
      obtain ⟨A, c, rfl⟩ := H1.out.ms.form
      obtain ⟨ad, rfl, had, -, -⟩ := H1.out.ms.at_ k hk
      obtain ⟨N, hN⟩ : ∃ N, N = L.length := ⟨_, rfl⟩
      have hsx : w1.cell? ⟨x, 0, none⟩ = some (.slice (some ad) N c) := by rw [hN]; exact H1.out.top.cell 0
      have hkN : k < N := by rw [hN]; exact hk
      have hkNi : (k : Int) < N := by omega
      have hN5 : N ≤ 5000 := by rw [hN]; exact H1.out.len
      obtain ⟨y, hy⟩ : ∃ y, y = w1.heap.size := ⟨_, rfl⟩
      have HST : Hid (Std w w1 C x q (.slice (some ad) L.length c) L) := ⟨H1.out, HR1.out, HB1.out⟩
      have HY := Lib.hid hy
      have HYW : Hid (w.heap.size ≤ y) := by show _ ≤ _; rw [hy]; exact HB1.out.size
      clear hy
      have HMM := Lib.hid hm
      have HNN := Lib.hid hN
      clear hm hN
      go_cut [8] from 26 to 35 (fun s8 wx => s8 = .pointer (some ⟨y, 0, none⟩) ∧ Row wx y 28 [.int .i64 m.f, .bool m.p, .bool m.w, .bool m.h, .bool m.k, .bool m.u, .bool m.d] ∧ Std w wx C x q (.slice (some ad) L.length c) L)
      case first =>
        have hs0 : (fun v => v.cell? ⟨x, 0, none⟩ = some (.slice (some ad) N c) ∧ v.cell? ⟨(ad.add (k * 9)).block, (ad.add (k * 9)).off + 2, none⟩ = some (.int .i64 m.f) ∧ v.cell? ⟨(ad.add (k * 9)).block, (ad.add (k * 9)).off + 3, none⟩ = some (.bool m.p) ∧ v.cell? ⟨(ad.add (k * 9)).block, (ad.add (k * 9)).off + 4, none⟩ = some (.bool m.w) ∧ v.cell? ⟨(ad.add (k * 9)).block, (ad.add (k * 9)).off + 5, none⟩ = some (.bool m.h) ∧ v.cell? ⟨(ad.add (k * 9)).block, (ad.add (k * 9)).off + 6, none⟩ = some (.bool m.k) ∧ v.cell? ⟨(ad.add (k * 9)).block, (ad.add (k * 9)).off + 7, none⟩ = some (.bool m.u) ∧ v.cell? ⟨(ad.add (k * 9)).block, (ad.add (k * 9)).off + 8, none⟩ = some (.bool m.d)) w1.drew := rf_cells (HST.out.call (drewN_b (Below.refl _ _) 1)).1 hk HMM.out HNN.out
        have hcall := fun W (HW : RfT W C x (.slice (some ad) L.length c) L) => at_is HW (a : Int) 0 (by omega) (by omega)
        rw [hf] at hcall
        have HCALL := Lib.hid hcall
        clear hcall hsx
        clear hf hkg hko
        refine wp_region_noPanic ?_
        refine wp_region_held_drew (S := (fun v => v.cell? ⟨x, 0, none⟩ = some (.slice (some ad) N c) ∧ v.cell? ⟨(ad.add (k * 9)).block, (ad.add (k * 9)).off + 2, none⟩ = some (.int .i64 m.f) ∧ v.cell? ⟨(ad.add (k * 9)).block, (ad.add (k * 9)).off + 3, none⟩ = some (.bool m.p) ∧ v.cell? ⟨(ad.add (k * 9)).block, (ad.add (k * 9)).off + 4, none⟩ = some (.bool m.w) ∧ v.cell? ⟨(ad.add (k * 9)).block, (ad.add (k * 9)).off + 5, none⟩ = some (.bool m.h) ∧ v.cell? ⟨(ad.add (k * 9)).block, (ad.add (k * 9)).off + 6, none⟩ = some (.bool m.k) ∧ v.cell? ⟨(ad.add (k * 9)).block, (ad.add (k * 9)).off + 7, none⟩ = some (.bool m.u) ∧ v.cell? ⟨(ad.add (k * 9)).block, (ad.add (k * 9)).off + 8, none⟩ = some (.bool m.d))) (by kernel_rfl) hs0 (fun hHeld => ?_)
        refine tkY 0 (at_lit rfl) (v := ?_) (Or.inl ⟨by rfl, ?_⟩) ?_
        rotate_left
        focus (intro _ h; (try dsimp only at h); go_simp; (try with_reducible rfl); done)
        (try simp only [Act.put, sAr, sZe, sSu])
        refine tkY 1 (at_lit rfl) (v := ?_) (Or.inl ⟨by rfl, ?_⟩) ?_
        rotate_left
        focus (intro _ h; (try dsimp only at h); go_simp; (try with_reducible rfl); done)
        (try simp only [Act.put, sAr, sZe, sSu])
        refine tkY 2 (at_lit rfl) (v := ?_) (Or.inl ⟨by rfl, ?_⟩) ?_
        rotate_left
        focus (intro _ h; (try dsimp only at h); go_simp; (try with_reducible rfl); done)
        (try simp only [Act.put, sAr, sZe, sSu])
        refine tkY 3 (at_lit rfl) (v := ?_) (Or.inl ⟨by rfl, ?_⟩) ?_
        rotate_left
        focus (intro _ h; (try dsimp only at h); go_simp; (try with_reducible rfl); done)
        (try simp only [Act.put, sAr, sZe, sSu])
        refine tkY 4 (at_lit rfl) (v := ?_) (Or.inl ⟨by rfl, ?_⟩) ?_
        rotate_left
        focus (intro _ h; (try dsimp only at h); go_simp; (try with_reducible rfl); done)
        (try simp only [Act.put, sAr, sZe, sSu])
        refine tkY 5 (at_lit rfl) (v := ?_) (Or.inl ⟨by rfl, ?_⟩) ?_
        rotate_left
        focus (intro _ h; (try dsimp only at h); go_simp; (try with_reducible rfl); done)
        (try simp only [Act.put, sAr, sZe, sSu])
        refine wpAnyH_ready (rs := [6, 10]) (by kernel_rfl) (by simp) ?_
        refine AllReadyH.cons (o := _) (at_lit rfl) (fun K hK => ?_) (AllReadyH.cons (o := _) (at_lit rfl) (fun K hK => ?_) AllReadyH.nil)
        · go_simp
          go_at_call 62
          refine (HCALL.out _ (HST.out.call (drewN_b (Below.refl _ _) 1)).1).mono ?_
          rintro e w3 ⟨rfl, nm, rfl⟩
          go_wp2_with fail
          refine hK.out _ _ ?_ (fun hHeld => ?_)
          focus exact hs0
          clear hK K
          (try simp only [Act.put, sAr, sZe, sSu])
          refine tkY 7 (at_lit rfl) (v := ?_) (Or.inl ⟨by rfl, ?_⟩) ?_
          rotate_left
          focus (intro _ h; (try dsimp only at h); go_simp; (try with_reducible rfl); done)
          (try simp only [Act.put, sAr, sZe, sSu])
          refine tkY 8 (at_lit rfl) (v := ?_) (Or.inl ⟨by rfl, ?_⟩) ?_
          rotate_left
          focus (intro _ h; (try dsimp only at h); go_simp; (try with_reducible rfl); done)
          (try simp only [Act.put, sAr, sZe, sSu])
          refine tkY 9 (at_lit rfl) (v := ?_) (Or.inl ⟨by rfl, ?_⟩) ?_
          rotate_left
          focus (intro _ h; (try dsimp only at h); go_simp; (try with_reducible rfl); done)
          (try simp only [Act.put, sAr, sZe, sSu])
          refine wpAnyH_ready (rs := [10]) (by kernel_rfl) (by simp) ?_
          refine AllReadyH.cons (o := _) (at_lit rfl) (fun K hK => ?_) AllReadyH.nil
          go_simp
          have F := (HST.out.call (drewN_b (Below.refl _ _) (1 + nm))).fresh
          have F2 : Row ((w1.drewN (1 + nm)).alloc (.cells #[.int .i64 0, .bool false, .bool false, .bool false, .bool false, .bool false, .bool false] 28)) y 28 [.int .i64 0, .bool false, .bool false, .bool false, .bool false, .bool false, .bool false] := by have := F.2; rw [show (w1.drewN (1 + nm)).heap.size = y from HY.out.symm] at this; exact this
          refine hK.out _ _ ?_ (fun hHeld => ?_)
          focus exact rf_cells F.1.1 hk HMM.out HNN.out
          clear hK K hs0
          generalize (w1.drewN (1 + nm)).alloc (.cells #[.int .i64 0, .bool false, .bool false, .bool false, .bool false, .bool false, .bool false] 28) = w3 at F F2 hHeld ⊢
          try rw [show (w1.drewN (1 + nm)).heap.size = y from HY.out.symm]
          try rw [← HY.out]
          have hyw : w.heap.size ≤ y := HYW.out
          have G := F.1.seven (y0 := .int .i64 m.f) (y1 := .bool m.p) (y2 := .bool m.w) (y3 := .bool m.h) (y4 := .bool m.k) (y5 := .bool m.u) (y6 := .bool m.d) F2 hyw
          obtain ⟨⟨e0, e1, e2, e3, e4, e5, e6⟩, ef⟩ := F2.seven
          (try simp only [Act.put, sAr, sZe, sSu])
          refine wpAnyH_ready (rs := [11]) (by kernel_rfl) (by simp) ?_
          refine AllReadyH.cons (o := _) (at_lit rfl) (fun K hK => ?_) AllReadyH.nil
          go_simp
          go_wp2_with fail
          refine hK.out _ _ ?_ (fun hHeld => ?_)
          focus exact rf_cells G.1.1 hk HMM.out HNN.out
          clear hK K e0 e1 e2 e3 e4 e5 e6 ef F F2
          have G1 := Lib.hid G
          clear G
          (try simp only [Act.put, sAr, sZe, sSu])
          refine wpAnyH_done (by kernel_rfl) ?_ _
          refine NoPanic.normal ?_
          go_wp2_with fail
          go_meet
          exact ⟨rfl, G1.out.2, G1.out.1⟩
        · go_simp
          have F := (HST.out.call (drewN_b (Below.refl _ _) 1)).fresh
          have F2 : Row ((w1.alloc (.cells #[.int .i64 0, .bool false, .bool false, .bool false, .bool false, .bool false, .bool false] 28)).drew) y 28 [.int .i64 0, .bool false, .bool false, .bool false, .bool false, .bool false, .bool false] := by have := F.2; rw [show (w1.drewN 1).heap.size = y from HY.out.symm] at this; exact this
          refine hK.out _ _ ?_ (fun hHeld => ?_)
          focus exact rf_cells F.1.1 hk HMM.out HNN.out
          clear hK K hs0
          have F : Std w ((w1.alloc (.cells #[.int .i64 0, .bool false, .bool false, .bool false, .bool false, .bool false, .bool false] 28)).drew) C x q (.slice (some ad) L.length c) L := F.1
          generalize (w1.alloc (.cells #[.int .i64 0, .bool false, .bool false, .bool false, .bool false, .bool false, .bool false] 28)).drew = w2 at F F2 hHeld ⊢
          try rw [show w1.drew.heap.size = y from HY.out.symm]
          try rw [← HY.out]
          (try simp only [Act.put, sAr, sZe, sSu])
          refine wpAnyH_ready (rs := [6]) (by kernel_rfl) (by simp) ?_
          refine AllReadyH.cons (o := _) (at_lit rfl) (fun K hK => ?_) AllReadyH.nil
          go_simp
          go_at_call 62
          refine (HCALL.out _ F.1).mono ?_
          rintro e w3 ⟨rfl, nm, rfl⟩
          go_wp2_with fail
          have F3 := And.intro (F.call (drewN_b (Below.refl _ _) nm)) True.intro
          have F4 : Row (w2.drewN nm) y 28 [.int .i64 0, .bool false, .bool false, .bool false, .bool false, .bool false, .bool false] := F2
          refine hK.out _ _ ?_ (fun hHeld => ?_)
          focus exact rf_cells F3.1.1 hk HMM.out HNN.out
          clear hK K F F2
          have F := F3
          have F2 := F4
          clear F3 F4
          generalize w2.drewN nm = w3 at F F2 hHeld ⊢
          (try simp only [Act.put, sAr, sZe, sSu])
          refine tkY 7 (at_lit rfl) (v := ?_) (Or.inl ⟨by rfl, ?_⟩) ?_
          rotate_left
          focus (intro _ h; (try dsimp only at h); go_simp; (try with_reducible rfl); done)
          (try simp only [Act.put, sAr, sZe, sSu])
          refine tkY 8 (at_lit rfl) (v := ?_) (Or.inl ⟨by rfl, ?_⟩) ?_
          rotate_left
          focus (intro _ h; (try dsimp only at h); go_simp; (try with_reducible rfl); done)
          (try simp only [Act.put, sAr, sZe, sSu])
          refine tkY 9 (at_lit rfl) (v := ?_) (Or.inl ⟨by rfl, ?_⟩) ?_
          rotate_left
          focus (intro _ h; (try dsimp only at h); go_simp; (try with_reducible rfl); done)
          (try simp only [Act.put, sAr, sZe, sSu])
          have hyw : w.heap.size ≤ y := HYW.out
          have G := F.1.seven (y0 := .int .i64 m.f) (y1 := .bool m.p) (y2 := .bool m.w) (y3 := .bool m.h) (y4 := .bool m.k) (y5 := .bool m.u) (y6 := .bool m.d) F2 hyw
          obtain ⟨⟨e0, e1, e2, e3, e4, e5, e6⟩, ef⟩ := F2.seven
          (try simp only [Act.put, sAr, sZe, sSu])
          refine wpAnyH_ready (rs := [11]) (by kernel_rfl) (by simp) ?_
          refine AllReadyH.cons (o := _) (at_lit rfl) (fun K hK => ?_) AllReadyH.nil
          go_simp
          go_wp2_with fail
          refine hK.out _ _ ?_ (fun hHeld => ?_)
          focus exact rf_cells G.1.1 hk HMM.out HNN.out
          clear hK K e0 e1 e2 e3 e4 e5 e6 ef F F2
          have G1 := Lib.hid G
          clear G
          (try simp only [Act.put, sAr, sZe, sSu])
          refine wpAnyH_done (by kernel_rfl) ?_ _
          refine NoPanic.normal ?_
          go_wp2_with fail
          go_meet
          exact ⟨rfl, G1.out.2, G1.out.1⟩
      case rest =>
        obtain ⟨rfl, hy1, hy2⟩ := hcut
        have HC0 : Hid (Std2 w wc C x q (.slice (some ad) L.length c) L y [.int .i64 m.f, .bool m.p, .bool m.w, .bool m.h, .bool m.k, .bool m.u, .bool m.d]) := ⟨hy2, hy1, HYW.out⟩
        clear hy1 hy2 HST HY H1 HR1 HB1 hf hkg hko
        go_wp2_with fail
        go_loopw [9, 10] (fun i _ wx => ∃ (j : Nat) (bu bd : Bool), j ≤ 8 ∧ i = .int .i64 j ∧ Std2 w wx C x q (.slice (some ad) L.length c) L y [.int .i64 m.f, .bool m.p, .bool m.w, .bool m.h, .bool m.k, .bool bu, .bool bd]) (fun i _ _ => 8 - (intOf i).toNat)
        case atStart => exact ⟨0, m.u, m.d, by omega, rfl, HC0.out⟩
        case round =>
          obtain ⟨j, bu, bd, hj, rfl, hst⟩ := hrel
          have HST2 := Lib.hid hst
          clear hst
          by_cases hlt : j < 8
          · obtain ⟨k2, hk2, hf2, hkg2, hko2⟩ := HA.out j hlt
            obtain ⟨m2, hm2⟩ : ∃ m2, m2 = L[k2] := ⟨_, rfl⟩
            have HM2 := Lib.hid hm2
            have hkN : k2 < N := by rw [HNN.out]; exact hk2
            have hkNi : (k2 : Int) < N := by omega
            have hwi : IntKind.i64.wrap ((a : Int) + (j : Int)) = (a : Int) + (j : Int) := IntWalk.i64_in _ (by omega)
            obtain ⟨z, hz⟩ : ∃ z, z = wr.heap.size := ⟨_, rfl⟩
            have HZ := Lib.hid hz
            have HYZ : Hid (y < z) := by show _ < _; rw [hz]; exact HST2.out.2.1.lt
            have hji : decide ((j : Int) < 8) = true := by simp; omega
            clear hz hm2
            go_wp2_with fail
            go_cut [10] from 40 to 51 (fun s10 wx => s10 = .pointer (some ⟨z, 0, none⟩) ∧ Row wx z 28 [.int .i64 m2.f, .bool m2.p, .bool m2.w, .bool m2.h, .bool m2.k, .bool m2.u, .bool m2.d] ∧ Std2 w wx C x q (.slice (some ad) L.length c) L y [.int .i64 m.f, .bool m.p, .bool m.w, .bool m.h, .bool m.k, .bool bu, .bool bd])
            case first =>
              have hs0 : (fun v => v.cell? ⟨x, 0, none⟩ = some (.slice (some ad) N c) ∧ v.cell? ⟨(ad.add (k2 * 9)).block, (ad.add (k2 * 9)).off + 2, none⟩ = some (.int .i64 m2.f) ∧ v.cell? ⟨(ad.add (k2 * 9)).block, (ad.add (k2 * 9)).off + 3, none⟩ = some (.bool m2.p) ∧ v.cell? ⟨(ad.add (k2 * 9)).block, (ad.add (k2 * 9)).off + 4, none⟩ = some (.bool m2.w) ∧ v.cell? ⟨(ad.add (k2 * 9)).block, (ad.add (k2 * 9)).off + 5, none⟩ = some (.bool m2.h) ∧ v.cell? ⟨(ad.add (k2 * 9)).block, (ad.add (k2 * 9)).off + 6, none⟩ = some (.bool m2.k) ∧ v.cell? ⟨(ad.add (k2 * 9)).block, (ad.add (k2 * 9)).off + 7, none⟩ = some (.bool m2.u) ∧ v.cell? ⟨(ad.add (k2 * 9)).block, (ad.add (k2 * 9)).off + 8, none⟩ = some (.bool m2.d)) wr.drew := rf_cells (HST2.out.call (drewN_b (Below.refl _ _) 1)).1.1 hk2 HM2.out HNN.out
              have hcall := fun W (HW : RfT W C x (.slice (some ad) L.length c) L) => at_is HW ((a : Int) + (j : Int)) 0 (by omega) (by omega)
              rw [hf2] at hcall
              have HCALL := Lib.hid hcall
              clear hcall
              clear hf2 hkg2 hko2
              refine wp_region_noPanic ?_
              refine wp_region_held_drew (S := (fun v => v.cell? ⟨x, 0, none⟩ = some (.slice (some ad) N c) ∧ v.cell? ⟨(ad.add (k2 * 9)).block, (ad.add (k2 * 9)).off + 2, none⟩ = some (.int .i64 m2.f) ∧ v.cell? ⟨(ad.add (k2 * 9)).block, (ad.add (k2 * 9)).off + 3, none⟩ = some (.bool m2.p) ∧ v.cell? ⟨(ad.add (k2 * 9)).block, (ad.add (k2 * 9)).off + 4, none⟩ = some (.bool m2.w) ∧ v.cell? ⟨(ad.add (k2 * 9)).block, (ad.add (k2 * 9)).off + 5, none⟩ = some (.bool m2.h) ∧ v.cell? ⟨(ad.add (k2 * 9)).block, (ad.add (k2 * 9)).off + 6, none⟩ = some (.bool m2.k) ∧ v.cell? ⟨(ad.add (k2 * 9)).block, (ad.add (k2 * 9)).off + 7, none⟩ = some (.bool m2.u) ∧ v.cell? ⟨(ad.add (k2 * 9)).block, (ad.add (k2 * 9)).off + 8, none⟩ = some (.bool m2.d))) (by kernel_rfl) hs0 (fun hHeld => ?_)
              refine tkY 0 (at_lit rfl) (v := ?_) (Or.inl ⟨by rfl, ?_⟩) ?_
              rotate_left
              focus (intro _ h; (try dsimp only at h); go_simp; (try with_reducible rfl); done)
              (try simp only [Act.put, sAr, sZe, sSu])
              refine tkY 1 (at_lit rfl) (v := ?_) (Or.inl ⟨by rfl, ?_⟩) ?_
              rotate_left
              focus (intro _ h; (try dsimp only at h); go_simp; (try with_reducible rfl); done)
              (try simp only [Act.put, sAr, sZe, sSu])
              refine tkY 2 (at_lit rfl) (v := ?_) (Or.inl ⟨by rfl, ?_⟩) ?_
              rotate_left
              focus (intro _ h; (try dsimp only at h); go_simp; (try with_reducible rfl); done)
              (try simp only [Act.put, sAr, sZe, sSu])
              refine tkY 3 (at_lit rfl) (v := ?_) (Or.inl ⟨by rfl, ?_⟩) ?_
              rotate_left
              focus (intro _ h; (try dsimp only at h); go_simp; (try with_reducible rfl); done)
              (try simp only [Act.put, sAr, sZe, sSu])
              refine tkY 4 (at_lit rfl) (v := ?_) (Or.inl ⟨by rfl, ?_⟩) ?_
              rotate_left
              focus (intro _ h; (try dsimp only at h); go_simp; (try with_reducible rfl); done)
              (try simp only [Act.put, sAr, sZe, sSu])
              refine tkY 5 (at_lit rfl) (v := ?_) (Or.inl ⟨by rfl, ?_⟩) ?_
              rotate_left
              focus (intro _ h; (try dsimp only at h); go_simp; (try with_reducible rfl); done)
              (try simp only [Act.put, sAr, sZe, sSu])
              refine tkY 6 (at_lit rfl) (v := ?_) (Or.inl ⟨by rfl, ?_⟩) ?_
              rotate_left
              focus (intro _ h; (try dsimp only at h); go_simp; (try with_reducible rfl); done)
              (try simp only [Act.put, sAr, sZe, sSu])
              refine tkY 7 (at_lit rfl) (v := ?_) (Or.inl ⟨by rfl, ?_⟩) ?_
              rotate_left
              focus (intro _ h; (try dsimp only at h); go_simp; (try with_reducible rfl); done)
              (try simp only [Act.put, sAr, sZe, sSu])
              refine wpAnyH_ready (rs := [8, 12]) (by kernel_rfl) (by simp) ?_
              refine AllReadyH.cons (o := _) (at_lit rfl) (fun K hK => ?_) (AllReadyH.cons (o := _) (at_lit rfl) (fun K hK => ?_) AllReadyH.nil)
              · go_simp
                go_at_call 62
                refine (HCALL.out _ (HST2.out.call (drewN_b (Below.refl _ _) 1)).1.1).mono ?_
                rintro e w3 ⟨rfl, nm, rfl⟩
                go_wp2_with fail
                refine hK.out _ _ ?_ (fun hHeld => ?_)
                focus exact hs0
                clear hK K
                (try simp only [Act.put, sAr, sZe, sSu])
                refine tkY 9 (at_lit rfl) (v := ?_) (Or.inl ⟨by rfl, ?_⟩) ?_
                rotate_left
                focus (intro _ h; (try dsimp only at h); go_simp; (try with_reducible rfl); done)
                (try simp only [Act.put, sAr, sZe, sSu])
                refine tkY 10 (at_lit rfl) (v := ?_) (Or.inl ⟨by rfl, ?_⟩) ?_
                rotate_left
                focus (intro _ h; (try dsimp only at h); go_simp; (try with_reducible rfl); done)
                (try simp only [Act.put, sAr, sZe, sSu])
                refine tkY 11 (at_lit rfl) (v := ?_) (Or.inl ⟨by rfl, ?_⟩) ?_
                rotate_left
                focus (intro _ h; (try dsimp only at h); go_simp; (try with_reducible rfl); done)
                (try simp only [Act.put, sAr, sZe, sSu])
                refine wpAnyH_ready (rs := [12]) (by kernel_rfl) (by simp) ?_
                refine AllReadyH.cons (o := _) (at_lit rfl) (fun K hK => ?_) AllReadyH.nil
                go_simp
                have F := (HST2.out.call (drewN_b (Below.refl _ _) (1 + nm))).fresh
                have F9 : Row ((wr.drewN (1 + nm)).alloc (.cells #[.int .i64 0, .bool false, .bool false, .bool false, .bool false, .bool false, .bool false] 28)) z 28 [.int .i64 0, .bool false, .bool false, .bool false, .bool false, .bool false, .bool false] := by have := F.2; rw [show (wr.drewN (1 + nm)).heap.size = z from HZ.out.symm] at this; exact this
                refine hK.out _ _ ?_ (fun hHeld => ?_)
                focus exact rf_cells F.1.1.1 hk2 HM2.out HNN.out
                clear hK K hs0
                generalize (wr.drewN (1 + nm)).alloc (.cells #[.int .i64 0, .bool false, .bool false, .bool false, .bool false, .bool false, .bool false] 28) = w3 at F F9 hHeld ⊢
                try rw [show (wr.drewN (1 + nm)).heap.size = z from HZ.out.symm]
                try rw [← HZ.out]
                have hyw : y < z := HYZ.out
                have G := F.1.seven (y0 := .int .i64 m2.f) (y1 := .bool m2.p) (y2 := .bool m2.w) (y3 := .bool m2.h) (y4 := .bool m2.k) (y5 := .bool m2.u) (y6 := .bool m2.d) F9 hyw
                obtain ⟨⟨e0, e1, e2, e3, e4, e5, e6⟩, ef⟩ := F9.seven
                (try simp only [Act.put, sAr, sZe, sSu])
                refine wpAnyH_ready (rs := [13]) (by kernel_rfl) (by simp) ?_
                refine AllReadyH.cons (o := _) (at_lit rfl) (fun K hK => ?_) AllReadyH.nil
                go_simp
                go_wp2_with fail
                refine hK.out _ _ ?_ (fun hHeld => ?_)
                focus exact rf_cells G.1.1.1 hk2 HM2.out HNN.out
                clear hK K e0 e1 e2 e3 e4 e5 e6 ef F F9
                have G1 := Lib.hid G
                clear G
                (try simp only [Act.put, sAr, sZe, sSu])
                refine wpAnyH_done (by kernel_rfl) ?_ _
                refine NoPanic.normal ?_
                go_wp2_with fail
                go_meet
                exact ⟨rfl, G1.out.2, G1.out.1⟩
              · go_simp
                have F := (HST2.out.call (drewN_b (Below.refl _ _) 1)).fresh
                have F9 : Row ((wr.alloc (.cells #[.int .i64 0, .bool false, .bool false, .bool false, .bool false, .bool false, .bool false] 28)).drew) z 28 [.int .i64 0, .bool false, .bool false, .bool false, .bool false, .bool false, .bool false] := by have := F.2; rw [show (wr.drewN 1).heap.size = z from HZ.out.symm] at this; exact this
                refine hK.out _ _ ?_ (fun hHeld => ?_)
                focus exact rf_cells F.1.1.1 hk2 HM2.out HNN.out
                clear hK K hs0
                have F : Std2 w ((wr.alloc (.cells #[.int .i64 0, .bool false, .bool false, .bool false, .bool false, .bool false, .bool false] 28)).drew) C x q (.slice (some ad) L.length c) L y [.int .i64 m.f, .bool m.p, .bool m.w, .bool m.h, .bool m.k, .bool bu, .bool bd] := F.1
                generalize (wr.alloc (.cells #[.int .i64 0, .bool false, .bool false, .bool false, .bool false, .bool false, .bool false] 28)).drew = w2 at F F9 hHeld ⊢
                try rw [show wr.drew.heap.size = z from HZ.out.symm]
                try rw [← HZ.out]
                (try simp only [Act.put, sAr, sZe, sSu])
                refine wpAnyH_ready (rs := [8]) (by kernel_rfl) (by simp) ?_
                refine AllReadyH.cons (o := _) (at_lit rfl) (fun K hK => ?_) AllReadyH.nil
                go_simp
                go_at_call 62
                refine (HCALL.out _ F.1.1).mono ?_
                rintro e w3 ⟨rfl, nm, rfl⟩
                go_wp2_with fail
                have F3 := And.intro (F.call (drewN_b (Below.refl _ _) nm)) True.intro
                have F4 : Row (w2.drewN nm) z 28 [.int .i64 0, .bool false, .bool false, .bool false, .bool false, .bool false, .bool false] := F9
                refine hK.out _ _ ?_ (fun hHeld => ?_)
                focus exact rf_cells F3.1.1.1 hk2 HM2.out HNN.out
                clear hK K F F9
                have F := F3
                have F9 := F4
                clear F3 F4
                generalize w2.drewN nm = w3 at F F9 hHeld ⊢
                (try simp only [Act.put, sAr, sZe, sSu])
                refine tkY 9 (at_lit rfl) (v := ?_) (Or.inl ⟨by rfl, ?_⟩) ?_
                rotate_left
                focus (intro _ h; (try dsimp only at h); go_simp; (try with_reducible rfl); done)
                (try simp only [Act.put, sAr, sZe, sSu])
                refine tkY 10 (at_lit rfl) (v := ?_) (Or.inl ⟨by rfl, ?_⟩) ?_
                rotate_left
                focus (intro _ h; (try dsimp only at h); go_simp; (try with_reducible rfl); done)
                (try simp only [Act.put, sAr, sZe, sSu])
                refine tkY 11 (at_lit rfl) (v := ?_) (Or.inl ⟨by rfl, ?_⟩) ?_
                rotate_left
                focus (intro _ h; (try dsimp only at h); go_simp; (try with_reducible rfl); done)
                (try simp only [Act.put, sAr, sZe, sSu])
                have hyw : y < z := HYZ.out
                have G := F.1.seven (y0 := .int .i64 m2.f) (y1 := .bool m2.p) (y2 := .bool m2.w) (y3 := .bool m2.h) (y4 := .bool m2.k) (y5 := .bool m2.u) (y6 := .bool m2.d) F9 hyw
                obtain ⟨⟨e0, e1, e2, e3, e4, e5, e6⟩, ef⟩ := F9.seven
                (try simp only [Act.put, sAr, sZe, sSu])
                refine wpAnyH_ready (rs := [13]) (by kernel_rfl) (by simp) ?_
                refine AllReadyH.cons (o := _) (at_lit rfl) (fun K hK => ?_) AllReadyH.nil
                go_simp
                go_wp2_with fail
                refine hK.out _ _ ?_ (fun hHeld => ?_)
                focus exact rf_cells G.1.1.1 hk2 HM2.out HNN.out
                clear hK K e0 e1 e2 e3 e4 e5 e6 ef F F9
                have G1 := Lib.hid G
                clear G
                (try simp only [Act.put, sAr, sZe, sSu])
                refine wpAnyH_done (by kernel_rfl) ?_ _
                refine NoPanic.normal ?_
                go_wp2_with fail
                go_meet
                exact ⟨rfl, G1.out.2, G1.out.1⟩
            case rest =>
              obtain ⟨rfl, hz1, hz2⟩ := hcut
              have HW9 := Lib.hid hz2
              obtain ⟨⟨a0, a1, a2, a3, a4, a5, a6⟩, -⟩ := hz1.seven
              obtain ⟨⟨o0, o1, o2, o3, o4, o5, o6⟩, of⟩ := hz2.2.1.seven
              clear hz1 hz2 HST2 HC0 hf2 hkg2 hko2
              have HM2' := HM2
              clear HM2 HM2'
              obtain ⟨eg, eo, ef, ep, ew, eh, ek, eu, ed⟩ := m2
              dsimp only at a0 a1 a2 a3 a4 a5 a6
              obtain ⟨fj, hfj⟩ : ∃ fj, IntKind.i64.wrap (m.f + (j : Int)) = fj := ⟨_, rfl⟩
              cases ep
              · obtain ⟨⟨d0, d1, d2, d3, d4, d5, d6, d7, d8⟩, df⟩ := HW9.out.1.2.1.nineM
                go_wp2_with fail
                exact bodyPost_ret (v := .tuple #[.agg #[.int .i64 0, .int .i64 0, .int .i64 0, .bool false, .bool false, .bool false, .bool false, .bool false, .bool false], .int .i64 5]) (by simp [results, Try.results82, go_sem, *]) rfl (mgd_end9 (m := mz) (fun h => by omega) HW9.out.1.2.2 (Nat.le_of_eq HQ.out.symm))
              · cases h2 : (ew != m.w)
                · cases h3 : (ef != fj)
                  · cases h4 : (m.f.tmod 8 != 0)
                    · obtain rfl : ew = m.w := by simpa using h2
                      obtain rfl : ef = fj := by simpa using h3
                      have h5 : m.f.tmod 8 = 0 := by simpa using h4
                      clear h2 h3
                      cases bu <;> cases bd
                      all_goals
                        go_wp2_with fail
                        go_roundw
                        case rel => exact ⟨j + 1, _, _, by omega, by go_num, (HW9.out.set1 5 _).set1 6 _⟩
                        case measure => simp [intOf]; omega
                    · obtain rfl : ew = m.w := by simpa using h2
                      obtain rfl : ef = fj := by simpa using h3
                      have h5 : ¬ m.f.tmod 8 = 0 := by simpa using h4
                      clear h2 h3
                      obtain ⟨⟨d0, d1, d2, d3, d4, d5, d6, d7, d8⟩, df⟩ := HW9.out.1.2.1.nineM
                      go_wp2_with fail
                      exact bodyPost_ret (v := .tuple #[.agg #[.int .i64 0, .int .i64 0, .int .i64 0, .bool false, .bool false, .bool false, .bool false, .bool false, .bool false], .int .i64 5]) (by simp [results, Try.results82, go_sem, *]) rfl (mgd_end9 (m := mz) (fun h => by omega) HW9.out.1.2.2 (Nat.le_of_eq HQ.out.symm))
                  · obtain rfl : ew = m.w := by simpa using h2
                    have h5 : ¬ ef = fj := by simpa using h3
                    clear h2
                    obtain ⟨⟨d0, d1, d2, d3, d4, d5, d6, d7, d8⟩, df⟩ := HW9.out.1.2.1.nineM
                    go_wp2_with fail
                    exact bodyPost_ret (v := .tuple #[.agg #[.int .i64 0, .int .i64 0, .int .i64 0, .bool false, .bool false, .bool false, .bool false, .bool false, .bool false], .int .i64 5]) (by simp [results, Try.results82, go_sem, *]) rfl (mgd_end9 (m := mz) (fun h => by omega) HW9.out.1.2.2 (Nat.le_of_eq HQ.out.symm))
                · have h5 : ¬ ew = m.w := by simpa using h2
                  obtain ⟨⟨d0, d1, d2, d3, d4, d5, d6, d7, d8⟩, df⟩ := HW9.out.1.2.1.nineM
                  go_wp2_with fail
                  exact bodyPost_ret (v := .tuple #[.agg #[.int .i64 0, .int .i64 0, .int .i64 0, .bool false, .bool false, .bool false, .bool false, .bool false, .bool false], .int .i64 5]) (by simp [results, Try.results82, go_sem, *]) rfl (mgd_end9 (m := mz) (fun h => by omega) HW9.out.1.2.2 (Nat.le_of_eq HQ.out.symm))
          · obtain rfl : j = 8 := by omega
            obtain ⟨⟨o0, o1, o2, o3, o4, o5, o6⟩, of⟩ := HST2.out.2.1.seven
            go_upto_region 17 with (fail)
            have HS9 := Lib.hid (HST2.out.set1 3 (.bool true))
            generalize wr.setCell ⟨y, 3, none⟩ (.bool true) = w9 at HS9 ⊢
            clear o0 o1 o2 o3 o4 o5 o6 of
            obtain ⟨⟨o0, o1, o2, o3, o4, o5, o6⟩, -⟩ := Row.seven (x0 := .int .i64 m.f) (x1 := .bool m.p) (x2 := .bool m.w) (x3 := .bool true) (x4 := .bool m.k) (x5 := .bool bu) (x6 := .bool bd) HS9.out.2.1
            obtain ⟨⟨d0, d1, d2, d3, d4, d5, d6, d7, d8⟩, df⟩ := HS9.out.1.2.1.nineM
            go_wp2_with fail
            exact bodyPost_ret (v := .tuple #[.agg #[.int .i64 a, .int .i64 3, .int .i64 m.f, .bool m.p, .bool m.w, .bool true, .bool m.k, .bool bu, .bool bd], .int .i64 0]) (by simp [results, Try.results82, go_sem, *]) rfl (mgd_end9 (m := ⟨a, 3, m.f, m.p, m.w, true, m.k, bu, bd⟩) (fun _ => ⟨by show (0 : Int) ≤ a; omega, by show (a : Int) ≤ 4095; omega, Or.inr (Or.inl rfl), by show (a : Int) % 8 = 0; omega⟩) HS9.out.1.2.2 (Nat.le_of_eq HQ.out.symm))
end
end Go.Proofs.Ytpcpcgbejinlmaa
