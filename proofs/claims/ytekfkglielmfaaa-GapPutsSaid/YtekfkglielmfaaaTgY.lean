/- GapDoes, walked. -/
import Derived.Test.YtekfkglielmfaaaTgX
namespace Go.Proofs.Ytekfkglielmfaaa
open Go.RowKit
section
variable {w w' w1 w2 W W' : World} {B t x : Nat} {v : Value} {L L' : List (Nat × Nat)} {f z : Int}
theorem all_w (h : PrT B w t L) : ∀ W, Below w.heap.size w W → Calls Try.prog 15 #[.pointer (some ⟨t, 0, none⟩)] W fun e w' => ∃ A c, e = .returned (.slice A L.length c) ∧ ETr.Own 0 w' (.slice A L.length c) L ∧ Below W.heap.size W w' ∧ Below w.heap.size w w' := fun _ hb =>
  (all_p (h.call hb)).mono fun _ _ ⟨A, c, h1, h2, h3⟩ => ⟨A, c, h1, h2.base (Nat.zero_le _), h3, hb.trans (h3.mono hb.size)⟩
theorem len_w (h : PrT B w t L) : ∀ W, Below w.heap.size w W → Calls Try.prog 16 #[.pointer (some ⟨t, 0, none⟩)] W fun e w' => e = .returned (.int .i64 (L.length : Nat)) ∧ Below W.heap.size W w' ∧ Below w.heap.size w w' := fun _ hb =>
  (len_p (h.call hb)).mono fun _ _ ⟨h1, h3⟩ => ⟨h1, h3, hb.trans (h3.mono hb.size)⟩
theorem greatest_w (h : PrT B w t L) : ∀ W, Below w.heap.size w W → Calls Try.prog 17 #[.pointer (some ⟨t, 0, none⟩)] W fun e w' => e = .returned (.int .i64 (grb (tkS L) 4095 : Nat)) ∧ Below W.heap.size W w' ∧ Below w.heap.size w w' := fun _ hb =>
  (greatest_p (h.call hb)).mono fun _ _ ⟨g, h1, h2, n, h3⟩ => ⟨by rw [h1, h2.one (gr_is L)], by rw [h3]; exact below_dN (Below.refl _ _) n, by rw [h3]; exact below_dN hb n⟩
theorem rgreatest_w (h : RtT B w x v L) (hl : L.length ≤ 1000) (ok : OkS L) : ∀ W, Below w.heap.size w W → Calls Try.prog 18 #[.pointer (some ⟨x, 0, none⟩)] W fun e w' => e = .returned (.int .i64 (grb (tkS L) 4095 : Nat)) ∧ Below W.heap.size W w' ∧ Below w.heap.size w w' := fun _ hb =>
  (rgreatest (h.call hb) hl ok).mono fun _ _ ⟨h1, h3⟩ => ⟨h1, h3, hb.trans (h3.mono hb.size)⟩
theorem same_w {A : Option Addr} {c : Nat} (h : RtT B w x (.slice A L.length c) L) (hl : L.length ≤ 1000) : ∀ W A1 c1, Below w.heap.size w W → ETr.Own 0 W (.slice A1 L.length c1) L → Calls Try.prog 14 #[.slice A1 L.length c1, .slice A L.length c] W fun e w' => e = .returned (.bool true) ∧ Below W.heap.size W w' ∧ Below w.heap.size w w' := fun _ _ _ hb ho =>
  (rsame ho (h.call hb).2.1 rfl (by omega)).mono fun _ _ ⟨h1, n, h3⟩ => ⟨h1, by rw [h3]; exact below_dN (Below.refl _ _) n, by rw [h3]; exact below_dN hb n⟩
/-- Where a page is, by both. -/
theorem find_at {p a b : Int} {v : Bool} (ok : OkS L) (h : FdIs L p a b v) : (v = false ∧ atS L p = -1 ∧ a = 0 ∧ b = 0) ∨ (∃ j, ∃ hj : j < L.length, v = true ∧ atS L p = j ∧ a = L[j].1 ∧ b = L[j].2) := by
  rcases h with ⟨rfl, rfl, rfl, h⟩ | ⟨rfl, y, hy, rfl, rfl, h1, h2⟩
  · refine Or.inl ⟨rfl, atS_miss ?_, rfl, rfl⟩
    rw [List.any_eq_false]
    intro y hy c
    exact h y hy (of_decide_eq_true c)
  · obtain ⟨j, hj, rfl⟩ := List.mem_iff_getElem.1 hy
    refine Or.inr ⟨j, hj, rfl, atS_hit hj ?_ (decide_eq_true ⟨h1, h2⟩), rfl, rfl⟩
    rw [List.any_eq_false]
    intro y hy c
    have c := of_decide_eq_true c
    obtain ⟨i, hi, rfl⟩ := List.mem_take_iff_getElem.1 hy
    have hlt : i < j := by omega
    have h3 := List.pairwise_iff_getElem.1 ok.up i j (by omega) hj hlt
    have h4 := (ok.in_ _ (List.getElem_mem hj)).2.1
    omega
end
set_option maxHeartbeats 16000000 in
set_option maxRecDepth 100000 in
theorem does_walk (A : Option Addr) (n c : Nat) (pg : Int) (w : World) (hA : Acs w w.heap.size A n) : Calls Try.prog 3 #[.slice A n c, .int .i64 pg] w fun e w' => e = .returned (.bool true) ∧ Below w.heap.size w w' := by
  obtain ⟨M, hM, hA⟩ := hA.list
  have hmade := made_any A n c w.heap.size M w hM hA (Nat.le_refl _)
  clear hA hM
  go_enter Try.func3, Try.ntmps3
  go_wp2_with fail
  refine hmade.mono ?_
  rintro e w1 ⟨t, x, rfl, L, hlen, hst, b1⟩
  have HS1 := Lib.hid (And.intro hst b1)
  have HLN := Lib.hid hlen
  have h2 := awake_any w1
  clear hmade hst hlen b1
  go_wp2_with fail
  refine h2.mono ?_
  rintro e w2 ⟨rfl, b2⟩
  have HB2 := Lib.hid (HS1.out.2.trans (b2.mono HS1.out.2.size))
  have hst := HS1.out.1.call b2
  have HS2 := Lib.hid hst
  clear h2 b2 HS1
  have hF := find_p hst.1 pg
  clear hst
  go_wp2_with fail
  refine hF.mono ?_
  rintro e w3 ⟨a, b, vv, rfl, hfd, nf, hw3⟩
  have b3 : Below w2.heap.size w2 w3 := by rw [hw3]; exact below_dN (Below.refl _ _) nf
  have hst := HS2.out.call b3
  obtain ⟨v, hv⟩ := hst.2.1
  have hAt := rat hv (by have := HLN.out; omega) pg
  have HB3 := Lib.hid (HB2.out.trans (b3.mono HB2.out.size))
  have HS3 := Lib.hid hst
  have HFD := Lib.hid hfd
  clear hF hfd hw3 b3 hv hst HS2
  go_wp2_with fail
  refine hAt.mono ?_
  rintro e w4 ⟨rfl, b4⟩
  have hst := HS3.out.call b4
  have HB4 := Lib.hid (HB3.out.trans (b4.mono HB3.out.size))
  have hok := hst.ok
  obtain ⟨v, hv⟩ := hst.2.1
  obtain ⟨A2, c2, hv2⟩ := hv.2.1.form
  subst hv2
  have hs : w4.cell? ⟨x, 0, none⟩ = some (.slice A2 L.length c2) := hv.1.cell 0
  have cA := all_w hst.1
  have cL := len_w hst.1
  have cG := greatest_w hst.1
  have cR := rgreatest_w hv (by have := HLN.out; omega) hok
  have cS := same_w hv (by have := HLN.out; omega)
  have HV := Lib.hid hv
  have HOK := Lib.hid hok
  clear hAt b4 hst hv hok HS3
  obtain ⟨G, hG⟩ : ∃ G, G = grb (tkS L) 4095 := ⟨_, rfl⟩
  rw [← hG] at cG cR
  clear hG
  rcases find_at HOK.out HFD.out with ⟨rfl, e1, rfl, rfl⟩ | ⟨j, hj, rfl, e1, rfl, rfl⟩
  · rw [e1]
    clear e1
    go_upto_region 8 with (fail)
    go_region_held3 (fun v => v.cell? ⟨x, 0, none⟩ = some (.slice A2 L.length c2))
      (first | exact hs | exact hsa | exact hsb | exact hsc | exact hsd | exact hse)
      (first | (go_at_call 15; (with_reducible refine (cA _ ?_).mono ?_); (focus exact below_dN (Below.refl _ _) _); rintro e wa ⟨A1, c1, rfl, ho1, ba0, ba⟩; have hsa := keep_cell ba hs) | (go_at_call 14; (with_reducible refine (cS _ _ _ ?_ ?_).mono ?_); (focus exact ba); (focus exact ho1); rintro e wb ⟨rfl, bb0, bb⟩; have hsb := keep_cell bb hs) | (go_at_call 16; (with_reducible refine (cL _ ?_).mono ?_); (focus exact bb); rintro e wc ⟨rfl, bc0, bc⟩; have hsc := keep_cell bc hs) | (go_at_call 17; (with_reducible refine (cG _ ?_).mono ?_); (focus exact bc); rintro e wd ⟨rfl, bd0, bd⟩; have hsd := keep_cell bd hs) | (go_at_call 18; (with_reducible refine (cR _ ?_).mono ?_); (focus exact bd); rintro e we ⟨rfl, be0, be⟩; have hse := keep_cell be hs) | fail)
    all_goals
      go_wp2_with fail
      go_ret
      exact ⟨rfl, HB4.out.trans (be.mono HB4.out.size)⟩
  · obtain ⟨g, rfl, -, hgl, d0, d1⟩ := HV.out.at_ hj
    rw [e1]
    have j1 : (j : Int) < L.length := by omega
    have j0 : (0 : Int) ≤ j := by omega
    generalize L[j] = y at d0 d1 ⊢
    obtain ⟨y0, y1⟩ := y
    dsimp only at d0 d1 ⊢
    clear e1 hgl
    go_upto_region 8 with (fail)
    go_region_held3 (fun v => v.cell? ⟨x, 0, none⟩ = some (.slice (some ⟨g, 0, none⟩) L.length c2))
      (first | exact hs | exact hsa | exact hsb | exact hsc | exact hsd | exact hse)
      (first | (go_at_call 15; (with_reducible refine (cA _ ?_).mono ?_); (focus exact below_dN (Below.refl _ _) _); rintro e wa ⟨A1, c1, rfl, ho1, ba0, ba⟩; have hsa := keep_cell ba hs) | (go_at_call 14; (with_reducible refine (cS _ _ _ ?_ ?_).mono ?_); (focus exact ba); (focus exact ho1); rintro e wb ⟨rfl, bb0, bb⟩; have hsb := keep_cell bb hs) | (go_at_call 16; (with_reducible refine (cL _ ?_).mono ?_); (focus exact bb); rintro e wc ⟨rfl, bc0, bc⟩; have hsc := keep_cell bc hs) | (go_at_call 17; (with_reducible refine (cG _ ?_).mono ?_); (focus exact bc); rintro e wd ⟨rfl, bd0, bd⟩; have hsd := keep_cell bd hs) | (go_at_call 18; (with_reducible refine (cR _ ?_).mono ?_); (focus exact bd); rintro e we ⟨rfl, be0, be⟩; have hse := keep_cell be hs) | fail)
    all_goals
      go_wp2_with fail
      go_ret
      exact ⟨rfl, HB4.out.trans (be.mono HB4.out.size)⟩
end Go.Proofs.Ytekfkglielmfaaa
