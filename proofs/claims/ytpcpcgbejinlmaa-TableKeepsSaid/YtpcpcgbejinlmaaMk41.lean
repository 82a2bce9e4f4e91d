/- The law's world as it is made, over the state. -/
import Derived.Test.YtpcpcgbejinlmaaMk40
import Derived.Test.YtpcpcgbejinlmaaMk31
namespace Go.Proofs.Ytpcpcgbejinlmaa
open Go.RowKit
theorem wd_k0 (t i : Int) : wd k0 t i = 0 := by
  unfold wd k0
  rw [List.getD_eq_getElem?_getD, List.getElem?_replicate]
  split
  · split <;> rfl
  · rfl
theorem bagL_nodup (m : Nat) : (bagL m).Nodup := by
  unfold bagL
  exact List.Pairwise.map _ (fun a b h e => h (by omega)) List.nodup_range
theorem inv_k0 (m : Nat) (hm : m + 2 ≤ 100) : Inv k0 (bagL m) (412 + ((m + 1 : Nat) : Int)) (412 + (m : Int)) := by
  have hF : FF k0 = 512 := by unfold FF k0; rw [List.length_replicate]; rfl
  have z := fun t => tabs_zero (ws := k0) (t := t) (fun i _ => wd_k0 t (i : Int)) 3
  refine ⟨by unfold k0; rw [List.length_replicate], (z _).2 (by omega) (by rw [hF]; omega), (z _).2 (by omega) (by rw [hF]; omega), ?_, fun f hf => by have := bagL_mem hf; omega⟩
  rw [(z _).1, (z _).1, List.nodup_append]
  refine ⟨bagL_nodup m, by simp; omega, fun a ha b hb => ?_⟩
  have := bagL_mem ha
  simp at hb
  omega
theorem made_lw {w W : World} {s : Seat} {v : Value} {g x0 x1 m : Nat} {lf : Int} (hm : m + 2 ≤ 100) (h : MdAt w W s v g x0 x1 (bagL m) [412 + (m : Int), 412 + ((m + 1 : Nat) : Int)] (412 + ((m + 1 : Nat) : Int)) (412 + (m : Int)) lf) :
    Lw w W ⟨s, g, x0, x1, 412 + ((m + 1 : Nat) : Int), 412 + (m : Int), m + 2, []⟩ v k0 (bagL m) (.slice none 0 0) [] (.slice none 0 0) [] lf 0 := by
  obtain ⟨hT, hg, h0, h1, hb, hlo⟩ := h
  have z := fun t => tabs_zero (ws := k0) (t := t) (fun i _ => wd_k0 t (i : Int)) 3
  refine ⟨hT, inv_k0 m hm, ?_, hg, ⟨h0, Ms.nil _ _, (fun _ h => nomatch h), Nat.zero_le _⟩, ⟨h1, Ms.nil _ _, (fun _ h => nomatch h), Nat.zero_le _⟩, Nat.le_refl _, Nat.le_refl _, hb, hlo, fun _ h => nomatch h⟩
  show (allF k0 (bagL m) _ _).length = m + 2
  unfold allF
  rw [(z _).1, (z _).1, List.length_append, bagL_len]
  rfl
end Go.Proofs.Ytpcpcgbejinlmaa
/- A leaf that is taken away: the contract of Unmap, walked. -/
namespace Go.Proofs.Ytpcpcgbejinlmaa
open Go.RowKit
section
variable {w : World} {s : Seat} {v : Value} {ws L R : List Int}
theorem un_end {W W' : World} {g : Nat} {vs : List Value} {r p o z : Int} (hz : z = uzE ws R r p o) (hz0 : z ≠ 0) (hT : Tab W s v ws L R) (hb : Below w.heap.size w W) (hr : Row W g 28 vs) (hg : w.heap.size ≤ g) (hs : W'.heap.size = W.heap.size) (ho : W'.os = W.os) (ht : W'.tape = W.tape) (hu : W'.output = W.output) (hk : ∀ k, k ≠ g → W'.heap[k]? = W.heap[k]?) :
    Unmapped w s v ws L R r p o (.returned (.tuple #[.agg #[.int .i64 0, .bool false, .bool false, .bool false, .bool false, .bool false, .bool false], .int .i64 z])) W' :=
  ⟨0, false, false, false, false, false, false, by rw [hz], v, fun _ => tab_other hT hr (by rw [hs]; exact Nat.le_refl _) hk, fun e => absurd (hz.trans e) hz0, (Mv.of_below hb).above ho ht hu (by rw [hs]; exact Nat.le_refl _) fun k hl => hk k (by omega)⟩
theorem un_fin {W W' : World} {v' : Value} {g : Nat} {vs : List Value} {r p o f : Int} {b0 b1 b7 b9 b5 b6 : Bool} (hz : uzE ws R r p o = 0) (hT : Tab W s v' (uzN ws r p).1 (uzL ws L r p) R) (hm : Mv s v w v' W) (hr : Row W g 28 vs) (hg : w.heap.size ≤ g) (hs : W'.heap.size = W.heap.size) (ho : W'.os = W.os) (ht : W'.tape = W.tape) (hu : W'.output = W.output) (hk : ∀ k, k ≠ g → W'.heap[k]? = W.heap[k]?) :
    Unmapped w s v ws L R r p o (.returned (.tuple #[.agg #[.int .i64 f, .bool b0, .bool b1, .bool b7, .bool b9, .bool b5, .bool b6], .int .i64 0])) W' :=
  ⟨f, b0, b1, b7, b9, b5, b6, by rw [hz], v', fun e => absurd hz e, fun _ => tab_other hT hr (by rw [hs]; exact Nat.le_refl _) hk, hm.above ho ht hu (by rw [hs]; exact Nat.le_refl _) fun k hl => hk k (by omega)⟩
theorem un_end7 {W : World} {g : Nat} {vs : List Value} {r p o z : Int} {y0 y1 y2 y3 y4 y5 y6 : Value} (hz : z = uzE ws R r p o) (hz0 : z ≠ 0) (hT : Tab W s v ws L R) (hb : Below w.heap.size w W) (hr : Row W g 28 vs) (hg : w.heap.size ≤ g) :
    Unmapped w s v ws L R r p o (.returned (.tuple #[.agg #[.int .i64 0, .bool false, .bool false, .bool false, .bool false, .bool false, .bool false], .int .i64 z])) (((((((W.setCell ⟨g, 0, none⟩ y0).setCell ⟨g, 1, none⟩ y1).setCell ⟨g, 2, none⟩ y2).setCell ⟨g, 3, none⟩ y3).setCell ⟨g, 4, none⟩ y4).setCell ⟨g, 5, none⟩ y5).setCell ⟨g, 6, none⟩ y6) :=
  by
    have b := below_7 (x0 := y0) (x1 := y1) (x2 := y2) (x3 := y3) (x4 := y4) (x5 := y5) (x6 := y6) (Below.refl 0 W) (Nat.zero_le g)
    have k1 := seven_size W g y0 y1 y2 y3 y4 y5 y6
    have k2 := fun k hk => seven_heap W g y0 y1 y2 y3 y4 y5 y6 (k := k) hk
    generalize (((((((W.setCell ⟨g, 0, none⟩ y0).setCell ⟨g, 1, none⟩ y1).setCell ⟨g, 2, none⟩ y2).setCell ⟨g, 3, none⟩ y3).setCell ⟨g, 4, none⟩ y4).setCell ⟨g, 5, none⟩ y5).setCell ⟨g, 6, none⟩ y6) = W' at b k1 k2 ⊢
    exact un_end hz hz0 hT hb hr hg k1 b.os b.tape b.output k2
theorem un_fin7 {W : World} {v' : Value} {g : Nat} {vs : List Value} {r p o f : Int} {b0 b1 b7 b9 b5 b6 : Bool} {y0 y1 y2 y3 y4 y5 y6 : Value} (hz : uzE ws R r p o = 0) (hT : Tab W s v' (uzN ws r p).1 (uzL ws L r p) R) (hm : Mv s v w v' W) (hr : Row W g 28 vs) (hg : w.heap.size ≤ g) :
    Unmapped w s v ws L R r p o (.returned (.tuple #[.agg #[.int .i64 f, .bool b0, .bool b1, .bool b7, .bool b9, .bool b5, .bool b6], .int .i64 0])) (((((((W.setCell ⟨g, 0, none⟩ y0).setCell ⟨g, 1, none⟩ y1).setCell ⟨g, 2, none⟩ y2).setCell ⟨g, 3, none⟩ y3).setCell ⟨g, 4, none⟩ y4).setCell ⟨g, 5, none⟩ y5).setCell ⟨g, 6, none⟩ y6) :=
  by
    have b := below_7 (x0 := y0) (x1 := y1) (x2 := y2) (x3 := y3) (x4 := y4) (x5 := y5) (x6 := y6) (Below.refl 0 W) (Nat.zero_le g)
    have k1 := seven_size W g y0 y1 y2 y3 y4 y5 y6
    have k2 := fun k hk => seven_heap W g y0 y1 y2 y3 y4 y5 y6 (k := k) hk
    generalize (((((((W.setCell ⟨g, 0, none⟩ y0).setCell ⟨g, 1, none⟩ y1).setCell ⟨g, 2, none⟩ y2).setCell ⟨g, 3, none⟩ y3).setCell ⟨g, 4, none⟩ y4).setCell ⟨g, 5, none⟩ y5).setCell ⟨g, 6, none⟩ y6) = W' at b k1 k2 ⊢
    exact un_fin hz hT hm hr hg k1 b.os b.tape b.output k2
set_option maxHeartbeats 2000000 in
set_option maxRecDepth 100000 in
theorem tunmap_any (h : Tab w s v ws L R) (hlen : ws.length = 4096) (hLl : L.length ≤ 1000) (r p o : Int) (hr : Fits r) (hp : Fits p) : Calls Try.prog 15 #[.pointer (some ⟨s.x, 0, none⟩), .int .i64 r, .int .i64 p, .int .i64 o] w (Unmapped w s v ws L R r p o) := by
  obtain ⟨g, hg⟩ : ∃ g, g = w.heap.size := ⟨_, rfl⟩
  obtain ⟨w1, hw1⟩ : ∃ w1, w1 = w.alloc (.cells #[.int .i64 0, .bool false, .bool false, .bool false, .bool false, .bool false, .bool false] 28) := ⟨_, rfl⟩
  have b1 : Below w.heap.size w w1 := hw1 ▸ below_new w _ _
  have r1 : Row w1 g 28 [.int .i64 0, .bool false, .bool false, .bool false, .bool false, .bool false, .bool false] := by rw [hw1, hg]; exact Row.new w _ _
  have H1 := h.call b1
  have hck := checkPlace_any H1 r p o hr hp
  have HW := Lib.hid hw1
  have HG := Lib.hid hg
  have B1 := Lib.hid b1
  have R1 := Lib.hid r1
  have HH1 := Lib.hid H1
  have HLL := Lib.hid (And.intro hLl hlen)
  clear hw1 hg b1 r1 H1 h hLl hlen
  by_cases hz : plE R r p o = 0
  · rw [hz] at hck
    by_cases he : (fol ws r p).er = 0
    · by_cases hl : ((fol ws r p).lv : Int) * 3 = o
      · have hue : uzE ws R r p o = 0 := by unfold uzE fjE; rw [if_pos hz, if_pos he, if_pos hl]
        obtain ⟨hlv, hln, hpg⟩ := fol_ok he
        have HSL := Lib.hid (slot_last hpg hlv)
        have HTF := Lib.hid (ts_frame HLL.out.2 he)
        have HE := Lib.hid he
        have HLO := Lib.hid hl
        have HUE := Lib.hid hue
        have hlv3 := hlv
        have hd4 : (dgL p).length = 4 := by simp [dgL, hpg]
        clear hz he hl hue
        go_enter Try.func15, Try.ntmps15
        go_upto_region 1 with (fail)
        rw [← HW.out, ← HG.out]
        go_wp2_with fail
        refine hck.mono ?_
        rintro e w2 ⟨rfl, hb2⟩
        have R2 := Lib.hid (R1.out.below hb2 R1.out.lt)
        have H2 := Lib.hid (HH1.out.call hb2)
        have B2 := Lib.hid (B1.out.trans (hb2.mono B1.out.size))
        clear hck hb2 R1 HH1 B1
        go_wp2_with fail
        refine (findJust_ok H2.out r p o HE.out HLO.out).mono ?_
        rintro e w3 ⟨A, m, c, A', m', c', rfl, hi, hi', hb3, hn, hn', hmc⟩
        obtain ⟨q, hq⟩ : ∃ q, q = w3.heap.size := ⟨_, rfl⟩
        obtain ⟨ts, hts⟩ : ∃ ts, ts = (fol ws r p).ts := ⟨_, rfl⟩
        rw [← hts] at hi hln HTF
        obtain ⟨x0', ex0⟩ : ∃ y, y = lfF (fol ws r p) := ⟨_, rfl⟩
        obtain ⟨z0, ez0⟩ : ∃ y, y = lfB (fol ws r p) 0 := ⟨_, rfl⟩
        obtain ⟨z1, ez1⟩ : ∃ y, y = lfB (fol ws r p) 1 := ⟨_, rfl⟩
        obtain ⟨z7, ez7⟩ : ∃ y, y = lfB (fol ws r p) 7 := ⟨_, rfl⟩
        obtain ⟨z9, ez9⟩ : ∃ y, y = lfB (fol ws r p) 9 := ⟨_, rfl⟩
        obtain ⟨z5, ez5⟩ : ∃ y, y = lfB (fol ws r p) 5 := ⟨_, rfl⟩
        obtain ⟨z6, ez6⟩ : ∃ y, y = lfB (fol ws r p) 6 := ⟨_, rfl⟩
        obtain ⟨zv, ezv⟩ : ∃ y, y = lfV (fol ws r p) := ⟨_, rfl⟩
        obtain ⟨zp, ezp⟩ : ∃ y, y = lfP (fol ws r p) p := ⟨_, rfl⟩
        rw [← ex0, ← ez0, ← ez1, ← ez7, ← ez9, ← ez5, ← ez6, ← ezv, ← ezp]
        have hm := hi.len
        have hm' := hi'.len
        obtain ⟨n, hnm1⟩ : ∃ n, m = n + 1 := ⟨m - 1, by omega⟩
        have hn3 : n = 3 - (fol ws r p).lv := by omega
        have hwm : IntKind.i64.wrap ((m : Int) - 1) = (n : Int) := by rw [IntWalk.i64_in _ (by omega)]; omega
        have hnmi : (n : Int) < m := by omega
        obtain ⟨a, rfl, hab, -⟩ := hi.cell (j := n) (by omega)
        obtain ⟨a', rfl, hab', -⟩ := hi'.cell (j := n) (by omega)
        obtain ⟨w4, hw4⟩ : ∃ w4, w4 = w3.alloc (.cells #[.int .i64 x0', .bool z0, .bool z1, .bool z7, .bool z9, .bool z5, .bool z6, .int .i64 zv, .int .i64 zp, .slice (some a) m c, .slice (some a') m' c'] 74) := ⟨_, rfl⟩
        have b4 : Below w2.heap.size w2 w4 := by rw [hw4]; exact hb3.alloc hb3.size _
        have l4 : Row w4 q 74 [.int .i64 x0', .bool z0, .bool z1, .bool z7, .bool z9, .bool z5, .bool z6, .int .i64 zv, .int .i64 zp, .slice (some a) m c, .slice (some a') m' c'] := by rw [hw4, hq]; exact Row.new w3 _ _
        have H4 := H2.out.call b4
        have r4 := R2.out.below b4 R2.out.lt
        have b34 : Below w3.heap.size w3 w4 := by rw [hw4]; exact below_new w3 _ _
        have la : Loc w4 s v (some a) m ts := ⟨hi.call b34, fun _ x e hx => by have := hn x e; have := H2.out.mine_lt hx; omega⟩
        have la' : Loc w4 s v (some a') m' (dgL p) := ⟨hi'.call b34, fun _ x e hx => by have := hn' x e; have := H2.out.mine_lt hx; omega⟩
        have HQ := Lib.hid hq
        have HW4 := Lib.hid hw4
        have HB4 := Lib.hid (B2.out.trans (b4.mono B2.out.size))
        have HT4 := Lib.hid H4
        have HL4 := Lib.hid l4
        have HR4 := Lib.hid r4
        have HLA := Lib.hid la
        have HLA' := Lib.hid la'
        have HTS := Lib.hid hts
        have hl4' : w4.cell? ⟨q, 9, none⟩ = some (.slice (some a) m c) := l4.cell 9
        have hnm : n < m' := by omega
        have hn9 : (n : Int) ≤ 3 := by omega
        have hm4 : m ≤ 4 := by omega
        -- the first of the words
        obtain ⟨t, et⟩ : ∃ t, t = ts.getD n 0 := ⟨_, rfl⟩
        obtain ⟨i, ei⟩ : ∃ i, i = (dgL p).getD n 0 := ⟨_, rfl⟩
        have hc4 : w4.drew.cell? (a.add n) = some (.int .i64 t) := by
          obtain ⟨x, ex, -, hc⟩ := la.cell (j := n) (by omega)
          injection ex with ex; subst ex; rw [et]; exact hc
        have hc4' : w4.drew.cell? (a'.add n) = some (.int .i64 i) := by
          obtain ⟨x, ex, -, hc⟩ := la'.cell (j := n) (by omega)
          injection ex with ex; subst ex; rw [ei]; exact hc
        have hput := tput_any (w := w4.drew) (H4.call drew_b8) t i 0 false false false false false false
        have hqb : q ≠ s.b := l4.apart H4.ram.row (by decide)
        have hgb : g ≠ s.b := r4.apart H4.ram.row (by decide)
        have hAb : (a.add n).block ≠ s.b := by rw [add_block]; exact fun e => la.off (by omega) a rfl (Or.inl e)
        have hAb' : (a'.add n).block ≠ s.b := by rw [add_block]; exact fun e => la'.off (by omega) a' rfl (Or.inl e)
        have hs4 : w4.drew.cell? ⟨q, 9, none⟩ = some (.slice (some a) m c) ∧ w4.drew.cell? ⟨q, 10, none⟩ = some (.slice (some a') m' c') ∧ w4.drew.cell? (a.add n) = some (.int .i64 t) ∧ w4.drew.cell? (a'.add n) = some (.int .i64 i) := ⟨l4.cell 9, l4.cell 10, hc4, hc4'⟩
        have hu1 : ptL ws t i (chkI 0 false false false false false false) (packI 0 false false false false false false) = ptL ws (lastT (fol ws r p)) (dg p (fol ws r p).lv) 0 0 := by
          rw [et, ei, hn3, HSL.out, hts]
          unfold lastT
          rw [← hts, hm, hnm1, ← hn3]
          rfl
        have hu2 : uzN ws r p = unC p ts n (ptL ws t i (chkI 0 false false false false false false) (packI 0 false false false false false false)) := by
          unfold uzN
          rw [hu1, ← hts, hm, hnm1]; rfl
        generalize hpw : ptL ws t i (chkI 0 false false false false false false) (packI 0 false false false false false false) = ws1 at hput hu1 hu2
        have HU := Lib.hid hu2
        have hwl1 : ws1.length = 4096 := by rw [← hpw, ptL_length]; exact HLL.out.2
        have HWL := Lib.hid hwl1
        have HN := Lib.hid (And.intro hnm1 (And.intro hmc (And.intro hm (And.intro hm' hd4))))
        clear hi hi' hb3 hn hn' hw4 hq hts ex0 ez0 ez1 ez7 ez9 ez5 ez6 ezv ezp hm hm' hn3 hab hab' b4 l4 H4 r4 b34 la la' et ei hc4 hc4' hu1 hu2 hpw hwl1 hlv hln hpg hlv3 hd4 R2 B2 hmc hnm1
        go_upto_region 5 with (fail)
        rw [← HW4.out, ← HQ.out]
        go_upto_region 8 with (fail)
        go_region_held3 (fun z => z.cell? ⟨q, 9, none⟩ = some (.slice (some a) m c) ∧ z.cell? ⟨q, 10, none⟩ = some (.slice (some a') m' c') ∧ z.cell? (a.add n) = some (.int .i64 t) ∧ z.cell? (a'.add n) = some (.int .i64 i))
          (first | exact hs4 | exact keepQ4 hs4 g5 hqb hAb hAb') ((go_at_call 28; refine hput.mono ?_; rintro e w5 ⟨rfl, h5, g5⟩))
        have g45 : w4.grownBy w5 (some s.b) := ⟨g5.os, g5.tape, g5.output, g5.size, g5.block⟩
        have m5 : Mv s v w4 v w5 := Mv.turned g45 (Or.inl rfl)
        have HX : Hid (Tab w5 s v ws1 L R ∧ Row w5 q 74 [.int .i64 x0', .bool z0, .bool z1, .bool z7, .bool z9, .bool z5, .bool z6, .int .i64 zv, .int .i64 zp, .slice (some a) m c, .slice (some a') m' c'] ∧ Row w5 g 28 [.int .i64 0, .bool false, .bool false, .bool false, .bool false, .bool false, .bool false] ∧ Loc w5 s v (some a) m ts ∧ Loc w5 s v (some a') m' (dgL p) ∧ Mv s v w v w5) :=
          ⟨h5, HL4.out.grown g45 (fun e => hqb (by injection e)), HR4.out.grown g45 (fun e => hgb (by injection e)), HLA.out.mv m5, HLA'.out.mv m5, (Mv.of_below HB4.out).trans m5⟩
        clear h5 g5 g45 m5 hs4 hput hl4' hqb hgb hAb hAb' HL4 HR4 HLA HLA' HT4 HB4 hnmi hwm
        go_wp2_with fail
        go_loopw [13] (fun i wr => ∃ (j : Nat) (ws' : List Int), j ≤ n ∧ i = .int .i64 j ∧ ws'.length = 4096 ∧ unC p ts j ws' = unC p ts n ws1 ∧ Tab wr s v ws' L R ∧ Row wr q 74 [.int .i64 x0', .bool z0, .bool z1, .bool z7, .bool z9, .bool z5, .bool z6, .int .i64 zv, .int .i64 zp, .slice (some a) m c, .slice (some a') m' c'] ∧ Row wr g 28 [.int .i64 0, .bool false, .bool false, .bool false, .bool false, .bool false, .bool false] ∧ Loc wr s v (some a) m ts ∧ Loc wr s v (some a') m' (dgL p) ∧ Mv s v w v wr) (fun i _ => (RowKit.intOf i).toNat)
        case atStart => exact ⟨n, ws1, Nat.le_refl _, rfl, HWL.out, rfl, HX.out⟩
        case round =>
          obtain ⟨j, ws', hjn, rfl, hwl, hun, hT, hq, hg, ha, ha', hm⟩ := hrel
          clear HX HWL
          by_cases hj0 : 0 < j
          · obtain ⟨k, hk⟩ : ∃ k, j = k + 1 := ⟨j - 1, by omega⟩
            have hwk : IntKind.i64.wrap ((j : Int) - 1) = (k : Int) := by rw [show (j : Int) - 1 = (k : Int) by omega]; exact IntWalk.i64_in _ (by have := HN.out; omega)
            have hjm : (j : Int) < m := by have := HN.out.1; omega
            have hjp : (0 : Int) < j := by omega
            have hjp0 : (0 : Int) ≤ j := by omega
            have hjm' : j < m := by omega
            have hkm : (k : Int) < m := by omega
            have hkm' : (k : Int) < m' := by have := HN.out; omega
            have hk0 : (0 : Int) ≤ k := by omega
            have hk3 : (k : Int) ≤ 3 := by omega
            have HK := Lib.hid hk
            clear hk
            obtain ⟨t1, et1⟩ : ∃ t1, t1 = ts.getD j 0 := ⟨_, rfl⟩
            have hin : inT 4096 t1 0 = true := by rw [et1]; exact HTF.out j (by have := HN.out.2.2.1; omega)
            have cj : wr.cell? (a.add j) = some (.int .i64 t1) := by
              obtain ⟨x, ex, -, hc⟩ := ha.cell (j := j) hjm'
              injection ex with ex; subst ex; rw [et1]; exact hc
            have c9 : wr.cell? ⟨q, 9, none⟩ = some (.slice (some a) m c) := hq.cell 9
            have hem := empty_any hT t1 hin
            have HRR := Lib.hid (And.intro hT (And.intro hq (And.intro hg (And.intro ha (And.intro ha' hm)))))
            have HUN := Lib.hid hun
            have HWL' := Lib.hid hwl
            cases hb : emp ws' t1 with
            | false =>
              rw [hb] at hem
              have HEND : Hid (unC p ts j ws' = (ws', j)) := by
                show _ = _
                rw [HK.out]; unfold unC; rw [if_neg (by rw [← HK.out, ← et1, hb]; decide), ← HK.out]
              clear hT hq hg ha ha' hm hun hb hin et1 hwl
              go_wp2_with fail
              refine hem.mono ?_
              rintro e w6 ⟨rfl, hb6⟩
              have HY : Hid (Tab w6 s v ws' L R ∧ Row w6 q 74 [.int .i64 x0', .bool z0, .bool z1, .bool z7, .bool z9, .bool z5, .bool z6, .int .i64 zv, .int .i64 zp, .slice (some a) m c, .slice (some a') m' c'] ∧ Row w6 g 28 [.int .i64 0, .bool false, .bool false, .bool false, .bool false, .bool false, .bool false] ∧ Loc w6 s v (some a) m ts ∧ Loc w6 s v (some a') m' (dgL p) ∧ Mv s v w v w6) :=
                ⟨HRR.out.1.call hb6, HRR.out.2.1.below hb6 HRR.out.2.1.lt, HRR.out.2.2.1.below hb6 HRR.out.2.2.1.lt, HRR.out.2.2.2.1.mv (Mv.of_below hb6), HRR.out.2.2.2.2.1.mv (Mv.of_below hb6), HRR.out.2.2.2.2.2.trans (Mv.of_below hb6)⟩
              clear hem hb6 c9 cj HRR hwk hkm hkm' hjp
              have hj1 : (j : Int) + 1 ≤ m := by have := HN.out.1; omega
              have hj1c : (j : Int) + 1 ≤ c := by have := HN.out.2.1; omega
              have hj1n : j + 1 ≤ m := by have := HN.out.1; omega
              have hj1p : (0 : Int) ≤ (j : Int) + 1 := by omega
              have hwj : IntKind.i64.wrap ((j : Int) + 1) = (j : Int) + 1 := IntWalk.i64_in _ (by omega)
              have c9 : w6.cell? ⟨q, 9, none⟩ = some (.slice (some a) m c) := HY.out.2.1.cell 9
              have HZ : Hid ((uzN ws r p).1 = ws' ∧ (uzN ws r p).2 = j) := by
                show _ ∧ _
                rw [HU.out, ← HUN.out, HEND.out]; exact ⟨rfl, rfl⟩
              have hfin : ∀ w7 v7, Tab w7 s v7 ws' (L ++ (ts.drop (j + 1)).reverse) R → Tab w7 s v7 (uzN ws r p).1 (uzL ws L r p) R := fun w7 v7 h7 => by
                unfold uzL
                rw [HZ.out.1, HZ.out.2, ← HTS.out]; exact h7
              have HFIN := Lib.hid hfin
              clear hfin
              by_cases hcj : c = j + 1
              · have hgv : ∀ A c', Calls Try.prog 31 #[.pointer (some ⟨s.x, 0, none⟩), .slice A 0 c'] w6 fun e w' => e = .returned (.tuple #[]) ∧ ∃ v', Tab w' s v' ws' (L ++ (ts.drop (j + 1)).reverse) R ∧ Mv s v w6 v' w' := fun A c' => by
                  rw [List.drop_of_length_le (by have := HN.out; omega)]
                  exact give_any HY.out.1 c' (Loc.nil w6 s v A) (by have := HLL.out.1; simp; omega)
                have HGV := Lib.hid hgv
                have hmj : m = j + 1 := by have := HN.out; omega
                have hm0 : m - (j + 1) = 0 := by omega
                have HMJ := Lib.hid hmj
                clear hgv hmj
                go_upto_region 12 with (fail)
                subst hcj
                go_wp2_with fail
                refine (HGV.out _ _).mono ?_
                rintro e w7 ⟨rfl, v7, h7, m7⟩
                have q7 := HY.out.1.row m7 HY.out.2.1 (by decide) (by decide) (by decide)
                have g7 := HY.out.1.row m7 HY.out.2.2.1 (by decide) (by decide) (by decide)
                have H7 := Lib.hid (And.intro (HFIN.out w7 v7 h7) (And.intro (HY.out.2.2.2.2.2.trans m7) g7))
                obtain ⟨⟨d0, d1, d2, d3, d4, d5, d6, -, -, -, -⟩, -⟩ := q7.eleven
                obtain ⟨⟨y0, y1, y2, y3, y4, y5, y6⟩, yf⟩ := g7.seven
                have hqg : q ≠ g := by have := HQ.out; have := HY.out.2.2.1; exact fun e => (HY.out.2.1.apart HY.out.2.2.1 (by decide)) e
                clear c9 h7 m7 q7 g7
                go_wp2_with fail
                exact bodyPost_ret (v := .tuple #[.agg #[.int .i64 x0', .bool z0, .bool z1, .bool z7, .bool z9, .bool z5, .bool z6], .int .i64 0]) (by simp [results, Try.results15, go_sem, *]) rfl (un_fin7 HUE.out H7.out.1 H7.out.2.1 H7.out.2.2 (Nat.le_of_eq HG.out.symm))
              · have hgv : ∀ c', Calls Try.prog 31 #[.pointer (some ⟨s.x, 0, none⟩), .slice (some (a.add (j + 1))) (m - (j + 1)) c'] w6 fun e w' => e = .returned (.tuple #[]) ∧ ∃ v', Tab w' s v' ws' (L ++ (ts.drop (j + 1)).reverse) R ∧ Mv s v w6 v' w' := fun c' =>
                  give_any HY.out.1 c' (loc_drop HY.out.2.2.2.1 hj1n) (by have := HLL.out.1; have := HN.out.2.2.1; rw [List.length_drop]; omega)
                have HGV := Lib.hid hgv
                clear hgv
                go_upto_region 12 with (fail)
                go_wp2_with fail
                refine (HGV.out _).mono ?_
                rintro e w7 ⟨rfl, v7, h7, m7⟩
                have q7 := HY.out.1.row m7 HY.out.2.1 (by decide) (by decide) (by decide)
                have g7 := HY.out.1.row m7 HY.out.2.2.1 (by decide) (by decide) (by decide)
                have H7 := Lib.hid (And.intro (HFIN.out w7 v7 h7) (And.intro (HY.out.2.2.2.2.2.trans m7) g7))
                obtain ⟨⟨d0, d1, d2, d3, d4, d5, d6, -, -, -, -⟩, -⟩ := q7.eleven
                obtain ⟨⟨y0, y1, y2, y3, y4, y5, y6⟩, yf⟩ := g7.seven
                have hqg : q ≠ g := by have := HQ.out; have := HY.out.2.2.1; exact fun e => (HY.out.2.1.apart HY.out.2.2.1 (by decide)) e
                clear c9 h7 m7 q7 g7
                go_wp2_with fail
                exact bodyPost_ret (v := .tuple #[.agg #[.int .i64 x0', .bool z0, .bool z1, .bool z7, .bool z9, .bool z5, .bool z6], .int .i64 0]) (by simp [results, Try.results15, go_sem, *]) rfl (un_fin7 HUE.out H7.out.1 H7.out.2.1 H7.out.2.2 (Nat.le_of_eq HG.out.symm))
            | true =>
              rw [hb] at hem
              obtain ⟨t, et⟩ : ∃ t, t = ts.getD k 0 := ⟨_, rfl⟩
              obtain ⟨i, ei⟩ : ∃ i, i = (dgL p).getD k 0 := ⟨_, rfl⟩
              have HEND : Hid (unC p ts j ws' = unC p ts k (ptL ws' t i 0 0)) := by
                show _ = _
                rw [HK.out]; conv => lhs; unfold unC
                rw [if_pos (by rw [← HK.out, ← et1, hb]), et, ei]
              have HEI := Lib.hid (And.intro et ei)
              clear hT hq hg ha ha' hm hun hb hin et1 et ei hwl
              go_wp2_with fail
              refine hem.mono ?_
              rintro e w6 ⟨rfl, hb6⟩
              have HY : Hid (Tab w6 s v ws' L R ∧ Row w6 q 74 [.int .i64 x0', .bool z0, .bool z1, .bool z7, .bool z9, .bool z5, .bool z6, .int .i64 zv, .int .i64 zp, .slice (some a) m c, .slice (some a') m' c'] ∧ Row w6 g 28 [.int .i64 0, .bool false, .bool false, .bool false, .bool false, .bool false, .bool false] ∧ Loc w6 s v (some a) m ts ∧ Loc w6 s v (some a') m' (dgL p) ∧ Mv s v w v w6) :=
                ⟨HRR.out.1.call hb6, HRR.out.2.1.below hb6 HRR.out.2.1.lt, HRR.out.2.2.1.below hb6 HRR.out.2.2.1.lt, HRR.out.2.2.2.1.mv (Mv.of_below hb6), HRR.out.2.2.2.2.1.mv (Mv.of_below hb6), HRR.out.2.2.2.2.2.trans (Mv.of_below hb6)⟩
              have ck : w6.drew.cell? (a.add k) = some (.int .i64 t) := by
                obtain ⟨x, ex, -, hc⟩ := HY.out.2.2.2.1.cell (j := k) (by omega)
                injection ex with ex; subst ex; rw [HEI.out.1]; exact hc
              have ck' : w6.drew.cell? (a'.add k) = some (.int .i64 i) := by
                obtain ⟨x, ex, -, hc⟩ := HY.out.2.2.2.2.1.cell (j := k) (by omega)
                injection ex with ex; subst ex; rw [HEI.out.2]; exact hc
              have hput := tput_any (w := w6.drew) (HY.out.1.call drew_b8) t i 0 false false false false false false
              rw [show ptL ws' t i (chkI 0 false false false false false false) (packI 0 false false false false false false) = ptL ws' t i 0 0 from rfl] at hput
              have hqb : q ≠ s.b := HY.out.2.1.apart HY.out.1.ram.row (by decide)
              have hgb : g ≠ s.b := HY.out.2.2.1.apart HY.out.1.ram.row (by decide)
              have hAb : (a.add k).block ≠ s.b := by rw [add_block]; exact fun e => HY.out.2.2.2.1.off (by omega) a rfl (Or.inl e)
              have hAb' : (a'.add k).block ≠ s.b := by rw [add_block]; exact fun e => HY.out.2.2.2.2.1.off (by omega) a' rfl (Or.inl e)
              have hs4 : w6.drew.cell? ⟨q, 9, none⟩ = some (.slice (some a) m c) ∧ w6.drew.cell? ⟨q, 10, none⟩ = some (.slice (some a') m' c') ∧ w6.drew.cell? (a.add k) = some (.int .i64 t) ∧ w6.drew.cell? (a'.add k) = some (.int .i64 i) := ⟨HY.out.2.1.cell 9, HY.out.2.1.cell 10, ck, ck'⟩
              have hpl : (ptL ws' t i 0 0).length = 4096 := by rw [ptL_length]; exact HWL'.out
              generalize ptL ws' t i 0 0 = ws2 at hput HEND hpl
              have HPL := Lib.hid hpl
              clear hem hb6 c9 cj HRR ck ck' hpl
              go_upto_region 11 with (fail)
              go_region_held3 (fun z => z.cell? ⟨q, 9, none⟩ = some (.slice (some a) m c) ∧ z.cell? ⟨q, 10, none⟩ = some (.slice (some a') m' c') ∧ z.cell? (a.add k) = some (.int .i64 t) ∧ z.cell? (a'.add k) = some (.int .i64 i))
                (first | exact hs4 | exact keepQ4 hs4 g5 hqb hAb hAb') ((go_at_call 28; refine hput.mono ?_; rintro e w7 ⟨rfl, h5, g5⟩))
              have g45 : w6.grownBy w7 (some s.b) := ⟨g5.os, g5.tape, g5.output, g5.size, g5.block⟩
              have m5 : Mv s v w6 v w7 := Mv.turned g45 (Or.inl rfl)
              have HX : Hid (Tab w7 s v ws2 L R ∧ Row w7 q 74 [.int .i64 x0', .bool z0, .bool z1, .bool z7, .bool z9, .bool z5, .bool z6, .int .i64 zv, .int .i64 zp, .slice (some a) m c, .slice (some a') m' c'] ∧ Row w7 g 28 [.int .i64 0, .bool false, .bool false, .bool false, .bool false, .bool false, .bool false] ∧ Loc w7 s v (some a) m ts ∧ Loc w7 s v (some a') m' (dgL p) ∧ Mv s v w v w7) :=
                ⟨h5, HY.out.2.1.grown g45 (fun e => hqb (by injection e)), HY.out.2.2.1.grown g45 (fun e => hgb (by injection e)), HY.out.2.2.2.1.mv m5, HY.out.2.2.2.2.1.mv m5, HY.out.2.2.2.2.2.trans m5⟩
              clear h5 g5 g45 m5 hs4 hput hqb hgb hAb hAb'
              go_wp2_with fail
              go_roundw
              case rel => exact ⟨k, ws2, by have := HK.out; omega, rfl, HPL.out, by rw [← HEND.out]; exact HUN.out, HX.out⟩
              case measure => simp [RowKit.intOf]; have := HK.out; omega
          · have hj00 : j = 0 := by omega
            have HEND : Hid (unC p ts j ws' = (ws', j)) := by show _ = _; rw [hj00]; rfl
            have HUN := Lib.hid hun
            have hjn0 : ¬ (0 : Int) < j := by omega
            have hm3 : j ≤ 3 := by omega
            have HY := Lib.hid (And.intro hT (And.intro hq (And.intro hg (And.intro ha (And.intro ha' hm)))))
            clear hT hq hg ha ha' hm hun hj00 hwl
            have hj1 : (j : Int) + 1 ≤ m := by have := HN.out.1; omega
            have hj1c : (j : Int) + 1 ≤ c := by have := HN.out.2.1; omega
            have hj1n : j + 1 ≤ m := by have := HN.out.1; omega
            have hj1p : (0 : Int) ≤ (j : Int) + 1 := by omega
            have hwj : IntKind.i64.wrap ((j : Int) + 1) = (j : Int) + 1 := IntWalk.i64_in _ (by omega)
            have c9 : wr.cell? ⟨q, 9, none⟩ = some (.slice (some a) m c) := HY.out.2.1.cell 9
            have HZ : Hid ((uzN ws r p).1 = ws' ∧ (uzN ws r p).2 = j) := by
              show _ ∧ _
              rw [HU.out, ← HUN.out, HEND.out]; exact ⟨rfl, rfl⟩
            have hfin : ∀ w7 v7, Tab w7 s v7 ws' (L ++ (ts.drop (j + 1)).reverse) R → Tab w7 s v7 (uzN ws r p).1 (uzL ws L r p) R := fun w7 v7 h7 => by
              unfold uzL
              rw [HZ.out.1, HZ.out.2, ← HTS.out]; exact h7
            have HFIN := Lib.hid hfin
            clear hfin
            by_cases hcj : c = j + 1
            · have hgv : ∀ A c', Calls Try.prog 31 #[.pointer (some ⟨s.x, 0, none⟩), .slice A 0 c'] wr fun e w' => e = .returned (.tuple #[]) ∧ ∃ v', Tab w' s v' ws' (L ++ (ts.drop (j + 1)).reverse) R ∧ Mv s v wr v' w' := fun A c' => by
                rw [List.drop_of_length_le (by have := HN.out; omega)]
                exact give_any HY.out.1 c' (Loc.nil wr s v A) (by have := HLL.out.1; simp; omega)
              have HGV := Lib.hid hgv
              have hmj : m = j + 1 := by have := HN.out; omega
              have hm0 : m - (j + 1) = 0 := by omega
              have HMJ := Lib.hid hmj
              clear hgv hmj
              go_upto_region 12 with (fail)
              subst hcj
              go_wp2_with fail
              refine (HGV.out _ _).mono ?_
              rintro e w7 ⟨rfl, v7, h7, m7⟩
              have q7 := HY.out.1.row m7 HY.out.2.1 (by decide) (by decide) (by decide)
              have g7 := HY.out.1.row m7 HY.out.2.2.1 (by decide) (by decide) (by decide)
              have H7 := Lib.hid (And.intro (HFIN.out w7 v7 h7) (And.intro (HY.out.2.2.2.2.2.trans m7) g7))
              obtain ⟨⟨d0, d1, d2, d3, d4, d5, d6, -, -, -, -⟩, -⟩ := q7.eleven
              obtain ⟨⟨y0, y1, y2, y3, y4, y5, y6⟩, yf⟩ := g7.seven
              have hqg : q ≠ g := by have := HQ.out; have := HY.out.2.2.1; exact fun e => (HY.out.2.1.apart HY.out.2.2.1 (by decide)) e
              clear c9 h7 m7 q7 g7
              go_wp2_with fail
              exact bodyPost_ret (v := .tuple #[.agg #[.int .i64 x0', .bool z0, .bool z1, .bool z7, .bool z9, .bool z5, .bool z6], .int .i64 0]) (by simp [results, Try.results15, go_sem, *]) rfl (un_fin7 HUE.out H7.out.1 H7.out.2.1 H7.out.2.2 (Nat.le_of_eq HG.out.symm))
            · have hgv : ∀ c', Calls Try.prog 31 #[.pointer (some ⟨s.x, 0, none⟩), .slice (some (a.add (j + 1))) (m - (j + 1)) c'] wr fun e w' => e = .returned (.tuple #[]) ∧ ∃ v', Tab w' s v' ws' (L ++ (ts.drop (j + 1)).reverse) R ∧ Mv s v wr v' w' := fun c' =>
                give_any HY.out.1 c' (loc_drop HY.out.2.2.2.1 hj1n) (by have := HLL.out.1; have := HN.out.2.2.1; rw [List.length_drop]; omega)
              have HGV := Lib.hid hgv
              clear hgv
              go_upto_region 12 with (fail)
              go_wp2_with fail
              refine (HGV.out _).mono ?_
              rintro e w7 ⟨rfl, v7, h7, m7⟩
              have q7 := HY.out.1.row m7 HY.out.2.1 (by decide) (by decide) (by decide)
              have g7 := HY.out.1.row m7 HY.out.2.2.1 (by decide) (by decide) (by decide)
              have H7 := Lib.hid (And.intro (HFIN.out w7 v7 h7) (And.intro (HY.out.2.2.2.2.2.trans m7) g7))
              obtain ⟨⟨d0, d1, d2, d3, d4, d5, d6, -, -, -, -⟩, -⟩ := q7.eleven
              obtain ⟨⟨y0, y1, y2, y3, y4, y5, y6⟩, yf⟩ := g7.seven
              have hqg : q ≠ g := by have := HQ.out; have := HY.out.2.2.1; exact fun e => (HY.out.2.1.apart HY.out.2.2.1 (by decide)) e
              clear c9 h7 m7 q7 g7
              go_wp2_with fail
              exact bodyPost_ret (v := .tuple #[.agg #[.int .i64 x0', .bool z0, .bool z1, .bool z7, .bool z9, .bool z5, .bool z6], .int .i64 0]) (by simp [results, Try.results15, go_sem, *]) rfl (un_fin7 HUE.out H7.out.1 H7.out.2.1 H7.out.2.2 (Nat.le_of_eq HG.out.symm))
      · have HUE : Hid (6 = uzE ws R r p o) := by show _ = _; unfold uzE fjE; rw [if_pos hz, if_pos he, if_neg hl]
        have HZ0 : Hid ((6 : Int) ≠ 0) := by show _ ≠ _; decide
        have HE := Lib.hid he
        have HL := Lib.hid hl
        clear hz he hl
        go_enter Try.func15, Try.ntmps15
        go_upto_region 1 with (fail)
        rw [← HW.out, ← HG.out]
        go_wp2_with fail
        refine hck.mono ?_
        rintro e w2 ⟨rfl, hb2⟩
        have R2 := Lib.hid (R1.out.below hb2 R1.out.lt)
        have H2 := Lib.hid (HH1.out.call hb2)
        have B2 := Lib.hid (B1.out.trans (hb2.mono B1.out.size))
        clear hck hb2 R1 HH1 B1
        go_wp2_with fail
        refine (findJust_no H2.out r p o HE.out HL.out).mono ?_
        unfold zeroSt
        rintro e w3 ⟨rfl, hb3⟩
        obtain ⟨w4, hw4⟩ : ∃ w4, w4 = w3.alloc (.cells #[.int .i64 0, .bool false, .bool false, .bool false, .bool false, .bool false, .bool false, .int .i64 0, .int .i64 0, .slice none 0 0, .slice none 0 0] 74) := ⟨_, rfl⟩
        have b4 : Below w2.heap.size w2 w4 := by rw [hw4]; exact hb3.alloc hb3.size _
        have r4 := R2.out.below b4 R2.out.lt
        have HE4 := Lib.hid (And.intro (H2.out.call b4) (And.intro (B2.out.trans (b4.mono B2.out.size)) r4))
        obtain ⟨⟨y0, y1, y2, y3, y4, y5, y6⟩, yf⟩ := r4.seven
        have HW4 := Lib.hid hw4
        clear hb3 hw4 b4 r4 R2 H2 B2
        go_upto_region 5 with (fail)
        rw [← HW4.out]
        go_wp2_with fail
        exact bodyPost_ret (v := .tuple #[.agg #[.int .i64 0, .bool false, .bool false, .bool false, .bool false, .bool false, .bool false], .int .i64 6]) (by simp [results, Try.results15, go_sem, *]) rfl (un_end7 HUE.out HZ0.out HE4.out.1 HE4.out.2.1 HE4.out.2.2 (Nat.le_of_eq HG.out.symm))
    · obtain ⟨z, ez⟩ : ∃ z, z = (fol ws r p).er := ⟨_, rfl⟩
      have HUE : Hid (z = uzE ws R r p o) := by show _ = _; unfold uzE fjE; rw [if_pos hz, if_neg he]; exact ez
      have hbad := fun w2 (H2 : Tab w2 s v ws L R) => findJust_bad H2 r p o he
      rw [← ez] at hbad he
      have HZ0 : Hid (z ≠ 0) := he
      have hzn : (z != 0) = true := by simpa using he
      have HBAD := Lib.hid hbad
      clear hz he ez hbad
      go_enter Try.func15, Try.ntmps15
      go_upto_region 1 with (fail)
      rw [← HW.out, ← HG.out]
      go_wp2_with fail
      refine hck.mono ?_
      rintro e w2 ⟨rfl, hb2⟩
      have R2 := Lib.hid (R1.out.below hb2 R1.out.lt)
      have H2 := Lib.hid (HH1.out.call hb2)
      have B2 := Lib.hid (B1.out.trans (hb2.mono B1.out.size))
      clear hck hb2 R1 HH1 B1
      go_wp2_with fail
      refine (HBAD.out _ H2.out).mono ?_
      unfold zeroSt
      rintro e w3 ⟨rfl, hb3⟩
      obtain ⟨w4, hw4⟩ : ∃ w4, w4 = w3.alloc (.cells #[.int .i64 0, .bool false, .bool false, .bool false, .bool false, .bool false, .bool false, .int .i64 0, .int .i64 0, .slice none 0 0, .slice none 0 0] 74) := ⟨_, rfl⟩
      have b4 : Below w2.heap.size w2 w4 := by rw [hw4]; exact hb3.alloc hb3.size _
      have r4 := R2.out.below b4 R2.out.lt
      have HE4 := Lib.hid (And.intro (H2.out.call b4) (And.intro (B2.out.trans (b4.mono B2.out.size)) r4))
      obtain ⟨⟨y0, y1, y2, y3, y4, y5, y6⟩, yf⟩ := r4.seven
      have HW4 := Lib.hid hw4
      clear hb3 hw4 b4 r4 R2 H2 B2
      go_upto_region 5 with (fail)
      rw [← HW4.out]
      go_wp2_with fail
      exact bodyPost_ret (v := .tuple #[.agg #[.int .i64 0, .bool false, .bool false, .bool false, .bool false, .bool false, .bool false], .int .i64 z]) (by simp [results, Try.results15, go_sem, *]) rfl (un_end7 HUE.out HZ0.out HE4.out.1 HE4.out.2.1 HE4.out.2.2 (Nat.le_of_eq HG.out.symm))
  · obtain ⟨z, ez⟩ : ∃ z, z = plE R r p o := ⟨_, rfl⟩
    have HUE : Hid (z = uzE ws R r p o) := by show _ = _; unfold uzE; rw [if_neg hz]; exact ez
    rw [← ez] at hck hz
    have HZ0 : Hid (z ≠ 0) := hz
    have hzn : (z != 0) = true := by simpa using hz
    clear hz ez
    go_enter Try.func15, Try.ntmps15
    go_upto_region 1 with (fail)
    rw [← HW.out, ← HG.out]
    go_wp2_with fail
    refine hck.mono ?_
    rintro e w2 ⟨rfl, hb2⟩
    have r2 := R1.out.below hb2 R1.out.lt
    have HE4 := Lib.hid (And.intro (HH1.out.call hb2) (And.intro (B1.out.trans (hb2.mono B1.out.size)) r2))
    obtain ⟨⟨y0, y1, y2, y3, y4, y5, y6⟩, yf⟩ := r2.seven
    clear hck hb2 r2 R1 HH1 B1
    go_wp2_with fail
    exact bodyPost_ret (v := .tuple #[.agg #[.int .i64 0, .bool false, .bool false, .bool false, .bool false, .bool false, .bool false], .int .i64 z]) (by simp [results, Try.results15, go_sem, *]) rfl (un_end7 HUE.out HZ0.out HE4.out.1 HE4.out.2.1 HE4.out.2.2 (Nat.le_of_eq HG.out.symm))
end
end Go.Proofs.Ytpcpcgbejinlmaa
/- The program's calls over the state. -/
namespace Go.Proofs.Ytpcpcgbejinlmaa
open Go.RowKit
def Lk.rt (k : Lk) (b : Bool) : Int := if b = true then k.r1 else k.r0
def Moved (w W : World) (k : Lk) (v : Value) (ws L : List Int) (v0 : Value) (L0 : List Mp) (v1 : Value) (L1 : List Mp) (lf : Int) (K : Nat) (b : Bool) (er : Int) (W' : World) : Prop :=
  ∃ v' ws' L', Lw w W' k v' ws' L' v0 L0 v1 L1 lf K ∧ Stp ws L ws' L' (k.rt b) (k.rt (!b)) ∧ (er ≠ 0 → ws' = ws ∧ L' = L) ∧ Mv k.s v W v' W'
section
variable {w W : World} {k : Lk} {v : Value} {ws L : List Int} {v0 : Value} {L0 : List Mp} {v1 : Value} {L1 : List Mp} {lf : Int} {K : Nat}
theorem Lw.turned (h : Lw w W k v ws L v0 L0 v1 L1 lf K) (b : Bool) : Inv ws L (k.rt b) (k.rt (!b)) := by
  cases b
  · exact h.inv
  · exact h.inv.swap
theorem Lw.few (h : Lw w W k v ws L v0 L0 v1 L1 lf K) (hn : k.n ≤ 100) : L.length ≤ 100 := by
  have := h.all
  unfold allF at this
  rw [List.length_append] at this
  omega
theorem Lw.moved {W' : World} {v' : Value} {ws1 L1' : List Int} {er : Int} (h : Lw w W k v ws L v0 L0 v1 L1 lf K) (b : Bool) (hn : er ≠ 0 → Tab W' k.s v' ws L [k.r1, k.r0]) (hz : er = 0 → Tab W' k.s v' ws1 L1' [k.r1, k.r0]) (hs : er = 0 → Stp ws L ws1 L1' (k.rt b) (k.rt (!b))) (hm : Mv k.s v W v' W') :
    Moved w W k v ws L v0 L0 v1 L1 lf K b er W' := by
  have or_ : ∀ {a c : List Int}, Stp ws L a c (k.rt b) (k.rt (!b)) → Stp ws L a c k.r0 k.r1 ∨ Stp ws L a c k.r1 k.r0 := fun e => by
    cases b
    · exact Or.inl e
    · exact Or.inr e
  by_cases e : er = 0
  · exact ⟨v', ws1, L1', h.prog (hz e) hm (or_ (hs e)), hs e, (fun x => absurd e x), hm⟩
  · have r := Stp.refl (h.turned b)
    exact ⟨v', ws, L, h.prog (hn e) hm (or_ r), r, (fun _ => ⟨rfl, rfl⟩), hm⟩
theorem lw_set (h : Lw w W k v ws L v0 L0 v1 L1 lf K) (b : Bool) (hr : Fits (k.rt b)) (p o f : Int) (pr wr hh kk u d : Bool) (hp : Fits p) (hf : Fits f) : Calls Try.prog 16 #[.pointer (some ⟨k.s.x, 0, none⟩), .int .i64 (k.rt b), .int .i64 p, .int .i64 o, .agg #[.int .i64 f, .bool pr, .bool wr, .bool hh, .bool kk, .bool u, .bool d]] W fun e W' => ∃ er, e = .returned (.int .i64 er) ∧ Moved w W k v ws L v0 L0 v1 L1 lf K b er W' := by
  refine (tset_any h.tab (k.rt b) p o f pr wr hh kk u d hr hp hf).mono ?_
  rintro e W' ⟨rfl, hT, hm⟩
  refine ⟨_, rfl, h.moved b (fun hne => ?_) (fun _ => hT) (fun hz => set_inv (h.turned b) hz) hm⟩
  unfold setL at hT
  rw [if_neg hne] at hT
  exact hT
theorem lw_map (h : Lw w W k v ws L v0 L0 v1 L1 lf K) (hn : k.n ≤ 100) (b : Bool) (hr : Fits (k.rt b)) (p o f : Int) (pr wr hh kk u d : Bool) (hp : Fits p) (hf : Fits f) : Calls Try.prog 17 #[.pointer (some ⟨k.s.x, 0, none⟩), .int .i64 (k.rt b), .int .i64 p, .int .i64 o, .agg #[.int .i64 f, .bool pr, .bool wr, .bool hh, .bool kk, .bool u, .bool d]] W fun e W' => ∃ er, e = .returned (.int .i64 er) ∧ Moved w W k v ws L v0 L0 v1 L1 lf K b er W' := by
  refine (tmap_any h.tab h.inv.fr (by have := h.few hn; omega) (k.rt b) p o f pr wr hh kk u d hr hp hf).mono ?_
  rintro e W' ⟨rfl, v', h1, h2, hm⟩
  exact ⟨_, rfl, h.moved b h1 h2 (fun hz => map_inv (h.turned b) hz) hm⟩
theorem lw_split (h : Lw w W k v ws L v0 L0 v1 L1 lf K) (hn : k.n ≤ 100) (b : Bool) (hr : Fits (k.rt b)) (p : Int) : Calls Try.prog 10 #[.pointer (some ⟨k.s.x, 0, none⟩), .int .i64 (k.rt b), .int .i64 p] W fun e W' => ∃ er, e = .returned (.int .i64 er) ∧ Moved w W k v ws L v0 L0 v1 L1 lf K b er W' := by
  refine (tsplit_any h.tab h.inv.fr (by have := h.few hn; omega) (k.rt b) p hr).mono ?_
  rintro e W' ⟨rfl, v', h1, h2, hm⟩
  exact ⟨_, rfl, h.moved b h1 h2 (fun hz => split_inv (h.turned b) hz) hm⟩
theorem lw_merge (h : Lw w W k v ws L v0 L0 v1 L1 lf K) (hn : k.n ≤ 100) (b : Bool) (hr : Fits (k.rt b)) (p : Int) (hp : Fits p) : Calls Try.prog 11 #[.pointer (some ⟨k.s.x, 0, none⟩), .int .i64 (k.rt b), .int .i64 p] W fun e W' => ∃ er, e = .returned (.int .i64 er) ∧ Moved w W k v ws L v0 L0 v1 L1 lf K b er W' := by
  refine (tmerge_any h.tab (by have := h.few hn; omega) (k.rt b) p hr hp).mono ?_
  rintro e W' ⟨rfl, v', h1, h2, hm⟩
  exact ⟨_, rfl, h.moved b h1 h2 (fun hz => merge_inv (h.turned b) hz) hm⟩
theorem lw_unmap (h : Lw w W k v ws L v0 L0 v1 L1 lf K) (hn : k.n ≤ 100) (b : Bool) (hr : Fits (k.rt b)) (p o : Int) (hp : Fits p) : Calls Try.prog 15 #[.pointer (some ⟨k.s.x, 0, none⟩), .int .i64 (k.rt b), .int .i64 p, .int .i64 o] W fun e W' => ∃ (f : Int) (b0 b1 b7 b9 b5 b6 : Bool) (er : Int), e = .returned (.tuple #[.agg #[.int .i64 f, .bool b0, .bool b1, .bool b7, .bool b9, .bool b5, .bool b6], .int .i64 er]) ∧ Moved w W k v ws L v0 L0 v1 L1 lf K b er W' := by
  refine (tunmap_any h.tab h.inv.len (by have := h.few hn; omega) (k.rt b) p o hr hp).mono ?_
  rintro e W' ⟨f, b0, b1, b7, b9, b5, b6, rfl, v', h1, h2, hm⟩
  exact ⟨f, b0, b1, b7, b9, b5, b6, _, rfl, h.moved b h1 h2 (fun hz => unmap_inv (h.turned b) hz) hm⟩
end
end Go.Proofs.Ytpcpcgbejinlmaa
