/- A leaf that is changed: the contract of Set. -/
import Derived.Test.YtpcpcgbejinlmaaMk20
import Derived.Test.YtpcpcgbejinlmaaMk21
import Derived.Test.YtpcpcgbejinlmaaMk22
namespace Go.Proofs.Ytpcpcgbejinlmaa
open Go.RowKit
def lastT (r : Fd) : Int := r.ts.getD (r.ts.length - 1) 0
theorem fol_ok {ws : List Int} {root p : Int} (h : (fol ws root p).er = 0) : (fol ws root p).lv ≤ 3 ∧ (fol ws root p).ts.length = 4 - (fol ws root p).lv ∧ (0 ≤ p ∧ p ≤ 4095) := by
  unfold fol at h ⊢
  split
  · rename_i hc
    rw [if_pos hc] at h
    have := (wk_fine ws p 3 root).ok h
    exact ⟨this.1, this.2, hc.2⟩
  · rename_i hc
    rw [if_neg hc] at h
    simp at h
theorem slot_last {p : Int} (hp : 0 ≤ p ∧ p ≤ 4095) {lv : Nat} (hl : lv ≤ 3) : (dgL p).getD (3 - lv) 0 = dg p lv := by
  rw [(dg_at hp (k := 3 - lv) (by omega)).1, show 3 - (3 - lv) = lv by omega]
theorem keepA {v v' : World} {b : Nat} {p : Addr} {x : Value} (h : v.cell? p = some x) (hg : v.grownBy v' (some b)) (hne : p.block ≠ b) : v'.cell? p = some x :=
  (World.cell?_of_block (hg.block p.block (World.block_lt_of_cell? v _ h) (by intro e; injection e with e; exact hne e))).trans h
theorem keep11' {v v' : World} {b g q : Nat} {p0 p1 : Addr} {y0 y1 z0 z1 x0 x1 x2 x3 x4 x5 x6 : Value}
    (h : v.cell? ⟨q, 9, none⟩ = some y0 ∧ v.cell? ⟨q, 10, none⟩ = some y1 ∧ v.cell? p0 = some z0 ∧ v.cell? p1 = some z1 ∧ v.cell? ⟨g, 0, none⟩ = some x0 ∧ v.cell? ⟨g, 1, none⟩ = some x1 ∧ v.cell? ⟨g, 2, none⟩ = some x2 ∧ v.cell? ⟨g, 3, none⟩ = some x3 ∧ v.cell? ⟨g, 4, none⟩ = some x4 ∧ v.cell? ⟨g, 5, none⟩ = some x5 ∧ v.cell? ⟨g, 6, none⟩ = some x6)
    (hg : v.grownBy v' (some b)) (hq : q ≠ b) (h0 : p0.block ≠ b) (h1 : p1.block ≠ b) (hgb : g ≠ b) :
    v'.cell? ⟨q, 9, none⟩ = some y0 ∧ v'.cell? ⟨q, 10, none⟩ = some y1 ∧ v'.cell? p0 = some z0 ∧ v'.cell? p1 = some z1 ∧ v'.cell? ⟨g, 0, none⟩ = some x0 ∧ v'.cell? ⟨g, 1, none⟩ = some x1 ∧ v'.cell? ⟨g, 2, none⟩ = some x2 ∧ v'.cell? ⟨g, 3, none⟩ = some x3 ∧ v'.cell? ⟨g, 4, none⟩ = some x4 ∧ v'.cell? ⟨g, 5, none⟩ = some x5 ∧ v'.cell? ⟨g, 6, none⟩ = some x6 :=
  ⟨keepC h.1 hg hq, keepC h.2.1 hg hq, keepA h.2.2.1 hg h0, keepA h.2.2.2.1 hg h1, keepC h.2.2.2.2.1 hg hgb, keepC h.2.2.2.2.2.1 hg hgb, keepC h.2.2.2.2.2.2.1 hg hgb, keepC h.2.2.2.2.2.2.2.1 hg hgb, keepC h.2.2.2.2.2.2.2.2.1 hg hgb, keepC h.2.2.2.2.2.2.2.2.2.1 hg hgb, keepC h.2.2.2.2.2.2.2.2.2.2 hg hgb⟩
theorem drew_b8 {w : World} : Below w.heap.size w w.drew := ⟨rfl, rfl, rfl, Nat.le_refl _, fun _ _ => rfl⟩
def setE (ws R : List Int) (r p o f : Int) (pr wr k u d : Bool) : Int := if lfE R r p o f pr wr (decide (0 < o)) k u d = 0 then fjE (fol ws r p) o else lfE R r p o f pr wr (decide (0 < o)) k u d
def setL (ws R : List Int) (r p o f : Int) (pr wr k u d : Bool) : List Int := if setE ws R r p o f pr wr k u d = 0 then ptL ws (lastT (fol ws r p)) (dg p (fol ws r p).lv) 0 (wordI f pr wr (decide (0 < o)) k u d) else ws
section
variable {w : World} {s : Seat} {v : Value} {ws L R : List Int}
theorem lfE_chk {r p o f : Int} {pr wr h k u d : Bool} (hz : lfE R r p o f pr wr h k u d = 0) : plE R r p o = 0 ∧ chkI f pr wr h k u d = 0 ∧ leafy o pr k = true ∧ evB f o = true ∧ frE f o = 0 := by
  unfold lfE at hz
  split at hz
  · rename_i h0
    split at hz
    · rename_i h1
      simp [lfOk] at h1
      exact ⟨h0, h1.1.1.2, h1.1.1.1, h1.1.2, h1.2⟩
    · omega
  · rename_i h0; exact absurd hz h0
set_option maxRecDepth 100000 in
set_option maxHeartbeats 2000000 in
theorem tset_any (h : Tab w s v ws L R) (r p o f : Int) (pr wr hh k u d : Bool) (hr : Fits r) (hp : Fits p) (hf : Fits f) : Calls Try.prog 16 #[.pointer (some ⟨s.x, 0, none⟩), .int .i64 r, .int .i64 p, .int .i64 o, .agg #[.int .i64 f, .bool pr, .bool wr, .bool hh, .bool k, .bool u, .bool d]] w fun e w' =>
    e = .returned (.int .i64 (setE ws R r p o f pr wr k u d)) ∧ Tab w' s v (setL ws R r p o f pr wr k u d) L R ∧ Mv s v w v w' := by
  obtain ⟨g, hg⟩ : ∃ g, g = w.heap.size := ⟨_, rfl⟩
  obtain ⟨hb, hhb⟩ : ∃ hb, hb = decide (0 < o) := ⟨_, rfl⟩
  unfold setL setE
  rw [← hhb]
  obtain ⟨w1, hw1⟩ : ∃ w1, w1 = w.alloc (.cells #[.int .i64 f, .bool pr, .bool wr, .bool hb, .bool k, .bool u, .bool d] 28) := ⟨_, rfl⟩
  have b1 : Below w.heap.size w w1 := hw1 ▸ below_new w _ _
  have r1 : Row w1 g 28 [.int .i64 f, .bool pr, .bool wr, .bool hb, .bool k, .bool u, .bool d] := by rw [hw1, hg]; exact Row.new w _ _
  have H1 := h.call b1
  have hck := checkLeaf_any H1 r p o f pr wr hb k u d hr hp hf
  have HW := Lib.hid hw1
  have HG := Lib.hid hg
  have HHB := Lib.hid hhb
  have B1 := Lib.hid b1
  have R1 := Lib.hid r1
  have H := Lib.hid h
  have HH1 := Lib.hid H1
  obtain ⟨c0, c1, c2, c3, c4, c5, c6⟩ := r1.seven.1
  clear hw1 hg b1 r1 H1 h
  by_cases hz : lfE R r p o f pr wr hb k u d = 0
  · rw [hz] at hck ⊢
    rw [if_pos rfl]
    obtain ⟨hpl, hchk, -, -, -⟩ := lfE_chk hz
    have HCHK := Lib.hid hchk
    clear hz hpl hchk
    by_cases he : (fol ws r p).er = 0
    · by_cases hl : ((fol ws r p).lv : Int) * 3 = o
      · have hfe : fjE (fol ws r p) o = 0 := by simp [fjE, he, hl]
        rw [hfe, if_pos rfl]
        have HFE := Lib.hid hfe
        obtain ⟨hlv, hln, hpg⟩ := fol_ok he
        have HSL := Lib.hid (slot_last hpg hlv)
        have hdl : (dgL p).length = 4 := by simp [dgL, hpg]
        have HE := Lib.hid he
        have HLO := Lib.hid hl
        go_enter Try.func16, Try.ntmps16
        go_upto_region 2 with (fail)
        rw [← hhb, ← HW.out, ← HG.out]
        clear hhb
        go_wp2_with fail
        refine hck.mono ?_
        rintro e w2 ⟨rfl, hb2⟩
        have R2 := Lib.hid (R1.out.below hb2 R1.out.lt)
        have H2 := Lib.hid (HH1.out.call hb2)
        have B2 := Lib.hid (B1.out.trans (hb2.mono B1.out.size))
        clear hck hb2 c0 c1 c2 c3 c4 c5 c6 R1 HH1 B1
        go_wp2_with fail
        refine (findJust_ok H2.out r p o HE.out HLO.out).mono ?_
        rintro e w3 ⟨A, m, c, A', m', c', rfl, hi, hi', hb3, hn, hn', -⟩
        obtain ⟨q, hq⟩ : ∃ q, q = w3.heap.size := ⟨_, rfl⟩
        obtain ⟨rr, hrr⟩ : ∃ rr, rr = fol ws r p := ⟨_, rfl⟩
        rw [← hrr] at hi hln hlv HSL
        rw [← hrr]
        obtain ⟨x0', ex0⟩ : ∃ y, y = lfF rr := ⟨_, rfl⟩
        obtain ⟨z0, ez0⟩ : ∃ y, y = lfB rr 0 := ⟨_, rfl⟩
        obtain ⟨z1, ez1⟩ : ∃ y, y = lfB rr 1 := ⟨_, rfl⟩
        obtain ⟨z7, ez7⟩ : ∃ y, y = lfB rr 7 := ⟨_, rfl⟩
        obtain ⟨z9, ez9⟩ : ∃ y, y = lfB rr 9 := ⟨_, rfl⟩
        obtain ⟨z5, ez5⟩ : ∃ y, y = lfB rr 5 := ⟨_, rfl⟩
        obtain ⟨z6, ez6⟩ : ∃ y, y = lfB rr 6 := ⟨_, rfl⟩
        obtain ⟨zv, ezv⟩ : ∃ y, y = lfV rr := ⟨_, rfl⟩
        obtain ⟨zp, ezp⟩ : ∃ y, y = lfP rr p := ⟨_, rfl⟩
        rw [← ex0, ← ez0, ← ez1, ← ez7, ← ez9, ← ez5, ← ez6, ← ezv, ← ezp]
        have hm := hi.len
        have hm' := hi'.len
        obtain ⟨n, hnm1⟩ : ∃ n, m = n + 1 := ⟨m - 1, by omega⟩
        have hn3 : n = 3 - rr.lv := by omega
        have hwm : IntKind.i64.wrap ((m : Int) - 1) = (n : Int) := by rw [IntWalk.i64_in _ (by omega)]; omega
        have hnmi : (n : Int) < m := by omega
        obtain ⟨a, rfl, hab, hc⟩ := hi.cell (j := n) (by omega)
        obtain ⟨a', rfl, hab', hc'⟩ := hi'.cell (j := n) (by omega)
        obtain ⟨t, et⟩ : ∃ t, t = rr.ts.getD n 0 := ⟨_, rfl⟩
        obtain ⟨i, ei⟩ : ∃ i, i = (dgL p).getD n 0 := ⟨_, rfl⟩
        rw [← et] at hc
        rw [← ei] at hc'
        obtain ⟨w4, hw4⟩ : ∃ w4, w4 = w3.alloc (.cells #[.int .i64 x0', .bool z0, .bool z1, .bool z7, .bool z9, .bool z5, .bool z6, .int .i64 zv, .int .i64 zp, .slice (some a) m c, .slice (some a') m' c'] 74) := ⟨_, rfl⟩
        have b4 : Below w2.heap.size w2 w4 := by rw [hw4]; exact hb3.alloc hb3.size _
        have l4 : Row w4 q 74 [.int .i64 x0', .bool z0, .bool z1, .bool z7, .bool z9, .bool z5, .bool z6, .int .i64 zv, .int .i64 zp, .slice (some a) m c, .slice (some a') m' c'] := by rw [hw4, hq]; exact Row.new w3 _ _
        have H4 := H2.out.call b4
        have r4 := R2.out.below b4 R2.out.lt
        have hba : ∀ (x : Addr) (n : Nat), (x.add n).block = x.block := fun x n => by unfold Addr.add; split <;> rfl
        have hc4 : w4.cell? (a.add n) = some (.int .i64 t) := by rw [hw4, ← hc]; exact ((Below.refl w3.heap.size w3).alloc (Nat.le_refl _) _).cell (by rw [hba]; exact hab)
        have hc4' : w4.cell? (a'.add n) = some (.int .i64 i) := by rw [hw4, ← hc']; exact ((Below.refl w3.heap.size w3).alloc (Nat.le_refl _) _).cell (by rw [hba]; exact hab')
        have hnm : n < m' := by omega
        have hn9 : (n : Int) ≤ 4 := by omega
        have hput := tput_any (w := w4.drew) (H4.call drew_b8) t i f pr wr hb k u d
        have hsx : s.x ≠ s.b := H4.top.apart H4.ram.row (by decide)
        have hqb : q ≠ s.b := l4.apart H4.ram.row (by decide)
        have hgb : g ≠ s.b := r4.apart H4.ram.row (by decide)
        have hlb : s.b < w2.heap.size := H2.out.ram.row.lt
        have hAb : (a.add n).block ≠ s.b := by rw [hba]; have := hn a rfl; omega
        have hAb' : (a'.add n).block ≠ s.b := by rw [hba]; have := hn' a' rfl; omega
        have HW4 := Lib.hid hw4
        have HQ := Lib.hid hq
        have HB4 := Lib.hid (B2.out.trans (b4.mono B2.out.size))
        have HT4 := Lib.hid H4
        have HLT : Hid (lastT rr = t) := by show _ = _; unfold lastT; rw [et, hm, hnm1]; rfl
        have HSI : Hid (dg p rr.lv = i) := by show _ = _; rw [← HSL.out, ei, hn3]
        obtain ⟨y9, y10⟩ : w4.drew.cell? ⟨q, 9, none⟩ = some (.slice (some a) m c) ∧ w4.drew.cell? ⟨q, 10, none⟩ = some (.slice (some a') m' c') := ⟨l4.cell 9, l4.cell 10⟩
        obtain ⟨v0, v1, v2, v3, v4, v5, v6⟩ := r4.seven.1
        have l9 : w4.cell? ⟨q, 9, none⟩ = some (.slice (some a) m c) := l4.cell 9
        have hs4 : w4.drew.cell? ⟨q, 9, none⟩ = some (.slice (some a) m c) ∧ w4.drew.cell? ⟨q, 10, none⟩ = some (.slice (some a') m' c') ∧ w4.drew.cell? (a.add n) = some (.int .i64 t) ∧ w4.drew.cell? (a'.add n) = some (.int .i64 i) ∧ w4.drew.cell? ⟨g, 0, none⟩ = some (.int .i64 f) ∧ w4.drew.cell? ⟨g, 1, none⟩ = some (.bool pr) ∧ w4.drew.cell? ⟨g, 2, none⟩ = some (.bool wr) ∧ w4.drew.cell? ⟨g, 3, none⟩ = some (.bool hb) ∧ w4.drew.cell? ⟨g, 4, none⟩ = some (.bool k) ∧ w4.drew.cell? ⟨g, 5, none⟩ = some (.bool u) ∧ w4.drew.cell? ⟨g, 6, none⟩ = some (.bool d) :=
          ⟨y9, y10, hc4, hc4', v0, v1, v2, v3, v4, v5, v6⟩
        clear hi hi' hb3 hn hn' hw4 hq hnm1 ex0 ez0 ez1 ez7 ez9 ez5 ez6 ezv ezp hm hm' hn3 hc hc' hab hab' et ei b4 l4 H4 r4 y9 y10 v0 v1 v2 v3 v4 v5 v6 hc4 hc4' hlv hln hdl hpg he hl hfe hba R2 H2 B2
        go_upto_region 6 with (fail)
        rw [← HW4.out, ← HQ.out]
        go_upto_region 9 with (fail)
        go_region_held3 (fun z => z.cell? ⟨q, 9, none⟩ = some (.slice (some a) m c) ∧ z.cell? ⟨q, 10, none⟩ = some (.slice (some a') m' c') ∧ z.cell? (a.add n) = some (.int .i64 t) ∧ z.cell? (a'.add n) = some (.int .i64 i) ∧ z.cell? ⟨g, 0, none⟩ = some (.int .i64 f) ∧ z.cell? ⟨g, 1, none⟩ = some (.bool pr) ∧ z.cell? ⟨g, 2, none⟩ = some (.bool wr) ∧ z.cell? ⟨g, 3, none⟩ = some (.bool hb) ∧ z.cell? ⟨g, 4, none⟩ = some (.bool k) ∧ z.cell? ⟨g, 5, none⟩ = some (.bool u) ∧ z.cell? ⟨g, 6, none⟩ = some (.bool d))
          (first | exact hs4 | exact keep11' hs4 g5 hqb hAb hAb' hgb) ((go_at_call 28; refine hput.mono ?_; rintro e w5 ⟨rfl, h5, g5⟩))
        have HH5 := Lib.hid (And.intro h5 g5)
        clear h5 g5 hs4 hput l9
        go_wp2
        go_ret
        refine ⟨rfl, ?_, (Mv.of_below HB4.out).trans (Mv.turned ⟨HH5.out.2.os, HH5.out.2.tape, HH5.out.2.output, HH5.out.2.size, HH5.out.2.block⟩ (Or.inl rfl))⟩
        have := HH5.out.1
        rw [HCHK.out, packI_ok (by rw [HCHK.out]; rfl)] at this
        rw [← hrr, HLT.out, HSI.out]
        exact this
      · have hfe : fjE (fol ws r p) o = 6 := by simp [fjE, he, hl]
        rw [hfe, if_neg (by omega)]
        have HE := Lib.hid he
        have HL := Lib.hid hl
        clear hfe he hl
        go_enter Try.func16, Try.ntmps16
        go_upto_region 2 with (fail)
        rw [← hhb, ← HW.out, ← HG.out]
        clear hhb
        go_wp2_with fail
        refine hck.mono ?_
        rintro e w2 ⟨rfl, hb2⟩
        have R2 := Lib.hid (R1.out.below hb2 R1.out.lt)
        have H2 := Lib.hid (HH1.out.call hb2)
        have B2 := Lib.hid (B1.out.trans (hb2.mono B1.out.size))
        have HH2 := Lib.hid (H.out.call B2.out)
        clear hck hb2 c0 c1 c2 c3 c4 c5 c6 R1 HH1 B1
        go_wp2_with fail
        refine (findJust_no H2.out r p o HE.out HL.out).mono ?_
        unfold zeroSt
        rintro e w3 ⟨rfl, hb3⟩
        have B3 := Lib.hid (B2.out.trans (hb3.mono B2.out.size))
        have H3 := Lib.hid (H2.out.call hb3)
        clear hb3
        go_wp2_with fail
        go_ret
        have b4 : Below w3.heap.size w3 (w3.alloc (.cells #[.int .i64 0, .bool false, .bool false, .bool false, .bool false, .bool false, .bool false, .int .i64 0, .int .i64 0, .slice none 0 0, .slice none 0 0] 74)) := below_new w3 _ _
        exact ⟨rfl, H3.out.call b4, Mv.of_below (B3.out.trans (b4.mono B3.out.size))⟩
    · have hfe : fjE (fol ws r p) o = (fol ws r p).er := by simp [fjE, he]
      rw [hfe, if_neg he]
      have hbad := fun w2 (H2 : Tab w2 s v ws L R) => findJust_bad H2 r p o he
      obtain ⟨z, ez⟩ : ∃ z, z = (fol ws r p).er := ⟨_, rfl⟩
      rw [← ez] at hbad he ⊢
      have hz : (z != 0) = true := by simpa using he
      clear hfe he ez
      go_enter Try.func16, Try.ntmps16
      go_upto_region 2 with (fail)
      rw [← hhb, ← HW.out, ← HG.out]
      clear hhb
      go_wp2_with fail
      refine hck.mono ?_
      rintro e w2 ⟨rfl, hb2⟩
      have R2 := Lib.hid (R1.out.below hb2 R1.out.lt)
      have H2 := Lib.hid (HH1.out.call hb2)
      have B2 := Lib.hid (B1.out.trans (hb2.mono B1.out.size))
      have HH2 := Lib.hid (H.out.call B2.out)
      clear hck hb2 c0 c1 c2 c3 c4 c5 c6 R1 HH1 B1
      go_wp2_with fail
      refine (hbad _ H2.out).mono ?_
      unfold zeroSt
      rintro e w3 ⟨rfl, hb3⟩
      have B3 := Lib.hid (B2.out.trans (hb3.mono B2.out.size))
      have H3 := Lib.hid (H2.out.call hb3)
      clear hb3
      go_wp2_with fail
      go_ret
      have b4 : Below w3.heap.size w3 (w3.alloc (.cells #[.int .i64 0, .bool false, .bool false, .bool false, .bool false, .bool false, .bool false, .int .i64 0, .int .i64 0, .slice none 0 0, .slice none 0 0] 74)) := below_new w3 _ _
      exact ⟨rfl, H3.out.call b4, Mv.of_below (B3.out.trans (b4.mono B3.out.size))⟩
  · obtain ⟨z, ez⟩ : ∃ z, z = lfE R r p o f pr wr hb k u d := ⟨_, rfl⟩
    rw [if_neg hz, if_neg hz]
    rw [← ez] at hck hz ⊢
    have hzn : (z != 0) = true := by simpa using hz
    clear hz ez
    go_enter Try.func16, Try.ntmps16
    go_upto_region 2 with (fail)
    rw [← hhb, ← HW.out, ← HG.out]
    clear hhb
    go_wp2_with fail
    refine hck.mono ?_
    rintro e w2 ⟨rfl, hb2⟩
    have R2 := Lib.hid (R1.out.below hb2 R1.out.lt)
    have H2 := Lib.hid (HH1.out.call hb2)
    have B2 := Lib.hid (B1.out.trans (hb2.mono B1.out.size))
    clear hck hb2 c0 c1 c2 c3 c4 c5 c6 R1 HH1 B1
    go_wp2_with fail
    go_ret
    exact ⟨rfl, H2.out, Mv.of_below B2.out⟩
end
end Go.Proofs.Ytpcpcgbejinlmaa
/- A leaf that is laid: the contract of Map. -/
namespace Go.Proofs.Ytpcpcgbejinlmaa
open Go.RowKit
def lnk (f : Int) : Int := wordI f true false false false false false
def chn (p : Int) : List Int → List Int → Int → Nat → List Int × Int
  | [], ws, t, _ => (ws, t)
  | m :: r, ws, t, k => chn p r (ptL ws t ((dgL p).getD k 0) 0 (lnk m)) m (k + 1)
theorem chn_snoc (p : Int) (m : Int) : ∀ (l ws : List Int) (t : Int) (k : Nat), chn p (l ++ [m]) ws t k = (ptL (chn p l ws t k).1 (chn p l ws t k).2 ((dgL p).getD (k + l.length) 0) 0 (lnk m), m) := by
  intro l
  induction l with
  | nil => intro ws t k; rfl
  | cons x r ih =>
    intro ws t k
    simp only [List.cons_append, chn, ih, List.length_cons]
    rw [show k + 1 + r.length = k + (r.length + 1) by omega]
def lck (r : Fd) (o : Int) : Nat := (tto o - r.ts.length).toNat
def mapE (ws L R : List Int) (r p o f : Int) (pr wr k u d : Bool) : Int :=
  if lfE R r p o f pr wr (decide (0 < o)) k u d = 0 then (if wyE (fol ws r p) o = 0 then (if lck (fol ws r p) o ≤ L.length then 0 else 8) else wyE (fol ws r p) o) else lfE R r p o f pr wr (decide (0 < o)) k u d
def mapC (ws L : List Int) (r p o : Int) : List Int × Int := chn p (tk L (lck (fol ws r p) o)) (gz ws (tk L (lck (fol ws r p) o))) (lastT (fol ws r p)) ((fol ws r p).ts.length - 1)
def mapW (ws L : List Int) (r p o f : Int) (pr wr k u d : Bool) : List Int := ptL (mapC ws L r p o).1 (mapC ws L r p o).2 ((dgL p).getD ((tto o).toNat - 1) 0) 0 (wordI f pr wr (decide (0 < o)) k u d)
theorem wyE_ok {r : Fd} {o : Int} (h : wyE r o = 0) : r.er = 6 ∧ (r.ts.length : Int) ≤ tto o := by
  unfold wyE at h
  split at h
  · omega
  · rename_i hc
    split at h
    · rename_i h6'
      refine ⟨h6', ?_⟩
      apply Classical.byContradiction
      intro hn
      exact hc (Or.inr ⟨h6', by omega⟩)
    · rename_i hn
      exfalso
      apply hc
      exact Or.inl h
theorem fol_none {ws : List Int} {root p : Int} (h : (fol ws root p).er = 6) : 1 ≤ (fol ws root p).ts.length ∧ (fol ws root p).ts.length ≤ 4 ∧ (0 ≤ p ∧ p ≤ 4095) := by
  unfold fol at h ⊢
  split
  · rename_i hc
    rw [if_pos hc] at h
    have := (wk_fine ws p 3 root).none h
    exact ⟨this.1, this.2, hc.2⟩
  · rename_i hc
    rw [if_neg hc] at h
    simp at h
theorem tto_of {o : Int} (ho : o = 0 ∨ o = 3 ∨ o = 6) : 2 ≤ tto o ∧ tto o ≤ 4 := by rcases ho with rfl | rfl | rfl <;> simp [tto]
section
variable {w : World} {s : Seat} {v : Value} {ws L R : List Int}
theorem keep8' {v v' : World} {b g : Nat} {p0 : Addr} {z0 x0 x1 x2 x3 x4 x5 x6 : Value}
    (h : v.cell? p0 = some z0 ∧ v.cell? ⟨g, 0, none⟩ = some x0 ∧ v.cell? ⟨g, 1, none⟩ = some x1 ∧ v.cell? ⟨g, 2, none⟩ = some x2 ∧ v.cell? ⟨g, 3, none⟩ = some x3 ∧ v.cell? ⟨g, 4, none⟩ = some x4 ∧ v.cell? ⟨g, 5, none⟩ = some x5 ∧ v.cell? ⟨g, 6, none⟩ = some x6)
    (hg : v.grownBy v' (some b)) (h0 : p0.block ≠ b) (hgb : g ≠ b) :
    v'.cell? p0 = some z0 ∧ v'.cell? ⟨g, 0, none⟩ = some x0 ∧ v'.cell? ⟨g, 1, none⟩ = some x1 ∧ v'.cell? ⟨g, 2, none⟩ = some x2 ∧ v'.cell? ⟨g, 3, none⟩ = some x3 ∧ v'.cell? ⟨g, 4, none⟩ = some x4 ∧ v'.cell? ⟨g, 5, none⟩ = some x5 ∧ v'.cell? ⟨g, 6, none⟩ = some x6 :=
  ⟨keepA h.1 hg h0, keepC h.2.1 hg hgb, keepC h.2.2.1 hg hgb, keepC h.2.2.2.1 hg hgb, keepC h.2.2.2.2.1 hg hgb, keepC h.2.2.2.2.2.1 hg hgb, keepC h.2.2.2.2.2.2.1 hg hgb, keepC h.2.2.2.2.2.2.2 hg hgb⟩
theorem chk_link {f : Int} (h0 : 0 ≤ f) (h1 : f < 1048576) : chkI f true false false false false false = 0 := by
  unfold chkI
  rw [if_neg (by omega), if_neg (by omega)]
  rfl
set_option maxRecDepth 100000 in
set_option maxHeartbeats 600000 in
theorem tmap_any (h : Tab w s v ws L R) (hfr : ∀ f ∈ L, 0 ≤ f ∧ f < 512) (hLl : L.length ≤ 1000) (r p o f : Int) (pr ww hh k u d : Bool) (hr : Fits r) (hp : Fits p) (hf : Fits f) : Calls Try.prog 17 #[.pointer (some ⟨s.x, 0, none⟩), .int .i64 r, .int .i64 p, .int .i64 o, .agg #[.int .i64 f, .bool pr, .bool ww, .bool hh, .bool k, .bool u, .bool d]] w fun e w' =>
    e = .returned (.int .i64 (mapE ws L R r p o f pr ww k u d)) ∧ ∃ v', (mapE ws L R r p o f pr ww k u d ≠ 0 → Tab w' s v' ws L R) ∧ (mapE ws L R r p o f pr ww k u d = 0 → Tab w' s v' (mapW ws L r p o f pr ww k u d) (L.take (L.length - lck (fol ws r p) o)) R) ∧ Mv s v w v' w' := by
  obtain ⟨g, hg⟩ : ∃ g, g = w.heap.size := ⟨_, rfl⟩
  obtain ⟨hb, hhb⟩ : ∃ hb, hb = decide (0 < o) := ⟨_, rfl⟩
  unfold mapE mapW
  rw [← hhb]
  obtain ⟨w1, hw1⟩ : ∃ w1, w1 = w.alloc (.cells #[.int .i64 f, .bool pr, .bool ww, .bool hb, .bool k, .bool u, .bool d] 28) := ⟨_, rfl⟩
  have b1 : Below w.heap.size w w1 := hw1 ▸ below_new w _ _
  have r1 : Row w1 g 28 [.int .i64 f, .bool pr, .bool ww, .bool hb, .bool k, .bool u, .bool d] := by rw [hw1, hg]; exact Row.new w _ _
  have H1 := h.call b1
  have hck := checkLeaf_any H1 r p o f pr ww hb k u d hr hp hf
  have HW := Lib.hid hw1
  have HG := Lib.hid hg
  have HHB := Lib.hid hhb
  have B1 := Lib.hid b1
  have R1 := Lib.hid r1
  have HH1 := Lib.hid H1
  have HFR := Lib.hid hfr
  obtain ⟨c0, c1, c2, c3, c4, c5, c6⟩ := r1.seven.1
  clear hw1 hg b1 r1 H1 h hfr
  by_cases hz : lfE R r p o f pr ww hb k u d = 0
  · rw [hz] at hck ⊢
    simp only [if_true]
    obtain ⟨hpl, hchk, -, -, -⟩ := lfE_chk hz
    obtain ⟨-, ho, hp0, hp1, -⟩ := plE_ok hpl
    have HCHK := Lib.hid hchk
    have HO := Lib.hid ho
    have hto := tto_of ho
    have HPG : Hid (0 ≤ p ∧ p ≤ 4095) := ⟨hp0, hp1⟩
    clear hz hpl hchk hp0 hp1
    have her := fol_er ws r p
    have hne := fun e => fol_none (ws := ws) (root := r) (p := p) e
    by_cases hwy : wyE (fol ws r p) o = 0
    · obtain ⟨h6, hts⟩ := wyE_ok hwy
      obtain ⟨hn1, hn4, hpg⟩ := hne h6
      obtain ⟨rr, hrr⟩ : ∃ rr, rr = fol ws r p := ⟨_, rfl⟩
      rw [← hrr] at hwy h6 hts hn1 hn4 ⊢
      rw [hwy]
      simp only [if_true]
      have hwc := fun w2 (H2 : Tab w2 s v ws L R) => way_any H2 r p o ho
      unfold Way at hwc
      rw [← hrr, hwy] at hwc
      obtain ⟨n, hn⟩ : ∃ n, n = lck rr o := ⟨_, rfl⟩
      have hnz : (tto o : Int) - (rr.ts.length : Int) = (n : Int) := by rw [hn]; unfold lck; omega
      have HN := Lib.hid hn
      have HRR := Lib.hid hrr
      rw [← hn]
      have hn5' : n ≤ 4 := by omega
      clear hn hrr
      by_cases hnl : n ≤ L.length
      · rw [if_pos hnl]
        go_enter Try.func17, Try.ntmps17
        go_upto_region 2 with (fail)
        rw [← hhb, ← HW.out, ← HG.out]
        clear hhb
        go_wp2_with fail
        refine hck.mono ?_
        rintro e w2 ⟨rfl, hb2⟩
        have R2 := Lib.hid (R1.out.below hb2 R1.out.lt)
        have H2 := Lib.hid (HH1.out.call hb2)
        have B2 := Lib.hid (B1.out.trans (hb2.mono B1.out.size))
        clear hck hb2 c0 c1 c2 c3 c4 c5 c6 R1 HH1 B1
        go_wp2_with fail
        refine (hwc _ H2.out).mono ?_
        rintro e w3 ⟨A, m, c, l, rfl, hi, hb3, hfs, hl⟩
        obtain rfl := hl trivial
        have R3 := Lib.hid (R2.out.below hb3 R2.out.lt)
        have H3 := Lib.hid (H2.out.call hb3)
        have B3 := Lib.hid (B2.out.trans (hb3.mono B2.out.size))
        have HL3 : Hid (Loc w3 s v A m rr.ts) := Loc.new H2.out hi hfs
        have hm := hi.len
        rw [hm] at hnz hts hn1 hn4
        have hget := get_any H3.out HFR.out hLl n (by omega)
        have hwn : IntKind.i64.wrap (tto o - (m : Int)) = (n : Int) := by rw [IntWalk.i64_in _ (by omega)]; exact hnz
        have hwn' : IntKind.i64.wrap (n : Int) = (n : Int) := IntWalk.i64_in _ (by omega)
        have hn5 : (n : Int) ≤ 4 := by omega
        clear hwc hb3 hi hfs R2 H2 B2 hne her
        go_wp2_with (go_at_call 41; refine (tablesTo_any HO.out _).mono ?_; rintro e w' ⟨rfl, rfl⟩)
        refine hget.mono ?_
        rintro e w4 (⟨hnl', -⟩ | ⟨-, v4, A2, c2, rfl, hT4, hM4, hl4⟩)
        · omega
        have HLW := Lib.hid (HL3.out.mv hM4)
        have HL4 := Lib.hid hl4
        have HT4 := Lib.hid hT4
        have HM4 := Lib.hid ((Mv.of_below B3.out).trans hM4)
        have R4 := Lib.hid (H3.out.row hM4 R3.out (by decide) (by decide) (by decide))
        obtain ⟨q0, hq0⟩ : ∃ q0, m = q0 + 1 := ⟨m - 1, by omega⟩
        have hwm : IntKind.i64.wrap ((m : Int) - 1) = (q0 : Int) := by rw [IntWalk.i64_in _ (by omega)]; omega
        have hqm : (q0 : Int) < m := by omega
        have hq4 : (q0 : Int) ≤ 3 := by omega
        have HQ0 := Lib.hid hq0
        clear hT4 hM4 hl4 hget hq0 B3 H3 R3
        go_wp2_with fail
        refine (digits_new p _).mono ?_
        rintro e w5 ⟨A3, m3, c3, rfl, hi5, hb5, hf5⟩
        rw [show dgE p = 0 from by simp [dgE, HPG.out]]
        have hM5 : Mv s v4 w4 v4 w5 := Mv.of_below hb5
        have HL5 := Lib.hid (HL4.out.mv hM5)
        have hLW5 := HLW.out.mv hM5
        have HD5 : Hid (Loc w5 s v4 A3 m3 (dgL p)) := Loc.new HT4.out hi5 hf5
        have hT5 := HT4.out.call hb5
        have HM5 := Lib.hid (HM4.out.trans hM5)
        have R5 := Lib.hid (R4.out.below hb5 R4.out.lt)
        have hm3 : m3 = 4 := by have := hi5.len; rw [← this]; simp [dgL, HPG.out]
        subst hm3
        obtain ⟨aw, rfl, -, hcw⟩ := hLW5.cell (j := q0) (by omega)
        obtain ⟨t0, et0⟩ : ∃ t0, t0 = rr.ts.getD q0 0 := ⟨_, rfl⟩
        rw [← et0] at hcw
        have HT5 := Lib.hid hT5
        have HT0 := Lib.hid et0
        clear hi5 hb5 hf5 hM5 hLW5 hT5 et0 HL4 HLW HT4 HM4 R4
        go_wp2_with fail
        clear hcw
        obtain ⟨w9, h9⟩ : ∃ w9, w9 = w5 := ⟨_, rfl⟩
        go_loopw [17, 69] (fun tb i wx => ∃ j : Nat, j ≤ n ∧ i = .int .i64 j ∧ tb = .int .i64 (chn p ((tk L n).take j) (gz ws (tk L n)) t0 q0).2 ∧ Tab wx s v4 (chn p ((tk L n).take j) (gz ws (tk L n)) t0 q0).1 (L.take (L.length - n)) R ∧ w5.grownBy wx (some s.b)) (fun _ i _ => n - (intOf i).toNat)
        case atStart => exact ⟨0, Nat.zero_le _, rfl, by simp [chn], by simpa [chn] using HT5.out, World.grownBy.refl _ _⟩
        case round =>
          obtain ⟨j, hj, rfl, rfl, hTj, hgj⟩ := hrel
          have HGJ := Lib.hid hgj
          have hMj : Mv s v4 w5 v4 wr := Mv.turned hgj (Or.inl rfl)
          by_cases hjn : j < n
          · obtain ⟨a2, rfl, -, hc2⟩ := (HL5.out.mv hMj).cell hjn
            obtain ⟨z, hz⟩ : ∃ z, z = q0 + j := ⟨_, rfl⟩
            have hz4 : (z : Int) < 4 := by omega
            have hwz : IntKind.i64.wrap ((q0 : Int) + (j : Int)) = (z : Int) := by rw [IntWalk.i64_in _ (by omega)]; omega
            obtain ⟨a3, rfl, -, hc3⟩ := (HD5.out.mv hMj).cell (j := z) (by omega)
            obtain ⟨x, ex⟩ : ∃ x, x = (tk L n).getD j 0 := ⟨_, rfl⟩
            obtain ⟨i3, ei3⟩ : ∃ i3, i3 = (dgL p).getD z 0 := ⟨_, rfl⟩
            rw [← ex] at hc2
            rw [← ei3] at hc3
            have hjl : j < (tk L n).length := by rw [tk_length hnl]; exact hjn
            have hxm : x ∈ L := by
              rw [ex, List.getD_eq_getElem?_getD, List.getElem?_eq_getElem hjl]
              exact tk_mem (List.getElem_mem _)
            have hxb := HFR.out x hxm
            obtain ⟨tb, etb⟩ : ∃ tb, tb = (chn p ((tk L n).take j) (gz ws (tk L n)) t0 q0).2 := ⟨_, rfl⟩
            have hput := tput_any hTj tb i3 x true false false false false false
            rw [chk_link hxb.1 (by omega), show packI x true false false false false false = lnk x from packI_ok (by rw [chk_link hxb.1 (by omega)]; rfl)] at hput
            rw [← etb]
            have HE := Lib.hid (And.intro etb (And.intro ex (And.intro ei3 hz)))
            have HJL := Lib.hid hjl
            clear hMj hgj hTj etb ex ei3 hxm hjl hz hxb
            go_wp2_with fail
            refine hput.mono ?_
            rintro e w7 ⟨rfl, h7, g7⟩
            have H7 := Lib.hid h7
            have G7 := Lib.hid (grown_trans1 HGJ.out g7)
            clear hput h7 g7 hc2 hc3
            go_wp2_with fail
            go_roundw
            case rel =>
              obtain ⟨e1, e2, e3, e4⟩ := HE.out
              have hx2 : (tk L n)[j]'HJL.out = x := by rw [e2, List.getD_eq_getElem?_getD, List.getElem?_eq_getElem HJL.out]; rfl
              have hcs : chn p ((tk L n).take (j + 1)) (gz ws (tk L n)) t0 q0 = (ptL (chn p ((tk L n).take j) (gz ws (tk L n)) t0 q0).1 tb i3 0 (lnk x), x) := by
                rw [List.take_succ_eq_append_getElem HJL.out, chn_snoc, hx2, ← e1, List.length_take, Nat.min_eq_left (Nat.le_of_lt HJL.out), ← e4, ← e3]
              exact ⟨j + 1, by omega, by go_num, by rw [hcs], by rw [hcs]; exact H7.out, G7.out⟩
            case measure => simp [intOf]; omega
          · obtain rfl : j = n := by omega
            have hall : (tk L j).take j = tk L j := List.take_of_length_le (by rw [tk_length hnl]; exact Nat.le_refl _)
            rw [hall] at hTj ⊢
            obtain ⟨tn, etn⟩ : ∃ tn, tn = (chn p (tk L j) (gz ws (tk L j)) t0 q0).2 := ⟨_, rfl⟩
            rw [← etn]
            obtain ⟨k3, hk3⟩ : ∃ k3, k3 = (tto o).toNat - 1 := ⟨_, rfl⟩
            have hwk : IntKind.i64.wrap (tto o - 1) = (k3 : Int) := by rw [IntWalk.i64_in _ (by omega)]; omega
            have hk4 : (k3 : Int) < 4 := by omega
            obtain ⟨a3, rfl, hab3, hc3⟩ := (HD5.out.mv hMj).cell (j := k3) (by omega)
            obtain ⟨i3, ei3⟩ : ∃ i3, i3 = (dgL p).getD k3 0 := ⟨_, rfl⟩
            rw [← ei3] at hc3
            have r9 := R5.out.grown hgj (by intro e; injection e with e; exact R5.out.apart HT5.out.ram.row (by decide) e)
            obtain ⟨v0, v1, v2, v3, v4', v5, v6⟩ := r9.seven.1
            have hgb : g ≠ s.b := R5.out.apart HT5.out.ram.row (by decide)
            have hba : (a3.add k3).block = a3.block := by unfold Addr.add; split <;> rfl
            have hAb : (a3.add k3).block ≠ s.b := by rw [hba]; exact fun e => (HD5.out.mv hMj).off (by omega) a3 rfl (Or.inl e)
            have hput := tput_any (w := wr.drew) (hTj.call drew_b8) tn i3 f pr ww hb k u d
            rw [HCHK.out, packI_ok (by rw [HCHK.out]; rfl)] at hput
            have hs8 : wr.drew.cell? (a3.add k3) = some (.int .i64 i3) ∧ wr.drew.cell? ⟨g, 0, none⟩ = some (.int .i64 f) ∧ wr.drew.cell? ⟨g, 1, none⟩ = some (.bool pr) ∧ wr.drew.cell? ⟨g, 2, none⟩ = some (.bool ww) ∧ wr.drew.cell? ⟨g, 3, none⟩ = some (.bool hb) ∧ wr.drew.cell? ⟨g, 4, none⟩ = some (.bool k) ∧ wr.drew.cell? ⟨g, 5, none⟩ = some (.bool u) ∧ wr.drew.cell? ⟨g, 6, none⟩ = some (.bool d) :=
              ⟨hc3, v0, v1, v2, v3, v4', v5, v6⟩
            have HEE := Lib.hid (And.intro etn (And.intro hk3 ei3))
            have HMJ := Lib.hid hMj
            clear hMj hgj hTj etn hk3 ei3 r9 v0 v1 v2 v3 v4' v5 v6 hab3 hba hc3
            go_upto_region 19 with (fail)
            go_region_held3 (fun z => z.cell? (a3.add k3) = some (.int .i64 i3) ∧ z.cell? ⟨g, 0, none⟩ = some (.int .i64 f) ∧ z.cell? ⟨g, 1, none⟩ = some (.bool pr) ∧ z.cell? ⟨g, 2, none⟩ = some (.bool ww) ∧ z.cell? ⟨g, 3, none⟩ = some (.bool hb) ∧ z.cell? ⟨g, 4, none⟩ = some (.bool k) ∧ z.cell? ⟨g, 5, none⟩ = some (.bool u) ∧ z.cell? ⟨g, 6, none⟩ = some (.bool d))
              (first | exact hs8 | exact keep8' hs8 g8 hAb hgb) (first | (go_at_call 41; refine (tablesTo_any HO.out _).mono ?_; rintro e w' ⟨rfl, rfl⟩) | (go_at_call 28; refine hput.mono ?_; rintro e w8 ⟨rfl, h8, g8⟩))
            have HH8 := Lib.hid (And.intro h8 g8)
            clear h8 g8 hs8 hput
            go_wp2
            go_ret
            refine ⟨rfl, v4, fun e => absurd rfl e, fun _ => ?_, (HM5.out.trans HMJ.out).trans (Mv.turned ⟨HH8.out.2.os, HH8.out.2.tape, HH8.out.2.output, HH8.out.2.size, HH8.out.2.block⟩ (Or.inl rfl))⟩
            obtain ⟨e1, e2, e3⟩ := HEE.out
            have := HH8.out.1
            have hlt : lastT rr = t0 := by unfold lastT; rw [HT0.out, hm, HQ0.out]; rfl
            unfold mapC
            rw [← HRR.out, ← HN.out, hlt, hm, HQ0.out, Nat.add_sub_cancel, ← e1, ← e2, ← e3]
            exact this
      · rw [if_neg hnl]
        go_enter Try.func17, Try.ntmps17
        go_upto_region 2 with (fail)
        rw [← hhb, ← HW.out, ← HG.out]
        clear hhb
        go_wp2_with fail
        refine hck.mono ?_
        rintro e w2 ⟨rfl, hb2⟩
        have R2 := Lib.hid (R1.out.below hb2 R1.out.lt)
        have H2 := Lib.hid (HH1.out.call hb2)
        have B2 := Lib.hid (B1.out.trans (hb2.mono B1.out.size))
        clear hck hb2 c0 c1 c2 c3 c4 c5 c6 R1 HH1 B1
        go_wp2_with fail
        refine (hwc _ H2.out).mono ?_
        rintro e w3 ⟨A, m, c, l, rfl, hi, hb3, hfs, hl⟩
        obtain rfl := hl trivial
        have R3 := Lib.hid (R2.out.below hb3 R2.out.lt)
        have H3 := Lib.hid (H2.out.call hb3)
        have B3 := Lib.hid (B2.out.trans (hb3.mono B2.out.size))
        have HL3 : Hid (Loc w3 s v A m rr.ts) := Loc.new H2.out hi hfs
        have hm := hi.len
        rw [hm] at hnz hts hn1 hn4
        have hget := get_any H3.out HFR.out hLl n (by omega)
        have hwn : IntKind.i64.wrap (tto o - (m : Int)) = (n : Int) := by rw [IntWalk.i64_in _ (by omega)]; exact hnz
        have hwn' : IntKind.i64.wrap (n : Int) = (n : Int) := IntWalk.i64_in _ (by omega)
        have hn5 : (n : Int) ≤ 4 := by omega
        clear hwc hb3 hi hfs R2 H2 B2 hne her
        go_wp2_with (go_at_call 41; refine (tablesTo_any HO.out _).mono ?_; rintro e w' ⟨rfl, rfl⟩)
        refine hget.mono ?_
        rintro e w4 (⟨-, v4, rfl, hT4, hM4⟩ | ⟨hnl', -⟩)
        · have HX := Lib.hid (And.intro hT4 hM4)
          clear hT4 hM4 hget
          go_wp2_with fail
          go_ret
          exact ⟨rfl, v4, fun _ => HX.out.1, fun e => by omega, (Mv.of_below B3.out).trans HX.out.2⟩
        · omega
    · obtain ⟨z, ez⟩ : ∃ z, z = wyE (fol ws r p) o := ⟨_, rfl⟩
      have hwc := fun w2 (H2 : Tab w2 s v ws L R) => way_any H2 r p o ho
      unfold Way at hwc
      rw [if_neg hwy]
      rw [← ez] at hwc hwy ⊢
      have hzn : (z != 0) = true := by simpa using hwy
      have HZ := Lib.hid hwy
      clear ez hwy her hne
      go_enter Try.func17, Try.ntmps17
      go_upto_region 2 with (fail)
      rw [← hhb, ← HW.out, ← HG.out]
      clear hhb
      go_wp2_with fail
      refine hck.mono ?_
      rintro e w2 ⟨rfl, hb2⟩
      have H2 := Lib.hid (HH1.out.call hb2)
      have B2 := Lib.hid (B1.out.trans (hb2.mono B1.out.size))
      clear hck hb2 c0 c1 c2 c3 c4 c5 c6 R1 HH1 B1
      go_wp2_with fail
      refine (hwc _ H2.out).mono ?_
      rintro e w3 ⟨A, m, c, l, rfl, -, hb3, -, -⟩
      have H3 := Lib.hid (H2.out.call hb3)
      have B3 := Lib.hid (B2.out.trans (hb3.mono B2.out.size))
      clear hwc hb3
      go_wp2_with fail
      go_ret
      exact ⟨rfl, v, fun _ => H3.out, fun e => absurd e HZ.out, Mv.of_below B3.out⟩
  · obtain ⟨z, ez⟩ : ∃ z, z = lfE R r p o f pr ww hb k u d := ⟨_, rfl⟩
    rw [if_neg hz]
    rw [← ez] at hck hz ⊢
    have hzn : (z != 0) = true := by simpa using hz
    have HZ := Lib.hid hz
    clear hz ez
    go_enter Try.func17, Try.ntmps17
    go_upto_region 2 with (fail)
    rw [← hhb, ← HW.out, ← HG.out]
    clear hhb
    go_wp2_with fail
    refine hck.mono ?_
    rintro e w2 ⟨rfl, hb2⟩
    have H2 := Lib.hid (HH1.out.call hb2)
    have B2 := Lib.hid (B1.out.trans (hb2.mono B1.out.size))
    clear hck hb2 c0 c1 c2 c3 c4 c5 c6 R1 HH1 B1
    go_wp2_with fail
    go_ret
    exact ⟨rfl, v, fun _ => H2.out, fun e => absurd e HZ.out, Mv.of_below B2.out⟩
end
end Go.Proofs.Ytpcpcgbejinlmaa
