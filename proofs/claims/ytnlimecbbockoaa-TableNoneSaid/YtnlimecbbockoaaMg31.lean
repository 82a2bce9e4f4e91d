/- A leaf that is changed: the contract of Set. -/
import Derived.Test.YtnlimecbbockoaaMg25
import Derived.Test.YtnlimecbbockoaaMg27
import Derived.Test.YtnlimecbbockoaaMg30
namespace Go.Proofs.Ytnlimecbbockoaa
open Go.RowKit
/-- The table in which a walk ends, and which entry of it. -/
def lastT (r : Fd) : Int := r.ts.getD (r.ts.length - 1) 0
theorem fol_ok {ws : List Int} {root p : Int} (h : (fol ws root p).er = 0) : (fol ws root p).lv ≤ 3 ∧ (fol ws root p).ts.length = 4 - (fol ws root p).lv ∧ (0 ≤ p ∧ p ≤ 4095) := by
  unfold fol at h ⊢
  split
  · rename_i hc
    rw [if_pos hc] at h
    have := (wk_fine ws p 3 root).ok h
    exact ⟨this.1, this.2, hc.2⟩
  · rename_i hc
    rw [if_neg hc] at h
    simp at h
theorem slot_last {p : Int} (hp : 0 ≤ p ∧ p ≤ 4095) {lv : Nat} (hl : lv ≤ 3) : (dgL p).getD (3 - lv) 0 = dg p lv := by
  rw [(dg_at hp (k := 3 - lv) (by omega)).1, show 3 - (3 - lv) = lv by omega]
theorem keepA {v v' : World} {b : Nat} {p : Addr} {x : Value} (h : v.cell? p = some x) (hg : v.grownBy v' (some b)) (hne : p.block ≠ b) : v'.cell? p = some x :=
  (World.cell?_of_block (hg.block p.block (World.block_lt_of_cell? v _ h) (by intro e; injection e with e; exact hne e))).trans h
theorem keep11' {v v' : World} {b g q : Nat} {p0 p1 : Addr} {y0 y1 z0 z1 x0 x1 x2 x3 x4 x5 x6 : Value}
    (h : v.cell? ⟨q, 9, none⟩ = some y0 ∧ v.cell? ⟨q, 10, none⟩ = some y1 ∧ v.cell? p0 = some z0 ∧ v.cell? p1 = some z1 ∧ v.cell? ⟨g, 0, none⟩ = some x0 ∧ v.cell? ⟨g, 1, none⟩ = some x1 ∧ v.cell? ⟨g, 2, none⟩ = some x2 ∧ v.cell? ⟨g, 3, none⟩ = some x3 ∧ v.cell? ⟨g, 4, none⟩ = some x4 ∧ v.cell? ⟨g, 5, none⟩ = some x5 ∧ v.cell? ⟨g, 6, none⟩ = some x6)
    (hg : v.grownBy v' (some b)) (hq : q ≠ b) (h0 : p0.block ≠ b) (h1 : p1.block ≠ b) (hgb : g ≠ b) :
    v'.cell? ⟨q, 9, none⟩ = some y0 ∧ v'.cell? ⟨q, 10, none⟩ = some y1 ∧ v'.cell? p0 = some z0 ∧ v'.cell? p1 = some z1 ∧ v'.cell? ⟨g, 0, none⟩ = some x0 ∧ v'.cell? ⟨g, 1, none⟩ = some x1 ∧ v'.cell? ⟨g, 2, none⟩ = some x2 ∧ v'.cell? ⟨g, 3, none⟩ = some x3 ∧ v'.cell? ⟨g, 4, none⟩ = some x4 ∧ v'.cell? ⟨g, 5, none⟩ = some x5 ∧ v'.cell? ⟨g, 6, none⟩ = some x6 :=
  ⟨keepC h.1 hg hq, keepC h.2.1 hg hq, keepA h.2.2.1 hg h0, keepA h.2.2.2.1 hg h1, keepC h.2.2.2.2.1 hg hgb, keepC h.2.2.2.2.2.1 hg hgb, keepC h.2.2.2.2.2.2.1 hg hgb, keepC h.2.2.2.2.2.2.2.1 hg hgb, keepC h.2.2.2.2.2.2.2.2.1 hg hgb, keepC h.2.2.2.2.2.2.2.2.2.1 hg hgb, keepC h.2.2.2.2.2.2.2.2.2.2 hg hgb⟩
theorem drew_b8 {w : World} : Below w.heap.size w w.drew := ⟨rfl, rfl, rfl, Nat.le_refl _, fun _ _ => rfl⟩
/-- What changing a leaf comes to. -/
def setE (ws R : List Int) (r p o f : Int) (pr wr k u d : Bool) : Int := if lfE R r p o f pr wr (decide (0 < o)) k u d = 0 then fjE (fol ws r p) o else lfE R r p o f pr wr (decide (0 < o)) k u d
def setL (ws R : List Int) (r p o f : Int) (pr wr k u d : Bool) : List Int := if setE ws R r p o f pr wr k u d = 0 then ptL ws (lastT (fol ws r p)) (dg p (fol ws r p).lv) 0 (wordI f pr wr (decide (0 < o)) k u d) else ws
section
variable {w : World} {s : Seat} {v : Value} {ws L R : List Int}
theorem lfE_chk {r p o f : Int} {pr wr h k u d : Bool} (hz : lfE R r p o f pr wr h k u d = 0) : plE R r p o = 0 ∧ chkI f pr wr h k u d = 0 ∧ leafy o pr k = true ∧ evB f o = true ∧ frE f o = 0 := by
  unfold lfE at hz
  split at hz
  · rename_i h0
    split at hz
    · rename_i h1
      simp [lfOk] at h1
      exact ⟨h0, h1.1.1.2, h1.1.1.1, h1.1.2, h1.2⟩
    · omega
  · rename_i h0; exact absurd hz h0
theorem tset_nil (r p o f : Int) (pr wr h k u d : Bool) (w : World) : Calls Try.prog 17 #[.pointer none, .int .i64 r, .int .i64 p, .int .i64 o, .agg #[.int .i64 f, .bool pr, .bool wr, .bool h, .bool k, .bool u, .bool d]] w fun e w' => e = .returned (.int .i64 1) ∧ Below w.heap.size w w' := by
  go_enter Try.func17, Try.ntmps17
  go_wp2_with fail
  refine (checkLeaf_nil _ _ _ _ _ _ _ _ _ _ _).mono ?_
  rintro e w1 ⟨rfl, hb⟩
  have HB : Hid (Below w.heap.size w w1) := ((Below.refl w.heap.size w).alloc (Nat.le_refl _) _).trans (hb.mono (by simp))
  clear hb
  go_wp2_with fail
  go_ret
  exact ⟨rfl, HB.out⟩
set_option maxRecDepth 100000 in
set_option maxHeartbeats 2000000 in
theorem tset_any (h : Tab w s v ws L R) (r p o f : Int) (pr wr hh k u d : Bool) (hr : Fits r) (hp : Fits p) (hf : Fits f) : Calls Try.prog 17 #[.pointer (some ⟨s.x, 0, none⟩), .int .i64 r, .int .i64 p, .int .i64 o, .agg #[.int .i64 f, .bool pr, .bool wr, .bool hh, .bool k, .bool u, .bool d]] w fun e w' =>
    e = .returned (.int .i64 (setE ws R r p o f pr wr k u d)) ∧ Tab w' s v (setL ws R r p o f pr wr k u d) L R ∧ Mv s v w v w' := by
  obtain ⟨g, hg⟩ : ∃ g, g = w.heap.size := ⟨_, rfl⟩
  obtain ⟨hb, hhb⟩ : ∃ hb, hb = decide (0 < o) := ⟨_, rfl⟩
  unfold setL setE
  rw [← hhb]
  obtain ⟨w1, hw1⟩ : ∃ w1, w1 = w.alloc (.cells #[.int .i64 f, .bool pr, .bool wr, .bool hb, .bool k, .bool u, .bool d] 28) := ⟨_, rfl⟩
  have b1 : Below w.heap.size w w1 := hw1 ▸ below_new w _ _
  have r1 : Row w1 g 28 [.int .i64 f, .bool pr, .bool wr, .bool hb, .bool k, .bool u, .bool d] := by rw [hw1, hg]; exact Row.new w _ _
  have H1 := h.call b1
  have hck := checkLeaf_any H1 r p o f pr wr hb k u d hr hp hf
  have HW := Lib.hid hw1
  have HG := Lib.hid hg
  have HHB := Lib.hid hhb
  have B1 := Lib.hid b1
  have R1 := Lib.hid r1
  have H := Lib.hid h
  have HH1 := Lib.hid H1
  obtain ⟨c0, c1, c2, c3, c4, c5, c6⟩ := r1.seven.1
  clear hw1 hg b1 r1 H1 h
  by_cases hz : lfE R r p o f pr wr hb k u d = 0
  · rw [hz] at hck ⊢
    rw [if_pos rfl]
    obtain ⟨hpl, hchk, -, -, -⟩ := lfE_chk hz
    have HCHK := Lib.hid hchk
    clear hz hpl hchk
    by_cases he : (fol ws r p).er = 0
    · by_cases hl : ((fol ws r p).lv : Int) * 3 = o
      · have hfe : fjE (fol ws r p) o = 0 := by simp [fjE, he, hl]
        rw [hfe, if_pos rfl]
        have HFE := Lib.hid hfe
        obtain ⟨hlv, hln, hpg⟩ := fol_ok he
        have HSL := Lib.hid (slot_last hpg hlv)
        have hdl : (dgL p).length = 4 := by simp [dgL, hpg]
        have HE := Lib.hid he
        have HLO := Lib.hid hl
        go_enter Try.func17, Try.ntmps17
        go_upto_region 2 with (fail)
        rw [← hhb, ← HW.out, ← HG.out]
        clear hhb
        go_wp2_with fail
        refine hck.mono ?_
        rintro e w2 ⟨rfl, hb2⟩
        have R2 := Lib.hid (R1.out.below hb2 R1.out.lt)
        have H2 := Lib.hid (HH1.out.call hb2)
        have B2 := Lib.hid (B1.out.trans (hb2.mono B1.out.size))
        clear hck hb2 c0 c1 c2 c3 c4 c5 c6 R1 HH1 B1
        go_wp2_with fail
        refine (findJust_ok H2.out r p o HE.out HLO.out).mono ?_
        rintro e w3 ⟨A, m, c, A', m', c', rfl, hi, hi', hb3, hn, hn', -⟩
        obtain ⟨q, hq⟩ : ∃ q, q = w3.heap.size := ⟨_, rfl⟩
        obtain ⟨rr, hrr⟩ : ∃ rr, rr = fol ws r p := ⟨_, rfl⟩
        rw [← hrr] at hi hln hlv HSL
        rw [← hrr]
        obtain ⟨x0', ex0⟩ : ∃ y, y = lfF rr := ⟨_, rfl⟩
        obtain ⟨z0, ez0⟩ : ∃ y, y = lfB rr 0 := ⟨_, rfl⟩
        obtain ⟨z1, ez1⟩ : ∃ y, y = lfB rr 1 := ⟨_, rfl⟩
        obtain ⟨z7, ez7⟩ : ∃ y, y = lfB rr 7 := ⟨_, rfl⟩
        obtain ⟨z9, ez9⟩ : ∃ y, y = lfB rr 9 := ⟨_, rfl⟩
        obtain ⟨z5, ez5⟩ : ∃ y, y = lfB rr 5 := ⟨_, rfl⟩
        obtain ⟨z6, ez6⟩ : ∃ y, y = lfB rr 6 := ⟨_, rfl⟩
        obtain ⟨zv, ezv⟩ : ∃ y, y = lfV rr := ⟨_, rfl⟩
        obtain ⟨zp, ezp⟩ : ∃ y, y = lfP rr p := ⟨_, rfl⟩
        rw [← ex0, ← ez0, ← ez1, ← ez7, ← ez9, ← ez5, ← ez6, ← ezv, ← ezp]
        have hm := hi.len
        have hm' := hi'.len
        obtain ⟨n, hnm1⟩ : ∃ n, m = n + 1 := ⟨m - 1, by omega⟩
        have hn3 : n = 3 - rr.lv := by omega
        have hwm : IntKind.i64.wrap ((m : Int) - 1) = (n : Int) := by rw [IntWalk.i64_in _ (by omega)]; omega
        have hnmi : (n : Int) < m := by omega
        obtain ⟨a, rfl, hab, hc⟩ := hi.cell (j := n) (by omega)
        obtain ⟨a', rfl, hab', hc'⟩ := hi'.cell (j := n) (by omega)
        obtain ⟨t, et⟩ : ∃ t, t = rr.ts.getD n 0 := ⟨_, rfl⟩
        obtain ⟨i, ei⟩ : ∃ i, i = (dgL p).getD n 0 := ⟨_, rfl⟩
        rw [← et] at hc
        rw [← ei] at hc'
        obtain ⟨w4, hw4⟩ : ∃ w4, w4 = w3.alloc (.cells #[.int .i64 x0', .bool z0, .bool z1, .bool z7, .bool z9, .bool z5, .bool z6, .int .i64 zv, .int .i64 zp, .slice (some a) m c, .slice (some a') m' c'] 75) := ⟨_, rfl⟩
        have b4 : Below w2.heap.size w2 w4 := by rw [hw4]; exact hb3.alloc hb3.size _
        have l4 : Row w4 q 75 [.int .i64 x0', .bool z0, .bool z1, .bool z7, .bool z9, .bool z5, .bool z6, .int .i64 zv, .int .i64 zp, .slice (some a) m c, .slice (some a') m' c'] := by rw [hw4, hq]; exact Row.new w3 _ _
        have H4 := H2.out.call b4
        have r4 := R2.out.below b4 R2.out.lt
        have hba : ∀ (x : Addr) (n : Nat), (x.add n).block = x.block := fun x n => by unfold Addr.add; split <;> rfl
        have hc4 : w4.cell? (a.add n) = some (.int .i64 t) := by rw [hw4, ← hc]; exact ((Below.refl w3.heap.size w3).alloc (Nat.le_refl _) _).cell (by rw [hba]; exact hab)
        have hc4' : w4.cell? (a'.add n) = some (.int .i64 i) := by rw [hw4, ← hc']; exact ((Below.refl w3.heap.size w3).alloc (Nat.le_refl _) _).cell (by rw [hba]; exact hab')
        have hnm : n < m' := by omega
        have hn9 : (n : Int) ≤ 4 := by omega
        have hput := tput_any (w := w4.drew) (H4.call drew_b8) t i f pr wr hb k u d
        have hsx : s.x ≠ s.b := H4.top.apart H4.ram.row (by decide)
        have hqb : q ≠ s.b := l4.apart H4.ram.row (by decide)
        have hgb : g ≠ s.b := r4.apart H4.ram.row (by decide)
        have hlb : s.b < w2.heap.size := H2.out.ram.row.lt
        have hAb : (a.add n).block ≠ s.b := by rw [hba]; have := hn a rfl; omega
        have hAb' : (a'.add n).block ≠ s.b := by rw [hba]; have := hn' a' rfl; omega
        have HW4 := Lib.hid hw4
        have HQ := Lib.hid hq
        have HB4 := Lib.hid (B2.out.trans (b4.mono B2.out.size))
        have HT4 := Lib.hid H4
        have HLT : Hid (lastT rr = t) := by show _ = _; unfold lastT; rw [et, hm, hnm1]; rfl
        have HSI : Hid (dg p rr.lv = i) := by show _ = _; rw [← HSL.out, ei, hn3]
        obtain ⟨y9, y10⟩ : w4.drew.cell? ⟨q, 9, none⟩ = some (.slice (some a) m c) ∧ w4.drew.cell? ⟨q, 10, none⟩ = some (.slice (some a') m' c') := ⟨l4.cell 9, l4.cell 10⟩
        obtain ⟨v0, v1, v2, v3, v4, v5, v6⟩ := r4.seven.1
        have l9 : w4.cell? ⟨q, 9, none⟩ = some (.slice (some a) m c) := l4.cell 9
        have hs4 : w4.drew.cell? ⟨q, 9, none⟩ = some (.slice (some a) m c) ∧ w4.drew.cell? ⟨q, 10, none⟩ = some (.slice (some a') m' c') ∧ w4.drew.cell? (a.add n) = some (.int .i64 t) ∧ w4.drew.cell? (a'.add n) = some (.int .i64 i) ∧ w4.drew.cell? ⟨g, 0, none⟩ = some (.int .i64 f) ∧ w4.drew.cell? ⟨g, 1, none⟩ = some (.bool pr) ∧ w4.drew.cell? ⟨g, 2, none⟩ = some (.bool wr) ∧ w4.drew.cell? ⟨g, 3, none⟩ = some (.bool hb) ∧ w4.drew.cell? ⟨g, 4, none⟩ = some (.bool k) ∧ w4.drew.cell? ⟨g, 5, none⟩ = some (.bool u) ∧ w4.drew.cell? ⟨g, 6, none⟩ = some (.bool d) :=
          ⟨y9, y10, hc4, hc4', v0, v1, v2, v3, v4, v5, v6⟩
        clear hi hi' hb3 hn hn' hw4 hq hnm1 ex0 ez0 ez1 ez7 ez9 ez5 ez6 ezv ezp hm hm' hn3 hc hc' hab hab' et ei b4 l4 H4 r4 y9 y10 v0 v1 v2 v3 v4 v5 v6 hc4 hc4' hlv hln hdl hpg he hl hfe hba R2 H2 B2
        go_upto_region 6 with (fail)
        rw [← HW4.out, ← HQ.out]
        go_upto_region 9 with (fail)
        go_region_held3 (fun z => z.cell? ⟨q, 9, none⟩ = some (.slice (some a) m c) ∧ z.cell? ⟨q, 10, none⟩ = some (.slice (some a') m' c') ∧ z.cell? (a.add n) = some (.int .i64 t) ∧ z.cell? (a'.add n) = some (.int .i64 i) ∧ z.cell? ⟨g, 0, none⟩ = some (.int .i64 f) ∧ z.cell? ⟨g, 1, none⟩ = some (.bool pr) ∧ z.cell? ⟨g, 2, none⟩ = some (.bool wr) ∧ z.cell? ⟨g, 3, none⟩ = some (.bool hb) ∧ z.cell? ⟨g, 4, none⟩ = some (.bool k) ∧ z.cell? ⟨g, 5, none⟩ = some (.bool u) ∧ z.cell? ⟨g, 6, none⟩ = some (.bool d))
          (first | exact hs4 | exact keep11' hs4 g5 hqb hAb hAb' hgb) ((go_at_call 30; refine hput.mono ?_; rintro e w5 ⟨rfl, h5, g5⟩))
        have HH5 := Lib.hid (And.intro h5 g5)
        clear h5 g5 hs4 hput l9
        go_wp2
        go_ret
        refine ⟨rfl, ?_, (Mv.of_below HB4.out).trans (Mv.turned ⟨HH5.out.2.os, HH5.out.2.tape, HH5.out.2.output, HH5.out.2.size, HH5.out.2.block⟩ (Or.inl rfl))⟩
        have := HH5.out.1
        rw [HCHK.out, packI_ok (by rw [HCHK.out]; rfl)] at this
        rw [← hrr, HLT.out, HSI.out]
        exact this
      · have hfe : fjE (fol ws r p) o = 6 := by simp [fjE, he, hl]
        rw [hfe, if_neg (by omega)]
        have HE := Lib.hid he
        have HL := Lib.hid hl
        clear hfe he hl
        go_enter Try.func17, Try.ntmps17
        go_upto_region 2 with (fail)
        rw [← hhb, ← HW.out, ← HG.out]
        clear hhb
        go_wp2_with fail
        refine hck.mono ?_
        rintro e w2 ⟨rfl, hb2⟩
        have R2 := Lib.hid (R1.out.below hb2 R1.out.lt)
        have H2 := Lib.hid (HH1.out.call hb2)
        have B2 := Lib.hid (B1.out.trans (hb2.mono B1.out.size))
        have HH2 := Lib.hid (H.out.call B2.out)
        clear hck hb2 c0 c1 c2 c3 c4 c5 c6 R1 HH1 B1
        go_wp2_with fail
        refine (findJust_no H2.out r p o HE.out HL.out).mono ?_
        unfold zeroSt
        rintro e w3 ⟨rfl, hb3⟩
        have B3 := Lib.hid (B2.out.trans (hb3.mono B2.out.size))
        have H3 := Lib.hid (H2.out.call hb3)
        clear hb3
        go_wp2_with fail
        go_ret
        have b4 : Below w3.heap.size w3 (w3.alloc (.cells #[.int .i64 0, .bool false, .bool false, .bool false, .bool false, .bool false, .bool false, .int .i64 0, .int .i64 0, .slice none 0 0, .slice none 0 0] 75)) := below_new w3 _ _
        exact ⟨rfl, H3.out.call b4, Mv.of_below (B3.out.trans (b4.mono B3.out.size))⟩
    · have hfe : fjE (fol ws r p) o = (fol ws r p).er := by simp [fjE, he]
      rw [hfe, if_neg he]
      have hbad := fun w2 (H2 : Tab w2 s v ws L R) => findJust_bad H2 r p o he
      obtain ⟨z, ez⟩ : ∃ z, z = (fol ws r p).er := ⟨_, rfl⟩
      rw [← ez] at hbad he ⊢
      have hz : (z != 0) = true := by simpa using he
      clear hfe he ez
      go_enter Try.func17, Try.ntmps17
      go_upto_region 2 with (fail)
      rw [← hhb, ← HW.out, ← HG.out]
      clear hhb
      go_wp2_with fail
      refine hck.mono ?_
      rintro e w2 ⟨rfl, hb2⟩
      have R2 := Lib.hid (R1.out.below hb2 R1.out.lt)
      have H2 := Lib.hid (HH1.out.call hb2)
      have B2 := Lib.hid (B1.out.trans (hb2.mono B1.out.size))
      have HH2 := Lib.hid (H.out.call B2.out)
      clear hck hb2 c0 c1 c2 c3 c4 c5 c6 R1 HH1 B1
      go_wp2_with fail
      refine (hbad _ H2.out).mono ?_
      unfold zeroSt
      rintro e w3 ⟨rfl, hb3⟩
      have B3 := Lib.hid (B2.out.trans (hb3.mono B2.out.size))
      have H3 := Lib.hid (H2.out.call hb3)
      clear hb3
      go_wp2_with fail
      go_ret
      have b4 : Below w3.heap.size w3 (w3.alloc (.cells #[.int .i64 0, .bool false, .bool false, .bool false, .bool false, .bool false, .bool false, .int .i64 0, .int .i64 0, .slice none 0 0, .slice none 0 0] 75)) := below_new w3 _ _
      exact ⟨rfl, H3.out.call b4, Mv.of_below (B3.out.trans (b4.mono B3.out.size))⟩
  · obtain ⟨z, ez⟩ : ∃ z, z = lfE R r p o f pr wr hb k u d := ⟨_, rfl⟩
    rw [if_neg hz, if_neg hz]
    rw [← ez] at hck hz ⊢
    have hzn : (z != 0) = true := by simpa using hz
    clear hz ez
    go_enter Try.func17, Try.ntmps17
    go_upto_region 2 with (fail)
    rw [← hhb, ← HW.out, ← HG.out]
    clear hhb
    go_wp2_with fail
    refine hck.mono ?_
    rintro e w2 ⟨rfl, hb2⟩
    have R2 := Lib.hid (R1.out.below hb2 R1.out.lt)
    have H2 := Lib.hid (HH1.out.call hb2)
    have B2 := Lib.hid (B1.out.trans (hb2.mono B1.out.size))
    clear hck hb2 c0 c1 c2 c3 c4 c5 c6 R1 HH1 B1
    go_wp2_with fail
    go_ret
    exact ⟨rfl, H2.out, Mv.of_below B2.out⟩
end
end Go.Proofs.Ytnlimecbbockoaa
