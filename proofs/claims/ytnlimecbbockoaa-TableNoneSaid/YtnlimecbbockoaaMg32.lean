/- A leaf that is laid: the contract of Map. -/
import Derived.Test.YtnlimecbbockoaaMg31
namespace Go.Proofs.Ytnlimecbbockoaa
open Go.RowKit
/-- The word that leads to a table. -/
def lnk (f : Int) : Int := wordI f true false false false false false
/-- Tables that are hung one below the other, from a table and an entry's number on. -/
def chn (p : Int) : List Int → List Int → Int → Nat → List Int × Int
  | [], ws, t, _ => (ws, t)
  | m :: r, ws, t, k => chn p r (ptL ws t ((dgL p).getD k 0) 0 (lnk m)) m (k + 1)
theorem chn_snoc (p : Int) (m : Int) : ∀ (l ws : List Int) (t : Int) (k : Nat), chn p (l ++ [m]) ws t k = (ptL (chn p l ws t k).1 (chn p l ws t k).2 ((dgL p).getD (k + l.length) 0) 0 (lnk m), m) := by
  intro l
  induction l with
  | nil => intro ws t k; rfl
  | cons x r ih =>
    intro ws t k
    simp only [List.cons_append, chn, ih, List.length_cons]
    rw [show k + 1 + r.length = k + (r.length + 1) by omega]
/-- How many tables lack. -/
def lck (r : Fd) (o : Int) : Nat := (tto o - r.ts.length).toNat
def mapE (ws L R : List Int) (r p o f : Int) (pr wr k u d : Bool) : Int :=
  if lfE R r p o f pr wr (decide (0 < o)) k u d = 0 then (if wyE (fol ws r p) o = 0 then (if lck (fol ws r p) o ≤ L.length then 0 else 8) else wyE (fol ws r p) o) else lfE R r p o f pr wr (decide (0 < o)) k u d
def mapC (ws L : List Int) (r p o : Int) : List Int × Int := chn p (tk L (lck (fol ws r p) o)) (gz ws (tk L (lck (fol ws r p) o))) (lastT (fol ws r p)) ((fol ws r p).ts.length - 1)
def mapW (ws L : List Int) (r p o f : Int) (pr wr k u d : Bool) : List Int := ptL (mapC ws L r p o).1 (mapC ws L r p o).2 ((dgL p).getD ((tto o).toNat - 1) 0) 0 (wordI f pr wr (decide (0 < o)) k u d)
theorem wyE_ok {r : Fd} {o : Int} (h : wyE r o = 0) : r.er = 6 ∧ (r.ts.length : Int) ≤ tto o := by
  unfold wyE at h
  split at h
  · omega
  · rename_i hc
    split at h
    · rename_i h6'
      refine ⟨h6', ?_⟩
      apply Classical.byContradiction
      intro hn
      exact hc (Or.inr ⟨h6', by omega⟩)
    · rename_i hn
      exfalso
      apply hc
      exact Or.inl h
theorem fol_none {ws : List Int} {root p : Int} (h : (fol ws root p).er = 6) : 1 ≤ (fol ws root p).ts.length ∧ (fol ws root p).ts.length ≤ 4 ∧ (0 ≤ p ∧ p ≤ 4095) := by
  unfold fol at h ⊢
  split
  · rename_i hc
    rw [if_pos hc] at h
    have := (wk_fine ws p 3 root).none h
    exact ⟨this.1, this.2, hc.2⟩
  · rename_i hc
    rw [if_neg hc] at h
    simp at h
theorem tto_of {o : Int} (ho : o = 0 ∨ o = 3 ∨ o = 6) : 2 ≤ tto o ∧ tto o ≤ 4 := by rcases ho with rfl | rfl | rfl <;> simp [tto]
section
variable {w : World} {s : Seat} {v : Value} {ws L R : List Int}
theorem tmap_nil (r p o f : Int) (pr wr h k u d : Bool) (w : World) : Calls Try.prog 18 #[.pointer none, .int .i64 r, .int .i64 p, .int .i64 o, .agg #[.int .i64 f, .bool pr, .bool wr, .bool h, .bool k, .bool u, .bool d]] w fun e w' => e = .returned (.int .i64 1) ∧ Below w.heap.size w w' := by
  go_enter Try.func18, Try.ntmps18
  go_wp2_with fail
  refine (checkLeaf_nil _ _ _ _ _ _ _ _ _ _ _).mono ?_
  rintro e w1 ⟨rfl, hb⟩
  have HB : Hid (Below w.heap.size w w1) := ((Below.refl w.heap.size w).alloc (Nat.le_refl _) _).trans (hb.mono (by simp))
  clear hb
  go_wp2_with fail
  go_ret
  exact ⟨rfl, HB.out⟩
theorem keep8' {v v' : World} {b g : Nat} {p0 : Addr} {z0 x0 x1 x2 x3 x4 x5 x6 : Value}
    (h : v.cell? p0 = some z0 ∧ v.cell? ⟨g, 0, none⟩ = some x0 ∧ v.cell? ⟨g, 1, none⟩ = some x1 ∧ v.cell? ⟨g, 2, none⟩ = some x2 ∧ v.cell? ⟨g, 3, none⟩ = some x3 ∧ v.cell? ⟨g, 4, none⟩ = some x4 ∧ v.cell? ⟨g, 5, none⟩ = some x5 ∧ v.cell? ⟨g, 6, none⟩ = some x6)
    (hg : v.grownBy v' (some b)) (h0 : p0.block ≠ b) (hgb : g ≠ b) :
    v'.cell? p0 = some z0 ∧ v'.cell? ⟨g, 0, none⟩ = some x0 ∧ v'.cell? ⟨g, 1, none⟩ = some x1 ∧ v'.cell? ⟨g, 2, none⟩ = some x2 ∧ v'.cell? ⟨g, 3, none⟩ = some x3 ∧ v'.cell? ⟨g, 4, none⟩ = some x4 ∧ v'.cell? ⟨g, 5, none⟩ = some x5 ∧ v'.cell? ⟨g, 6, none⟩ = some x6 :=
  ⟨keepA h.1 hg h0, keepC h.2.1 hg hgb, keepC h.2.2.1 hg hgb, keepC h.2.2.2.1 hg hgb, keepC h.2.2.2.2.1 hg hgb, keepC h.2.2.2.2.2.1 hg hgb, keepC h.2.2.2.2.2.2.1 hg hgb, keepC h.2.2.2.2.2.2.2 hg hgb⟩
theorem chk_link {f : Int} (h0 : 0 ≤ f) (h1 : f < 1048576) : chkI f true false false false false false = 0 := by
  unfold chkI
  rw [if_neg (by omega), if_neg (by omega)]
  rfl
set_option maxRecDepth 100000 in
set_option maxHeartbeats 600000 in
theorem tmap_any (h : Tab w s v ws L R) (hfr : ∀ f ∈ L, 0 ≤ f ∧ f < 512) (hLl : L.length ≤ 1000) (r p o f : Int) (pr ww hh k u d : Bool) (hr : Fits r) (hp : Fits p) (hf : Fits f) : Calls Try.prog 18 #[.pointer (some ⟨s.x, 0, none⟩), .int .i64 r, .int .i64 p, .int .i64 o, .agg #[.int .i64 f, .bool pr, .bool ww, .bool hh, .bool k, .bool u, .bool d]] w fun e w' =>
    e = .returned (.int .i64 (mapE ws L R r p o f pr ww k u d)) ∧ ∃ v', (mapE ws L R r p o f pr ww k u d ≠ 0 → Tab w' s v' ws L R) ∧ (mapE ws L R r p o f pr ww k u d = 0 → Tab w' s v' (mapW ws L r p o f pr ww k u d) (L.take (L.length - lck (fol ws r p) o)) R) ∧ Mv s v w v' w' := by
  obtain ⟨g, hg⟩ : ∃ g, g = w.heap.size := ⟨_, rfl⟩
  obtain ⟨hb, hhb⟩ : ∃ hb, hb = decide (0 < o) := ⟨_, rfl⟩
  unfold mapE mapW
  rw [← hhb]
  obtain ⟨w1, hw1⟩ : ∃ w1, w1 = w.alloc (.cells #[.int .i64 f, .bool pr, .bool ww, .bool hb, .bool k, .bool u, .bool d] 28) := ⟨_, rfl⟩
  have b1 : Below w.heap.size w w1 := hw1 ▸ below_new w _ _
  have r1 : Row w1 g 28 [.int .i64 f, .bool pr, .bool ww, .bool hb, .bool k, .bool u, .bool d] := by rw [hw1, hg]; exact Row.new w _ _
  have H1 := h.call b1
  have hck := checkLeaf_any H1 r p o f pr ww hb k u d hr hp hf
  have HW := Lib.hid hw1
  have HG := Lib.hid hg
  have HHB := Lib.hid hhb
  have B1 := Lib.hid b1
  have R1 := Lib.hid r1
  have HH1 := Lib.hid H1
  have HFR := Lib.hid hfr
  obtain ⟨c0, c1, c2, c3, c4, c5, c6⟩ := r1.seven.1
  clear hw1 hg b1 r1 H1 h hfr
  by_cases hz : lfE R r p o f pr ww hb k u d = 0
  · rw [hz] at hck ⊢
    simp only [if_true]
    obtain ⟨hpl, hchk, -, -, -⟩ := lfE_chk hz
    obtain ⟨-, ho, hp0, hp1, -⟩ := plE_ok hpl
    have HCHK := Lib.hid hchk
    have HO := Lib.hid ho
    have hto := tto_of ho
    have HPG : Hid (0 ≤ p ∧ p ≤ 4095) := ⟨hp0, hp1⟩
    clear hz hpl hchk hp0 hp1
    have her := fol_er ws r p
    have hne := fun e => fol_none (ws := ws) (root := r) (p := p) e
    by_cases hwy : wyE (fol ws r p) o = 0
    · obtain ⟨h6, hts⟩ := wyE_ok hwy
      obtain ⟨hn1, hn4, hpg⟩ := hne h6
      obtain ⟨rr, hrr⟩ : ∃ rr, rr = fol ws r p := ⟨_, rfl⟩
      rw [← hrr] at hwy h6 hts hn1 hn4 ⊢
      rw [hwy]
      simp only [if_true]
      have hwc := fun w2 (H2 : Tab w2 s v ws L R) => way_any H2 r p o ho
      unfold Way at hwc
      rw [← hrr, hwy] at hwc
      obtain ⟨n, hn⟩ : ∃ n, n = lck rr o := ⟨_, rfl⟩
      have hnz : (tto o : Int) - (rr.ts.length : Int) = (n : Int) := by rw [hn]; unfold lck; omega
      have HN := Lib.hid hn
      have HRR := Lib.hid hrr
      rw [← hn]
      have hn5' : n ≤ 4 := by omega
      clear hn hrr
      by_cases hnl : n ≤ L.length
      · rw [if_pos hnl]
        go_enter Try.func18, Try.ntmps18
        go_upto_region 2 with (fail)
        rw [← hhb, ← HW.out, ← HG.out]
        clear hhb
        go_wp2_with fail
        refine hck.mono ?_
        rintro e w2 ⟨rfl, hb2⟩
        have R2 := Lib.hid (R1.out.below hb2 R1.out.lt)
        have H2 := Lib.hid (HH1.out.call hb2)
        have B2 := Lib.hid (B1.out.trans (hb2.mono B1.out.size))
        clear hck hb2 c0 c1 c2 c3 c4 c5 c6 R1 HH1 B1
        go_wp2_with fail
        refine (hwc _ H2.out).mono ?_
        rintro e w3 ⟨A, m, c, l, rfl, hi, hb3, hfs, hl⟩
        obtain rfl := hl trivial
        have R3 := Lib.hid (R2.out.below hb3 R2.out.lt)
        have H3 := Lib.hid (H2.out.call hb3)
        have B3 := Lib.hid (B2.out.trans (hb3.mono B2.out.size))
        have HL3 : Hid (Loc w3 s v A m rr.ts) := Loc.new H2.out hi hfs
        have hm := hi.len
        rw [hm] at hnz hts hn1 hn4
        have hget := get_any H3.out HFR.out hLl n (by omega)
        have hwn : IntKind.i64.wrap (tto o - (m : Int)) = (n : Int) := by rw [IntWalk.i64_in _ (by omega)]; exact hnz
        have hwn' : IntKind.i64.wrap (n : Int) = (n : Int) := IntWalk.i64_in _ (by omega)
        have hn5 : (n : Int) ≤ 4 := by omega
        clear hwc hb3 hi hfs R2 H2 B2 hne her
        go_wp2_with (go_at_call 43; refine (tablesTo_any HO.out _).mono ?_; rintro e w' ⟨rfl, rfl⟩)
        refine hget.mono ?_
        rintro e w4 (⟨hnl', -⟩ | ⟨-, v4, A2, c2, rfl, hT4, hM4, hl4⟩)
        · omega
        have HLW := Lib.hid (HL3.out.mv hM4)
        have HL4 := Lib.hid hl4
        have HT4 := Lib.hid hT4
        have HM4 := Lib.hid ((Mv.of_below B3.out).trans hM4)
        have R4 := Lib.hid (H3.out.row hM4 R3.out (by decide) (by decide) (by decide))
        obtain ⟨q0, hq0⟩ : ∃ q0, m = q0 + 1 := ⟨m - 1, by omega⟩
        have hwm : IntKind.i64.wrap ((m : Int) - 1) = (q0 : Int) := by rw [IntWalk.i64_in _ (by omega)]; omega
        have hqm : (q0 : Int) < m := by omega
        have hq4 : (q0 : Int) ≤ 3 := by omega
        have HQ0 := Lib.hid hq0
        clear hT4 hM4 hl4 hget hq0 B3 H3 R3
        go_wp2_with fail
        refine (digits_new p _).mono ?_
        rintro e w5 ⟨A3, m3, c3, rfl, hi5, hb5, hf5⟩
        rw [show dgE p = 0 from by simp [dgE, HPG.out]]
        have hM5 : Mv s v4 w4 v4 w5 := Mv.of_below hb5
        have HL5 := Lib.hid (HL4.out.mv hM5)
        have hLW5 := HLW.out.mv hM5
        have HD5 : Hid (Loc w5 s v4 A3 m3 (dgL p)) := Loc.new HT4.out hi5 hf5
        have hT5 := HT4.out.call hb5
        have HM5 := Lib.hid (HM4.out.trans hM5)
        have R5 := Lib.hid (R4.out.below hb5 R4.out.lt)
        have hm3 : m3 = 4 := by have := hi5.len; rw [← this]; simp [dgL, HPG.out]
        subst hm3
        obtain ⟨aw, rfl, -, hcw⟩ := hLW5.cell (j := q0) (by omega)
        obtain ⟨t0, et0⟩ : ∃ t0, t0 = rr.ts.getD q0 0 := ⟨_, rfl⟩
        rw [← et0] at hcw
        have HT5 := Lib.hid hT5
        have HT0 := Lib.hid et0
        clear hi5 hb5 hf5 hM5 hLW5 hT5 et0 HL4 HLW HT4 HM4 R4
        go_wp2_with fail
        clear hcw
        obtain ⟨w9, h9⟩ : ∃ w9, w9 = w5 := ⟨_, rfl⟩
        go_loopw [17, 69] (fun tb i wx => ∃ j : Nat, j ≤ n ∧ i = .int .i64 j ∧ tb = .int .i64 (chn p ((tk L n).take j) (gz ws (tk L n)) t0 q0).2 ∧ Tab wx s v4 (chn p ((tk L n).take j) (gz ws (tk L n)) t0 q0).1 (L.take (L.length - n)) R ∧ w5.grownBy wx (some s.b)) (fun _ i _ => n - (intOf i).toNat)
        case atStart => exact ⟨0, Nat.zero_le _, rfl, by simp [chn], by simpa [chn] using HT5.out, World.grownBy.refl _ _⟩
        case round =>
          obtain ⟨j, hj, rfl, rfl, hTj, hgj⟩ := hrel
          have HGJ := Lib.hid hgj
          have hMj : Mv s v4 w5 v4 wr := Mv.turned hgj (Or.inl rfl)
          by_cases hjn : j < n
          · obtain ⟨a2, rfl, -, hc2⟩ := (HL5.out.mv hMj).cell hjn
            obtain ⟨z, hz⟩ : ∃ z, z = q0 + j := ⟨_, rfl⟩
            have hz4 : (z : Int) < 4 := by omega
            have hwz : IntKind.i64.wrap ((q0 : Int) + (j : Int)) = (z : Int) := by rw [IntWalk.i64_in _ (by omega)]; omega
            obtain ⟨a3, rfl, -, hc3⟩ := (HD5.out.mv hMj).cell (j := z) (by omega)
            obtain ⟨x, ex⟩ : ∃ x, x = (tk L n).getD j 0 := ⟨_, rfl⟩
            obtain ⟨i3, ei3⟩ : ∃ i3, i3 = (dgL p).getD z 0 := ⟨_, rfl⟩
            rw [← ex] at hc2
            rw [← ei3] at hc3
            have hjl : j < (tk L n).length := by rw [tk_length hnl]; exact hjn
            have hxm : x ∈ L := by
              rw [ex, List.getD_eq_getElem?_getD, List.getElem?_eq_getElem hjl]
              exact tk_mem (List.getElem_mem _)
            have hxb := HFR.out x hxm
            obtain ⟨tb, etb⟩ : ∃ tb, tb = (chn p ((tk L n).take j) (gz ws (tk L n)) t0 q0).2 := ⟨_, rfl⟩
            have hput := tput_any hTj tb i3 x true false false false false false
            rw [chk_link hxb.1 (by omega), show packI x true false false false false false = lnk x from packI_ok (by rw [chk_link hxb.1 (by omega)]; rfl)] at hput
            rw [← etb]
            have HE := Lib.hid (And.intro etb (And.intro ex (And.intro ei3 hz)))
            have HJL := Lib.hid hjl
            clear hMj hgj hTj etb ex ei3 hxm hjl hz hxb
            go_wp2_with fail
            refine hput.mono ?_
            rintro e w7 ⟨rfl, h7, g7⟩
            have H7 := Lib.hid h7
            have G7 := Lib.hid (grown_trans1 HGJ.out g7)
            clear hput h7 g7 hc2 hc3
            go_wp2_with fail
            go_roundw
            case rel =>
              obtain ⟨e1, e2, e3, e4⟩ := HE.out
              have hx2 : (tk L n)[j]'HJL.out = x := by rw [e2, List.getD_eq_getElem?_getD, List.getElem?_eq_getElem HJL.out]; rfl
              have hcs : chn p ((tk L n).take (j + 1)) (gz ws (tk L n)) t0 q0 = (ptL (chn p ((tk L n).take j) (gz ws (tk L n)) t0 q0).1 tb i3 0 (lnk x), x) := by
                rw [List.take_succ_eq_append_getElem HJL.out, chn_snoc, hx2, ← e1, List.length_take, Nat.min_eq_left (Nat.le_of_lt HJL.out), ← e4, ← e3]
              exact ⟨j + 1, by omega, by go_num, by rw [hcs], by rw [hcs]; exact H7.out, G7.out⟩
            case measure => simp [intOf]; omega
          · obtain rfl : j = n := by omega
            have hall : (tk L j).take j = tk L j := List.take_of_length_le (by rw [tk_length hnl]; exact Nat.le_refl _)
            rw [hall] at hTj ⊢
            obtain ⟨tn, etn⟩ : ∃ tn, tn = (chn p (tk L j) (gz ws (tk L j)) t0 q0).2 := ⟨_, rfl⟩
            rw [← etn]
            obtain ⟨k3, hk3⟩ : ∃ k3, k3 = (tto o).toNat - 1 := ⟨_, rfl⟩
            have hwk : IntKind.i64.wrap (tto o - 1) = (k3 : Int) := by rw [IntWalk.i64_in _ (by omega)]; omega
            have hk4 : (k3 : Int) < 4 := by omega
            obtain ⟨a3, rfl, hab3, hc3⟩ := (HD5.out.mv hMj).cell (j := k3) (by omega)
            obtain ⟨i3, ei3⟩ : ∃ i3, i3 = (dgL p).getD k3 0 := ⟨_, rfl⟩
            rw [← ei3] at hc3
            have r9 := R5.out.grown hgj (by intro e; injection e with e; exact R5.out.apart HT5.out.ram.row (by decide) e)
            obtain ⟨v0, v1, v2, v3, v4', v5, v6⟩ := r9.seven.1
            have hgb : g ≠ s.b := R5.out.apart HT5.out.ram.row (by decide)
            have hba : (a3.add k3).block = a3.block := by unfold Addr.add; split <;> rfl
            have hAb : (a3.add k3).block ≠ s.b := by rw [hba]; exact fun e => (HD5.out.mv hMj).off (by omega) a3 rfl (Or.inl e)
            have hput := tput_any (w := wr.drew) (hTj.call drew_b8) tn i3 f pr ww hb k u d
            rw [HCHK.out, packI_ok (by rw [HCHK.out]; rfl)] at hput
            have hs8 : wr.drew.cell? (a3.add k3) = some (.int .i64 i3) ∧ wr.drew.cell? ⟨g, 0, none⟩ = some (.int .i64 f) ∧ wr.drew.cell? ⟨g, 1, none⟩ = some (.bool pr) ∧ wr.drew.cell? ⟨g, 2, none⟩ = some (.bool ww) ∧ wr.drew.cell? ⟨g, 3, none⟩ = some (.bool hb) ∧ wr.drew.cell? ⟨g, 4, none⟩ = some (.bool k) ∧ wr.drew.cell? ⟨g, 5, none⟩ = some (.bool u) ∧ wr.drew.cell? ⟨g, 6, none⟩ = some (.bool d) :=
              ⟨hc3, v0, v1, v2, v3, v4', v5, v6⟩
            have HEE := Lib.hid (And.intro etn (And.intro hk3 ei3))
            have HMJ := Lib.hid hMj
            clear hMj hgj hTj etn hk3 ei3 r9 v0 v1 v2 v3 v4' v5 v6 hab3 hba hc3
            go_upto_region 19 with (fail)
            go_region_held3 (fun z => z.cell? (a3.add k3) = some (.int .i64 i3) ∧ z.cell? ⟨g, 0, none⟩ = some (.int .i64 f) ∧ z.cell? ⟨g, 1, none⟩ = some (.bool pr) ∧ z.cell? ⟨g, 2, none⟩ = some (.bool ww) ∧ z.cell? ⟨g, 3, none⟩ = some (.bool hb) ∧ z.cell? ⟨g, 4, none⟩ = some (.bool k) ∧ z.cell? ⟨g, 5, none⟩ = some (.bool u) ∧ z.cell? ⟨g, 6, none⟩ = some (.bool d))
              (first | exact hs8 | exact keep8' hs8 g8 hAb hgb) (first | (go_at_call 43; refine (tablesTo_any HO.out _).mono ?_; rintro e w' ⟨rfl, rfl⟩) | (go_at_call 30; refine hput.mono ?_; rintro e w8 ⟨rfl, h8, g8⟩))
            have HH8 := Lib.hid (And.intro h8 g8)
            clear h8 g8 hs8 hput
            go_wp2
            go_ret
            refine ⟨rfl, v4, fun e => absurd rfl e, fun _ => ?_, (HM5.out.trans HMJ.out).trans (Mv.turned ⟨HH8.out.2.os, HH8.out.2.tape, HH8.out.2.output, HH8.out.2.size, HH8.out.2.block⟩ (Or.inl rfl))⟩
            obtain ⟨e1, e2, e3⟩ := HEE.out
            have := HH8.out.1
            have hlt : lastT rr = t0 := by unfold lastT; rw [HT0.out, hm, HQ0.out]; rfl
            unfold mapC
            rw [← HRR.out, ← HN.out, hlt, hm, HQ0.out, Nat.add_sub_cancel, ← e1, ← e2, ← e3]
            exact this
      · rw [if_neg hnl]
        go_enter Try.func18, Try.ntmps18
        go_upto_region 2 with (fail)
        rw [← hhb, ← HW.out, ← HG.out]
        clear hhb
        go_wp2_with fail
        refine hck.mono ?_
        rintro e w2 ⟨rfl, hb2⟩
        have R2 := Lib.hid (R1.out.below hb2 R1.out.lt)
        have H2 := Lib.hid (HH1.out.call hb2)
        have B2 := Lib.hid (B1.out.trans (hb2.mono B1.out.size))
        clear hck hb2 c0 c1 c2 c3 c4 c5 c6 R1 HH1 B1
        go_wp2_with fail
        refine (hwc _ H2.out).mono ?_
        rintro e w3 ⟨A, m, c, l, rfl, hi, hb3, hfs, hl⟩
        obtain rfl := hl trivial
        have R3 := Lib.hid (R2.out.below hb3 R2.out.lt)
        have H3 := Lib.hid (H2.out.call hb3)
        have B3 := Lib.hid (B2.out.trans (hb3.mono B2.out.size))
        have HL3 : Hid (Loc w3 s v A m rr.ts) := Loc.new H2.out hi hfs
        have hm := hi.len
        rw [hm] at hnz hts hn1 hn4
        have hget := get_any H3.out HFR.out hLl n (by omega)
        have hwn : IntKind.i64.wrap (tto o - (m : Int)) = (n : Int) := by rw [IntWalk.i64_in _ (by omega)]; exact hnz
        have hwn' : IntKind.i64.wrap (n : Int) = (n : Int) := IntWalk.i64_in _ (by omega)
        have hn5 : (n : Int) ≤ 4 := by omega
        clear hwc hb3 hi hfs R2 H2 B2 hne her
        go_wp2_with (go_at_call 43; refine (tablesTo_any HO.out _).mono ?_; rintro e w' ⟨rfl, rfl⟩)
        refine hget.mono ?_
        rintro e w4 (⟨-, v4, rfl, hT4, hM4⟩ | ⟨hnl', -⟩)
        · have HX := Lib.hid (And.intro hT4 hM4)
          clear hT4 hM4 hget
          go_wp2_with fail
          go_ret
          exact ⟨rfl, v4, fun _ => HX.out.1, fun e => by omega, (Mv.of_below B3.out).trans HX.out.2⟩
        · omega
    · obtain ⟨z, ez⟩ : ∃ z, z = wyE (fol ws r p) o := ⟨_, rfl⟩
      have hwc := fun w2 (H2 : Tab w2 s v ws L R) => way_any H2 r p o ho
      unfold Way at hwc
      rw [if_neg hwy]
      rw [← ez] at hwc hwy ⊢
      have hzn : (z != 0) = true := by simpa using hwy
      have HZ := Lib.hid hwy
      clear ez hwy her hne
      go_enter Try.func18, Try.ntmps18
      go_upto_region 2 with (fail)
      rw [← hhb, ← HW.out, ← HG.out]
      clear hhb
      go_wp2_with fail
      refine hck.mono ?_
      rintro e w2 ⟨rfl, hb2⟩
      have H2 := Lib.hid (HH1.out.call hb2)
      have B2 := Lib.hid (B1.out.trans (hb2.mono B1.out.size))
      clear hck hb2 c0 c1 c2 c3 c4 c5 c6 R1 HH1 B1
      go_wp2_with fail
      refine (hwc _ H2.out).mono ?_
      rintro e w3 ⟨A, m, c, l, rfl, -, hb3, -, -⟩
      have H3 := Lib.hid (H2.out.call hb3)
      have B3 := Lib.hid (B2.out.trans (hb3.mono B2.out.size))
      clear hwc hb3
      go_wp2_with fail
      go_ret
      exact ⟨rfl, v, fun _ => H3.out, fun e => absurd e HZ.out, Mv.of_below B3.out⟩
  · obtain ⟨z, ez⟩ : ∃ z, z = lfE R r p o f pr ww hb k u d := ⟨_, rfl⟩
    rw [if_neg hz]
    rw [← ez] at hck hz ⊢
    have hzn : (z != 0) = true := by simpa using hz
    have HZ := Lib.hid hz
    clear hz ez
    go_enter Try.func18, Try.ntmps18
    go_upto_region 2 with (fail)
    rw [← hhb, ← HW.out, ← HG.out]
    clear hhb
    go_wp2_with fail
    refine hck.mono ?_
    rintro e w2 ⟨rfl, hb2⟩
    have H2 := Lib.hid (HH1.out.call hb2)
    have B2 := Lib.hid (B1.out.trans (hb2.mono B1.out.size))
    clear hck hb2 c0 c1 c2 c3 c4 c5 c6 R1 HH1 B1
    go_wp2_with fail
    go_ret
    exact ⟨rfl, v, fun _ => H2.out, fun e => absurd e HZ.out, Mv.of_below B2.out⟩
end
end Go.Proofs.Ytnlimecbbockoaa
