/- AreaMoves, walked. -/
import Derived.Test.YtodepfgfgphkbaaY7
namespace Go.Proofs.Ytodepfgfgphkbaa
open Go.RowKit
/-- The program has made its call, the reference may be over other pages. -/
theorem half2 {w w' : World} {B s x : Nat} {P Q R : Int → Pg} (h : ∃ A c l, AtX B w s A c l P) (k : ∃ v, Px B w x v R) (d : DidA B w s Q w') : (∃ A c l, AtX B w' s A c l Q) ∧ (∃ v, Px B w' x v R) ∧ Below B w w' := by
  obtain ⟨A, c, l, h1⟩ := h
  obtain ⟨v, h2⟩ := k
  obtain ⟨d1, d2⟩ := d
  refine ⟨d1, ⟨v, h2.keep d2.size fun k hk hl => d2.keep k hl ?_⟩, d2.below h1.lw (fun b hb => by rw [hb]; exact h1.lo)⟩
  rcases hk with rfl | e
  · exact h2.top.apart h1.top (by decide)
  · obtain ⟨L, _, ho, _⟩ := h2.own
    obtain ⟨vs, r, _⟩ := ho.block e
    exact r.apart h1.top (by decide)
def shA (d : Int) (x : Ar) : Ar := { x with f := x.f + d, t := x.t + d }
theorem sh_jn {d : Int} {a b : Ar} : jn (shA d a) (shA d b) → jn a b := fun ⟨h1, h2, h3, h4, h5⟩ => by
  have e1 : b.f + d = a.t + d := h1
  refine ⟨by omega, h2, h3, h4, fun hs => ?_⟩
  have e5 : b.x = a.x + (a.t + d - (a.f + d)) := h5 hs
  omega
theorem sh_jd {d : Int} {lo : Int} {L : List Ar} (h : Jd lo L) : Jd (lo + d) (L.map (shA d)) := by
  induction L generalizing lo with
  | nil => trivial
  | cons a r ih =>
    obtain ⟨h1, h2, h3, h4⟩ := h
    refine ⟨by show lo + d ≤ a.f + d; omega, ⟨by show a.f + d < a.t + d; have := h2.1; omega, h2.2.1, h2.2.2⟩, fun b hb hj => ?_, ih h4⟩
    cases r with
    | nil => cases hb
    | cons c s =>
      injection hb with hb
      subst hb
      exact h3 c rfl (sh_jn hj)
theorem sh_pgs (d : Int) (L : List Ar) (i : Int) : pgs (L.map (shA d)) i = pgs L (i - d) := by
  induction L with
  | nil => rfl
  | cons b r ih =>
    rw [List.map_cons]
    show (if b.f + d ≤ i ∧ i < b.t + d then (shA d b).pg i else pgs (r.map (shA d)) i) = if b.f ≤ i - d ∧ i - d < b.t then b.pg (i - d) else pgs r (i - d)
    by_cases q : b.f ≤ i - d ∧ i - d < b.t
    · rw [if_pos q, if_pos (by omega)]
      show (⟨b.h, b.p, b.o, if shr b.h then b.x + (i - (b.f + d)) else 0⟩ : Pg) = ⟨b.h, b.p, b.o, if shr b.h then b.x + (i - d - b.f) else 0⟩
      rw [show i - (b.f + d) = i - d - b.f by omega]
    · rw [if_neg q, if_neg (by omega), ih]
/-- What stands where it has moved to. -/
theorem pcs_mv {P : Int → Pg} (ok : PsOk P) {a t : Int} {n : Nat} (ht : 0 ≤ t) (h4 : t + n ≤ 4096) : pcs (mvP P a n t) t n = (pcs P a n).map (shA (t - a)) := by
  refine (jd_pcs (ok.mv ht h4).ok ?_ fun i => ?_).symm
  · have := sh_jd (d := t - a) (pcs_is ok.ok a n).jd
    rw [show a + (t - a) = t by omega] at this
    exact this
  · rw [sh_pgs, (pcs_is ok.ok a n).pg]
    unfold mvP
    by_cases c : t ≤ i ∧ i < t + n
    · rw [if_pos c, if_pos (by omega), if_pos (show inS t n i from c), show i - (t - a) = i - t + a by omega]
    · rw [if_neg c, if_neg (by omega)]
theorem used_pg {P : Int → Pg} (ok : PsOk P) {t : Int} {n : Nat} (h : usedB P t n = false) {i : Int} (hi : inS t n i) : P i = zP := by
  unfold usedB at h
  rw [anyB_false] at h
  unfold inS at hi
  have := h (i - t).toNat (by omega)
  rw [show t + (((i - t).toNat : Nat) : Int) = i by omega] at this
  exact (ok.ok i).1 (by simpa using this)
/-- What a good move says, and what moving back comes to. -/
theorem mv_back {P : Int → Pg} (ok : PsOk P) {a t : Int} {n : Nat} (h : mvE P a n t = 0) : rtI a n 0 = 0 ∧ rtI t n 0 = 0 ∧ (mvE (mvP P a n t) t n a = 0 ∨ mvE (mvP P a n t) t n a = 13) ∧ mvP (mvP P a n t) t n a = P := by
  unfold mvE at h
  have ht0 : ((n : Int)).toNat = n := Int.toNat_natCast n
  rw [ht0] at h
  by_cases c1 : rtI a n 0 = 0
  · rw [if_neg (by rw [c1]; decide)] at h
    by_cases c2 : rtI t n 0 = 0
    · rw [if_neg (by rw [c2]; decide)] at h
      by_cases c3 : t < a + n ∧ a < t + n
      · rw [if_pos c3] at h; cases h
      · rw [if_neg c3] at h
        by_cases c4 : covB P a n = false
        · rw [if_pos c4] at h; cases h
        · rw [if_neg c4] at h
          by_cases c5 : hugeB P a n = true
          · rw [if_pos c5] at h; cases h
          · rw [if_neg c5] at h
            by_cases c6 : usedB P t n = true
            · rw [if_pos c6] at h; cases h
            · obtain ⟨h1, h2, h3⟩ := rt_in c1
              obtain ⟨h4, _, h6⟩ := rt_in c2
              have hu : usedB P t n = false := by simpa using c6
              have hto : ∀ k : Nat, k < n → mvP P a n t (t + k) = P (a + k) := fun k hk => by
                unfold mvP
                rw [if_pos (show inS t n (t + k) by unfold inS; omega), show t + (k : Int) - t + a = a + k by omega]
              refine ⟨c1, c2, ?_, ?_⟩
              · unfold mvE
                rw [ht0, if_neg (by rw [c2]; decide), if_neg (by rw [c1]; decide), if_neg (by omega), if_neg, if_neg, if_neg]
                · by_cases c7 : fullB (mvP (mvP P a n t) t n a) = true
                  · rw [if_pos c7]; exact Or.inr rfl
                  · rw [if_neg c7]; exact Or.inl rfl
                · intro e
                  unfold usedB at e
                  obtain ⟨k, hk, q⟩ := anyB_true.1 e
                  unfold mvP at q
                  rw [if_neg (show ¬ inS t n (a + k) by unfold inS; omega), if_pos (show inS a n (a + k) by unfold inS; omega)] at q
                  exact absurd q (by decide)
                · intro e
                  apply c5
                  unfold hugeB at e ⊢
                  obtain ⟨k, hk, q⟩ := anyB_true.1 e
                  exact anyB_true.2 ⟨k, hk, by rw [hto k hk] at q; exact q⟩
                · intro e
                  apply c4
                  unfold covB at e ⊢
                  rw [Bool.not_eq_false'] at e ⊢
                  obtain ⟨k, hk, q⟩ := anyB_true.1 e
                  exact anyB_true.2 ⟨k, hk, by rw [hto k hk] at q; exact q⟩
              · funext i
                by_cases d1 : inS a n i
                · have : mvP (mvP P a n t) t n a i = mvP P a n t (i - a + t) := by unfold mvP; rw [if_pos d1]
                  rw [this]
                  unfold mvP
                  unfold inS at d1
                  rw [if_pos (show inS t n (i - a + t) by unfold inS; omega), show i - a + t - t + a = i by omega]
                · by_cases d2 : inS t n i
                  · have : mvP (mvP P a n t) t n a i = zP := by unfold mvP; rw [if_neg d1, if_pos d2]
                    rw [this, used_pg ok hu d2]
                  · unfold mvP
                    rw [if_neg d1, if_neg d2, if_neg d2, if_neg d1]
    · rw [if_pos c2] at h; exact absurd h c2
  · rw [if_pos c1] at h; exact absurd h c1
/-- The end of the law: both say the same areas. -/
def AllsB (s x : Nat) (P : Int → Pg) (B : Nat) (w : World) : Prop := (∃ A c l, AtX B w s A c l P) ∧ (∃ v, Px B w x v P)
set_option maxHeartbeats 4000000 in
set_option maxRecDepth 100000 in
theorem moves_walk (A : Option Addr) (n c : Nat) {a k t : Int} (w : World) (hA : Acs w w.heap.size A n) (ha : Fits a) (hk : Fits k) (ht : Fits t) :
    Calls Try.prog 6 #[.agg #[.slice A n c, .int .i64 a, .int .i64 k, .int .i64 t]] w fun e w' => e = .returned (.bool true) ∧ Below w.heap.size w w' := by
  obtain ⟨W0, hW0⟩ : ∃ W0, W0 = w.alloc (.cells #[.slice A n c, .int .i64 a, .int .i64 k, .int .i64 t] 51) := ⟨_, rfl⟩
  obtain ⟨q, hq⟩ : ∃ q, q = w.heap.size := ⟨_, rfl⟩
  have g0 : Below w.heap.size w W0 := by rw [hW0]; exact below_new _ _
  have rs : Lrow W0 q 51 [.slice A n c, .int .i64 a, .int .i64 k, .int .i64 t] := by rw [hW0, hq]; exact Lrow.new w _ _
  obtain ⟨M, hM, hls⟩ := hA.list
  obtain ⟨P, hP⟩ : ∃ P, P = mdE M := ⟨_, rfl⟩
  have HMD : Hid (∀ w', Below w.heap.size w w' → Calls Try.prog 8 #[.slice A n c] w' fun e w'' => ∃ s x, e = .returned (.tuple #[.pointer (some ⟨s, 0, none⟩), .pointer (some ⟨x, 0, none⟩), .bool true]) ∧ St w'.heap.size w'' s x P ∧ Below w'.heap.size w' w'') := fun w' hb => by
    rw [hP]; exact made_any A n c w.heap.size M w' hM (hls.below hb) hb.size
  have HG0 := Lib.hid g0
  have HW := Lib.hid (And.intro hW0 hq)
  have c0 := rs.cell 0
  have c1 := rs.cell 1
  have c2 := rs.cell 2
  have c3 := rs.cell 3
  clear hA hM hls hP g0 hW0 hq rs
  go_enter Try.func6, Try.ntmps6
  go_upto_region 1 with (fail)
  rw [← HW.out.1, ← HW.out.2]
  go_wp2_with fail
  go_quiet (fail)
  obtain ⟨wz, hwz⟩ : ∃ wz, wz = W0.drewN nq := ⟨_, rfl⟩
  rw [← hwz]
  have HBZ : Hid (Below w.heap.size w wz) := by show Below _ _ _; rw [hwz]; exact below_dN HG0.out _
  have hm := HMD.out wz HBZ.out
  clear c0 c1 c2 c3 hwz
  go_wp2_with fail
  refine hm.mono ?_
  rintro e w1 ⟨s, x, rfl, hst, hb⟩
  have HST := Lib.hid hst
  have HB1 := Lib.hid hb
  clear hm hst hb
  go_wp2_with fail
  refine (awake_any _).mono ?_
  rintro e w2 ⟨rfl, hb2⟩
  have HB2 : Hid (Below wz.heap.size wz w2) := HB1.out.trans (hb2.mono HB1.out.size)
  have HST2 := Lib.hid (HST.out.call hb2)
  obtain ⟨Ap, cp, lp, hap⟩ := HST2.out.t
  have hmv := move_pr hap ha hk ht
  obtain ⟨er, her⟩ : ∃ er, er = mvE P a k t := ⟨_, rfl⟩
  rw [← her] at hmv
  have HER := Lib.hid her
  unfold ToldQ at hmv
  clear hb2 hap her
  by_cases h0 : er = 0
  · subst h0
    have hr0 : rtI a k 0 = 0 := mvE_rt HER.out.symm
    obtain ⟨h1, h2, h3⟩ := rt_in hr0
    obtain ⟨m, rfl⟩ : ∃ m : Nat, k = m := ⟨k.toNat, by omega⟩
    obtain ⟨_, hr2, hbk, hback⟩ := mv_back HST2.out.ok HER.out.symm
    obtain ⟨h4, _, h6⟩ := rt_in hr2
    obtain ⟨a, rfl⟩ : ∃ m : Nat, a = m := ⟨a.toNat, by omega⟩
    obtain ⟨t, rfl⟩ : ∃ m : Nat, t = m := ⟨t.toNat, by omega⟩
    rw [if_pos rfl, if_pos rfl, show ((m : Int)).toNat = m from Int.toNat_natCast m] at hmv
    obtain ⟨R, hR⟩ : ∃ R, R = pcs P a m := ⟨_, rfl⟩
    have HRB : Hid (∀ y ∈ R, ArS y) := fun y hy => by rw [hR] at hy; exact (pcs_bound HST2.out.ok a m hy).1
    have hS : pcs (mvP P a m t) t m = R.map (shA ((t : Int) - a)) := by rw [hR]; exact pcs_mv HST2.out.ok (by omega) h6
    have HRL : Hid (R.length ≤ 4096) := by show _ ≤ _; rw [hR]; exact Nat.le_trans (pcs_is HST2.out.ok.ok a m).len (by omega)
    rw [← hR] at hmv
    obtain ⟨nn, hnn⟩ : ∃ nn, nn = R.length := ⟨_, rfl⟩
    rw [← hnn] at hmv
    have HN := Lib.hid hnn
    have HRT := Lib.hid (And.intro hr0 hr2)
    have HBK := Lib.hid hbk
    have HBACK := Lib.hid hback
    have HSS := Lib.hid hS
    have HF := Lib.hid (And.intro ha (And.intro hk ht))
    have n4 : (nn : Int) ≤ 4096 := by have := HRL.out; omega
    have a4 : (a : Int) ≤ 4096 := by omega
    have t4 : (t : Int) ≤ 4096 := by omega
    clear hr0 hr2 hbk hback hS hR hnn h1 h2 h3 h4 h6 ha hk ht
    go_wp2_with fail
    refine hmv.mono ?_
    rintro e w3 ⟨A3, c3, rfl, ho3, hd3⟩
    obtain ⟨hT3, hR3, hb3⟩ := half2 HST2.out.t HST2.out.r hd3
    have HB3 : Hid (Below wz.heap.size wz w3) := HB2.out.trans hb3
    have HO3 := Lib.hid ho3
    have HR3 := Lib.hid hR3
    obtain ⟨Ap, cp, lp, hap⟩ := hT3
    have hpi := pieces_ok hap HRT.out.2
    rw [HSS.out] at hpi
    unfold ToldE at hpi
    rw [List.length_map, ← HN.out] at hpi
    have HT3 := Lib.hid hap
    clear hmv ho3 hd3 hb3 hR3 hap
    go_wp2_with fail
    refine hpi.mono ?_
    rintro e w4 ⟨A4, c4, rfl, ho4, hb4⟩
    have HB4 : Hid (Below wz.heap.size wz w4) := HB3.out.trans (hb4.mono HB3.out.size)
    have HT4 := Lib.hid (HT3.out.call hb4)
    have HR4 : Hid (∃ v, Px wz.heap.size w4 x v P) := by obtain ⟨v, hv⟩ := HR3.out; exact ⟨v, hv.call hb4⟩
    have HL1 := Lib.hid (LsD.of (D := w4.heap.size) (l := R) (HO3.out.call hb4) (Nat.le_refl _))
    have HL2 := Lib.hid (LsD.of (D := w4.heap.size) (l := R.map (shA ((t : Int) - a))) ho4 (Nat.le_refl _))
    clear hpi ho4 hb4
    go_wp2_with fail
    go_loopw [14] (fun i wr => ∃ j : Nat, j ≤ nn ∧ i = .int .i64 j ∧ Below w4.heap.size w4 wr) (fun i _ => nn - (RowKit.intOf i).toNat)
    case atStart => exact ⟨0, by omega, rfl, Below.refl _ _⟩
    case round =>
      obtain ⟨j, hj, rfl, hb⟩ := hrel
      have HB := Lib.hid hb
      by_cases hlt : j < nn
      · have hjl : j < R.length := by rw [← HN.out]; exact hlt
        have hjm : j < (R.map (shA ((t : Int) - a))).length := by rw [List.length_map]; exact hjl
        obtain ⟨g1, e1, -, hat1⟩ := (HL1.out.below hb) (by omega)
        obtain ⟨g2, e2, -, hat2⟩ := (HL2.out.below hb) (by omega)
        subst e1 e2
        have hc := ar_at (hat1 j hjl)
        have hd := ar_at (hat2 j hjm)
        have hbd := HRB.out _ (List.getElem_mem hjl)
        rw [List.getElem_map] at hd
        obtain ⟨y, hy⟩ : ∃ y, y = R[j] := ⟨_, rfl⟩
        rw [← hy] at hc hd hbd
        obtain ⟨yf, yt, yh, yp, yo, yx⟩ := y
        obtain ⟨b1, b2, b3, _, _⟩ := hbd
        unfold shA at hd
        dsimp only at hc hd b1 b2 b3
        obtain ⟨d0, d1, d2, d3, d4, d5⟩ := hc
        obtain ⟨z0, z1, z2, z3, z4, z5⟩ := hd
        obtain ⟨zf, hzf⟩ : ∃ z, z = yf + ((t : Int) - a) := ⟨_, rfl⟩
        obtain ⟨zt, hzt⟩ : ∃ z, z = yt + ((t : Int) - a) := ⟨_, rfl⟩
        rw [← hzf] at z0
        rw [← hzt] at z1
        have s1 : IntKind.i64.wrap (yf - (a : Int)) = yf - a := IntWalk.i64_in _ (by omega)
        have s2 : IntKind.i64.wrap (zf - (t : Int)) = yf - a := by rw [show zf - (t : Int) = yf - a by omega]; exact s1
        have s3 : IntKind.i64.wrap (yt - (a : Int)) = yt - a := IntWalk.i64_in _ (by omega)
        have s4 : IntKind.i64.wrap (zt - (t : Int)) = yt - a := by rw [show zt - (t : Int) = yt - a by omega]; exact s3
        have j0 : (0 : Int) ≤ j := by omega
        have j1 : (j : Int) < nn := by omega
        clear hat1 hat2 hy hzf hzt b1 b2 b3 hb
        go_wp2_with fail
        go_quiet (fail)
        go_wp2_with fail
        go_roundw
        case rel => exact ⟨j + 1, by omega, by go_num, below_dN HB.out _⟩
        case measure => simp [RowKit.intOf]; omega
      · obtain rfl : j = nn := by omega
        have HT5 := Lib.hid (HT4.out.call hb)
        have HR5 : Hid (∃ v, Px wz.heap.size wr x v P) := by obtain ⟨v, hv⟩ := HR4.out; exact ⟨v, hv.call hb⟩
        have HB5 : Hid (Below wz.heap.size wz wr) := HB4.out.trans (hb.mono HB4.out.size)
        have hmv := move_pr HT5.out HF.out.2.2 HF.out.2.1 HF.out.1
        unfold ToldQ at hmv
        rw [HBACK.out] at hmv
        clear hb
        rcases HBK.out with he | he
        · rw [he, if_pos rfl, if_pos rfl] at hmv
          generalize (pcs (mvP P a m t) t (Int.toNat m)) = RR at hmv
          go_wp2_with fail
          refine hmv.mono ?_
          rintro e w6 ⟨A6, c6, rfl, -, hd6⟩
          obtain ⟨hT6, hR6, hb6⟩ := half2 ⟨_, _, _, HT5.out⟩ HR5.out hd6
          have HB6 : Hid (Below wz.heap.size wz w6) := HB5.out.trans hb6
          have HST6 : Hid (St wz.heap.size w6 s x P) := ⟨hT6, hR6⟩
          have hal := HST6.out.all
          have HLN := Lib.hid (all_len HST6.out.ok)
          obtain ⟨L, hL⟩ : ∃ L, L = allA P := ⟨_, rfl⟩
          rw [← hL] at hal HLN
          have HL := Lib.hid hL
          clear hmv hd6 hb6 hT6 hR6 hL
          go_wp2_with fail
          refine hal.mono ?_
          rintro e w7 ⟨A7, c7, rfl, ho7, hb7⟩
          have HB7 : Hid (Below wz.heap.size wz w7) := HB6.out.trans (hb7.mono HB6.out.size)
          obtain ⟨v7, hr7⟩ := (HST6.out.call hb7).r
          have hxa := xall_is hr7
          rw [← HL.out] at hxa
          unfold ToldA at hxa
          have HO7 := Lib.hid ho7
          clear hal ho7 hb7 hr7
          go_wp2_with fail
          refine hxa.mono ?_
          rintro e w8 ⟨A8, c8, rfl, ho8, hb8⟩
          have HB8 : Hid (Below wz.heap.size wz w8) := HB7.out.trans (hb8.mono HB7.out.size)
          have hsm := same_yes (c := c7) (c' := c8) ((HO7.out.call hb8).ls) ho8.ls rfl rfl (by have := HLN.out; omega)
          generalize L.length = ll at hsm
          clear hxa ho8 hb8
          go_wp2_with fail
          refine hsm.mono ?_
          rintro e w9 ⟨rfl, hb9⟩
          have HB9 : Hid (Below wz.heap.size wz w9) := HB8.out.trans (hb9.mono HB8.out.size)
          clear hsm hb9
          go_wp2_with fail
          go_ret
          exact ⟨rfl, HBZ.out.trans (HB9.out.mono HBZ.out.size)⟩
        · rw [he, if_neg (by decide), if_neg (by decide)] at hmv
          go_wp2_with fail
          refine hmv.mono ?_
          rintro e w6 ⟨A6, c6, rfl, -, hd6⟩
          obtain ⟨hT6, hR6, hb6⟩ := half2 ⟨_, _, _, HT5.out⟩ HR5.out hd6
          have HB6 : Hid (Below wz.heap.size wz w6) := HB5.out.trans hb6
          clear hmv hd6 hb6 hT6 hR6
          go_wp2_with fail
          go_ret
          exact ⟨rfl, HBZ.out.trans (HB6.out.mono HBZ.out.size)⟩
  · rw [if_neg h0, if_neg h0] at hmv
    have h0' : (er != 0) = true := by simpa using h0
    go_wp2_with fail
    refine hmv.mono ?_
    rintro e w6 ⟨A6, c6, rfl, -, hd6⟩
    obtain ⟨hT6, hR6, hb6⟩ := half2 HST2.out.t HST2.out.r hd6
    have HB6 : Hid (Below wz.heap.size wz w6) := HB2.out.trans hb6
    have HST6 : Hid (St wz.heap.size w6 s x P) := ⟨hT6, hR6⟩
    have hal := HST6.out.all
    have HLN := Lib.hid (all_len HST6.out.ok)
    obtain ⟨L, hL⟩ : ∃ L, L = allA P := ⟨_, rfl⟩
    rw [← hL] at hal HLN
    have HL := Lib.hid hL
    clear hmv hd6 hb6 hT6 hR6 hL
    go_wp2_with fail
    refine hal.mono ?_
    rintro e w7 ⟨A7, c7, rfl, ho7, hb7⟩
    have HB7 : Hid (Below wz.heap.size wz w7) := HB6.out.trans (hb7.mono HB6.out.size)
    obtain ⟨v7, hr7⟩ := (HST6.out.call hb7).r
    have hxa := xall_is hr7
    rw [← HL.out] at hxa
    unfold ToldA at hxa
    have HO7 := Lib.hid ho7
    clear hal ho7 hb7 hr7
    go_wp2_with fail
    refine hxa.mono ?_
    rintro e w8 ⟨A8, c8, rfl, ho8, hb8⟩
    have HB8 : Hid (Below wz.heap.size wz w8) := HB7.out.trans (hb8.mono HB7.out.size)
    have hsm := same_yes (c := c7) (c' := c8) ((HO7.out.call hb8).ls) ho8.ls rfl rfl (by have := HLN.out; omega)
    generalize L.length = ll at hsm
    clear hxa ho8 hb8
    go_wp2_with fail
    refine hsm.mono ?_
    rintro e w9 ⟨rfl, hb9⟩
    have HB9 : Hid (Below wz.heap.size wz w9) := HB8.out.trans (hb9.mono HB8.out.size)
    clear hsm hb9
    go_wp2_with fail
    go_ret
    exact ⟨rfl, HBZ.out.trans (HB9.out.mono HBZ.out.size)⟩
end Go.Proofs.Ytodepfgfgphkbaa
