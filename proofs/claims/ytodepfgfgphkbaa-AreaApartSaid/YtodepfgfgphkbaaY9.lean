/- AreaJoined, walked. -/
import Derived.Test.YtodepfgfgphkbaaY7
import Derived.BigRegion
namespace Go.Proofs.Ytodepfgfgphkbaa
open Go.RowKit
theorem doP_zero {P : Int → Pg} (h : P 0 = zP) (l : Ac) : doP P l 0 = zP := by
  unfold doP
  split
  · split
    · rename_i e
      have hr : rtI l.a l.n (ordO l.g) = 0 := by
        unfold mapE at e
        by_cases c : mapA l.g l.p l.o = true
        · rw [if_pos c] at e; cases e
        · rw [if_neg c] at e
          by_cases d : rtI l.a l.n (ordO l.g) = 0
          · exact d
          · rw [if_pos d] at e; exact e
      obtain ⟨h1, _, _⟩ := rt_in hr
      unfold mapP
      rw [if_neg (show ¬ inS l.a l.n 0 by unfold inS; omega)]; exact h
    · exact h
  · split
    · split
      · unfold unP
        split
        · rfl
        · exact h
      · exact h
    · split
      · split
        · rename_i e
          obtain ⟨h1, _, _⟩ := rt_in (prE_rt e)
          unfold prP
          rw [if_neg (show ¬ inS l.a l.n 0 by unfold inS; omega)]; exact h
        · exact h
      · split
        · rename_i e
          have hr2 : rtI l.t l.n 0 = 0 := by
            unfold mvE at e
            rw [if_neg (by rw [mvE_rt (P := P) (t := l.t) (by unfold mvE; exact e)]; decide)] at e
            by_cases d : rtI l.t l.n 0 = 0
            · exact d
            · rw [if_pos d] at e; exact e
          obtain ⟨h1, _, _⟩ := rt_in hr2
          unfold mvP
          rw [if_neg (show ¬ inS l.t l.n 0 by unfold inS; omega)]
          split
          · rfl
          · exact h
        · exact h
theorem mdP_zero (M : List Ac) : mdP M 0 = zP := by
  have : ∀ (M : List Ac) (P : Int → Pg), P 0 = zP → M.foldl doP P 0 = zP := by
    intro M
    induction M with
    | nil => intro P h; exact h
    | cons l r ih => intro P h; exact ih (doP P l) (doP_zero h l)
  exact this M _ rfl
/-- How many areas there are. -/
theorem doP_len {P : Int → Pg} (h : (allA P).length ≤ 64) (l : Ac) : (allA (doP P l)).length ≤ 64 := by
  have key : ∀ {Q : Int → Pg}, fullB Q = false → (allA Q).length ≤ 64 := fun hq => by
    unfold fullB at hq
    have := of_decide_eq_false hq
    omega
  unfold doP
  split
  · split
    · rename_i e
      refine key ?_
      unfold mapE at e
      by_cases c : fullB (mapP P l.a l.n l.g l.p l.o) = true
      · rw [if_pos c] at e
        split at e
        · cases e
        · split at e
          · rename_i d; exact absurd e d
          · split at e
            · cases e
            · cases e
      · simpa using c
    · exact h
  · split
    · split
      · rename_i e
        refine key ?_
        unfold unE at e
        by_cases c : fullB (unP P l.a l.n) = true
        · rw [if_pos c] at e
          split at e
          · rename_i d; exact absurd e d
          · split at e
            · cases e
            · cases e
        · simpa using c
      · exact h
    · split
      · split
        · rename_i e
          refine key ?_
          unfold prE at e
          by_cases c : fullB (prP P l.a l.n l.p) = true
          · rw [if_pos c] at e
            split at e
            · rename_i d; exact absurd e d
            · split at e
              · cases e
              · split at e
                · cases e
                · split at e
                  · cases e
                  · split at e
                    · cases e
                    · cases e
          · simpa using c
        · exact h
      · split
        · rename_i e
          refine key ?_
          unfold mvE at e
          by_cases c : fullB (mvP P l.a l.n l.t) = true
          · rw [if_pos c] at e
            split at e
            · rename_i d; exact absurd e d
            · split at e
              · rename_i d; exact absurd e d
              · split at e
                · cases e
                · split at e
                  · cases e
                  · split at e
                    · cases e
                    · split at e
                      · cases e
                      · cases e
          · simpa using c
        · exact h
theorem mdP_len (M : List Ac) : (allA (mdP M)).length ≤ 64 := by
  have : ∀ (M : List Ac) (P : Int → Pg), (allA P).length ≤ 64 → (allA (M.foldl doP P)).length ≤ 64 := by
    intro M
    induction M with
    | nil => intro P h; exact h
    | cons l r ih => intro P h; exact ih (doP P l) (doP_len h l)
  refine this M _ ?_
  rw [← nil_whole.all]; decide
theorem jd_next {lo : Int} {L : List Ar} (h : Jd lo L) {j : Nat} (hj : j + 1 < L.length) : ¬ jn L[j] L[j + 1] := by
  induction L generalizing lo j with
  | nil => cases hj
  | cons a r ih =>
    cases j with
    | zero =>
      cases r with
      | nil => simp at hj
      | cons b s => exact h.2.2.1 b rfl
    | succ j => exact ih h.2.2.2 (by simp at hj; omega)
set_option maxHeartbeats 4000000 in
set_option maxRecDepth 100000 in
theorem joined_walk (A : Option Addr) (n c : Nat) (w : World) (hA : Acs w w.heap.size A n) :
    Calls Try.prog 4 #[.slice A n c] w fun e w' => e = .returned (.bool true) ∧ Below w.heap.size w w' := by
  obtain ⟨M, hM, hls⟩ := hA.list
  have hm := made_any A n c w.heap.size M w hM hls (Nat.le_refl _)
  obtain ⟨P, hP⟩ : ∃ P, P = mdE M := ⟨_, rfl⟩
  have h0 : P 0 = zP := by rw [hP]; exact mdP_zero _
  have h64 : (allA P).length ≤ 64 := by rw [hP]; exact mdP_len _
  rw [← hP] at hm
  have HZ := Lib.hid h0
  clear hA hM hls hP h0
  go_enter Try.func4, Try.ntmps4
  go_wp2_with fail
  refine hm.mono ?_
  rintro e w1 ⟨s, x, rfl, hst, hb⟩
  have HST := Lib.hid hst
  have HB1 := Lib.hid hb
  clear hm hst hb
  go_wp2_with fail
  refine (awake_any _).mono ?_
  rintro e w2 ⟨rfl, hb2⟩
  have HB2 : Hid (Below w.heap.size w w2) := HB1.out.trans (hb2.mono HB1.out.size)
  have HST2 := Lib.hid (HST.out.call hb2)
  have hal := HST2.out.all
  have hwh := whole_all HST2.out.ok
  obtain ⟨L, hL⟩ : ∃ L, L = allA P := ⟨_, rfl⟩
  rw [← hL] at hal h64 hwh
  have HWH := Lib.hid hwh
  obtain ⟨m, hmm⟩ : ∃ m, m = L.length := ⟨_, rfl⟩
  unfold ToldL at hal
  rw [← hmm] at hal h64
  have HM := Lib.hid hmm
  clear hb2 hL hwh hmm
  go_wp2_with fail
  refine hal.mono ?_
  rintro e w3 ⟨A3, c3, rfl, ho3, hb3⟩
  have HB3 : Hid (Below w.heap.size w w3) := HB2.out.trans (hb3.mono HB2.out.size)
  have HO3 := Lib.hid (LsD.of (D := w3.heap.size) (l := L) (by rw [HM.out] at ho3; exact ho3) (Nat.le_refl _))
  have m64 : (m : Int) ≤ 64 := by omega
  clear hal ho3 hb3
  go_wp2_with fail
  go_loopw [7] (fun i wr => ∃ j : Nat, j ≤ m ∧ i = .int .i64 j ∧ Below w3.heap.size w3 wr) (fun i _ => m - (RowKit.intOf i).toNat)
  case atStart => exact ⟨0, by omega, rfl, Below.refl _ _⟩
  case round =>
    obtain ⟨j, hj, rfl, hb⟩ := hrel
    have HB := Lib.hid hb
    by_cases hlt : j < m
    · have hjl : j < L.length := by rw [← HM.out]; exact hlt
      obtain ⟨g, eA, hg, hat⟩ := HO3.out (by omega)
      subst eA
      have HAT : Hid (∀ w', Below w3.heap.size w3 w' → ∀ j (hj : j < L.length), EAr.At w' g (j * 6) L[j]) := fun w' hb' j hj => (hat j hj).heap (hb'.block g hg)
      have hbd := HWH.out.bound (List.getElem_mem hjl)
      have h1 : 1 ≤ L[j].f := by
        have e := mem_pg HWH.out.jd.rs (List.getElem_mem hjl) (i := L[j].f) (by omega) (by have := hbd.ft; omega)
        have f0 := hbd.f0
        by_cases c : L[j].f = 0
        · exfalso
          rw [HWH.out.pg, c, HZ.out] at e
          exact pg_ne (mem_ok HWH.out.jd.rs (List.getElem_mem hjl)) _ e.symm
        · omega
      obtain ⟨y, hy⟩ : ∃ y, y = L[j] := ⟨_, rfl⟩
      have hc := ar_at (HAT.out wr hb j hjl)
      have HCD := Lib.hid (ar_at (HAT.out wr.drew (below_dN hb 1) j hjl))
      rw [← hy] at hc HCD hbd h1
      have HY := Lib.hid hy
      obtain ⟨yf, yt, yh, yp, yo, yx⟩ := y
      obtain ⟨b1, b2, b3, b4, b5⟩ := hbd
      dsimp only at hc HCD h1 b1 b2 b3 b4 b5
      obtain ⟨d0, d1, d2, d3, d4, d5⟩ := hc
      have j0 : (0 : Int) ≤ j := by omega
      have j1 : (j : Int) < m := by omega
      have r1 : ¬ yf < 1 := by omega
      have r2 : ¬ yt ≤ yf := by omega
      have r3 : ¬ 4096 < yt := by omega
      have q1 : decide (yf < 1) = false := decide_eq_false r1
      have q2 : decide (yt ≤ yf) = false := decide_eq_false r2
      have q3 : decide (4096 < yt) = false := decide_eq_false r3
      clear hat hb hy
      by_cases hj0 : j = 0
      · subst hj0
        go_wp2_with fail
        go_quiet (fail)
        go_wp2_with fail
        go_roundw
        case rel => exact ⟨1, by omega, rfl, below_dN HB.out _⟩
        case measure => simp [RowKit.intOf]; omega
      · go_wp2_with fail
        go_quiet (fail)
        go_wp2_with fail
        obtain ⟨i, hi⟩ : ∃ i, j = i + 1 := ⟨j - 1, by omega⟩
        have hil : i < L.length := by omega
        obtain ⟨wz, hwz⟩ : ∃ wz, wz = wr.drewN nq := ⟨_, rfl⟩
        rw [← hwz]
        have hbz : Below w3.heap.size w3 wz := by rw [hwz]; exact below_dN HB.out _
        have HBZ := Lib.hid hbz
        clear d0 d1 d2 d3 d4 d5 HCD hwz
        obtain ⟨v, hv⟩ : ∃ v, v = L[i] := ⟨_, rfl⟩
        have hc := ar_at (HAT.out wz hbz j hjl)
        have hd := ar_at (HAT.out wz hbz i hil)
        have hc' := ar_at (HAT.out wz.drew (below_dN hbz 1) j hjl)
        have hd' := ar_at (HAT.out wz.drew (below_dN hbz 1) i hil)
        rw [← HY.out] at hc hc'
        rw [← hv] at hd hd'
        have hbv := HWH.out.bound (List.getElem_mem hil)
        rw [← hv] at hbv
        have HNJ : Hid (¬ jn v ⟨yf, yt, yh, yp, yo, yx⟩) := by
          show ¬ _
          rw [hv, HY.out]
          subst hi
          exact jd_next HWH.out.jd hjl
        have hmo : v.t ≤ yf := by
          have := rs_mono HWH.out.jd.rs (show i < j by omega) hjl
          rw [← hv, ← HY.out] at this
          exact this
        obtain ⟨vf, vt, vh, vp, vo, vx⟩ := v
        dsimp only at hc hd hc' hd' hmo
        obtain ⟨y0, y1, y2, y3, y4, y5⟩ := hc
        obtain ⟨z0, z1, z2, z3, z4, z5⟩ := hd
        obtain ⟨y0', y1', y2', y3', y4', y5'⟩ := hc'
        obtain ⟨z0', z1', z2', z3', z4', z5'⟩ := hd'
        obtain ⟨a1, a2, a3, a4, a5⟩ := hbv
        dsimp only at a1 a2 a3 a4 a5
        have i0 : (0 : Int) ≤ i := by omega
        have i1 : (i : Int) < m := by omega
        have si : IntKind.i64.wrap ((j : Int) - 1) = (i : Int) := by rw [IntKind.wrap_i64]; omega
        have HV := Lib.hid hv
        have HI := Lib.hid hi
        clear hbz hv hi
        have gl : g < wz.heap.size := Nat.lt_of_lt_of_le hg HBZ.out.size
        have gn : ¬ g = wz.heap.size := by omega
        have gn2 : ¬ g = wz.heap.size + 1 := by omega
        have HGB : Hid (∀ o1 o2, Below w3.heap.size w3 ((wz.alloc o1).alloc o2).drew) := fun o1 o2 => below_dN ((HBZ.out.alloc HBZ.out.size o1).alloc (by have := HBZ.out.size; simp; omega) o2) 1
        have hof := fun w => shared_is vh w
        have w1 : IntKind.i64.wrap (yx - vx) = yx - vx := IntWalk.i64_in _ (by omega)
        have w2 : IntKind.i64.wrap (vt - vf) = vt - vf := IntWalk.i64_in _ (by omega)
        have nlt : ¬ yf < vt := by omega
        go_region
        all_goals
          clear y0 y1 y2 y3 y4 y5 z0 z1 z2 z3 z4 z5 y0' y1' y2' y3' y4' y5' z0' z1' z2' z3' z4' z5'
          by_cases e4 : yf = vt
          · have f4 : (yf == vt) = true := by simpa using e4
            by_cases e1 : vh = yh
            · have f1 : (vh == yh) = true := by simpa using e1
              by_cases e2 : vp = yp
              · have f2 : (vp == yp) = true := by simpa using e2
                by_cases e3 : vo = yo
                · have f3 : (vo == yo) = true := by simpa using e3
                  have hs : shr vh := by
                    by_cases c : shr vh
                    · exact c
                    · exact absurd ⟨e4, e1, e2, e3, fun hs => absurd hs c⟩ HNJ.out
                  have hne : ¬ yx - vx = vt - vf := fun e => HNJ.out ⟨e4, e1, e2, e3, fun _ => by show yx = vx + (vt - vf); omega⟩
                  have hne2 : (yx - vx == vt - vf) = false := by simpa using hne
                  rw [decide_eq_true hs] at hof
                  clear e1 e2 e3 e4
                  go_wp2_with (go_at_call 13; (with_reducible refine (hof _).mono ?_); rintro e w5 ⟨rfl, rfl⟩)
                  go_roundw
                  case rel => exact ⟨j + 1, by omega, by go_num, HGB.out _ _⟩
                  case measure => simp [RowKit.intOf]; omega
                · have f3 : (vo == yo) = false := by simpa using e3
                  clear e1 e2 e3 e4
                  go_wp2_with (go_at_call 13; (with_reducible refine (hof _).mono ?_); rintro e w5 ⟨rfl, rfl⟩)
                  go_roundw
                  case rel => exact ⟨j + 1, by omega, by go_num, HGB.out _ _⟩
                  case measure => simp [RowKit.intOf]; omega
              · have f2 : (vp == yp) = false := by simpa using e2
                clear e1 e2 e4
                go_wp2_with (go_at_call 13; (with_reducible refine (hof _).mono ?_); rintro e w5 ⟨rfl, rfl⟩)
                go_roundw
                case rel => exact ⟨j + 1, by omega, by go_num, HGB.out _ _⟩
                case measure => simp [RowKit.intOf]; omega
            · have f1 : (vh == yh) = false := by simpa using e1
              clear e1 e4
              go_wp2_with (go_at_call 13; (with_reducible refine (hof _).mono ?_); rintro e w5 ⟨rfl, rfl⟩)
              go_roundw
              case rel => exact ⟨j + 1, by omega, by go_num, HGB.out _ _⟩
              case measure => simp [RowKit.intOf]; omega
          · have f4 : (yf == vt) = false := by simpa using e4
            by_cases e1 : vh = yh
            · have f1 : (vh == yh) = true := by simpa using e1
              by_cases e2 : vp = yp
              · have f2 : (vp == yp) = true := by simpa using e2
                by_cases e3 : vo = yo
                · have f3 : (vo == yo) = true := by simpa using e3
                  clear e1 e2 e3 e4
                  go_wp2_with (go_at_call 13; (with_reducible refine (hof _).mono ?_); rintro e w5 ⟨rfl, rfl⟩)
                  go_roundw
                  case rel => exact ⟨j + 1, by omega, by go_num, HGB.out _ _⟩
                  case measure => simp [RowKit.intOf]; omega
                · have f3 : (vo == yo) = false := by simpa using e3
                  clear e1 e2 e3 e4
                  go_wp2_with (go_at_call 13; (with_reducible refine (hof _).mono ?_); rintro e w5 ⟨rfl, rfl⟩)
                  go_roundw
                  case rel => exact ⟨j + 1, by omega, by go_num, HGB.out _ _⟩
                  case measure => simp [RowKit.intOf]; omega
              · have f2 : (vp == yp) = false := by simpa using e2
                clear e1 e2 e4
                go_wp2_with (go_at_call 13; (with_reducible refine (hof _).mono ?_); rintro e w5 ⟨rfl, rfl⟩)
                go_roundw
                case rel => exact ⟨j + 1, by omega, by go_num, HGB.out _ _⟩
                case measure => simp [RowKit.intOf]; omega
            · have f1 : (vh == yh) = false := by simpa using e1
              clear e1 e4
              go_wp2_with (go_at_call 13; (with_reducible refine (hof _).mono ?_); rintro e w5 ⟨rfl, rfl⟩)
              go_roundw
              case rel => exact ⟨j + 1, by omega, by go_num, HGB.out _ _⟩
              case measure => simp [RowKit.intOf]; omega
    · obtain rfl : j = m := by omega
      have HB4 := Lib.hid (HB3.out.trans (hb.mono HB3.out.size))
      clear hb
      go_wp2_with fail
      go_ret
      exact ⟨ret_bool (by simp), HB4.out⟩
end Go.Proofs.Ytodepfgfgphkbaa
