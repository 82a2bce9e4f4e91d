/- AreaMany, walked. -/
import Derived.Test.YtodepfgfgphkbaaY7
namespace Go.Proofs.Ytodepfgfgphkbaa
open Go.RowKit
def pA : Pg := ⟨1, 1, 0, 0⟩
def aA (f t : Int) : Ar := ⟨f, t, 1, 1, 0, 0⟩
theorem aA_ok {f t : Int} (h : f < t) : ArOk (aA f t) := ⟨h, by show (1 : Int) ≠ 0; decide, fun _ => rfl⟩
theorem aA_pg (f t i : Int) : (aA f t).pg i = pA := by
  show (⟨1, 1, 0, if shr 1 then _ else 0⟩ : Pg) = _
  rw [if_neg notShr1]; rfl
theorem mapA_pg (P : Int → Pg) (a i : Int) : mapP P a 1 1 1 0 i = if i = a then pA else P i := by
  unfold mapP
  by_cases c : i = a
  · rw [if_pos c, if_pos (show inS a 1 i by unfold inS; omega), if_neg notShr1]; rfl
  · rw [if_neg c, if_neg (show ¬ inS a 1 i by unfold inS; omega)]
/-- One area more behind all. -/
theorem Whole.snoc {P : Int → Pg} {L : List Ar} (h : Whole P L) {a : Int} (hl : lst 0 L < a) (h1 : 1 ≤ a) (h4 : a + 1 ≤ 4096) : Whole (mapP P a 1 1 1 0) (L ++ [aA a (a + 1)]) ∧ usedB P a 1 = false ∧ lst 0 (L ++ [aA a (a + 1)]) = a + 1 := by
  refine ⟨⟨jd_snoc.2 ⟨h.jd, by show lst 0 L ≤ a; omega, aA_ok (by omega), fun b hb hj => ?_⟩, fun i => ?_, h.ok.map (by decide) (by omega) h4⟩, ?_, lst_snoc _ _ _⟩
  · have := ((jd_lst h.jd).2 b (List.mem_of_getLast? hb)).2
    have e : a = b.t := hj.1
    omega
  · rw [pgs_snoc h.jd (by show lst 0 L ≤ a; omega), h.pg, mapA_pg]
    show (if a ≤ i ∧ i < a + 1 then (aA a (a + 1)).pg i else P i) = _
    by_cases c : i = a
    · rw [if_pos c, if_pos (show a ≤ i ∧ i < a + 1 by omega), aA_pg]
    · rw [if_neg c, if_neg (show ¬ (a ≤ i ∧ i < a + 1) by omega)]
  · unfold usedB
    rw [anyB_false]
    intro k hk
    rw [← h.pg, h.jd.past (by omega)]
    rfl
def MP (k : Nat) : Nat → Int → Pg
  | 0 => fun _ => zP
  | i + 1 => mapP (MP k i) (1 + ((i * k : Nat) : Int)) 1 1 1 0
def ML (k : Nat) (i : Nat) : List Ar := (List.range i).map fun j => aA (1 + ((j * k : Nat) : Int)) (1 + ((j * k : Nat) : Int) + 1)
theorem ML_succ (k i : Nat) : ML k (i + 1) = ML k i ++ [aA (1 + ((i * k : Nat) : Int)) (1 + ((i * k : Nat) : Int) + 1)] := by unfold ML; rw [List.range_succ, List.map_append]; rfl
theorem ML_len (k i : Nat) : (ML k i).length = i := by unfold ML; rw [List.length_map, List.length_range]
theorem mul_le_k {i k : Nat} (hi : i ≤ 64) (hk : k ≤ 31) : i * k ≤ 1984 := Nat.mul_le_mul hi hk
theorem many {k : Nat} (h2 : 2 ≤ k) (hk : k ≤ 31) : ∀ i : Nat, i ≤ 64 → Whole (MP k i) (ML k i) ∧ lst 0 (ML k i) ≤ ((i * k : Nat) : Int)
  | 0, _ => ⟨nil_whole, by rw [Nat.zero_mul]; exact Int.le_refl _⟩
  | i + 1, hi => by
    obtain ⟨h, hl⟩ := many h2 hk i (by omega)
    have hm := mul_le_k (i := i) (k := k) (by omega) hk
    obtain ⟨w, _, e⟩ := h.snoc (a := 1 + ((i * k : Nat) : Int)) (by omega) (by omega) (by omega)
    rw [ML_succ]
    refine ⟨w, ?_⟩
    rw [e, Nat.add_mul]
    omega
theorem rt_one {a : Int} (h1 : 1 ≤ a) (h4 : a + 1 ≤ 4096) : rtI a 1 0 = 0 := by
  unfold rtI evB ordB
  rw [if_neg (by omega), if_neg (by simp), if_neg (by simp), if_neg (by omega)]
theorem map_one {P : Int → Pg} {a : Int} (h1 : 1 ≤ a) (h4 : a + 1 ≤ 4096) (hu : usedB P a 1 = false) : mapE P a 1 1 1 0 = if fullB (mapP P a 1 1 1 0) = true then 13 else 0 := by
  unfold mapE
  rw [if_neg (by decide), show ordO 1 = 0 from rfl, if_neg (by rw [rt_one h1 h4]; decide), if_neg (by rw [show ((1 : Int).toNat) = 1 from rfl, hu]; decide)]
theorem many_map {k : Nat} (h2 : 2 ≤ k) (hk : k ≤ 31) {i : Nat} (hi : i < 64) : mapE (MP k i) (1 + ((i * k : Nat) : Int)) 1 1 1 0 = 0 := by
  obtain ⟨h, hl⟩ := many h2 hk i (by omega)
  have hm := mul_le_k (i := i) (k := k) (by omega) hk
  obtain ⟨w, u, _⟩ := h.snoc (a := 1 + ((i * k : Nat) : Int)) (by omega) (by omega) (by omega)
  rw [map_one (by omega) (by omega) u, if_neg]
  unfold fullB
  rw [← w.all]
  simp only [List.length_append, ML_len, List.length_cons, List.length_nil]
  simp; omega
theorem many_full {k : Nat} (h2 : 2 ≤ k) (hk : k ≤ 31) : mapE (MP k 64) 4000 1 1 1 0 = 13 := by
  obtain ⟨h, hl⟩ := many h2 hk 64 (Nat.le_refl _)
  have hm := mul_le_k (i := 64) (k := k) (by omega) hk
  obtain ⟨w, u, _⟩ := h.snoc (a := 4000) (by omega) (by omega) (by omega)
  rw [map_one (by omega) (by omega) u, if_pos]
  unfold fullB
  rw [← w.all]
  simp only [List.length_append, ML_len, List.length_cons, List.length_nil]
  rfl
theorem many_two {k : Nat} (h2 : 2 ≤ k) (hk : k ≤ 31) : mapE (MP k 64) 2 1 1 1 0 = 0 ∧ (allA (mapP (MP k 64) 2 1 1 1 0)).length ≤ 64 := by
  obtain ⟨h, _⟩ := many h2 hk 64 (Nat.le_refl _)
  have e : ML k 64 = aA 1 2 :: aA (1 + (k : Int)) (1 + (k : Int) + 1) :: (ML k 64).drop 2 := by
    have e1 : (ML k 64)[0]'(by rw [ML_len]; decide) = aA 1 2 := by simp [ML]
    have e2 : (ML k 64)[1]'(by rw [ML_len]; decide) = aA (1 + (k : Int)) (1 + (k : Int) + 1) := by simp [ML]
    rw [← e1, ← e2, ← List.drop_eq_getElem_cons, ← List.drop_eq_getElem_cons, List.drop_zero]
  have hlen : ((ML k 64).drop 2).length = 62 := by rw [List.length_drop, ML_len]
  obtain ⟨R, hR⟩ : ∃ R, R = (ML k 64).drop 2 := ⟨_, rfl⟩
  rw [← hR] at e hlen
  rw [e] at h
  obtain ⟨_, _, _, j4⟩ := h.jd
  obtain ⟨_, k2, k3, k4⟩ := j4
  have hp : ∀ i, MP k 64 i = if 1 ≤ i ∧ i < 2 then pA else if 1 + (k : Int) ≤ i ∧ i < 1 + (k : Int) + 1 then pA else pgs R i := fun i => by
    rw [← h.pg]
    show (if 1 ≤ i ∧ i < 2 then (aA 1 2).pg i else if 1 + (k : Int) ≤ i ∧ i < 1 + (k : Int) + 1 then (aA (1 + (k : Int)) (1 + (k : Int) + 1)).pg i else pgs R i) = _
    rw [aA_pg, aA_pg]
  have hu : usedB (MP k 64) 2 1 = false := by
    unfold usedB
    rw [anyB_false]
    intro j hj
    have : j = 0 := by omega
    subst this
    rw [hp, if_neg (by omega), if_neg (by omega), k4.far (show (2 : Int) + ((0 : Nat) : Int) < 1 + (k : Int) + 1 by omega)]
    rfl
  have hok : PsOk (mapP (MP k 64) 2 1 1 1 0) := h.ok.map (by decide) (by decide) (by decide)
  have hw : ∃ L, Whole (mapP (MP k 64) 2 1 1 1 0) L ∧ L.length ≤ 64 := by
    by_cases c : k = 2
    · refine ⟨aA 1 4 :: R, ⟨⟨by decide, aA_ok (by decide), fun b hb hj => k3 b hb ⟨?_, hj.2.1, hj.2.2.1, hj.2.2.2.1, fun hs => absurd hs notShr1⟩, k4.mono (by show (4 : Int) ≤ 1 + (k : Int) + 1; omega)⟩, fun i => ?_, hok⟩, by simp only [List.length_cons]; omega⟩
      · have e1 : b.f = 4 := hj.1
        show b.f = 1 + (k : Int) + 1
        omega
      · rw [mapA_pg, hp]
        show (if 1 ≤ i ∧ i < 4 then (aA 1 4).pg i else pgs R i) = _
        rw [aA_pg]
        by_cases d : 1 ≤ i ∧ i < 4
        · rw [if_pos d]
          by_cases d2 : i = 2
          · rw [if_pos d2]
          · rw [if_neg d2]
            by_cases d3 : 1 ≤ i ∧ i < 2
            · rw [if_pos d3]
            · rw [if_neg d3, if_pos (by omega)]
        · rw [if_neg d, if_neg (by omega), if_neg (by omega), if_neg (by omega)]
    · refine ⟨aA 1 3 :: aA (1 + (k : Int)) (1 + (k : Int) + 1) :: R, ⟨⟨by decide, aA_ok (by decide), fun b hb hj => ?_, by show (3 : Int) ≤ 1 + (k : Int); omega, k2, k3, k4⟩, fun i => ?_, hok⟩, by simp only [List.length_cons]; omega⟩
      · injection hb with hb
        subst hb
        have e1 : 1 + (k : Int) = 3 := hj.1
        omega
      · rw [mapA_pg, hp]
        show (if 1 ≤ i ∧ i < 3 then (aA 1 3).pg i else if 1 + (k : Int) ≤ i ∧ i < 1 + (k : Int) + 1 then (aA (1 + (k : Int)) (1 + (k : Int) + 1)).pg i else pgs R i) = _
        rw [aA_pg, aA_pg]
        by_cases d : 1 ≤ i ∧ i < 3
        · rw [if_pos d]
          by_cases d2 : i = 2
          · rw [if_pos d2]
          · rw [if_neg d2, if_pos (by omega)]
        · rw [if_neg d, if_neg (show ¬ i = 2 by omega), if_neg (show ¬ (1 ≤ i ∧ i < 2) by omega)]
  obtain ⟨L, w, hL⟩ := hw
  have hle : (allA (mapP (MP k 64) 2 1 1 1 0)).length ≤ 64 := by rw [← w.all]; exact hL
  refine ⟨?_, hle⟩
  rw [map_one (by decide) (by decide) hu, if_neg]
  unfold fullB
  simp; omega
set_option maxHeartbeats 2000000 in
set_option maxRecDepth 100000 in
theorem many_walk (w : World) {z : Int} (h0 : 0 ≤ z) (h1 : z < 256) : Calls Try.prog 7 #[.int .u8 z] w fun e w' => e = .returned (.bool true) ∧ Below w.heap.size w w' := by
  obtain ⟨z, rfl⟩ : ∃ k : Nat, z = k := ⟨z.toNat, by omega⟩
  obtain ⟨k, hk⟩ : ∃ k, k = z % 30 + 2 := ⟨_, rfl⟩
  have hk2 : 2 ≤ k := by omega
  have hk31 : k ≤ 31 := by omega
  have hkz : ((z : Int) % 30) + 2 = (k : Int) := by omega
  have hnew := new_pr w
  have HK := Lib.hid (And.intro hk2 hk31)
  clear h0 hk
  go_enter Try.func7, Try.ntmps7
  go_wp2_with fail
  refine hnew.mono ?_
  rintro e w1 ⟨s, rfl, hx1, hb1⟩
  have HX1 := Lib.hid hx1
  have HB1 := Lib.hid hb1
  clear hnew hx1 hb1
  go_wp2_with fail
  refine (awake_any _).mono ?_
  rintro e w2 ⟨rfl, hb2⟩
  have HB2 : Hid (Below w.heap.size w w2) := HB1.out.trans (hb2.mono HB1.out.size)
  have HX2 := Lib.hid (HX1.out.call hb2)
  clear hb2
  go_wp2_with fail
  try rw [hkz]
  go_loopw [5] (fun i wr => ∃ j : Nat, j ≤ 64 ∧ i = .int .i64 j ∧ (∃ A c l, AtX w.heap.size wr s A c l (MP k j)) ∧ Below w.heap.size w wr) (fun i _ => 64 - (RowKit.intOf i).toNat)
  case atStart => exact ⟨0, by omega, rfl, ⟨_, _, _, HX2.out⟩, HB2.out⟩
  case round =>
    obtain ⟨j, hj, rfl, ⟨A, c, l, hx⟩, hb⟩ := hrel
    have HX := Lib.hid hx
    have HB := Lib.hid hb
    clear hb
    by_cases hlt : j < 64
    · have hm := mul_le_k (i := j) (k := k) (by omega) HK.out.2
      obtain ⟨q, hq⟩ : ∃ q, q = j * k := ⟨_, rfl⟩
      have hmp := map_pr hx (a := 1 + (q : Int)) (n := 1) (how := 1) (p := 1) (o := 0) (by unfold Fits; omega) (by unfold Fits; omega)
      rw [show mapE (MP k j) (1 + (q : Int)) 1 1 1 0 = 0 by rw [hq]; exact many_map HK.out.1 HK.out.2 hlt, show mapP (MP k j) (1 + (q : Int)) 1 1 1 0 = MP k (j + 1) by rw [hq]; rfl] at hmp
      have s1 : IntKind.i64.wrap ((j : Int) * (k : Int)) = (q : Int) := by rw [show (j : Int) * (k : Int) = (q : Int) by rw [hq]; simp]; exact IntWalk.i64_in _ (by omega)
      have s2 : IntKind.i64.wrap (1 + (q : Int)) = 1 + (q : Int) := IntWalk.i64_in _ (by omega)
      have hjl : (j : Int) < 64 := by omega
      clear hx hm hq
      go_wp2_with fail
      refine hmp.mono ?_
      rintro e w3 ⟨rfl, hd⟩
      rw [if_pos rfl] at hd
      have HB3 := Lib.hid (HB.out.trans (did_below HX.out hd))
      have HX3 := Lib.hid hd.1
      clear hmp hd
      go_wp2_with fail
      go_roundw
      case rel => exact ⟨j + 1, by omega, by go_num, HX3.out, HB3.out⟩
      case measure => simp [RowKit.intOf]; omega
    · obtain rfl : j = 64 := by omega
      have hal := all_pr hx
      have hlen : l.length = 64 := by rw [hx.wh.all, ← (many HK.out.1 HK.out.2 64 (Nat.le_refl _)).1.all, ML_len]
      have HLEN := Lib.hid hlen
      unfold ToldL at hal
      rw [hlen] at hal
      clear hx hlen
      go_wp2_with fail
      refine hal.mono ?_
      rintro e w3 ⟨A3, c3, rfl, ho3, hb3⟩
      have HX3 := Lib.hid (HX.out.call hb3)
      have HB3 := Lib.hid (HB.out.trans (hb3.mono HB.out.size))
      have HO3 := Lib.hid ho3
      have hmp := map_pr HX3.out (a := 4000) (n := 1) (how := 1) (p := 1) (o := 0) (by unfold Fits; omega) (by unfold Fits; omega)
      rw [many_full HK.out.1 HK.out.2] at hmp
      clear hal ho3 hb3
      go_wp2_with fail
      refine hmp.mono ?_
      rintro e w4 ⟨rfl, hd⟩
      rw [if_neg (by decide)] at hd
      have HB4 := Lib.hid (HB3.out.trans (did_below HX3.out hd))
      have HO4 := Lib.hid (own_prog HO3.out ⟨_, _, _, HX3.out⟩ hd)
      obtain ⟨⟨A4, c4, l4, hx4⟩, -⟩ := hd
      have hl4 : l4 = l := hx4.wh.all.trans HX.out.wh.all.symm
      subst hl4
      have hal := all_pr hx4
      unfold ToldL at hal
      rw [HLEN.out] at hal
      have HX4 := Lib.hid hx4
      clear hmp hx4
      go_wp2_with fail
      refine hal.mono ?_
      rintro e w5 ⟨A5, c5, rfl, ho5, hb5⟩
      have HB5 := Lib.hid (HB4.out.trans (hb5.mono HB4.out.size))
      have HX5 := Lib.hid (HX4.out.call hb5)
      have hsm := same_yes (c := c3) (c' := c5) (n := 64) (m := 64) (L := l4) ((HO4.out.call hb5).ls) (Enc.Own.ls ho5) HLEN.out HLEN.out (by rw [HLEN.out]; decide)
      clear hal ho5 hb5
      go_wp2_with fail
      refine hsm.mono ?_
      rintro e w6 ⟨rfl, hb6⟩
      have HB6 := Lib.hid (HB5.out.trans (hb6.mono HB5.out.size))
      have HX6 := Lib.hid (HX5.out.call hb6)
      obtain ⟨m1, m2⟩ := many_two HK.out.1 HK.out.2
      have hmp := map_pr HX6.out (a := 2) (n := 1) (how := 1) (p := 1) (o := 0) (by unfold Fits; omega) (by unfold Fits; omega)
      rw [m1] at hmp
      have HM2 := Lib.hid m2
      clear hsm hb6 m1 m2
      go_wp2_with fail
      refine hmp.mono ?_
      rintro e w7 ⟨rfl, hd⟩
      rw [if_pos rfl] at hd
      have HB7 := Lib.hid (HB6.out.trans (did_below HX6.out hd))
      obtain ⟨⟨A7, c7, l7, hx7⟩, -⟩ := hd
      have hal := all_pr hx7
      have hl7 : l7.length ≤ 64 := by rw [hx7.wh.all]; exact HM2.out
      unfold ToldL at hal
      generalize l7.length = m at hal hl7
      have hm7 : (m : Int) ≤ 64 := by omega
      clear hmp hx7
      go_wp2_with fail
      refine hal.mono ?_
      rintro e w8 ⟨A8, c8, rfl, -, hb8⟩
      have HB8 := Lib.hid (HB7.out.trans (hb8.mono HB7.out.size))
      clear hal hb8
      go_wp2_with fail
      go_ret
      exact ⟨ret_bool (by simp), HB8.out⟩
end Go.Proofs.Ytodepfgfgphkbaa
