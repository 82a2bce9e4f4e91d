/- The program's spaces: where there is room. -/
import Derived.Test.YtnppnoabhpkmkaaGreatMg20
namespace Go.Proofs.YtnppnoabhpkmkaaGreat
open Go.RowKit
def upS (sz t : Int) : Int := (t + sz - 1) - (t + sz - 1) % sz
theorem up_facts {sz : Int} (hs : sz = 1 ∨ sz = 8 ∨ sz = 64) (t : Int) : t ≤ upS sz t ∧ upS sz t % sz = 0 ∧ upS sz t < t + sz ∧ (∀ p, p % sz = 0 → p < upS sz t → p < t) ∧ ∀ m, m ≤ t → upS sz m ≤ upS sz t := by
  unfold upS
  rcases hs with rfl | rfl | rfl <;> exact ⟨by omega, by omega, by omega, fun p _ _ => by omega, fun m _ => by omega⟩
/-- The least page behind one area after the other. -/
def rmG (n sz : Int) : List Ar → Int → Int
  | [], a => a
  | x :: r, a => if a + n ≤ x.f then a else rmG n sz r (upS sz x.t)
theorem rmG_spec {P : Int → Pg} {n sz : Int} (hs : sz = 1 ∨ sz = 8 ∨ sz = 64) (hn : 1 ≤ n) (far : ∀ i, ¬ (0 ≤ i ∧ i < 4096) → P i = zP) : ∀ (l : List Ar) (lo a : Int), Jd lo l → 0 ≤ lo → (∀ x ∈ l, x.t ≤ 4096) → a % sz = 0 → 1 ≤ a → a ≤ 4160 → (∃ m, (m ≤ lo ∨ m ≤ 1) ∧ a = upS sz m) → (∀ i, a ≤ i → pgs l i = P i) → (∀ p, 1 ≤ p → p < a → ¬ rmB P n sz p) →
    1 ≤ rmG n sz l a ∧ rmG n sz l a ≤ 4160 ∧ (∀ p, 1 ≤ p → p < rmG n sz l a → ¬ rmB P n sz p) ∧ (rmG n sz l a + n ≤ 4096 → rmB P n sz (rmG n sz l a))
  | [], lo, a, hj, hlo, h4, ha, ha1, ha4, hm, hp, hb => by
    refine ⟨ha1, ha4, hb, fun h => ⟨ha, h, fun i h1 h2 => ?_⟩⟩
    have : pgs [] i = P i := hp i h1
    rw [← this]; rfl
  | x :: r, lo, a, hj, hlo, h4, ha, ha1, ha4, ⟨m, hm1, hm2⟩, hp, hb => by
    obtain ⟨j1, j2, j3, j4⟩ := hj
    have hx := h4 x (List.mem_cons_self ..)
    have hft := j2.1
    have hE : ∀ i, pgs (x :: r) i = if x.f ≤ i ∧ i < x.t then x.pg i else pgs r i := fun i => rfl
    unfold rmG
    by_cases c : a + n ≤ x.f
    · rw [if_pos c]
      refine ⟨ha1, ha4, hb, fun h => ⟨ha, h, fun i h1 h2 => ?_⟩⟩
      rw [← hp i h1, hE, if_neg (by omega), j4.far (by omega)]; rfl
    · rw [if_neg c]
      obtain ⟨u1, u2, u3, u4, u5⟩ := up_facts hs x.t
      have hle : a ≤ upS sz x.t := by rw [hm2]; exact u5 m (by omega)
      refine rmG_spec hs hn far r x.t (upS sz x.t) j4 (by omega) (fun y hy => h4 y (List.mem_cons_of_mem _ hy)) u2 (by omega) (by omega) ⟨x.t, Or.inl (Int.le_refl _), rfl⟩ (fun i hi => ?_) fun p p1 p2 hr => ?_
      · rw [← hp i (by omega), hE, if_neg (by omega)]
      · by_cases c2 : p < a
        · exact hb p p1 c2 hr
        · obtain ⟨q1, q2, q3⟩ := hr
          have := u4 p q1 p2
          have h5 := q3 (max p x.f) (by omega) (by omega)
          rw [← hp (max p x.f) (by omega), hE, if_pos (by omega)] at h5
          exact j2.2.1 h5
theorem room_eq {P : Int → Pg} {l : List Ar} (hw : Whole P l) {n sz : Int} (hs : sz = 1 ∨ sz = 8 ∨ sz = 64) (hn : 1 ≤ n) : roomP P n sz = (if 4096 < rmG n sz l sz + n then 0 else rmG n sz l sz) ∧ 1 ≤ rmG n sz l sz ∧ rmG n sz l sz ≤ 4160 := by
  obtain ⟨r1, r2, r3, r4⟩ := rmG_spec (P := P) hs hn hw.ok.far l 0 sz hw.jd (Int.le_refl _) (fun x hx => (hw.bound hx).t4) (by rcases hs with rfl | rfl | rfl <;> rfl) (by omega) (by omega) ⟨1, Or.inr (Int.le_refl _), by unfold upS; rcases hs with rfl | rfl | rfl <;> rfl⟩ (fun i _ => hw.pg i) (fun p p1 p2 hr => by
    have := hr.1
    rcases hs with rfl | rfl | rfl <;> omega)
  refine ⟨?_, r1, r2⟩
  generalize rmG n sz l sz = r at *
  rcases room_spec (P := P) (n := n) (sz := sz) (by omega) with ⟨e, h⟩ | ⟨h1, h2, h3, h4⟩
  · rw [e]
    by_cases c : 4096 < r + n
    · rw [if_pos c]
    · exact absurd (r4 (by omega)) (h r r1 (by omega))
  · by_cases c : 4096 < r + n
    · have := h3.2.1
      exact absurd h3 (r3 _ h1 (by omega))
    · rw [if_neg c]
      by_cases c1 : roomP P n sz < r
      · exact absurd h3 (r3 _ h1 c1)
      · by_cases c2 : r < roomP P n sz
        · exact absurd (r4 (by omega)) (h4 r r1 c2)
        · omega
theorem rt_13 (a n k : Int) : rtI a n k ≠ 13 := by
  unfold rtI
  split
  · omega
  · split
    · omega
    · split
      · omega
      · split <;> omega
theorem mapA_o {how p o : Int} (h0 : 0 ≤ o) (h1 : 0 < o → shr how) : mapA how p o = mapA how p 0 := by
  unfold mapA
  rw [decide_eq_false (show ¬ o < 0 by omega), decide_eq_false (show ¬ (0 : Int) < 0 by omega)]
  congr 1
  by_cases c : 0 < o
  · rw [decide_eq_true c, decide_eq_true (h1 c)]; rfl
  · rw [decide_eq_false c]
theorem full0 {a n how p o : Int} (e : mapA how p o = false) (hr : rtI a n (ordO how) = 0) : fullB (mapP (fun _ => zP) a n how p o) = false := by
  cases hf : fullB (mapP (fun _ => zP) a n how p o) with
  | false => rfl
  | true =>
    have hu : usedB (fun _ => zP) a n.toNat = false := by
      unfold usedB
      exact anyB_false.2 fun i _ => rfl
    have h13 : mapE (fun _ => zP) a n how p o = 13 := by
      unfold mapE
      rw [if_neg (by rw [e]; decide), if_neg (by rw [hr]; decide), if_neg (by rw [hu]; decide), if_pos hf]
    have h64 := map_full h13 (rt_13 _ _ _)
    rw [← nil_whole.all] at h64
    simp at h64
theorem mapE_o {a n how p o : Int} (h0 : 0 ≤ o) (h1 : 0 < o → shr how) : mapE (fun _ => zP) a n how p o = mapE (fun _ => zP) a n how p 0 := by
  have ho := mapA_o (p := p) h0 h1
  unfold mapE
  rw [ho]
  by_cases c1 : mapA how p 0 = true
  · rw [if_pos c1, if_pos c1]
  · rw [if_neg c1, if_neg c1]
    by_cases c2 : rtI a n (ordO how) ≠ 0
    · rw [if_pos c2, if_pos c2]
    · have c2 : rtI a n (ordO how) = 0 := Classical.byContradiction c2
      rw [full0 (by rw [ho]; simpa using c1) c2, full0 (o := 0) (by simpa using c1) c2]
theorem shl_sz (how : Int) : ordO how = 0 ∧ szO how = 1 ∨ ordO how = 3 ∧ szO how = 8 ∨ ordO how = 6 ∧ szO how = 64 := by
  unfold ordO szO
  by_cases c : how = 3 ∨ how = 5 ∨ how = 6
  · rw [if_pos c, if_pos c]; omega
  · rw [if_neg c, if_neg c]
    by_cases d : how = 4
    · rw [if_pos d, if_pos d]; omega
    · rw [if_neg d, if_neg d]; omega
theorem dn_up {how t : Int} : dnI (t + szO how - 1) (ordO how) = upS (szO how) t := by
  unfold dnI upS
  rcases shl_sz how with ⟨e1, e2⟩ | ⟨e1, e2⟩ | ⟨e1, e2⟩ <;> rw [e1, e2] <;> rfl
end Go.Proofs.YtnppnoabhpkmkaaGreat
/- The program's spaces: the search for room. -/
namespace Go.Proofs.YtnppnoabhpkmkaaGreat
open Go.RowKit
section
variable {w w' : World} {B bx : Nat} {T : PfT} {F F' : Fl} {s s' : PsB} {S S' : Sp} {j : Nat} {n : Int}
set_option maxRecDepth 100000 in
set_option maxHeartbeats 1000000 in
theorem room_no (h : PfAt B w T F) (hs : T.LS[j]? = some (some s)) (hn : Fits n) (k i a hw p t c v : Int) (hE0 : mapE (fun _ => zP) (szO hw) n hw p 0 ≠ 0) :
    Calls Tryz.prog 65 #[.pointer (some ⟨s.sb, 0, none⟩), .agg #[.int .i64 k, .int .i64 i, .int .i64 a, .int .i64 n, .int .i64 hw, .int .i64 p, .int .i64 t, .int .i64 c, .int .u64 v]] w fun e w' => e = .returned (.tuple #[.int .i64 0, .int .i64 (mapE (fun _ => zP) (szO hw) n hw p 0)]) ∧ Below w.heap.size w w' := by
  obtain ⟨gS, hp⟩ := h.at_ hs
  have hjF : j < F.L.length := by rw [← h.nl]; exact (List.getElem?_eq_some_iff.1 hs).1
  obtain ⟨W0, hW0⟩ : ∃ W0, W0 = w.alloc (.cells #[.int .i64 k, .int .i64 i, .int .i64 a, .int .i64 n, .int .i64 hw, .int .i64 p, .int .i64 t, .int .i64 c, .int .u64 v] 25) := ⟨_, rfl⟩
  obtain ⟨bo, hbo⟩ : ∃ bo, bo = w.heap.size := ⟨_, rfl⟩
  have hb0 : Below w.heap.size w W0 := by rw [hW0]; exact below_new _ _
  have hr0 : Lrow W0 bo 25 [.int .i64 k, .int .i64 i, .int .i64 a, .int .i64 n, .int .i64 hw, .int .i64 p, .int .i64 t, .int .i64 c, .int .u64 v] := by rw [hW0, hbo]; exact Lrow.new w _ [.int .i64 k, .int .i64 i, .int .i64 a, .int .i64 n, .int .i64 hw, .int .i64 p, .int .i64 t, .int .i64 c, .int .u64 v]
  have hp0 := hp.call hb0
  have HW := Lib.hid (And.intro hW0 hbo)
  have HB := Lib.hid hb0
  have HR := Lib.hid hr0
  have HP := Lib.hid hp0
  have HH := Lib.hid (And.intro h hs)
  have hor := fun w => ford_is hw w
  have HOR := shl_sz hw
  have hsh : ∀ w, (Op.shift .shl .i64 1 .i64 (ordO hw)).run Tryz.prog w = .ok (.int .i64 (szO hw)) w := by
    intro w
    rcases HOR with ⟨e1, e2⟩ | ⟨e1, e2⟩ | ⟨e1, e2⟩ <;> rw [e1, e2] <;> kernel_rfl
  have hf : Fits (szO hw) := by unfold Fits; omega
  have hmp := fun {B w xa A c} (hx : AtX B w xa A c [] fun _ => zP) => map_pr hx hf hn (how := hw) (p := p) (o := 0)
  have hz1 : 1 ≤ szO hw ∧ szO hw ≤ 64 := by omega
  obtain ⟨E, hE⟩ : ∃ E, E = mapE (fun _ => zP) (szO hw) n hw p 0 := ⟨_, rfl⟩
  unfold DidM at hmp
  rw [← hE] at hmp hE0 ⊢
  have HMP := Lib.hid (fun B w xa A c hx => @hmp B w xa A c hx)
  have e0 : (E == 0) = false := by simpa using hE0
  have o4 := hr0.cell 4
  clear h hs hn hp hjF hW0 hbo hb0 hr0 hp0 gS hE hE0 HOR hf hmp
  generalize ordO hw = od at *
  obtain ⟨sz, hsz⟩ : ∃ sz, sz = szO hw := ⟨_, rfl⟩
  rw [← hsz] at HMP hsh hz1
  clear hsz
  go_enter Tryz.func65, Tryz.ntmps65
  go_upto_region 1 with (fail)
  rw [← HW.out.1, ← HW.out.2]
  go_wp2_with (go_at_call 84; (with_reducible refine (hor _).mono ?_); rintro e w1 ⟨rfl, rfl⟩)
  have hs0 : (fun U : World => U.cell? ⟨bo, 3, none⟩ = some (.int .i64 n) ∧ U.cell? ⟨bo, 4, none⟩ = some (.int .i64 hw) ∧ U.cell? ⟨bo, 5, none⟩ = some (.int .i64 p)) W0.drew := ⟨HR.out.cell 3, HR.out.cell 4, HR.out.cell 5⟩
  go_region_held3 (fun U => U.cell? ⟨bo, 3, none⟩ = some (.int .i64 n) ∧ U.cell? ⟨bo, 4, none⟩ = some (.int .i64 hw) ∧ U.cell? ⟨bo, 5, none⟩ = some (.int .i64 p))
    (first | exact hs0 | exact hs8 | exact hs9)
    (first | (go_at_call 64; (with_reducible refine (new_pr _).mono ?_); rintro e w1 ⟨xa, rfl, hx, hb1⟩; have r1 := (HR.out.drewN 1).call hb1; have hs8 : (fun U : World => U.cell? ⟨bo, 3, none⟩ = some (.int .i64 n) ∧ U.cell? ⟨bo, 4, none⟩ = some (.int .i64 hw) ∧ U.cell? ⟨bo, 5, none⟩ = some (.int .i64 p)) w1 := ⟨r1.cell 3, r1.cell 4, r1.cell 5⟩) | (go_at_call 66; (with_reducible refine (HMP.out _ _ _ _ _ hx).mono ?_); rintro e w2 ⟨rfl, hd2⟩; have hb2 : Below W0.drew.heap.size W0.drew w2 := hb1.trans (hd2.2.below hb1.size fun b hb => by rw [hb]; exact hx.lo); have r2 := (HR.out.drewN 1).call hb2; have hs9 : (fun U : World => U.cell? ⟨bo, 3, none⟩ = some (.int .i64 n) ∧ U.cell? ⟨bo, 4, none⟩ = some (.int .i64 hw) ∧ U.cell? ⟨bo, 5, none⟩ = some (.int .i64 p)) w2 := ⟨r2.cell 3, r2.cell 4, r2.cell 5⟩) | fail)
  all_goals
    have HB2 := Lib.hid (HB.out.trans (((below_dN (Below.refl _ _) 1).mono HB.out.size).trans (hb2.mono HB.out.size)))
    clear hs0 hs8 hs9 hd2 hx hb1 hb2 r1 r2
    go_wp2_with fail
    go_ret2
    exact ⟨rfl, HB2.out⟩
set_option maxRecDepth 100000 in
set_option maxHeartbeats 1000000 in
theorem room_ok (h : PfAt B w T F) (hs : T.LS[j]? = some (some s)) (hn : Fits n) (k i a hw p t c v : Int) (hE0 : mapE (fun _ => zP) (szO hw) n hw p 0 = 0) :
    Calls Tryz.prog 65 #[.pointer (some ⟨s.sb, 0, none⟩), .agg #[.int .i64 k, .int .i64 i, .int .i64 a, .int .i64 n, .int .i64 hw, .int .i64 p, .int .i64 t, .int .i64 c, .int .u64 v]] w fun e w' => e = .returned (.tuple #[.int .i64 (if 4096 < rmG n (szO hw) s.l (szO hw) + n then 0 else rmG n (szO hw) s.l (szO hw)), .int .i64 (if 4096 < rmG n (szO hw) s.l (szO hw) + n then 13 else 0)]) ∧ Below w.heap.size w w' := by
  obtain ⟨gS, hp⟩ := h.at_ hs
  have hjF : j < F.L.length := by rw [← h.nl]; exact (List.getElem?_eq_some_iff.1 hs).1
  obtain ⟨W0, hW0⟩ : ∃ W0, W0 = w.alloc (.cells #[.int .i64 k, .int .i64 i, .int .i64 a, .int .i64 n, .int .i64 hw, .int .i64 p, .int .i64 t, .int .i64 c, .int .u64 v] 25) := ⟨_, rfl⟩
  obtain ⟨bo, hbo⟩ : ∃ bo, bo = w.heap.size := ⟨_, rfl⟩
  have hb0 : Below w.heap.size w W0 := by rw [hW0]; exact below_new _ _
  have hr0 : Lrow W0 bo 25 [.int .i64 k, .int .i64 i, .int .i64 a, .int .i64 n, .int .i64 hw, .int .i64 p, .int .i64 t, .int .i64 c, .int .u64 v] := by rw [hW0, hbo]; exact Lrow.new w _ [.int .i64 k, .int .i64 i, .int .i64 a, .int .i64 n, .int .i64 hw, .int .i64 p, .int .i64 t, .int .i64 c, .int .u64 v]
  have hp0 := hp.call hb0
  have HW := Lib.hid (And.intro hW0 hbo)
  have HB := Lib.hid hb0
  have HR := Lib.hid hr0
  have HP := Lib.hid hp0
  have HH := Lib.hid (And.intro h hs)
  have hor := fun w => ford_is hw w
  have HOR := shl_sz hw
  have hsh : ∀ w, (Op.shift .shl .i64 1 .i64 (ordO hw)).run Tryz.prog w = .ok (.int .i64 (szO hw)) w := by
    intro w
    rcases HOR with ⟨e1, e2⟩ | ⟨e1, e2⟩ | ⟨e1, e2⟩ <;> rw [e1, e2] <;> kernel_rfl
  have hf : Fits (szO hw) := by unfold Fits; omega
  have hmp := fun {B w xa A c} (hx : AtX B w xa A c [] fun _ => zP) => map_pr hx hf hn (how := hw) (p := p) (o := 0)
  have hz1 : 1 ≤ szO hw ∧ szO hw ≤ 64 := by omega
  obtain ⟨m1, m2, -, -⟩ := mapE_ok hE0
  obtain ⟨z1, z2, z3⟩ := rt_in m2
  unfold DidM at hmp
  rw [hE0] at hmp
  have HMP := Lib.hid (fun B w xa A c hx => @hmp B w xa A c hx)
  have o4 := hr0.cell 4
  have hdn := fun (t : Int) (w : World) (h1 : 0 ≤ t) (h2 : t ≤ 4096) => down_any (o := ordO hw) (t + szO hw - 1) (by omega) (by omega) w
  simp only [dn_up] at hdn
  have HUP := Lib.hid (up_facts (sz := szO hw) (by rcases HOR with e | e | e <;> omega))
  have HAS : Hid (∀ x ∈ s.l, ArS x) := fun x hx => hp.ars.wh.bound hx
  have HOWN := Lib.hid hp.ars
  have hl4 := hp.ars.len
  clear h hs hn hp hjF hW0 hbo hb0 hr0 hp0 gS hE0 hf hmp m1 m2 HOR
  generalize ordO hw = od at *
  obtain ⟨sz, hsz⟩ : ∃ sz, sz = szO hw := ⟨_, rfl⟩
  rw [← hsz] at HMP hsh hz1 hdn HUP z3 ⊢
  clear hsz
  obtain ⟨R, hR⟩ : ∃ R, R = rmG n sz s.l sz := ⟨_, rfl⟩
  rw [← hR]
  obtain ⟨V, hV⟩ : ∃ V, V = (if 4096 < R + n then 0 else R) := ⟨_, rfl⟩
  obtain ⟨V2, hV2⟩ : ∃ V : Int, V = (if 4096 < R + n then 13 else 0) := ⟨_, rfl⟩
  rw [← hV, ← hV2]
  have HV := Lib.hid (And.intro hV hV2)
  have HRR := Lib.hid hR
  obtain ⟨m, hm⟩ : ∃ m, m = s.l.length := ⟨_, rfl⟩
  rw [← hm] at hl4
  have HM := Lib.hid hm
  clear hR hm hV hV2
  go_enter Tryz.func65, Tryz.ntmps65
  go_upto_region 1 with (fail)
  rw [← HW.out.1, ← HW.out.2]
  go_wp2_with (go_at_call 84; (with_reducible refine (hor _).mono ?_); rintro e w1 ⟨rfl, rfl⟩)
  have hs0 : (fun U : World => U.cell? ⟨bo, 3, none⟩ = some (.int .i64 n) ∧ U.cell? ⟨bo, 4, none⟩ = some (.int .i64 hw) ∧ U.cell? ⟨bo, 5, none⟩ = some (.int .i64 p)) W0.drew := ⟨HR.out.cell 3, HR.out.cell 4, HR.out.cell 5⟩
  go_region_held3 (fun U => U.cell? ⟨bo, 3, none⟩ = some (.int .i64 n) ∧ U.cell? ⟨bo, 4, none⟩ = some (.int .i64 hw) ∧ U.cell? ⟨bo, 5, none⟩ = some (.int .i64 p))
    (first | exact hs0 | exact hs8 | exact hs9)
    (first | (go_at_call 64; (with_reducible refine (new_pr _).mono ?_); rintro e w1 ⟨xa, rfl, hx, hb1⟩; have r1 := (HR.out.drewN 1).call hb1; have hs8 : (fun U : World => U.cell? ⟨bo, 3, none⟩ = some (.int .i64 n) ∧ U.cell? ⟨bo, 4, none⟩ = some (.int .i64 hw) ∧ U.cell? ⟨bo, 5, none⟩ = some (.int .i64 p)) w1 := ⟨r1.cell 3, r1.cell 4, r1.cell 5⟩) | (go_at_call 66; (with_reducible refine (HMP.out _ _ _ _ _ hx).mono ?_); rintro e w2 ⟨rfl, hd2⟩; have hb2 : Below W0.drew.heap.size W0.drew w2 := hb1.trans (hd2.2.below hb1.size fun b hb => by rw [hb]; exact hx.lo); have r2 := (HR.out.drewN 1).call hb2; have hs9 : (fun U : World => U.cell? ⟨bo, 3, none⟩ = some (.int .i64 n) ∧ U.cell? ⟨bo, 4, none⟩ = some (.int .i64 hw) ∧ U.cell? ⟨bo, 5, none⟩ = some (.int .i64 p)) w2 := ⟨r2.cell 3, r2.cell 4, r2.cell 5⟩) | fail)
  all_goals
    have HB2 := Lib.hid (HB.out.trans (((below_dN (Below.refl _ _) 1).mono HB.out.size).trans (hb2.mono HB.out.size)))
    have hal := all_pr (HOWN.out.call HB2.out)
    unfold ToldL at hal
    rw [← HM.out] at hal
    have t0 : w2.cell? ⟨s.sb, 0, none⟩ = some (.pointer (some ⟨s.ab, 0, none⟩)) := (((HP.out.call (below_dN (Below.refl _ _) 1)).call hb2).top).cell 0
    have HR2 := Lib.hid r2
    clear hs0 hs8 hs9 hd2 hx hb1 hb2 r1 r2
    go_wp2_with fail
    refine hal.mono ?_
    rintro e w3 ⟨A3, c3, rfl, ho, hb3⟩
    have HB3 := Lib.hid (HB2.out.trans (hb3.mono HB2.out.size))
    have HR3 := Lib.hid (HR2.out.call hb3)
    have HO := Lib.hid (LsD.of ho (Nat.le_refl _))
    clear hal t0 ho hb3
    go_wp2_with fail
    go_loopw [8, 34] (fun v8 v34 wr => ∃ (q : Nat) (at_ : Int), q ≤ m ∧ v8 = .int .i64 at_ ∧ v34 = .int .i64 q ∧ 1 ≤ at_ ∧ at_ ≤ 4160 ∧ R = rmG n sz (s.l.drop q) at_ ∧ Below w3.heap.size w3 wr) (fun _ v34 _ => m - (RowKit.intOf v34).toNat)
    case atStart => exact ⟨0, sz, Nat.zero_le _, rfl, rfl, by omega, by omega, HRR.out, Below.refl _ _⟩
    case round =>
      obtain ⟨q, at_, hqm, rfl, rfl, at0, at1, hrm, hbr⟩ := hrel
      have hw1 : IntKind.i64.wrap (at_ + n) = at_ + n := IntWalk.i64_in _ (by omega)
      have o3 := (HR3.out.call hbr).cell 3
      by_cases hlt : q < m
      · have hql : q < s.l.length := by rw [← HM.out]; exact hlt
        obtain ⟨gb, eA, hgb, hat⟩ := HO.out.below hbr (by omega)
        subst eA
        obtain ⟨d0, d1, d2, d3, d4, d5⟩ := ar_at (hat q hql)
        have hxs := HAS.out _ (List.getElem_mem hql)
        rw [List.drop_eq_getElem_cons hql] at hrm
        obtain ⟨x, hx⟩ : ∃ x, x = s.l[q] := ⟨_, rfl⟩
        rw [← hx] at d0 d1 d2 d3 d4 d5 hxs hrm
        obtain ⟨x0, x1, x2, -, -⟩ := hxs
        unfold rmG at hrm
        have hup := HUP.out x.t
        have hdx := fun w => hdn x.t w (by omega) x2
        obtain ⟨f, t', hh, pp, oo, zz⟩ := x
        dsimp only at d0 d1 d2 d3 d4 d5 x0 x1 x2 hrm hup hdx
        have q0 : (0 : Int) ≤ q := by omega
        have q1 : (q : Int) < m := by omega
        obtain ⟨W4, hW4⟩ : ∃ W4, W4 = wr.alloc (.cells #[.int .i64 f, .int .i64 t', .int .i64 hh, .int .i64 pp, .int .i64 oo, .int .i64 zz] 93) := ⟨_, rfl⟩
        obtain ⟨g4, hg4⟩ : ∃ g, g = wr.heap.size := ⟨_, rfl⟩
        have hb4 : Below wr.heap.size wr W4 := by rw [hW4]; exact below_new _ _
        have r4 : Lrow W4 g4 93 [.int .i64 f, .int .i64 t', .int .i64 hh, .int .i64 pp, .int .i64 oo, .int .i64 zz] := by rw [hW4, hg4]; exact Lrow.new wr _ [.int .i64 f, .int .i64 t', .int .i64 hh, .int .i64 pp, .int .i64 oo, .int .i64 zz]
        have p3 : W4.cell? ⟨bo, 3, none⟩ = some (.int .i64 n) := ((HR3.out.call hbr).call hb4).cell 3
        have p4 : W4.cell? ⟨bo, 4, none⟩ = some (.int .i64 hw) := ((HR3.out.call hbr).call hb4).cell 4
        have y0 : W4.cell? ⟨g4, 0, none⟩ = some (.int .i64 f) := r4.cell 0
        have y1 : W4.cell? ⟨g4, 1, none⟩ = some (.int .i64 t') := r4.cell 1
        have HB4 := Lib.hid (hbr.trans (hb4.mono hbr.size))
        have HW4 := Lib.hid (And.intro hW4 hg4)
        clear hW4 hg4 hb4 r4 hat hgb hbr hx hql
        by_cases c5 : at_ + n ≤ f
        · rw [if_pos c5] at hrm
          subst hrm
          have c6 : ¬ 4096 < R + n := by omega
          go_upto_region 9 with (fail)
          rw [← HW4.out.1, ← HW4.out.2]
          go_wp2_with fail
          go_ret2
          exact ⟨by rw [HV.out.1, HV.out.2, if_neg (show ¬ 4096 < R + n by omega), if_neg (show ¬ 4096 < R + n by omega)]; rfl, HB3.out.trans (HB4.out.mono HB3.out.size)⟩
        · rw [if_neg c5] at hrm
          have HRM := Lib.hid hrm
          obtain ⟨u, hu⟩ : ∃ u, u = upS sz t' := ⟨_, rfl⟩
          rw [← hu] at hdx hup HRM
          have s1 : IntKind.i64.wrap (t' + sz) = t' + sz := IntWalk.i64_in _ (by omega)
          have s2 : IntKind.i64.wrap (t' + sz - 1) = t' + sz - 1 := IntWalk.i64_in _ (by omega)
          have hu1 : 1 ≤ u ∧ u ≤ 4160 := ⟨by omega, by omega⟩
          clear hrm hu hup
          go_upto_region 9 with (fail)
          rw [← HW4.out.1, ← HW4.out.2]
          go_wp2_with fail
          have hs5 : (fun U : World => U.cell? ⟨bo, 4, none⟩ = some (.int .i64 hw) ∧ U.cell? ⟨g4, 1, none⟩ = some (.int .i64 t')) W4.drew := ⟨p4, y1⟩
          go_region_held3 (fun U => U.cell? ⟨bo, 4, none⟩ = some (.int .i64 hw) ∧ U.cell? ⟨g4, 1, none⟩ = some (.int .i64 t'))
            (first | exact hs5)
            (first | (go_at_call 84; (with_reducible refine (hor _).mono ?_); rintro e w5 ⟨rfl, rfl⟩) | (go_at_call 85; (with_reducible refine (hdx _).mono ?_); rintro e w6 ⟨rfl, rfl⟩) | fail)
          all_goals
            go_wp2_with fail
            go_roundw
            case rel => exact ⟨q + 1, u, by omega, rfl, by go_num, by omega, by omega, HRM.out, HB4.out.trans ((below_dN (Below.refl _ _) 1).mono HB4.out.size)⟩
            case measure => simp [RowKit.intOf]; omega
      · obtain rfl : q = m := by omega
        rw [List.drop_of_length_le (by rw [← HM.out]; exact Nat.le_refl _)] at hrm
        unfold rmG at hrm
        subst hrm
        have HBR := Lib.hid hbr
        clear hbr
        by_cases c6 : 4096 < R + n
        · go_wp2_with fail
          go_ret2
          exact ⟨by rw [HV.out.1, HV.out.2, if_pos (show 4096 < R + n by omega), if_pos (show 4096 < R + n by omega)]; rfl, HB3.out.trans (HBR.out.mono HB3.out.size)⟩
        · go_wp2_with fail
          go_ret2
          exact ⟨by rw [HV.out.1, HV.out.2, if_neg (show ¬ 4096 < R + n by omega), if_neg (show ¬ 4096 < R + n by omega)]; rfl, HB3.out.trans (HBR.out.mono HB3.out.size)⟩
end
end Go.Proofs.YtnppnoabhpkmkaaGreat
