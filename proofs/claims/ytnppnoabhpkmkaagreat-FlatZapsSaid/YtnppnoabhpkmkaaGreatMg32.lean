/- The reference of spaces: a mapping at a page. -/
import Derived.Test.YtnppnoabhpkmkaaGreatMg31
namespace Go.Proofs.YtnppnoabhpkmkaaGreat
open Go.RowKit
section
variable {w w' : World} {B : Nat} {T : RfT} {F : Fl} {s s' : SpB} {S S' : Sp}
theorem szO_three (h : Int) : szO h = 1 ∨ szO h = 8 ∨ szO h = 64 := by
  unfold szO
  split
  · exact Or.inr (Or.inl rfl)
  · split
    · exact Or.inr (Or.inr rfl)
    · exact Or.inl rfl
theorem szO_fits (h : Int) : Fits (szO h) := by
  unfold Fits
  rcases szO_three h with e | e | e <;> rw [e] <;> omega
theorem bestN_lt (P : Int → Pg) (n sz : Int) (k : Nat) (hk : k ≤ 4096) : 0 ≤ bestN P n sz k ∧ bestN P n sz k < 4096 := by
  induction k with
  | zero => exact ⟨Int.le_refl _, by show (0 : Int) < 4096; omega⟩
  | succ k ih =>
    unfold bestN
    split
    · omega
    · exact ih (by omega)
theorem room_lt (P : Int → Pg) (n sz : Int) : 0 ≤ roomP P n sz ∧ roomP P n sz < 4096 := bestN_lt P n sz 4095 (by omega)
theorem room_fits (P : Int → Pg) (n sz : Int) : Fits (roomP P n sz) := by have := room_lt P n sz; unfold Fits; omega
theorem DidF.trans {T2 : RfT} {F3 : Fl} {w2 w3 : World} (e : T2.xa = T.xa) (f2 : Foot (MineF T) w w2) (i2 : ∀ k, MineF T2 k → MineF T k ∨ w.heap.size ≤ k) (d : DidF B w2 T2 F3 w3) : DidF B w T F3 w3 := by
  obtain ⟨T', d0, d1, d2, d3⟩ := d
  refine ⟨T', d0.trans e, d1, ⟨d2.os.trans f2.os, d2.tape.trans f2.tape, d2.output.trans f2.output, Nat.le_trans f2.size d2.size, fun k hk hx => ?_⟩, fun k hk => ?_⟩
  · refine (d2.keep k (Nat.lt_of_lt_of_le hk f2.size) fun e2 => ?_).trans (f2.keep k hk hx)
    rcases i2 k e2 with c | c
    · exact hx c
    · omega
  · rcases d3 k hk with c | c
    · exact i2 k c
    · exact Or.inr (Nat.le_trans f2.size c)
/-- What a mapping does to new areas. -/
theorem newP_below {W w1 w2 : World} {D xb : Nat} {vb : Value} {P Q : Int → Pg} (h : Px D w1 xb vb P) (d : DidP D w1 xb Q w2) (hb : Below W.heap.size W w1) (hD : W.heap.size ≤ D := by exact Nat.le_refl _) : Below W.heap.size w1 w2 := by
  obtain ⟨v', _, f⟩ := d
  exact f.below (by have := hb.size; omega) (fun k e => by subst e; exact Nat.le_trans hD h.lo)
set_option maxRecDepth 100000 in
set_option maxHeartbeats 4000000 in
theorem rmap_npe2 (h : RfAt B w T F) {j : Nat} (hj : j < F.L.length) (hs : T.LS[j]? = some s) (r : Rq) (hr : r.s = j) (ok : RqOk r) (hl : F.O.length ≤ 1000) (hsh : ¬ shr r.h) (ha0 : r.a ≠ 0) (h3 : mapE (sp F j).P (r.a) r.n r.h r.p (objI F r.h) ≠ 0) : Calls Tryz.prog 36 #[.pointer (some ⟨T.xa, 0, none⟩), .pointer (some ⟨s.sb, 0, none⟩), .agg (opL r).toArray] w (ResF B w T (mapR F r)) := by
  have hres : mapR F r = noF F (mapE (sp F j).P (r.a) r.n r.h r.p (objI F r.h)) := by
    unfold mapR mapAt
    rw [if_neg ha0, hr, if_pos h3]
  rw [hres]
  clear hres
  obtain ⟨W, b0, b1, hO⟩ := opAt w r
  obtain ⟨hbW, ro, rr, hg0, hg1⟩ := hO.facts
  obtain ⟨s', hs', hsp⟩ := h.space hj
  rw [hs] at hs'
  injection hs' with hs'
  subst hs'
  have hsd : decide (shr r.h) = false := decide_eq_false hsh
  have hobI : objI F r.h = 0 := by unfold objI; rw [if_neg hsh]
  rw [hobI] at h3 ⊢
  have HO : Hid (∀ w2, Below W.heap.size W w2 → w2.cell? ⟨b0, 2, none⟩ = some (.int .i64 r.a) ∧ w2.cell? ⟨b0, 3, none⟩ = some (.int .i64 r.n) ∧ w2.cell? ⟨b0, 4, none⟩ = some (.int .i64 r.h) ∧ w2.cell? ⟨b0, 5, none⟩ = some (.int .i64 r.p) ∧ w2.cell? ⟨s.sb, 0, none⟩ = some (.pointer (some ⟨s.ab, 0, none⟩))) := fun w2 hb2 => ⟨(ro.call hb2).cell 2, (ro.call hb2).cell 3, (ro.call hb2).cell 4, (ro.call hb2).cell 5, (hsp.call (hbW.trans (hb2.mono hbW.size))).c0⟩
  have o24 := HO.out W (Below.refl _ _)
  have o2 := o24.1
  have o4 := o24.2.2.1
  have ha0' : (r.a == 0) = false := by simpa using ha0
  clear o24
  have HPX : Hid (∀ w2, Below W.heap.size W w2 → RfAt B w2 T F ∧ Px B w2 s.ab s.v (sp F (j : Int)).P) := fun w2 hb2 => ⟨h.call (hbW.trans (hb2.mono hbW.size)), (hsp.call (hbW.trans (hb2.mono hbW.size))).ars⟩
  have HRR := Lib.hid rr
  have HRO := Lib.hid ro
  have HSP := Lib.hid hsp
  have HW := Lib.hid hO
  have HG1 := Lib.hid hg1
  have HBW := Lib.hid hbW
  have HJ := Lib.hid hj
  have HSS := Lib.hid hs
  have OK := Lib.hid ok
  have HL := Lib.hid hl
  have hsb0 : s.sb ≠ s.ab := hsp.top.apart hsp.ars.top (by decide)
  have HSB := Lib.hid hsb0
  have H3 := Lib.hid h3
  clear h hbW ro rr hg0 hg1 hO hsp ok hj hs hl hsb0 hobI h3
  obtain ⟨E, hE⟩ : ∃ E, E = mapE (sp F (j : Int)).P r.a r.n r.h r.p 0 := ⟨_, rfl⟩
  rw [← hE]
  have HE := Lib.hid hE
  clear hE
  go_enter Tryz.func36, Tryz.ntmps36
  go_upto_region 1 with (fail)
  rw [← HW.out.1, ← HW.out.2.1, ← HW.out.2.2]
  go_upto_region 12 with (go_at_call 15; (with_reducible refine (shared_is _ _).mono ?_); rintro e wz ⟨rfl, rfl⟩; rw [hsd])
  have HSD := Lib.hid hsd
  clear o2 o4 hsd
  have hs0 := (HO.out W.drew (below_dN (Below.refl W.heap.size W) 1)).2
  have hpx := (HPX.out W.drew (below_dN (Below.refl W.heap.size W) 1)).2
  have hmap := map_is hpx (a := r.a) (n := r.n) (how := r.h) (p := r.p) (o := 0) OK.out.a OK.out.n
  have h3' := H3.out
  unfold DidE at hmap
  rw [← HE.out] at hmap h3'
  rw [if_neg h3'] at hmap
  have hne : (E != 0) = true := by simpa using h3'
  have HH := Lib.hid h3'
  clear h3'
  have hro := HRO.out.call (below_dN (Below.refl W.heap.size W) 1)
  have hss := HSP.out.call (HBW.out.trans ((below_dN (Below.refl W.heap.size W) 1).mono HBW.out.size))
  go_region_held3 (fun v => v.cell? ⟨b0, 3, none⟩ = some (.int .i64 r.n) ∧ v.cell? ⟨b0, 4, none⟩ = some (.int .i64 r.h) ∧ v.cell? ⟨b0, 5, none⟩ = some (.int .i64 r.p) ∧ v.cell? ⟨s.sb, 0, none⟩ = some (.pointer (some ⟨s.ab, 0, none⟩)))
    (first | exact hs0 | exact hs9)
    (first | (go_at_call 54; (with_reducible refine hmap.mono ?_); rintro e w4 ⟨rfl, hd4⟩; have f4 := hd4.choose_spec.2; have ro4 := f4.row hro (hro.apart hpx.top (by decide)); have st4 := f4.row hss.top HSB.out; have hs9 := (⟨ro4.cell 3, ro4.cell 4, ro4.cell 5, st4.cell 0⟩ : w4.cell? ⟨b0, 3, none⟩ = some (.int .i64 r.n) ∧ w4.cell? ⟨b0, 4, none⟩ = some (.int .i64 r.h) ∧ w4.cell? ⟨b0, 5, none⟩ = some (.int .i64 r.p) ∧ w4.cell? ⟨s.sb, 0, none⟩ = some (.pointer (some ⟨s.ab, 0, none⟩)))))
  have hrr := HRR.out.call (below_dN (Below.refl W.heap.size W) 1)
  have rr4 := f4.row hrr (hrr.apart hpx.top (by decide))
  have hBw := HBW.out.trans ((below_dN (Below.refl W.heap.size W) 1).mono HBW.out.size)
  have HD := Lib.hid (((HPX.out W.drew (below_dN (Below.refl W.heap.size W) 1)).1.putA_no HJ.out HSS.out hd4).pre hBw)
  have HR4 := Lib.hid rr4
  clear hs0 hs9 hpx hmap hro hss hd4 f4 ro4 st4 hrr rr4 hBw
  go_wp2_with (go_at_call 30; (with_reducible refine (rnone_is _ _).mono ?_); rintro e w9 ⟨rfl, hb9⟩; have g0 := (HR4.out.call hb9).cell 0; have g1 := (HR4.out.call hb9).cell 1; have f0 := (HR4.out.call hb9).frozen 0; have f1 := (HR4.out.call hb9).frozen 1; have HB9 := Lib.hid hb9; clear hb9)
  exact bodyPost_ret (v := .agg #[.int .i64 E, .int .u64 0]) (by simp [results, Tryz.results36, go_sem, *]) rfl ⟨rfl, (HD.out.post HB9.out).lay (HR4.out.call HB9.out) HG1.out _ _⟩
set_option maxRecDepth 100000 in
set_option maxHeartbeats 4000000 in
theorem rmap_spe2 (h : RfAt B w T F) {j : Nat} (hj : j < F.L.length) (hs : T.LS[j]? = some s) (r : Rq) (hr : r.s = j) (ok : RqOk r) (hl : F.O.length ≤ 1000) (hsh : shr r.h) (ha0 : r.a ≠ 0) (h3 : mapE (sp F j).P (r.a) r.n r.h r.p (objI F r.h) ≠ 0) : Calls Tryz.prog 36 #[.pointer (some ⟨T.xa, 0, none⟩), .pointer (some ⟨s.sb, 0, none⟩), .agg (opL r).toArray] w (ResF B w T (mapR F r)) := by
  have hres : mapR F r = noF F (mapE (sp F j).P (r.a) r.n r.h r.p (objI F r.h)) := by
    unfold mapR mapAt
    rw [if_neg ha0, hr, if_pos h3]
  rw [hres]
  clear hres
  obtain ⟨W, b0, b1, hO⟩ := opAt w r
  obtain ⟨hbW, ro, rr, hg0, hg1⟩ := hO.facts
  obtain ⟨s', hs', hsp⟩ := h.space hj
  rw [hs] at hs'
  injection hs' with hs'
  subst hs'
  have hsd : decide (shr r.h) = true := decide_eq_true hsh
  have hobI : objI F r.h = (F.O.length : Int) := by unfold objI; rw [if_pos hsh]
  obtain ⟨Ao, co, hvo⟩ := h.os.form
  have hno := (h.obj hvo).1
  have v1 := (h.call hbW).c1
  rw [hvo, hno] at v1
  obtain ⟨no, hno'⟩ : ∃ no, no = F.O.length := ⟨_, rfl⟩
  rw [← hno'] at v1 hobI
  rw [hobI] at h3 ⊢
  have HO : Hid (∀ w2, Below W.heap.size W w2 → w2.cell? ⟨b0, 2, none⟩ = some (.int .i64 r.a) ∧ w2.cell? ⟨b0, 3, none⟩ = some (.int .i64 r.n) ∧ w2.cell? ⟨b0, 4, none⟩ = some (.int .i64 r.h) ∧ w2.cell? ⟨b0, 5, none⟩ = some (.int .i64 r.p) ∧ w2.cell? ⟨s.sb, 0, none⟩ = some (.pointer (some ⟨s.ab, 0, none⟩))) := fun w2 hb2 => ⟨(ro.call hb2).cell 2, (ro.call hb2).cell 3, (ro.call hb2).cell 4, (ro.call hb2).cell 5, (hsp.call (hbW.trans (hb2.mono hbW.size))).c0⟩
  have o24 := HO.out W (Below.refl _ _)
  have o2 := o24.1
  have o4 := o24.2.2.1
  have ha0' : (r.a == 0) = false := by simpa using ha0
  clear o24
  have HPX : Hid (∀ w2, Below W.heap.size W w2 → RfAt B w2 T F ∧ Px B w2 s.ab s.v (sp F (j : Int)).P) := fun w2 hb2 => ⟨h.call (hbW.trans (hb2.mono hbW.size)), (hsp.call (hbW.trans (hb2.mono hbW.size))).ars⟩
  have HRR := Lib.hid rr
  have HRO := Lib.hid ro
  have HSP := Lib.hid hsp
  have HW := Lib.hid hO
  have HG1 := Lib.hid hg1
  have HBW := Lib.hid hbW
  have HJ := Lib.hid hj
  have HSS := Lib.hid hs
  have OK := Lib.hid ok
  have HL := Lib.hid hl
  have hsb0 : s.sb ≠ s.ab := hsp.top.apart hsp.ars.top (by decide)
  have HSB := Lib.hid hsb0
  have H3 := Lib.hid h3
  clear h hbW ro rr hg0 hg1 hO hsp ok hj hs hl hsb0 hobI hvo hno hno' h3
  obtain ⟨E, hE⟩ : ∃ E, E = mapE (sp F (j : Int)).P r.a r.n r.h r.p (no : Int) := ⟨_, rfl⟩
  rw [← hE]
  have HE := Lib.hid hE
  clear hE
  go_enter Tryz.func36, Tryz.ntmps36
  go_upto_region 1 with (fail)
  rw [← HW.out.1, ← HW.out.2.1, ← HW.out.2.2]
  go_upto_region 12 with (go_at_call 15; (with_reducible refine (shared_is _ _).mono ?_); rintro e wz ⟨rfl, rfl⟩; rw [hsd])
  have HSD := Lib.hid hsd
  clear o2 o4 v1 hsd
  have hs0 := (HO.out W.drew (below_dN (Below.refl W.heap.size W) 1)).2
  have hpx := (HPX.out W.drew (below_dN (Below.refl W.heap.size W) 1)).2
  have hmap := map_is hpx (a := r.a) (n := r.n) (how := r.h) (p := r.p) (o := (no : Int)) OK.out.a OK.out.n
  have h3' := H3.out
  unfold DidE at hmap
  rw [← HE.out] at hmap h3'
  rw [if_neg h3'] at hmap
  have hne : (E != 0) = true := by simpa using h3'
  have HH := Lib.hid h3'
  clear h3'
  have hro := HRO.out.call (below_dN (Below.refl W.heap.size W) 1)
  have hss := HSP.out.call (HBW.out.trans ((below_dN (Below.refl W.heap.size W) 1).mono HBW.out.size))
  go_region_held3 (fun v => v.cell? ⟨b0, 3, none⟩ = some (.int .i64 r.n) ∧ v.cell? ⟨b0, 4, none⟩ = some (.int .i64 r.h) ∧ v.cell? ⟨b0, 5, none⟩ = some (.int .i64 r.p) ∧ v.cell? ⟨s.sb, 0, none⟩ = some (.pointer (some ⟨s.ab, 0, none⟩)))
    (first | exact hs0 | exact hs9)
    (first | (go_at_call 54; (with_reducible refine hmap.mono ?_); rintro e w4 ⟨rfl, hd4⟩; have f4 := hd4.choose_spec.2; have ro4 := f4.row hro (hro.apart hpx.top (by decide)); have st4 := f4.row hss.top HSB.out; have hs9 := (⟨ro4.cell 3, ro4.cell 4, ro4.cell 5, st4.cell 0⟩ : w4.cell? ⟨b0, 3, none⟩ = some (.int .i64 r.n) ∧ w4.cell? ⟨b0, 4, none⟩ = some (.int .i64 r.h) ∧ w4.cell? ⟨b0, 5, none⟩ = some (.int .i64 r.p) ∧ w4.cell? ⟨s.sb, 0, none⟩ = some (.pointer (some ⟨s.ab, 0, none⟩)))))
  have hrr := HRR.out.call (below_dN (Below.refl W.heap.size W) 1)
  have rr4 := f4.row hrr (hrr.apart hpx.top (by decide))
  have hBw := HBW.out.trans ((below_dN (Below.refl W.heap.size W) 1).mono HBW.out.size)
  have HD := Lib.hid (((HPX.out W.drew (below_dN (Below.refl W.heap.size W) 1)).1.putA_no HJ.out HSS.out hd4).pre hBw)
  have HR4 := Lib.hid rr4
  clear hs0 hs9 hpx hmap hro hss hd4 f4 ro4 st4 hrr rr4 hBw
  go_wp2_with (go_at_call 30; (with_reducible refine (rnone_is _ _).mono ?_); rintro e w9 ⟨rfl, hb9⟩; have g0 := (HR4.out.call hb9).cell 0; have g1 := (HR4.out.call hb9).cell 1; have f0 := (HR4.out.call hb9).frozen 0; have f1 := (HR4.out.call hb9).frozen 1; have HB9 := Lib.hid hb9; clear hb9)
  exact bodyPost_ret (v := .agg #[.int .i64 E, .int .u64 0]) (by simp [results, Tryz.results36, go_sem, *]) rfl ⟨rfl, (HD.out.post HB9.out).lay (HR4.out.call HB9.out) HG1.out _ _⟩
set_option maxRecDepth 100000 in
set_option maxHeartbeats 4000000 in
theorem rmap_npok (h : RfAt B w T F) {j : Nat} (hj : j < F.L.length) (hs : T.LS[j]? = some s) (r : Rq) (hr : r.s = j) (ok : RqOk r) (hl : F.O.length ≤ 1000) (hsh : ¬ shr r.h) (ha0 : r.a ≠ 0) (h3 : mapE (sp F j).P (r.a) r.n r.h r.p (objI F r.h) = 0) : Calls Tryz.prog 36 #[.pointer (some ⟨T.xa, 0, none⟩), .pointer (some ⟨s.sb, 0, none⟩), .agg (opL r).toArray] w (ResF B w T (mapR F r)) := by
  have hres : mapR F r = (0, 0, put (objF F r.h) r.s { sp F r.s with P := mapP (sp F r.s).P r.a r.n r.h r.p (objI F r.h) }) := by
    unfold mapR mapAt
    rw [if_neg ha0, hr, if_neg (fun k => k h3)]
  rw [hres]
  rw [hr]
  have hobF : objF F r.h = F := by unfold objF; rw [if_neg hsh]
  rw [hobF]
  clear hres
  obtain ⟨W, b0, b1, hO⟩ := opAt w r
  obtain ⟨hbW, ro, rr, hg0, hg1⟩ := hO.facts
  obtain ⟨s', hs', hsp⟩ := h.space hj
  rw [hs] at hs'
  injection hs' with hs'
  subst hs'
  have hsd : decide (shr r.h) = false := decide_eq_false hsh
  have hobI : objI F r.h = 0 := by unfold objI; rw [if_neg hsh]
  rw [hobI] at h3 ⊢
  have HO : Hid (∀ w2, Below W.heap.size W w2 → w2.cell? ⟨b0, 2, none⟩ = some (.int .i64 r.a) ∧ w2.cell? ⟨b0, 3, none⟩ = some (.int .i64 r.n) ∧ w2.cell? ⟨b0, 4, none⟩ = some (.int .i64 r.h) ∧ w2.cell? ⟨b0, 5, none⟩ = some (.int .i64 r.p) ∧ w2.cell? ⟨s.sb, 0, none⟩ = some (.pointer (some ⟨s.ab, 0, none⟩))) := fun w2 hb2 => ⟨(ro.call hb2).cell 2, (ro.call hb2).cell 3, (ro.call hb2).cell 4, (ro.call hb2).cell 5, (hsp.call (hbW.trans (hb2.mono hbW.size))).c0⟩
  have o24 := HO.out W (Below.refl _ _)
  have o2 := o24.1
  have o4 := o24.2.2.1
  have ha0' : (r.a == 0) = false := by simpa using ha0
  clear o24
  have HPX : Hid (∀ w2, Below W.heap.size W w2 → RfAt B w2 T F ∧ Px B w2 s.ab s.v (sp F (j : Int)).P) := fun w2 hb2 => ⟨h.call (hbW.trans (hb2.mono hbW.size)), (hsp.call (hbW.trans (hb2.mono hbW.size))).ars⟩
  have HRR := Lib.hid rr
  have HRO := Lib.hid ro
  have HSP := Lib.hid hsp
  have HW := Lib.hid hO
  have HG1 := Lib.hid hg1
  have HBW := Lib.hid hbW
  have HJ := Lib.hid hj
  have HSS := Lib.hid hs
  have OK := Lib.hid ok
  have HL := Lib.hid hl
  have hsb0 : s.sb ≠ s.ab := hsp.top.apart hsp.ars.top (by decide)
  have HSB := Lib.hid hsb0
  have H3 := Lib.hid h3
  clear h hbW ro rr hg0 hg1 hO hsp ok hj hs hl hsb0 hobI h3
  clear hobF
  go_enter Tryz.func36, Tryz.ntmps36
  go_upto_region 1 with (fail)
  rw [← HW.out.1, ← HW.out.2.1, ← HW.out.2.2]
  go_upto_region 12 with (go_at_call 15; (with_reducible refine (shared_is _ _).mono ?_); rintro e wz ⟨rfl, rfl⟩; rw [hsd])
  have HSD := Lib.hid hsd
  clear o2 o4 hsd
  have hs0 := (HO.out W.drew (below_dN (Below.refl W.heap.size W) 1)).2
  have hpx := (HPX.out W.drew (below_dN (Below.refl W.heap.size W) 1)).2
  have hmap := map_is hpx (a := r.a) (n := r.n) (how := r.h) (p := r.p) (o := 0) OK.out.a OK.out.n
  have h3' := H3.out
  unfold DidE at hmap
  rw [h3', if_pos rfl] at hmap
  clear h3'
  have hro := HRO.out.call (below_dN (Below.refl W.heap.size W) 1)
  have hss := HSP.out.call (HBW.out.trans ((below_dN (Below.refl W.heap.size W) 1).mono HBW.out.size))
  go_region_held3 (fun v => v.cell? ⟨b0, 3, none⟩ = some (.int .i64 r.n) ∧ v.cell? ⟨b0, 4, none⟩ = some (.int .i64 r.h) ∧ v.cell? ⟨b0, 5, none⟩ = some (.int .i64 r.p) ∧ v.cell? ⟨s.sb, 0, none⟩ = some (.pointer (some ⟨s.ab, 0, none⟩)))
    (first | exact hs0 | exact hs9)
    (first | (go_at_call 54; (with_reducible refine hmap.mono ?_); rintro e w4 ⟨rfl, hd4⟩; have f4 := hd4.choose_spec.2; have ro4 := f4.row hro (hro.apart hpx.top (by decide)); have st4 := f4.row hss.top HSB.out; have hs9 := (⟨ro4.cell 3, ro4.cell 4, ro4.cell 5, st4.cell 0⟩ : w4.cell? ⟨b0, 3, none⟩ = some (.int .i64 r.n) ∧ w4.cell? ⟨b0, 4, none⟩ = some (.int .i64 r.h) ∧ w4.cell? ⟨b0, 5, none⟩ = some (.int .i64 r.p) ∧ w4.cell? ⟨s.sb, 0, none⟩ = some (.pointer (some ⟨s.ab, 0, none⟩)))))
  have hrr := HRR.out.call (below_dN (Below.refl W.heap.size W) 1)
  have rr4 := f4.row hrr (hrr.apart hpx.top (by decide))
  have hBw := HBW.out.trans ((below_dN (Below.refl W.heap.size W) 1).mono HBW.out.size)
  have HD := Lib.hid (((HPX.out W.drew (below_dN (Below.refl W.heap.size W) 1)).1.putA HJ.out HSS.out hd4).pre hBw)
  have HR4 := Lib.hid rr4
  have HRO4 := Lib.hid ro4
  have HBG := Lib.hid hBw.size
  have HSZ4 := Lib.hid (Nat.le_trans hBw.size f4.size)
  clear hs0 hs9 hpx hmap hro hss hd4 f4 ro4 st4 hrr rr4 hBw
  have o4 : w4.cell? ⟨b0, 4, none⟩ = some (.int .i64 r.h) := HRO4.out.cell 4
  have hsd := HSD.out
  have o2 : w4.cell? ⟨b0, 2, none⟩ = some (.int .i64 r.a) := HRO4.out.cell 2
  go_wp2_with (first | (go_at_call 15; (with_reducible refine (shared_is _ _).mono ?_); rintro e wz ⟨rfl, rfl⟩; rw [hsd]) | (go_at_call 30; (with_reducible refine (rnone_is _ _).mono ?_); rintro e w9 ⟨rfl, hb9⟩; have g0 := (HR4.out.call hb9).cell 0; have g1 := (HR4.out.call hb9).cell 1; have f0 := (HR4.out.call hb9).frozen 0; have f1 := (HR4.out.call hb9).frozen 1; have HB9 := Lib.hid hb9; clear hb9))
  exact bodyPost_ret (v := .agg #[.int .i64 0, .int .u64 0]) (by simp [results, Tryz.results36, go_sem, *]) rfl ⟨rfl, (HD.out.post HB9.out).lay (HR4.out.call HB9.out) HG1.out _ _⟩
set_option maxRecDepth 100000 in
set_option maxHeartbeats 4000000 in
theorem rmap_spok (h : RfAt B w T F) {j : Nat} (hj : j < F.L.length) (hs : T.LS[j]? = some s) (r : Rq) (hr : r.s = j) (ok : RqOk r) (hl : F.O.length ≤ 1000) (hsh : shr r.h) (ha0 : r.a ≠ 0) (h3 : mapE (sp F j).P (r.a) r.n r.h r.p (objI F r.h) = 0) : Calls Tryz.prog 36 #[.pointer (some ⟨T.xa, 0, none⟩), .pointer (some ⟨s.sb, 0, none⟩), .agg (opL r).toArray] w (ResF B w T (mapR F r)) := by
  have hres : mapR F r = (0, 0, put (objF F r.h) r.s { sp F r.s with P := mapP (sp F r.s).P r.a r.n r.h r.p (objI F r.h) }) := by
    unfold mapR mapAt
    rw [if_neg ha0, hr, if_neg (fun k => k h3)]
  rw [hres]
  rw [hr]
  have hobF : objF F r.h = { F with O := F.O ++ [fun _ => 0] } := by unfold objF; rw [if_pos hsh]
  rw [hobF]
  clear hres
  obtain ⟨W, b0, b1, hO⟩ := opAt w r
  obtain ⟨hbW, ro, rr, hg0, hg1⟩ := hO.facts
  obtain ⟨s', hs', hsp⟩ := h.space hj
  rw [hs] at hs'
  injection hs' with hs'
  subst hs'
  have hsd : decide (shr r.h) = true := decide_eq_true hsh
  have hobI : objI F r.h = (F.O.length : Int) := by unfold objI; rw [if_pos hsh]
  obtain ⟨Ao, co, hvo⟩ := h.os.form
  have hno := (h.obj hvo).1
  have v1 := (h.call hbW).c1
  rw [hvo, hno] at v1
  obtain ⟨no, hno'⟩ : ∃ no, no = F.O.length := ⟨_, rfl⟩
  rw [← hno'] at v1 hobI
  rw [hobI] at h3 ⊢
  have HO : Hid (∀ w2, Below W.heap.size W w2 → w2.cell? ⟨b0, 2, none⟩ = some (.int .i64 r.a) ∧ w2.cell? ⟨b0, 3, none⟩ = some (.int .i64 r.n) ∧ w2.cell? ⟨b0, 4, none⟩ = some (.int .i64 r.h) ∧ w2.cell? ⟨b0, 5, none⟩ = some (.int .i64 r.p) ∧ w2.cell? ⟨s.sb, 0, none⟩ = some (.pointer (some ⟨s.ab, 0, none⟩))) := fun w2 hb2 => ⟨(ro.call hb2).cell 2, (ro.call hb2).cell 3, (ro.call hb2).cell 4, (ro.call hb2).cell 5, (hsp.call (hbW.trans (hb2.mono hbW.size))).c0⟩
  have o24 := HO.out W (Below.refl _ _)
  have o2 := o24.1
  have o4 := o24.2.2.1
  have ha0' : (r.a == 0) = false := by simpa using ha0
  clear o24
  have HPX : Hid (∀ w2, Below W.heap.size W w2 → RfAt B w2 T F ∧ Px B w2 s.ab s.v (sp F (j : Int)).P) := fun w2 hb2 => ⟨h.call (hbW.trans (hb2.mono hbW.size)), (hsp.call (hbW.trans (hb2.mono hbW.size))).ars⟩
  have HRR := Lib.hid rr
  have HRO := Lib.hid ro
  have HSP := Lib.hid hsp
  have HW := Lib.hid hO
  have HG1 := Lib.hid hg1
  have HBW := Lib.hid hbW
  have HJ := Lib.hid hj
  have HSS := Lib.hid hs
  have OK := Lib.hid ok
  have HL := Lib.hid hl
  have hsb0 : s.sb ≠ s.ab := hsp.top.apart hsp.ars.top (by decide)
  have HSB := Lib.hid hsb0
  have HNO := Lib.hid hno'
  have H3 := Lib.hid h3
  clear h hbW ro rr hg0 hg1 hO hsp ok hj hs hl hsb0 hobI hvo hno hno' h3
  clear hobF
  go_enter Tryz.func36, Tryz.ntmps36
  go_upto_region 1 with (fail)
  rw [← HW.out.1, ← HW.out.2.1, ← HW.out.2.2]
  go_upto_region 12 with (go_at_call 15; (with_reducible refine (shared_is _ _).mono ?_); rintro e wz ⟨rfl, rfl⟩; rw [hsd])
  have HSD := Lib.hid hsd
  clear o2 o4 v1 hsd
  have hs0 := (HO.out W.drew (below_dN (Below.refl W.heap.size W) 1)).2
  have hpx := (HPX.out W.drew (below_dN (Below.refl W.heap.size W) 1)).2
  have hmap := map_is hpx (a := r.a) (n := r.n) (how := r.h) (p := r.p) (o := (no : Int)) OK.out.a OK.out.n
  have h3' := H3.out
  unfold DidE at hmap
  rw [h3', if_pos rfl] at hmap
  clear h3'
  have hro := HRO.out.call (below_dN (Below.refl W.heap.size W) 1)
  have hss := HSP.out.call (HBW.out.trans ((below_dN (Below.refl W.heap.size W) 1).mono HBW.out.size))
  go_region_held3 (fun v => v.cell? ⟨b0, 3, none⟩ = some (.int .i64 r.n) ∧ v.cell? ⟨b0, 4, none⟩ = some (.int .i64 r.h) ∧ v.cell? ⟨b0, 5, none⟩ = some (.int .i64 r.p) ∧ v.cell? ⟨s.sb, 0, none⟩ = some (.pointer (some ⟨s.ab, 0, none⟩)))
    (first | exact hs0 | exact hs9)
    (first | (go_at_call 54; (with_reducible refine hmap.mono ?_); rintro e w4 ⟨rfl, hd4⟩; have f4 := hd4.choose_spec.2; have ro4 := f4.row hro (hro.apart hpx.top (by decide)); have st4 := f4.row hss.top HSB.out; have hs9 := (⟨ro4.cell 3, ro4.cell 4, ro4.cell 5, st4.cell 0⟩ : w4.cell? ⟨b0, 3, none⟩ = some (.int .i64 r.n) ∧ w4.cell? ⟨b0, 4, none⟩ = some (.int .i64 r.h) ∧ w4.cell? ⟨b0, 5, none⟩ = some (.int .i64 r.p) ∧ w4.cell? ⟨s.sb, 0, none⟩ = some (.pointer (some ⟨s.ab, 0, none⟩)))))
  have hrr := HRR.out.call (below_dN (Below.refl W.heap.size W) 1)
  have rr4 := f4.row hrr (hrr.apart hpx.top (by decide))
  have hBw := HBW.out.trans ((below_dN (Below.refl W.heap.size W) 1).mono HBW.out.size)
  have HD := Lib.hid (((HPX.out W.drew (below_dN (Below.refl W.heap.size W) 1)).1.putA HJ.out HSS.out hd4).pre hBw)
  have HR4 := Lib.hid rr4
  have HRO4 := Lib.hid ro4
  have HBG := Lib.hid hBw.size
  have HSZ4 := Lib.hid (Nat.le_trans hBw.size f4.size)
  clear hs0 hs9 hpx hmap hro hss hd4 f4 ro4 st4 hrr rr4 hBw
  have o4 : w4.cell? ⟨b0, 4, none⟩ = some (.int .i64 r.h) := HRO4.out.cell 4
  have hsd := HSD.out
  obtain ⟨T2, e2, h2, f2, i2⟩ := HD.out
  have h2d := h2.drewN 1
  obtain ⟨W5, rmk, hw5, g5⟩ := words_make w4.drew
  have b5 : Below w4.drew.heap.size w4.drew W5 := (Below.refl _ _).grown g5 (Nat.le_refl _) (fun k e => by cases e)
  obtain ⟨A2, c2, hv2⟩ := h2.os.form
  have hn2 := (h2.obj hv2).1
  have ho5 := (h2d.call b5).os
  obtain ⟨A6, c6, W6, r6, o6, g6, t6⟩ := ho5.app1 (Nat.le_trans h2d.lw b5.size) (w4.drew.heap.size, 32768) (by rw [h2.no]; have := HL.out; show F.O.length ≤ _; omega) #[.slice (some ⟨w4.drew.heap.size, 0, none⟩) 32768 32768] rfl
  obtain ⟨x1, xf, hD6⟩ := h2d.moreO (w0 := w4.drew) b5 (hw5.base h2d.lw) (Nat.le_refl _) g6 o6 (t6.imp id fun ⟨g, e, hg⟩ => ⟨g, e, Nat.le_trans b5.size hg⟩)
  have r6' := r6 _ rfl
  have v1 : w4.cell? ⟨T2.xa, 1, none⟩ = some T2.vo := h2.c1
  have v5 := (h2d.call b5).c1
  have v5l := (h2d.call b5).top.lt
  rw [e2] at v1 v5 v5l x1 xf hD6
  rw [hv2] at v1 v5 r6' x1
  change (Builtin.append_ #[36, 36] 36 _).run Tryz.prog (W5.alloc (.cells #[.slice (some ⟨w4.drew.heap.size, 0, none⟩) 32768 32768] 50)) = _ at r6'
  have nb1 : some b1 ≠ T2.vo.ownBlock := fun e => by
    obtain ⟨vs, q, _⟩ := h2.os.block e.symm
    exact HR4.out.apart q (by decide) rfl
  have nb0 : some b0 ≠ T2.vo.ownBlock := fun e => by
    obtain ⟨vs, q, _⟩ := h2.os.block e.symm
    exact HRO4.out.apart q (by decide) rfl
  have nx1 : b1 ≠ T.xa := by rw [← e2]; exact HR4.out.apart h2.top (by decide)
  have nx0 : b0 ≠ T.xa := by rw [← e2]; exact HRO4.out.apart h2.top (by decide)
  obtain ⟨m2, hm2⟩ : ∃ m, m = T2.LO.length := ⟨_, rfl⟩
  rw [← hm2] at v1 v5 r6' x1 hD6
  obtain ⟨W7, hW7⟩ : ∃ W7, W7 = W6.setCell ⟨T.xa, 1, none⟩ (.slice A6 (m2 + 1) c6) := ⟨_, rfl⟩
  have rr7 : Lrow W7 b1 33 [.int .i64 0, .int .u64 0] := by rw [hW7]; exact (((HR4.out.drewN 1).call b5).grown g6 nb1).far nx1 _
  have ro7 : Lrow W7 b0 25 (opL r) := by rw [hW7]; exact (((HRO4.out.drewN 1).call b5).grown g6 nb0).far nx0 _
  rw [← hW7] at hD6
  have HD7 : Hid (DidF B w T _ W7) := DidF.trans e2 f2 i2 ((hD6.pre (below_dN (Below.refl _ _) 1)))
  have HR7 := Lib.hid rr7
  have HRO7 := Lib.hid ro7
  have HW7 := Lib.hid hW7
  clear h2 h2d f2 i2 hw5 g5 b5 hv2 hn2 ho5 r6 o6 g6 t6 hD6 nb1 nb0 nx1 nx0 hm2 rr7 ro7 hW7
  go_upto_region 16 with (go_at_call 15; (with_reducible refine (shared_is _ _).mono ?_); rintro e wz ⟨rfl, rfl⟩; rw [hsd])
  go_region_law (refine step_append_run (by rfl) _ _ 36 (by rfl) (.slice A2 m2 c2) (.slice (some ⟨W5.heap.size, 0, none⟩) 1 1) (by simp [Act.eval]) (by simp [Act.eval]) r6' ?_)
  all_goals
    rw [← HW7.out]
    have o2 : W7.cell? ⟨b0, 2, none⟩ = some (.int .i64 r.a) := HRO7.out.cell 2
    clear x1 xf v5 v1 r6' rmk v5l o4
    go_wp2_with (go_at_call 30; (with_reducible refine (rnone_is _ _).mono ?_); rintro e w9 ⟨rfl, hb9⟩; have g0 := (HR7.out.call hb9).cell 0; have g1 := (HR7.out.call hb9).cell 1; have f0 := (HR7.out.call hb9).frozen 0; have f1 := (HR7.out.call hb9).frozen 1; have HB9 := Lib.hid hb9; clear hb9)
    exact bodyPost_ret (v := .agg #[.int .i64 0, .int .u64 0]) (by simp [results, Tryz.results36, go_sem, *]) rfl ⟨rfl, (HD7.out.post HB9.out).lay (HR7.out.call HB9.out) HG1.out _ _⟩
end
end Go.Proofs.YtnppnoabhpkmkaaGreat
/- The reference of spaces: a mapping anywhere. -/
namespace Go.Proofs.YtnppnoabhpkmkaaGreat
open Go.RowKit
section
variable {w w' : World} {B : Nat} {T : RfT} {F : Fl} {s s' : SpB} {S S' : Sp}
set_option maxRecDepth 100000 in
set_option maxHeartbeats 4000000 in
theorem rmap_nze1 (h : RfAt B w T F) {j : Nat} (hj : j < F.L.length) (hs : T.LS[j]? = some s) (r : Rq) (_hr : r.s = j) (ok : RqOk r) (hl : F.O.length ≤ 1000) (hsh : ¬ shr r.h) (ha0 : r.a = 0) (h1 : mapE (fun _ => zP) (szO r.h) r.n r.h r.p (objI F r.h) ≠ 0) : Calls Tryz.prog 36 #[.pointer (some ⟨T.xa, 0, none⟩), .pointer (some ⟨s.sb, 0, none⟩), .agg (opL r).toArray] w (ResF B w T (mapR F r)) := by
  have hres : mapR F r = noF F (mapE (fun _ => zP) (szO r.h) r.n r.h r.p (objI F r.h)) := by
    unfold mapR
    rw [if_pos ha0, if_pos h1]
  rw [hres]
  clear hres
  obtain ⟨W, b0, b1, hO⟩ := opAt w r
  obtain ⟨hbW, ro, rr, hg0, hg1⟩ := hO.facts
  obtain ⟨s', hs', hsp⟩ := h.space hj
  rw [hs] at hs'
  injection hs' with hs'
  subst hs'
  have hsd : decide (shr r.h) = false := decide_eq_false hsh
  have hobI : objI F r.h = 0 := by unfold objI; rw [if_neg hsh]
  rw [hobI] at h1 ⊢
  have HO : Hid (∀ w2, Below W.heap.size W w2 → w2.cell? ⟨b0, 2, none⟩ = some (.int .i64 r.a) ∧ w2.cell? ⟨b0, 3, none⟩ = some (.int .i64 r.n) ∧ w2.cell? ⟨b0, 4, none⟩ = some (.int .i64 r.h) ∧ w2.cell? ⟨b0, 5, none⟩ = some (.int .i64 r.p) ∧ w2.cell? ⟨s.sb, 0, none⟩ = some (.pointer (some ⟨s.ab, 0, none⟩))) := fun w2 hb2 => ⟨(ro.call hb2).cell 2, (ro.call hb2).cell 3, (ro.call hb2).cell 4, (ro.call hb2).cell 5, (hsp.call (hbW.trans (hb2.mono hbW.size))).c0⟩
  have o24 := HO.out W (Below.refl _ _)
  have o2 := o24.1
  have o4 := o24.2.2.1
  rw [ha0] at o2
  clear o24
  have HPX : Hid (∀ w2, Below W.heap.size W w2 → RfAt B w2 T F ∧ Px B w2 s.ab s.v (sp F (j : Int)).P) := fun w2 hb2 => ⟨h.call (hbW.trans (hb2.mono hbW.size)), (hsp.call (hbW.trans (hb2.mono hbW.size))).ars⟩
  have HRR := Lib.hid rr
  have HRO := Lib.hid ro
  have HSP := Lib.hid hsp
  have HW := Lib.hid hO
  have HG1 := Lib.hid hg1
  have HBW := Lib.hid hbW
  have HJ := Lib.hid hj
  have HSS := Lib.hid hs
  have OK := Lib.hid ok
  have HL := Lib.hid hl
  have hsb0 : s.sb ≠ s.ab := hsp.top.apart hsp.ars.top (by decide)
  have HSB := Lib.hid hsb0
  have H1 := Lib.hid h1
  clear h hbW ro rr hg0 hg1 hO hsp ok hj hs hl hsb0 hobI h1
  obtain ⟨E, hE⟩ : ∃ E, E = mapE (fun _ => zP) (szO r.h) r.n r.h r.p 0 := ⟨_, rfl⟩
  rw [← hE]
  have HE := Lib.hid hE
  clear hE
  go_enter Tryz.func36, Tryz.ntmps36
  go_upto_region 1 with (fail)
  rw [← HW.out.1, ← HW.out.2.1, ← HW.out.2.2]
  go_upto_region 6 with (go_at_call 15; (with_reducible refine (shared_is _ _).mono ?_); rintro e wz ⟨rfl, rfl⟩; rw [hsd])
  have HSD := Lib.hid hsd
  clear o2 o4 hsd
  have hs0 := (HO.out W.drew (below_dN (Below.refl _ _) 1)).2
  have hnew := xnew_is W.drew
  go_region_held3 (fun v => v.cell? ⟨b0, 3, none⟩ = some (.int .i64 r.n) ∧ v.cell? ⟨b0, 4, none⟩ = some (.int .i64 r.h) ∧ v.cell? ⟨b0, 5, none⟩ = some (.int .i64 r.p) ∧ v.cell? ⟨s.sb, 0, none⟩ = some (.pointer (some ⟨s.ab, 0, none⟩)))
    (first | exact hs0 | exact hs1 | exact hs2)
    (first | (go_at_call 32; (with_reducible refine hnew.mono ?_); rintro e w1 ⟨xb, vb, rfl, hx1, hb1⟩; have hB1 : Below W.heap.size W w1 := Below.trans (below_dN (Below.refl _ _) 1) hb1; have hs1 := (HO.out w1 hB1).2) | (go_at_call 18; (with_reducible refine (size_is _ _).mono ?_); rintro e wz ⟨rfl, rfl⟩) | (go_at_call 54; refine (map_is hx1 (a := szO r.h) (n := r.n) (how := r.h) (p := r.p) (o := 0) (szO_fits r.h) OK.out.n).mono ?_; rintro e w2 ⟨rfl, hd2⟩; have hB2 : Below W.heap.size W w2 := hB1.trans (newP_below hx1 hd2 hB1); have hs2 := (HO.out w2 hB2).2))
  all_goals
    have HB2 := Lib.hid hB2
    clear hs0 hs1 hs2 hx1 hd2 hB1 hB2 hb1 hnew
    have h1' := H1.out
    rw [← HE.out] at h1' ⊢
    have hne : (E != 0) = true := by simpa using h1'
    have HD := Lib.hid ((HPX.out w2 HB2.out).1.did (Below.refl _ _))
    clear h1'
    have HBw := Lib.hid (HBW.out.trans (HB2.out.mono HBW.out.size))
    go_wp2_with (go_at_call 30; (with_reducible refine (rnone_is _ _).mono ?_); rintro e w9 ⟨rfl, hb9⟩; have g0 := ((HRR.out.call HB2.out).call hb9).cell 0; have g1 := ((HRR.out.call HB2.out).call hb9).cell 1; have f0 := ((HRR.out.call HB2.out).call hb9).frozen 0; have f1 := ((HRR.out.call HB2.out).call hb9).frozen 1; have HB9 := Lib.hid hb9; clear hb9)
    exact bodyPost_ret (v := .agg #[.int .i64 E, .int .u64 0]) (by simp [results, Tryz.results36, go_sem, *]) rfl ⟨rfl, (((HD.out.pre HBw.out)).post HB9.out |>.lay ((HRR.out.call HB2.out).call HB9.out) HG1.out _ _)⟩
set_option maxRecDepth 100000 in
set_option maxHeartbeats 4000000 in
theorem rmap_nzr0 (h : RfAt B w T F) {j : Nat} (hj : j < F.L.length) (hs : T.LS[j]? = some s) (r : Rq) (hr : r.s = j) (ok : RqOk r) (hl : F.O.length ≤ 1000) (hsh : ¬ shr r.h) (ha0 : r.a = 0) (h1 : mapE (fun _ => zP) (szO r.h) r.n r.h r.p (objI F r.h) = 0) (h2 : roomP (sp F j).P r.n (szO r.h) = 0) : Calls Tryz.prog 36 #[.pointer (some ⟨T.xa, 0, none⟩), .pointer (some ⟨s.sb, 0, none⟩), .agg (opL r).toArray] w (ResF B w T (mapR F r)) := by
  have hres : mapR F r = noF F 13 := by
    unfold mapR
    rw [if_pos ha0, if_neg (fun k => k h1), hr, if_pos h2]
  rw [hres]
  clear hres
  obtain ⟨W, b0, b1, hO⟩ := opAt w r
  obtain ⟨hbW, ro, rr, hg0, hg1⟩ := hO.facts
  obtain ⟨s', hs', hsp⟩ := h.space hj
  rw [hs] at hs'
  injection hs' with hs'
  subst hs'
  have hsd : decide (shr r.h) = false := decide_eq_false hsh
  have hobI : objI F r.h = 0 := by unfold objI; rw [if_neg hsh]
  rw [hobI] at h1
  have HO : Hid (∀ w2, Below W.heap.size W w2 → w2.cell? ⟨b0, 2, none⟩ = some (.int .i64 r.a) ∧ w2.cell? ⟨b0, 3, none⟩ = some (.int .i64 r.n) ∧ w2.cell? ⟨b0, 4, none⟩ = some (.int .i64 r.h) ∧ w2.cell? ⟨b0, 5, none⟩ = some (.int .i64 r.p) ∧ w2.cell? ⟨s.sb, 0, none⟩ = some (.pointer (some ⟨s.ab, 0, none⟩))) := fun w2 hb2 => ⟨(ro.call hb2).cell 2, (ro.call hb2).cell 3, (ro.call hb2).cell 4, (ro.call hb2).cell 5, (hsp.call (hbW.trans (hb2.mono hbW.size))).c0⟩
  have o24 := HO.out W (Below.refl _ _)
  have o2 := o24.1
  have o4 := o24.2.2.1
  rw [ha0] at o2
  clear o24
  have HPX : Hid (∀ w2, Below W.heap.size W w2 → RfAt B w2 T F ∧ Px B w2 s.ab s.v (sp F (j : Int)).P) := fun w2 hb2 => ⟨h.call (hbW.trans (hb2.mono hbW.size)), (hsp.call (hbW.trans (hb2.mono hbW.size))).ars⟩
  have HRR := Lib.hid rr
  have HRO := Lib.hid ro
  have HSP := Lib.hid hsp
  have HW := Lib.hid hO
  have HG1 := Lib.hid hg1
  have HBW := Lib.hid hbW
  have HJ := Lib.hid hj
  have HSS := Lib.hid hs
  have OK := Lib.hid ok
  have HL := Lib.hid hl
  have hsb0 : s.sb ≠ s.ab := hsp.top.apart hsp.ars.top (by decide)
  have HSB := Lib.hid hsb0
  have H1 := Lib.hid h1
  have H2 := Lib.hid h2
  clear h hbW ro rr hg0 hg1 hO hsp ok hj hs hl hsb0 hobI h1 h2
  obtain ⟨R, hR⟩ : ∃ R, R = roomP (sp F (j : Int)).P r.n (szO r.h) := ⟨_, rfl⟩
  have HRm := Lib.hid hR
  clear hR
  go_enter Tryz.func36, Tryz.ntmps36
  go_upto_region 1 with (fail)
  rw [← HW.out.1, ← HW.out.2.1, ← HW.out.2.2]
  go_upto_region 6 with (go_at_call 15; (with_reducible refine (shared_is _ _).mono ?_); rintro e wz ⟨rfl, rfl⟩; rw [hsd])
  have HSD := Lib.hid hsd
  clear o2 o4 hsd
  have hs0 := (HO.out W.drew (below_dN (Below.refl _ _) 1)).2
  have hnew := xnew_is W.drew
  go_region_held3 (fun v => v.cell? ⟨b0, 3, none⟩ = some (.int .i64 r.n) ∧ v.cell? ⟨b0, 4, none⟩ = some (.int .i64 r.h) ∧ v.cell? ⟨b0, 5, none⟩ = some (.int .i64 r.p) ∧ v.cell? ⟨s.sb, 0, none⟩ = some (.pointer (some ⟨s.ab, 0, none⟩)))
    (first | exact hs0 | exact hs1 | exact hs2)
    (first | (go_at_call 32; (with_reducible refine hnew.mono ?_); rintro e w1 ⟨xb, vb, rfl, hx1, hb1⟩; have hB1 : Below W.heap.size W w1 := Below.trans (below_dN (Below.refl _ _) 1) hb1; have hs1 := (HO.out w1 hB1).2) | (go_at_call 18; (with_reducible refine (size_is _ _).mono ?_); rintro e wz ⟨rfl, rfl⟩) | (go_at_call 54; refine (map_is hx1 (a := szO r.h) (n := r.n) (how := r.h) (p := r.p) (o := 0) (szO_fits r.h) OK.out.n).mono ?_; rintro e w2 ⟨rfl, hd2⟩; have hB2 : Below W.heap.size W w2 := hB1.trans (newP_below hx1 hd2 hB1); have hs2 := (HO.out w2 hB2).2))
  all_goals
    have HB2 := Lib.hid hB2
    clear hs0 hs1 hs2 hx1 hd2 hB1 hB2 hb1 hnew
    rw [H1.out]
    go_upto_region 9 with (fail)
    have hs0 := (HO.out w2.drew (below_dN HB2.out 1)).2
    have hrm := room_is (HPX.out w2.drew (below_dN HB2.out 1)).2 (n := r.n) (szO_three r.h)
    rw [← HRm.out] at hrm
    have h2' := H2.out
    rw [← HRm.out] at h2'
    go_region_held3 (fun v => v.cell? ⟨b0, 3, none⟩ = some (.int .i64 r.n) ∧ v.cell? ⟨b0, 4, none⟩ = some (.int .i64 r.h) ∧ v.cell? ⟨b0, 5, none⟩ = some (.int .i64 r.p) ∧ v.cell? ⟨s.sb, 0, none⟩ = some (.pointer (some ⟨s.ab, 0, none⟩)))
      (first | exact hs0)
      (first | (go_at_call 18; (with_reducible refine (size_is _ _).mono ?_); rintro e wz ⟨rfl, rfl⟩) | (go_at_call 55; (with_reducible refine hrm.mono ?_); rintro e wy ⟨rfl, rfl⟩))
    clear hs0 hrm
    have HB3 := Lib.hid (below_dN HB2.out 1)
    change Hid (Below W.heap.size W w2.drew) at HB3
    generalize w2.drew = w3 at HB3 ⊢
    have HBw := Lib.hid (HBW.out.trans (HB3.out.mono HBW.out.size))
    have HD := Lib.hid ((HPX.out w3 HB3.out).1.did (Below.refl _ _))
    clear h2'
    go_wp2_with (go_at_call 30; (with_reducible refine (rnone_is _ _).mono ?_); rintro e w9 ⟨rfl, hb9⟩; have g0 := ((HRR.out.call HB3.out).call hb9).cell 0; have g1 := ((HRR.out.call HB3.out).call hb9).cell 1; have f0 := ((HRR.out.call HB3.out).call hb9).frozen 0; have f1 := ((HRR.out.call HB3.out).call hb9).frozen 1; have HB9 := Lib.hid hb9; clear hb9)
    exact bodyPost_ret (v := .agg #[.int .i64 13, .int .u64 0]) (by simp [results, Tryz.results36, go_sem, *]) rfl ⟨rfl, (((HD.out.pre HBw.out)).post HB9.out |>.lay ((HRR.out.call HB3.out).call HB9.out) HG1.out _ _)⟩
set_option maxRecDepth 100000 in
set_option maxHeartbeats 4000000 in
theorem rmap_nze2 (h : RfAt B w T F) {j : Nat} (hj : j < F.L.length) (hs : T.LS[j]? = some s) (r : Rq) (hr : r.s = j) (ok : RqOk r) (hl : F.O.length ≤ 1000) (hsh : ¬ shr r.h) (ha0 : r.a = 0) (h1 : mapE (fun _ => zP) (szO r.h) r.n r.h r.p (objI F r.h) = 0) (h2 : roomP (sp F j).P r.n (szO r.h) ≠ 0) (h3 : mapE (sp F j).P (roomP (sp F j).P r.n (szO r.h)) r.n r.h r.p (objI F r.h) ≠ 0) : Calls Tryz.prog 36 #[.pointer (some ⟨T.xa, 0, none⟩), .pointer (some ⟨s.sb, 0, none⟩), .agg (opL r).toArray] w (ResF B w T (mapR F r)) := by
  have hres : mapR F r = noF F (mapE (sp F j).P (roomP (sp F j).P r.n (szO r.h)) r.n r.h r.p (objI F r.h)) := by
    unfold mapR
    rw [if_pos ha0, if_neg (fun k => k h1), hr, if_neg h2]; unfold mapAt; rw [hr, if_pos h3]
  rw [hres]
  clear hres
  obtain ⟨W, b0, b1, hO⟩ := opAt w r
  obtain ⟨hbW, ro, rr, hg0, hg1⟩ := hO.facts
  obtain ⟨s', hs', hsp⟩ := h.space hj
  rw [hs] at hs'
  injection hs' with hs'
  subst hs'
  have hsd : decide (shr r.h) = false := decide_eq_false hsh
  have hobI : objI F r.h = 0 := by unfold objI; rw [if_neg hsh]
  rw [hobI] at h1 h3 ⊢
  have HO : Hid (∀ w2, Below W.heap.size W w2 → w2.cell? ⟨b0, 2, none⟩ = some (.int .i64 r.a) ∧ w2.cell? ⟨b0, 3, none⟩ = some (.int .i64 r.n) ∧ w2.cell? ⟨b0, 4, none⟩ = some (.int .i64 r.h) ∧ w2.cell? ⟨b0, 5, none⟩ = some (.int .i64 r.p) ∧ w2.cell? ⟨s.sb, 0, none⟩ = some (.pointer (some ⟨s.ab, 0, none⟩))) := fun w2 hb2 => ⟨(ro.call hb2).cell 2, (ro.call hb2).cell 3, (ro.call hb2).cell 4, (ro.call hb2).cell 5, (hsp.call (hbW.trans (hb2.mono hbW.size))).c0⟩
  have o24 := HO.out W (Below.refl _ _)
  have o2 := o24.1
  have o4 := o24.2.2.1
  rw [ha0] at o2
  clear o24
  have HPX : Hid (∀ w2, Below W.heap.size W w2 → RfAt B w2 T F ∧ Px B w2 s.ab s.v (sp F (j : Int)).P) := fun w2 hb2 => ⟨h.call (hbW.trans (hb2.mono hbW.size)), (hsp.call (hbW.trans (hb2.mono hbW.size))).ars⟩
  have HRR := Lib.hid rr
  have HRO := Lib.hid ro
  have HSP := Lib.hid hsp
  have HW := Lib.hid hO
  have HG1 := Lib.hid hg1
  have HBW := Lib.hid hbW
  have HJ := Lib.hid hj
  have HSS := Lib.hid hs
  have OK := Lib.hid ok
  have HL := Lib.hid hl
  have hsb0 : s.sb ≠ s.ab := hsp.top.apart hsp.ars.top (by decide)
  have HSB := Lib.hid hsb0
  have H1 := Lib.hid h1
  have H2 := Lib.hid h2
  have H3 := Lib.hid h3
  clear h hbW ro rr hg0 hg1 hO hsp ok hj hs hl hsb0 hobI h1 h2 h3
  obtain ⟨R, hR⟩ : ∃ R, R = roomP (sp F (j : Int)).P r.n (szO r.h) := ⟨_, rfl⟩
  rw [← hR]
  have HRm := Lib.hid hR
  obtain ⟨E, hE⟩ : ∃ E, E = mapE (sp F (j : Int)).P R r.n r.h r.p 0 := ⟨_, rfl⟩
  rw [← hE]
  have HE := Lib.hid hE
  clear hE
  clear hR
  go_enter Tryz.func36, Tryz.ntmps36
  go_upto_region 1 with (fail)
  rw [← HW.out.1, ← HW.out.2.1, ← HW.out.2.2]
  go_upto_region 6 with (go_at_call 15; (with_reducible refine (shared_is _ _).mono ?_); rintro e wz ⟨rfl, rfl⟩; rw [hsd])
  have HSD := Lib.hid hsd
  clear o2 o4 hsd
  have hs0 := (HO.out W.drew (below_dN (Below.refl _ _) 1)).2
  have hnew := xnew_is W.drew
  go_region_held3 (fun v => v.cell? ⟨b0, 3, none⟩ = some (.int .i64 r.n) ∧ v.cell? ⟨b0, 4, none⟩ = some (.int .i64 r.h) ∧ v.cell? ⟨b0, 5, none⟩ = some (.int .i64 r.p) ∧ v.cell? ⟨s.sb, 0, none⟩ = some (.pointer (some ⟨s.ab, 0, none⟩)))
    (first | exact hs0 | exact hs1 | exact hs2)
    (first | (go_at_call 32; (with_reducible refine hnew.mono ?_); rintro e w1 ⟨xb, vb, rfl, hx1, hb1⟩; have hB1 : Below W.heap.size W w1 := Below.trans (below_dN (Below.refl _ _) 1) hb1; have hs1 := (HO.out w1 hB1).2) | (go_at_call 18; (with_reducible refine (size_is _ _).mono ?_); rintro e wz ⟨rfl, rfl⟩) | (go_at_call 54; refine (map_is hx1 (a := szO r.h) (n := r.n) (how := r.h) (p := r.p) (o := 0) (szO_fits r.h) OK.out.n).mono ?_; rintro e w2 ⟨rfl, hd2⟩; have hB2 : Below W.heap.size W w2 := hB1.trans (newP_below hx1 hd2 hB1); have hs2 := (HO.out w2 hB2).2))
  all_goals
    have HB2 := Lib.hid hB2
    clear hs0 hs1 hs2 hx1 hd2 hB1 hB2 hb1 hnew
    rw [H1.out]
    go_upto_region 9 with (fail)
    have hs0 := (HO.out w2.drew (below_dN HB2.out 1)).2
    have hrm := room_is (HPX.out w2.drew (below_dN HB2.out 1)).2 (n := r.n) (szO_three r.h)
    rw [← HRm.out] at hrm
    have h2' := H2.out
    rw [← HRm.out] at h2'
    go_region_held3 (fun v => v.cell? ⟨b0, 3, none⟩ = some (.int .i64 r.n) ∧ v.cell? ⟨b0, 4, none⟩ = some (.int .i64 r.h) ∧ v.cell? ⟨b0, 5, none⟩ = some (.int .i64 r.p) ∧ v.cell? ⟨s.sb, 0, none⟩ = some (.pointer (some ⟨s.ab, 0, none⟩)))
      (first | exact hs0)
      (first | (go_at_call 18; (with_reducible refine (size_is _ _).mono ?_); rintro e wz ⟨rfl, rfl⟩) | (go_at_call 55; (with_reducible refine hrm.mono ?_); rintro e wy ⟨rfl, rfl⟩))
    clear hs0 hrm
    have HB3 := Lib.hid (below_dN HB2.out 1)
    change Hid (Below W.heap.size W w2.drew) at HB3
    generalize w2.drew = w3 at HB3 ⊢
    have hRn : (R == 0) = false := by simpa using h2'
    go_upto_region 12 with (fail)
    have hs0 := (HO.out w3.drew (below_dN HB3.out 1)).2
    have hpx := (HPX.out w3.drew (below_dN HB3.out 1)).2
    have hmap := map_is hpx (a := R) (n := r.n) (how := r.h) (p := r.p) (o := 0) (by have := room_fits (sp F (j : Int)).P r.n (szO r.h); rw [← HRm.out] at this; exact this) OK.out.n
    have h3' := H3.out
    rw [← HRm.out] at h3'
    unfold DidE at hmap
    rw [← HE.out] at hmap h3'
    rw [if_neg h3'] at hmap
    have hne : (E != 0) = true := by simpa using h3'
    have HH := Lib.hid h3'
    clear h3'
    have hro := HRO.out.call (below_dN HB3.out 1)
    have hss := HSP.out.call (HBW.out.trans ((below_dN HB3.out 1).mono HBW.out.size))
    go_region_held3 (fun v => v.cell? ⟨b0, 3, none⟩ = some (.int .i64 r.n) ∧ v.cell? ⟨b0, 4, none⟩ = some (.int .i64 r.h) ∧ v.cell? ⟨b0, 5, none⟩ = some (.int .i64 r.p) ∧ v.cell? ⟨s.sb, 0, none⟩ = some (.pointer (some ⟨s.ab, 0, none⟩)))
      (first | exact hs0 | exact hs9)
      (first | (go_at_call 54; (with_reducible refine hmap.mono ?_); rintro e w4 ⟨rfl, hd4⟩; have f4 := hd4.choose_spec.2; have ro4 := f4.row hro (hro.apart hpx.top (by decide)); have st4 := f4.row hss.top HSB.out; have hs9 := (⟨ro4.cell 3, ro4.cell 4, ro4.cell 5, st4.cell 0⟩ : w4.cell? ⟨b0, 3, none⟩ = some (.int .i64 r.n) ∧ w4.cell? ⟨b0, 4, none⟩ = some (.int .i64 r.h) ∧ w4.cell? ⟨b0, 5, none⟩ = some (.int .i64 r.p) ∧ w4.cell? ⟨s.sb, 0, none⟩ = some (.pointer (some ⟨s.ab, 0, none⟩)))))
    have hrr := HRR.out.call (below_dN HB3.out 1)
    have rr4 := f4.row hrr (hrr.apart hpx.top (by decide))
    have hBw := HBW.out.trans ((below_dN HB3.out 1).mono HBW.out.size)
    have HD := Lib.hid (((HPX.out w3.drew (below_dN HB3.out 1)).1.putA_no HJ.out HSS.out hd4).pre hBw)
    have HR4 := Lib.hid rr4
    clear hs0 hs9 hpx hmap hro hss hd4 f4 ro4 st4 hrr rr4 hBw
    go_wp2_with (go_at_call 30; (with_reducible refine (rnone_is _ _).mono ?_); rintro e w9 ⟨rfl, hb9⟩; have g0 := (HR4.out.call hb9).cell 0; have g1 := (HR4.out.call hb9).cell 1; have f0 := (HR4.out.call hb9).frozen 0; have f1 := (HR4.out.call hb9).frozen 1; have HB9 := Lib.hid hb9; clear hb9)
    exact bodyPost_ret (v := .agg #[.int .i64 E, .int .u64 0]) (by simp [results, Tryz.results36, go_sem, *]) rfl ⟨rfl, (HD.out.post HB9.out).lay (HR4.out.call HB9.out) HG1.out _ _⟩
set_option maxRecDepth 100000 in
set_option maxHeartbeats 4000000 in
theorem rmap_nzok (h : RfAt B w T F) {j : Nat} (hj : j < F.L.length) (hs : T.LS[j]? = some s) (r : Rq) (hr : r.s = j) (ok : RqOk r) (hl : F.O.length ≤ 1000) (hsh : ¬ shr r.h) (ha0 : r.a = 0) (h1 : mapE (fun _ => zP) (szO r.h) r.n r.h r.p (objI F r.h) = 0) (h2 : roomP (sp F j).P r.n (szO r.h) ≠ 0) (h3 : mapE (sp F j).P (roomP (sp F j).P r.n (szO r.h)) r.n r.h r.p (objI F r.h) = 0) : Calls Tryz.prog 36 #[.pointer (some ⟨T.xa, 0, none⟩), .pointer (some ⟨s.sb, 0, none⟩), .agg (opL r).toArray] w (ResF B w T (mapR F r)) := by
  have hres : mapR F r = (0, roomP (sp F j).P r.n (szO r.h), put (objF F r.h) r.s { sp F r.s with P := mapP (sp F r.s).P (roomP (sp F j).P r.n (szO r.h)) r.n r.h r.p (objI F r.h) }) := by
    unfold mapR
    rw [if_pos ha0, if_neg (fun k => k h1), hr, if_neg h2]; unfold mapAt; rw [hr, if_neg (fun k => k h3)]
  rw [hres]
  rw [hr]
  have hobF : objF F r.h = F := by unfold objF; rw [if_neg hsh]
  rw [hobF]
  clear hres
  obtain ⟨W, b0, b1, hO⟩ := opAt w r
  obtain ⟨hbW, ro, rr, hg0, hg1⟩ := hO.facts
  obtain ⟨s', hs', hsp⟩ := h.space hj
  rw [hs] at hs'
  injection hs' with hs'
  subst hs'
  have hsd : decide (shr r.h) = false := decide_eq_false hsh
  have hobI : objI F r.h = 0 := by unfold objI; rw [if_neg hsh]
  rw [hobI] at h1 h3 ⊢
  have HO : Hid (∀ w2, Below W.heap.size W w2 → w2.cell? ⟨b0, 2, none⟩ = some (.int .i64 r.a) ∧ w2.cell? ⟨b0, 3, none⟩ = some (.int .i64 r.n) ∧ w2.cell? ⟨b0, 4, none⟩ = some (.int .i64 r.h) ∧ w2.cell? ⟨b0, 5, none⟩ = some (.int .i64 r.p) ∧ w2.cell? ⟨s.sb, 0, none⟩ = some (.pointer (some ⟨s.ab, 0, none⟩))) := fun w2 hb2 => ⟨(ro.call hb2).cell 2, (ro.call hb2).cell 3, (ro.call hb2).cell 4, (ro.call hb2).cell 5, (hsp.call (hbW.trans (hb2.mono hbW.size))).c0⟩
  have o24 := HO.out W (Below.refl _ _)
  have o2 := o24.1
  have o4 := o24.2.2.1
  rw [ha0] at o2
  clear o24
  have HPX : Hid (∀ w2, Below W.heap.size W w2 → RfAt B w2 T F ∧ Px B w2 s.ab s.v (sp F (j : Int)).P) := fun w2 hb2 => ⟨h.call (hbW.trans (hb2.mono hbW.size)), (hsp.call (hbW.trans (hb2.mono hbW.size))).ars⟩
  have HRR := Lib.hid rr
  have HRO := Lib.hid ro
  have HSP := Lib.hid hsp
  have HW := Lib.hid hO
  have HG1 := Lib.hid hg1
  have HBW := Lib.hid hbW
  have HJ := Lib.hid hj
  have HSS := Lib.hid hs
  have OK := Lib.hid ok
  have HL := Lib.hid hl
  have hsb0 : s.sb ≠ s.ab := hsp.top.apart hsp.ars.top (by decide)
  have HSB := Lib.hid hsb0
  have H1 := Lib.hid h1
  have H2 := Lib.hid h2
  have H3 := Lib.hid h3
  clear h hbW ro rr hg0 hg1 hO hsp ok hj hs hl hsb0 hobI h1 h2 h3
  clear hobF
  obtain ⟨R, hR⟩ : ∃ R, R = roomP (sp F (j : Int)).P r.n (szO r.h) := ⟨_, rfl⟩
  rw [← hR]
  have HRm := Lib.hid hR
  clear hR
  go_enter Tryz.func36, Tryz.ntmps36
  go_upto_region 1 with (fail)
  rw [← HW.out.1, ← HW.out.2.1, ← HW.out.2.2]
  go_upto_region 6 with (go_at_call 15; (with_reducible refine (shared_is _ _).mono ?_); rintro e wz ⟨rfl, rfl⟩; rw [hsd])
  have HSD := Lib.hid hsd
  clear o2 o4 hsd
  have hs0 := (HO.out W.drew (below_dN (Below.refl _ _) 1)).2
  have hnew := xnew_is W.drew
  go_region_held3 (fun v => v.cell? ⟨b0, 3, none⟩ = some (.int .i64 r.n) ∧ v.cell? ⟨b0, 4, none⟩ = some (.int .i64 r.h) ∧ v.cell? ⟨b0, 5, none⟩ = some (.int .i64 r.p) ∧ v.cell? ⟨s.sb, 0, none⟩ = some (.pointer (some ⟨s.ab, 0, none⟩)))
    (first | exact hs0 | exact hs1 | exact hs2)
    (first | (go_at_call 32; (with_reducible refine hnew.mono ?_); rintro e w1 ⟨xb, vb, rfl, hx1, hb1⟩; have hB1 : Below W.heap.size W w1 := Below.trans (below_dN (Below.refl _ _) 1) hb1; have hs1 := (HO.out w1 hB1).2) | (go_at_call 18; (with_reducible refine (size_is _ _).mono ?_); rintro e wz ⟨rfl, rfl⟩) | (go_at_call 54; refine (map_is hx1 (a := szO r.h) (n := r.n) (how := r.h) (p := r.p) (o := 0) (szO_fits r.h) OK.out.n).mono ?_; rintro e w2 ⟨rfl, hd2⟩; have hB2 : Below W.heap.size W w2 := hB1.trans (newP_below hx1 hd2 hB1); have hs2 := (HO.out w2 hB2).2))
  all_goals
    have HB2 := Lib.hid hB2
    clear hs0 hs1 hs2 hx1 hd2 hB1 hB2 hb1 hnew
    rw [H1.out]
    go_upto_region 9 with (fail)
    have hs0 := (HO.out w2.drew (below_dN HB2.out 1)).2
    have hrm := room_is (HPX.out w2.drew (below_dN HB2.out 1)).2 (n := r.n) (szO_three r.h)
    rw [← HRm.out] at hrm
    have h2' := H2.out
    rw [← HRm.out] at h2'
    go_region_held3 (fun v => v.cell? ⟨b0, 3, none⟩ = some (.int .i64 r.n) ∧ v.cell? ⟨b0, 4, none⟩ = some (.int .i64 r.h) ∧ v.cell? ⟨b0, 5, none⟩ = some (.int .i64 r.p) ∧ v.cell? ⟨s.sb, 0, none⟩ = some (.pointer (some ⟨s.ab, 0, none⟩)))
      (first | exact hs0)
      (first | (go_at_call 18; (with_reducible refine (size_is _ _).mono ?_); rintro e wz ⟨rfl, rfl⟩) | (go_at_call 55; (with_reducible refine hrm.mono ?_); rintro e wy ⟨rfl, rfl⟩))
    clear hs0 hrm
    have HB3 := Lib.hid (below_dN HB2.out 1)
    change Hid (Below W.heap.size W w2.drew) at HB3
    generalize w2.drew = w3 at HB3 ⊢
    have hRn : (R == 0) = false := by simpa using h2'
    go_upto_region 12 with (fail)
    have hs0 := (HO.out w3.drew (below_dN HB3.out 1)).2
    have hpx := (HPX.out w3.drew (below_dN HB3.out 1)).2
    have hmap := map_is hpx (a := R) (n := r.n) (how := r.h) (p := r.p) (o := 0) (by have := room_fits (sp F (j : Int)).P r.n (szO r.h); rw [← HRm.out] at this; exact this) OK.out.n
    have h3' := H3.out
    rw [← HRm.out] at h3'
    unfold DidE at hmap
    rw [h3', if_pos rfl] at hmap
    clear h3'
    have hro := HRO.out.call (below_dN HB3.out 1)
    have hss := HSP.out.call (HBW.out.trans ((below_dN HB3.out 1).mono HBW.out.size))
    go_region_held3 (fun v => v.cell? ⟨b0, 3, none⟩ = some (.int .i64 r.n) ∧ v.cell? ⟨b0, 4, none⟩ = some (.int .i64 r.h) ∧ v.cell? ⟨b0, 5, none⟩ = some (.int .i64 r.p) ∧ v.cell? ⟨s.sb, 0, none⟩ = some (.pointer (some ⟨s.ab, 0, none⟩)))
      (first | exact hs0 | exact hs9)
      (first | (go_at_call 54; (with_reducible refine hmap.mono ?_); rintro e w4 ⟨rfl, hd4⟩; have f4 := hd4.choose_spec.2; have ro4 := f4.row hro (hro.apart hpx.top (by decide)); have st4 := f4.row hss.top HSB.out; have hs9 := (⟨ro4.cell 3, ro4.cell 4, ro4.cell 5, st4.cell 0⟩ : w4.cell? ⟨b0, 3, none⟩ = some (.int .i64 r.n) ∧ w4.cell? ⟨b0, 4, none⟩ = some (.int .i64 r.h) ∧ w4.cell? ⟨b0, 5, none⟩ = some (.int .i64 r.p) ∧ w4.cell? ⟨s.sb, 0, none⟩ = some (.pointer (some ⟨s.ab, 0, none⟩)))))
    have hrr := HRR.out.call (below_dN HB3.out 1)
    have rr4 := f4.row hrr (hrr.apart hpx.top (by decide))
    have hBw := HBW.out.trans ((below_dN HB3.out 1).mono HBW.out.size)
    have HD := Lib.hid (((HPX.out w3.drew (below_dN HB3.out 1)).1.putA HJ.out HSS.out hd4).pre hBw)
    have HR4 := Lib.hid rr4
    have HRO4 := Lib.hid ro4
    have HBG := Lib.hid hBw.size
    have HSZ4 := Lib.hid (Nat.le_trans hBw.size f4.size)
    clear hs0 hs9 hpx hmap hro hss hd4 f4 ro4 st4 hrr rr4 hBw
    have o4 : w4.cell? ⟨b0, 4, none⟩ = some (.int .i64 r.h) := HRO4.out.cell 4
    have hsd := HSD.out
    have o2 : w4.cell? ⟨b0, 2, none⟩ = some (.int .i64 0) := by rw [← ha0]; exact HRO4.out.cell 2
    have c0 := HR4.out.cell 0
    have c1 := HR4.out.cell 1
    have f0 := HR4.out.frozen 0
    have f1 := HR4.out.frozen 1
    have hrw : IntKind.u64.wrap R = R := by have := room_lt (sp F (j : Int)).P r.n (szO r.h); rw [← HRm.out] at this; rw [IntKind.wrap_u64]; omega
    go_wp2_with (go_at_call 15; (with_reducible refine (shared_is _ _).mono ?_); rintro e wz ⟨rfl, rfl⟩; rw [hsd])
    exact bodyPost_ret (v := .agg #[.int .i64 0, .int .u64 R]) (by simp [results, Tryz.results36, go_sem, *]) rfl ⟨rfl, HD.out.lay HR4.out HG1.out _ _⟩
set_option maxRecDepth 100000 in
set_option maxHeartbeats 4000000 in
theorem rmap_sze1 (h : RfAt B w T F) {j : Nat} (hj : j < F.L.length) (hs : T.LS[j]? = some s) (r : Rq) (_hr : r.s = j) (ok : RqOk r) (hl : F.O.length ≤ 1000) (hsh : shr r.h) (ha0 : r.a = 0) (h1 : mapE (fun _ => zP) (szO r.h) r.n r.h r.p (objI F r.h) ≠ 0) : Calls Tryz.prog 36 #[.pointer (some ⟨T.xa, 0, none⟩), .pointer (some ⟨s.sb, 0, none⟩), .agg (opL r).toArray] w (ResF B w T (mapR F r)) := by
  have hres : mapR F r = noF F (mapE (fun _ => zP) (szO r.h) r.n r.h r.p (objI F r.h)) := by
    unfold mapR
    rw [if_pos ha0, if_pos h1]
  rw [hres]
  clear hres
  obtain ⟨W, b0, b1, hO⟩ := opAt w r
  obtain ⟨hbW, ro, rr, hg0, hg1⟩ := hO.facts
  obtain ⟨s', hs', hsp⟩ := h.space hj
  rw [hs] at hs'
  injection hs' with hs'
  subst hs'
  have hsd : decide (shr r.h) = true := decide_eq_true hsh
  have hobI : objI F r.h = (F.O.length : Int) := by unfold objI; rw [if_pos hsh]
  obtain ⟨Ao, co, hvo⟩ := h.os.form
  have hno := (h.obj hvo).1
  have v1 := (h.call hbW).c1
  rw [hvo, hno] at v1
  obtain ⟨no, hno'⟩ : ∃ no, no = F.O.length := ⟨_, rfl⟩
  rw [← hno'] at v1 hobI
  rw [hobI] at h1 ⊢
  have HO : Hid (∀ w2, Below W.heap.size W w2 → w2.cell? ⟨b0, 2, none⟩ = some (.int .i64 r.a) ∧ w2.cell? ⟨b0, 3, none⟩ = some (.int .i64 r.n) ∧ w2.cell? ⟨b0, 4, none⟩ = some (.int .i64 r.h) ∧ w2.cell? ⟨b0, 5, none⟩ = some (.int .i64 r.p) ∧ w2.cell? ⟨s.sb, 0, none⟩ = some (.pointer (some ⟨s.ab, 0, none⟩))) := fun w2 hb2 => ⟨(ro.call hb2).cell 2, (ro.call hb2).cell 3, (ro.call hb2).cell 4, (ro.call hb2).cell 5, (hsp.call (hbW.trans (hb2.mono hbW.size))).c0⟩
  have o24 := HO.out W (Below.refl _ _)
  have o2 := o24.1
  have o4 := o24.2.2.1
  rw [ha0] at o2
  clear o24
  have HPX : Hid (∀ w2, Below W.heap.size W w2 → RfAt B w2 T F ∧ Px B w2 s.ab s.v (sp F (j : Int)).P) := fun w2 hb2 => ⟨h.call (hbW.trans (hb2.mono hbW.size)), (hsp.call (hbW.trans (hb2.mono hbW.size))).ars⟩
  have HRR := Lib.hid rr
  have HRO := Lib.hid ro
  have HSP := Lib.hid hsp
  have HW := Lib.hid hO
  have HG1 := Lib.hid hg1
  have HBW := Lib.hid hbW
  have HJ := Lib.hid hj
  have HSS := Lib.hid hs
  have OK := Lib.hid ok
  have HL := Lib.hid hl
  have hsb0 : s.sb ≠ s.ab := hsp.top.apart hsp.ars.top (by decide)
  have HSB := Lib.hid hsb0
  have H1 := Lib.hid h1
  clear h hbW ro rr hg0 hg1 hO hsp ok hj hs hl hsb0 hobI hvo hno hno' h1
  obtain ⟨E, hE⟩ : ∃ E, E = mapE (fun _ => zP) (szO r.h) r.n r.h r.p (no : Int) := ⟨_, rfl⟩
  rw [← hE]
  have HE := Lib.hid hE
  clear hE
  go_enter Tryz.func36, Tryz.ntmps36
  go_upto_region 1 with (fail)
  rw [← HW.out.1, ← HW.out.2.1, ← HW.out.2.2]
  go_upto_region 6 with (go_at_call 15; (with_reducible refine (shared_is _ _).mono ?_); rintro e wz ⟨rfl, rfl⟩; rw [hsd])
  have HSD := Lib.hid hsd
  clear o2 o4 v1 hsd
  have hs0 := (HO.out W.drew (below_dN (Below.refl _ _) 1)).2
  have hnew := xnew_is W.drew
  go_region_held3 (fun v => v.cell? ⟨b0, 3, none⟩ = some (.int .i64 r.n) ∧ v.cell? ⟨b0, 4, none⟩ = some (.int .i64 r.h) ∧ v.cell? ⟨b0, 5, none⟩ = some (.int .i64 r.p) ∧ v.cell? ⟨s.sb, 0, none⟩ = some (.pointer (some ⟨s.ab, 0, none⟩)))
    (first | exact hs0 | exact hs1 | exact hs2)
    (first | (go_at_call 32; (with_reducible refine hnew.mono ?_); rintro e w1 ⟨xb, vb, rfl, hx1, hb1⟩; have hB1 : Below W.heap.size W w1 := Below.trans (below_dN (Below.refl _ _) 1) hb1; have hs1 := (HO.out w1 hB1).2) | (go_at_call 18; (with_reducible refine (size_is _ _).mono ?_); rintro e wz ⟨rfl, rfl⟩) | (go_at_call 54; refine (map_is hx1 (a := szO r.h) (n := r.n) (how := r.h) (p := r.p) (o := (no : Int)) (szO_fits r.h) OK.out.n).mono ?_; rintro e w2 ⟨rfl, hd2⟩; have hB2 : Below W.heap.size W w2 := hB1.trans (newP_below hx1 hd2 hB1); have hs2 := (HO.out w2 hB2).2))
  all_goals
    have HB2 := Lib.hid hB2
    clear hs0 hs1 hs2 hx1 hd2 hB1 hB2 hb1 hnew
    have h1' := H1.out
    rw [← HE.out] at h1' ⊢
    have hne : (E != 0) = true := by simpa using h1'
    have HD := Lib.hid ((HPX.out w2 HB2.out).1.did (Below.refl _ _))
    clear h1'
    have HBw := Lib.hid (HBW.out.trans (HB2.out.mono HBW.out.size))
    go_wp2_with (go_at_call 30; (with_reducible refine (rnone_is _ _).mono ?_); rintro e w9 ⟨rfl, hb9⟩; have g0 := ((HRR.out.call HB2.out).call hb9).cell 0; have g1 := ((HRR.out.call HB2.out).call hb9).cell 1; have f0 := ((HRR.out.call HB2.out).call hb9).frozen 0; have f1 := ((HRR.out.call HB2.out).call hb9).frozen 1; have HB9 := Lib.hid hb9; clear hb9)
    exact bodyPost_ret (v := .agg #[.int .i64 E, .int .u64 0]) (by simp [results, Tryz.results36, go_sem, *]) rfl ⟨rfl, (((HD.out.pre HBw.out)).post HB9.out |>.lay ((HRR.out.call HB2.out).call HB9.out) HG1.out _ _)⟩
set_option maxRecDepth 100000 in
set_option maxHeartbeats 4000000 in
theorem rmap_szr0 (h : RfAt B w T F) {j : Nat} (hj : j < F.L.length) (hs : T.LS[j]? = some s) (r : Rq) (hr : r.s = j) (ok : RqOk r) (hl : F.O.length ≤ 1000) (hsh : shr r.h) (ha0 : r.a = 0) (h1 : mapE (fun _ => zP) (szO r.h) r.n r.h r.p (objI F r.h) = 0) (h2 : roomP (sp F j).P r.n (szO r.h) = 0) : Calls Tryz.prog 36 #[.pointer (some ⟨T.xa, 0, none⟩), .pointer (some ⟨s.sb, 0, none⟩), .agg (opL r).toArray] w (ResF B w T (mapR F r)) := by
  have hres : mapR F r = noF F 13 := by
    unfold mapR
    rw [if_pos ha0, if_neg (fun k => k h1), hr, if_pos h2]
  rw [hres]
  clear hres
  obtain ⟨W, b0, b1, hO⟩ := opAt w r
  obtain ⟨hbW, ro, rr, hg0, hg1⟩ := hO.facts
  obtain ⟨s', hs', hsp⟩ := h.space hj
  rw [hs] at hs'
  injection hs' with hs'
  subst hs'
  have hsd : decide (shr r.h) = true := decide_eq_true hsh
  have hobI : objI F r.h = (F.O.length : Int) := by unfold objI; rw [if_pos hsh]
  obtain ⟨Ao, co, hvo⟩ := h.os.form
  have hno := (h.obj hvo).1
  have v1 := (h.call hbW).c1
  rw [hvo, hno] at v1
  obtain ⟨no, hno'⟩ : ∃ no, no = F.O.length := ⟨_, rfl⟩
  rw [← hno'] at v1 hobI
  rw [hobI] at h1
  have HO : Hid (∀ w2, Below W.heap.size W w2 → w2.cell? ⟨b0, 2, none⟩ = some (.int .i64 r.a) ∧ w2.cell? ⟨b0, 3, none⟩ = some (.int .i64 r.n) ∧ w2.cell? ⟨b0, 4, none⟩ = some (.int .i64 r.h) ∧ w2.cell? ⟨b0, 5, none⟩ = some (.int .i64 r.p) ∧ w2.cell? ⟨s.sb, 0, none⟩ = some (.pointer (some ⟨s.ab, 0, none⟩))) := fun w2 hb2 => ⟨(ro.call hb2).cell 2, (ro.call hb2).cell 3, (ro.call hb2).cell 4, (ro.call hb2).cell 5, (hsp.call (hbW.trans (hb2.mono hbW.size))).c0⟩
  have o24 := HO.out W (Below.refl _ _)
  have o2 := o24.1
  have o4 := o24.2.2.1
  rw [ha0] at o2
  clear o24
  have HPX : Hid (∀ w2, Below W.heap.size W w2 → RfAt B w2 T F ∧ Px B w2 s.ab s.v (sp F (j : Int)).P) := fun w2 hb2 => ⟨h.call (hbW.trans (hb2.mono hbW.size)), (hsp.call (hbW.trans (hb2.mono hbW.size))).ars⟩
  have HRR := Lib.hid rr
  have HRO := Lib.hid ro
  have HSP := Lib.hid hsp
  have HW := Lib.hid hO
  have HG1 := Lib.hid hg1
  have HBW := Lib.hid hbW
  have HJ := Lib.hid hj
  have HSS := Lib.hid hs
  have OK := Lib.hid ok
  have HL := Lib.hid hl
  have hsb0 : s.sb ≠ s.ab := hsp.top.apart hsp.ars.top (by decide)
  have HSB := Lib.hid hsb0
  have H1 := Lib.hid h1
  have H2 := Lib.hid h2
  clear h hbW ro rr hg0 hg1 hO hsp ok hj hs hl hsb0 hobI hvo hno hno' h1 h2
  obtain ⟨R, hR⟩ : ∃ R, R = roomP (sp F (j : Int)).P r.n (szO r.h) := ⟨_, rfl⟩
  have HRm := Lib.hid hR
  clear hR
  go_enter Tryz.func36, Tryz.ntmps36
  go_upto_region 1 with (fail)
  rw [← HW.out.1, ← HW.out.2.1, ← HW.out.2.2]
  go_upto_region 6 with (go_at_call 15; (with_reducible refine (shared_is _ _).mono ?_); rintro e wz ⟨rfl, rfl⟩; rw [hsd])
  have HSD := Lib.hid hsd
  clear o2 o4 v1 hsd
  have hs0 := (HO.out W.drew (below_dN (Below.refl _ _) 1)).2
  have hnew := xnew_is W.drew
  go_region_held3 (fun v => v.cell? ⟨b0, 3, none⟩ = some (.int .i64 r.n) ∧ v.cell? ⟨b0, 4, none⟩ = some (.int .i64 r.h) ∧ v.cell? ⟨b0, 5, none⟩ = some (.int .i64 r.p) ∧ v.cell? ⟨s.sb, 0, none⟩ = some (.pointer (some ⟨s.ab, 0, none⟩)))
    (first | exact hs0 | exact hs1 | exact hs2)
    (first | (go_at_call 32; (with_reducible refine hnew.mono ?_); rintro e w1 ⟨xb, vb, rfl, hx1, hb1⟩; have hB1 : Below W.heap.size W w1 := Below.trans (below_dN (Below.refl _ _) 1) hb1; have hs1 := (HO.out w1 hB1).2) | (go_at_call 18; (with_reducible refine (size_is _ _).mono ?_); rintro e wz ⟨rfl, rfl⟩) | (go_at_call 54; refine (map_is hx1 (a := szO r.h) (n := r.n) (how := r.h) (p := r.p) (o := (no : Int)) (szO_fits r.h) OK.out.n).mono ?_; rintro e w2 ⟨rfl, hd2⟩; have hB2 : Below W.heap.size W w2 := hB1.trans (newP_below hx1 hd2 hB1); have hs2 := (HO.out w2 hB2).2))
  all_goals
    have HB2 := Lib.hid hB2
    clear hs0 hs1 hs2 hx1 hd2 hB1 hB2 hb1 hnew
    rw [H1.out]
    go_upto_region 9 with (fail)
    have hs0 := (HO.out w2.drew (below_dN HB2.out 1)).2
    have hrm := room_is (HPX.out w2.drew (below_dN HB2.out 1)).2 (n := r.n) (szO_three r.h)
    rw [← HRm.out] at hrm
    have h2' := H2.out
    rw [← HRm.out] at h2'
    go_region_held3 (fun v => v.cell? ⟨b0, 3, none⟩ = some (.int .i64 r.n) ∧ v.cell? ⟨b0, 4, none⟩ = some (.int .i64 r.h) ∧ v.cell? ⟨b0, 5, none⟩ = some (.int .i64 r.p) ∧ v.cell? ⟨s.sb, 0, none⟩ = some (.pointer (some ⟨s.ab, 0, none⟩)))
      (first | exact hs0)
      (first | (go_at_call 18; (with_reducible refine (size_is _ _).mono ?_); rintro e wz ⟨rfl, rfl⟩) | (go_at_call 55; (with_reducible refine hrm.mono ?_); rintro e wy ⟨rfl, rfl⟩))
    clear hs0 hrm
    have HB3 := Lib.hid (below_dN HB2.out 1)
    change Hid (Below W.heap.size W w2.drew) at HB3
    generalize w2.drew = w3 at HB3 ⊢
    have HBw := Lib.hid (HBW.out.trans (HB3.out.mono HBW.out.size))
    have HD := Lib.hid ((HPX.out w3 HB3.out).1.did (Below.refl _ _))
    clear h2'
    go_wp2_with (go_at_call 30; (with_reducible refine (rnone_is _ _).mono ?_); rintro e w9 ⟨rfl, hb9⟩; have g0 := ((HRR.out.call HB3.out).call hb9).cell 0; have g1 := ((HRR.out.call HB3.out).call hb9).cell 1; have f0 := ((HRR.out.call HB3.out).call hb9).frozen 0; have f1 := ((HRR.out.call HB3.out).call hb9).frozen 1; have HB9 := Lib.hid hb9; clear hb9)
    exact bodyPost_ret (v := .agg #[.int .i64 13, .int .u64 0]) (by simp [results, Tryz.results36, go_sem, *]) rfl ⟨rfl, (((HD.out.pre HBw.out)).post HB9.out |>.lay ((HRR.out.call HB3.out).call HB9.out) HG1.out _ _)⟩
set_option maxRecDepth 100000 in
set_option maxHeartbeats 4000000 in
theorem rmap_sze2 (h : RfAt B w T F) {j : Nat} (hj : j < F.L.length) (hs : T.LS[j]? = some s) (r : Rq) (hr : r.s = j) (ok : RqOk r) (hl : F.O.length ≤ 1000) (hsh : shr r.h) (ha0 : r.a = 0) (h1 : mapE (fun _ => zP) (szO r.h) r.n r.h r.p (objI F r.h) = 0) (h2 : roomP (sp F j).P r.n (szO r.h) ≠ 0) (h3 : mapE (sp F j).P (roomP (sp F j).P r.n (szO r.h)) r.n r.h r.p (objI F r.h) ≠ 0) : Calls Tryz.prog 36 #[.pointer (some ⟨T.xa, 0, none⟩), .pointer (some ⟨s.sb, 0, none⟩), .agg (opL r).toArray] w (ResF B w T (mapR F r)) := by
  have hres : mapR F r = noF F (mapE (sp F j).P (roomP (sp F j).P r.n (szO r.h)) r.n r.h r.p (objI F r.h)) := by
    unfold mapR
    rw [if_pos ha0, if_neg (fun k => k h1), hr, if_neg h2]; unfold mapAt; rw [hr, if_pos h3]
  rw [hres]
  clear hres
  obtain ⟨W, b0, b1, hO⟩ := opAt w r
  obtain ⟨hbW, ro, rr, hg0, hg1⟩ := hO.facts
  obtain ⟨s', hs', hsp⟩ := h.space hj
  rw [hs] at hs'
  injection hs' with hs'
  subst hs'
  have hsd : decide (shr r.h) = true := decide_eq_true hsh
  have hobI : objI F r.h = (F.O.length : Int) := by unfold objI; rw [if_pos hsh]
  obtain ⟨Ao, co, hvo⟩ := h.os.form
  have hno := (h.obj hvo).1
  have v1 := (h.call hbW).c1
  rw [hvo, hno] at v1
  obtain ⟨no, hno'⟩ : ∃ no, no = F.O.length := ⟨_, rfl⟩
  rw [← hno'] at v1 hobI
  rw [hobI] at h1 h3 ⊢
  have HO : Hid (∀ w2, Below W.heap.size W w2 → w2.cell? ⟨b0, 2, none⟩ = some (.int .i64 r.a) ∧ w2.cell? ⟨b0, 3, none⟩ = some (.int .i64 r.n) ∧ w2.cell? ⟨b0, 4, none⟩ = some (.int .i64 r.h) ∧ w2.cell? ⟨b0, 5, none⟩ = some (.int .i64 r.p) ∧ w2.cell? ⟨s.sb, 0, none⟩ = some (.pointer (some ⟨s.ab, 0, none⟩))) := fun w2 hb2 => ⟨(ro.call hb2).cell 2, (ro.call hb2).cell 3, (ro.call hb2).cell 4, (ro.call hb2).cell 5, (hsp.call (hbW.trans (hb2.mono hbW.size))).c0⟩
  have o24 := HO.out W (Below.refl _ _)
  have o2 := o24.1
  have o4 := o24.2.2.1
  rw [ha0] at o2
  clear o24
  have HPX : Hid (∀ w2, Below W.heap.size W w2 → RfAt B w2 T F ∧ Px B w2 s.ab s.v (sp F (j : Int)).P) := fun w2 hb2 => ⟨h.call (hbW.trans (hb2.mono hbW.size)), (hsp.call (hbW.trans (hb2.mono hbW.size))).ars⟩
  have HRR := Lib.hid rr
  have HRO := Lib.hid ro
  have HSP := Lib.hid hsp
  have HW := Lib.hid hO
  have HG1 := Lib.hid hg1
  have HBW := Lib.hid hbW
  have HJ := Lib.hid hj
  have HSS := Lib.hid hs
  have OK := Lib.hid ok
  have HL := Lib.hid hl
  have hsb0 : s.sb ≠ s.ab := hsp.top.apart hsp.ars.top (by decide)
  have HSB := Lib.hid hsb0
  have H1 := Lib.hid h1
  have H2 := Lib.hid h2
  have H3 := Lib.hid h3
  clear h hbW ro rr hg0 hg1 hO hsp ok hj hs hl hsb0 hobI hvo hno hno' h1 h2 h3
  obtain ⟨R, hR⟩ : ∃ R, R = roomP (sp F (j : Int)).P r.n (szO r.h) := ⟨_, rfl⟩
  rw [← hR]
  have HRm := Lib.hid hR
  obtain ⟨E, hE⟩ : ∃ E, E = mapE (sp F (j : Int)).P R r.n r.h r.p (no : Int) := ⟨_, rfl⟩
  rw [← hE]
  have HE := Lib.hid hE
  clear hE
  clear hR
  go_enter Tryz.func36, Tryz.ntmps36
  go_upto_region 1 with (fail)
  rw [← HW.out.1, ← HW.out.2.1, ← HW.out.2.2]
  go_upto_region 6 with (go_at_call 15; (with_reducible refine (shared_is _ _).mono ?_); rintro e wz ⟨rfl, rfl⟩; rw [hsd])
  have HSD := Lib.hid hsd
  clear o2 o4 v1 hsd
  have hs0 := (HO.out W.drew (below_dN (Below.refl _ _) 1)).2
  have hnew := xnew_is W.drew
  go_region_held3 (fun v => v.cell? ⟨b0, 3, none⟩ = some (.int .i64 r.n) ∧ v.cell? ⟨b0, 4, none⟩ = some (.int .i64 r.h) ∧ v.cell? ⟨b0, 5, none⟩ = some (.int .i64 r.p) ∧ v.cell? ⟨s.sb, 0, none⟩ = some (.pointer (some ⟨s.ab, 0, none⟩)))
    (first | exact hs0 | exact hs1 | exact hs2)
    (first | (go_at_call 32; (with_reducible refine hnew.mono ?_); rintro e w1 ⟨xb, vb, rfl, hx1, hb1⟩; have hB1 : Below W.heap.size W w1 := Below.trans (below_dN (Below.refl _ _) 1) hb1; have hs1 := (HO.out w1 hB1).2) | (go_at_call 18; (with_reducible refine (size_is _ _).mono ?_); rintro e wz ⟨rfl, rfl⟩) | (go_at_call 54; refine (map_is hx1 (a := szO r.h) (n := r.n) (how := r.h) (p := r.p) (o := (no : Int)) (szO_fits r.h) OK.out.n).mono ?_; rintro e w2 ⟨rfl, hd2⟩; have hB2 : Below W.heap.size W w2 := hB1.trans (newP_below hx1 hd2 hB1); have hs2 := (HO.out w2 hB2).2))
  all_goals
    have HB2 := Lib.hid hB2
    clear hs0 hs1 hs2 hx1 hd2 hB1 hB2 hb1 hnew
    rw [H1.out]
    go_upto_region 9 with (fail)
    have hs0 := (HO.out w2.drew (below_dN HB2.out 1)).2
    have hrm := room_is (HPX.out w2.drew (below_dN HB2.out 1)).2 (n := r.n) (szO_three r.h)
    rw [← HRm.out] at hrm
    have h2' := H2.out
    rw [← HRm.out] at h2'
    go_region_held3 (fun v => v.cell? ⟨b0, 3, none⟩ = some (.int .i64 r.n) ∧ v.cell? ⟨b0, 4, none⟩ = some (.int .i64 r.h) ∧ v.cell? ⟨b0, 5, none⟩ = some (.int .i64 r.p) ∧ v.cell? ⟨s.sb, 0, none⟩ = some (.pointer (some ⟨s.ab, 0, none⟩)))
      (first | exact hs0)
      (first | (go_at_call 18; (with_reducible refine (size_is _ _).mono ?_); rintro e wz ⟨rfl, rfl⟩) | (go_at_call 55; (with_reducible refine hrm.mono ?_); rintro e wy ⟨rfl, rfl⟩))
    clear hs0 hrm
    have HB3 := Lib.hid (below_dN HB2.out 1)
    change Hid (Below W.heap.size W w2.drew) at HB3
    generalize w2.drew = w3 at HB3 ⊢
    have hRn : (R == 0) = false := by simpa using h2'
    go_upto_region 12 with (fail)
    have hs0 := (HO.out w3.drew (below_dN HB3.out 1)).2
    have hpx := (HPX.out w3.drew (below_dN HB3.out 1)).2
    have hmap := map_is hpx (a := R) (n := r.n) (how := r.h) (p := r.p) (o := (no : Int)) (by have := room_fits (sp F (j : Int)).P r.n (szO r.h); rw [← HRm.out] at this; exact this) OK.out.n
    have h3' := H3.out
    rw [← HRm.out] at h3'
    unfold DidE at hmap
    rw [← HE.out] at hmap h3'
    rw [if_neg h3'] at hmap
    have hne : (E != 0) = true := by simpa using h3'
    have HH := Lib.hid h3'
    clear h3'
    have hro := HRO.out.call (below_dN HB3.out 1)
    have hss := HSP.out.call (HBW.out.trans ((below_dN HB3.out 1).mono HBW.out.size))
    go_region_held3 (fun v => v.cell? ⟨b0, 3, none⟩ = some (.int .i64 r.n) ∧ v.cell? ⟨b0, 4, none⟩ = some (.int .i64 r.h) ∧ v.cell? ⟨b0, 5, none⟩ = some (.int .i64 r.p) ∧ v.cell? ⟨s.sb, 0, none⟩ = some (.pointer (some ⟨s.ab, 0, none⟩)))
      (first | exact hs0 | exact hs9)
      (first | (go_at_call 54; (with_reducible refine hmap.mono ?_); rintro e w4 ⟨rfl, hd4⟩; have f4 := hd4.choose_spec.2; have ro4 := f4.row hro (hro.apart hpx.top (by decide)); have st4 := f4.row hss.top HSB.out; have hs9 := (⟨ro4.cell 3, ro4.cell 4, ro4.cell 5, st4.cell 0⟩ : w4.cell? ⟨b0, 3, none⟩ = some (.int .i64 r.n) ∧ w4.cell? ⟨b0, 4, none⟩ = some (.int .i64 r.h) ∧ w4.cell? ⟨b0, 5, none⟩ = some (.int .i64 r.p) ∧ w4.cell? ⟨s.sb, 0, none⟩ = some (.pointer (some ⟨s.ab, 0, none⟩)))))
    have hrr := HRR.out.call (below_dN HB3.out 1)
    have rr4 := f4.row hrr (hrr.apart hpx.top (by decide))
    have hBw := HBW.out.trans ((below_dN HB3.out 1).mono HBW.out.size)
    have HD := Lib.hid (((HPX.out w3.drew (below_dN HB3.out 1)).1.putA_no HJ.out HSS.out hd4).pre hBw)
    have HR4 := Lib.hid rr4
    clear hs0 hs9 hpx hmap hro hss hd4 f4 ro4 st4 hrr rr4 hBw
    go_wp2_with (go_at_call 30; (with_reducible refine (rnone_is _ _).mono ?_); rintro e w9 ⟨rfl, hb9⟩; have g0 := (HR4.out.call hb9).cell 0; have g1 := (HR4.out.call hb9).cell 1; have f0 := (HR4.out.call hb9).frozen 0; have f1 := (HR4.out.call hb9).frozen 1; have HB9 := Lib.hid hb9; clear hb9)
    exact bodyPost_ret (v := .agg #[.int .i64 E, .int .u64 0]) (by simp [results, Tryz.results36, go_sem, *]) rfl ⟨rfl, (HD.out.post HB9.out).lay (HR4.out.call HB9.out) HG1.out _ _⟩
set_option maxRecDepth 100000 in
set_option maxHeartbeats 4000000 in
theorem rmap_szok (h : RfAt B w T F) {j : Nat} (hj : j < F.L.length) (hs : T.LS[j]? = some s) (r : Rq) (hr : r.s = j) (ok : RqOk r) (hl : F.O.length ≤ 1000) (hsh : shr r.h) (ha0 : r.a = 0) (h1 : mapE (fun _ => zP) (szO r.h) r.n r.h r.p (objI F r.h) = 0) (h2 : roomP (sp F j).P r.n (szO r.h) ≠ 0) (h3 : mapE (sp F j).P (roomP (sp F j).P r.n (szO r.h)) r.n r.h r.p (objI F r.h) = 0) : Calls Tryz.prog 36 #[.pointer (some ⟨T.xa, 0, none⟩), .pointer (some ⟨s.sb, 0, none⟩), .agg (opL r).toArray] w (ResF B w T (mapR F r)) := by
  have hres : mapR F r = (0, roomP (sp F j).P r.n (szO r.h), put (objF F r.h) r.s { sp F r.s with P := mapP (sp F r.s).P (roomP (sp F j).P r.n (szO r.h)) r.n r.h r.p (objI F r.h) }) := by
    unfold mapR
    rw [if_pos ha0, if_neg (fun k => k h1), hr, if_neg h2]; unfold mapAt; rw [hr, if_neg (fun k => k h3)]
  rw [hres]
  rw [hr]
  have hobF : objF F r.h = { F with O := F.O ++ [fun _ => 0] } := by unfold objF; rw [if_pos hsh]
  rw [hobF]
  clear hres
  obtain ⟨W, b0, b1, hO⟩ := opAt w r
  obtain ⟨hbW, ro, rr, hg0, hg1⟩ := hO.facts
  obtain ⟨s', hs', hsp⟩ := h.space hj
  rw [hs] at hs'
  injection hs' with hs'
  subst hs'
  have hsd : decide (shr r.h) = true := decide_eq_true hsh
  have hobI : objI F r.h = (F.O.length : Int) := by unfold objI; rw [if_pos hsh]
  obtain ⟨Ao, co, hvo⟩ := h.os.form
  have hno := (h.obj hvo).1
  have v1 := (h.call hbW).c1
  rw [hvo, hno] at v1
  obtain ⟨no, hno'⟩ : ∃ no, no = F.O.length := ⟨_, rfl⟩
  rw [← hno'] at v1 hobI
  rw [hobI] at h1 h3 ⊢
  have HO : Hid (∀ w2, Below W.heap.size W w2 → w2.cell? ⟨b0, 2, none⟩ = some (.int .i64 r.a) ∧ w2.cell? ⟨b0, 3, none⟩ = some (.int .i64 r.n) ∧ w2.cell? ⟨b0, 4, none⟩ = some (.int .i64 r.h) ∧ w2.cell? ⟨b0, 5, none⟩ = some (.int .i64 r.p) ∧ w2.cell? ⟨s.sb, 0, none⟩ = some (.pointer (some ⟨s.ab, 0, none⟩))) := fun w2 hb2 => ⟨(ro.call hb2).cell 2, (ro.call hb2).cell 3, (ro.call hb2).cell 4, (ro.call hb2).cell 5, (hsp.call (hbW.trans (hb2.mono hbW.size))).c0⟩
  have o24 := HO.out W (Below.refl _ _)
  have o2 := o24.1
  have o4 := o24.2.2.1
  rw [ha0] at o2
  clear o24
  have HPX : Hid (∀ w2, Below W.heap.size W w2 → RfAt B w2 T F ∧ Px B w2 s.ab s.v (sp F (j : Int)).P) := fun w2 hb2 => ⟨h.call (hbW.trans (hb2.mono hbW.size)), (hsp.call (hbW.trans (hb2.mono hbW.size))).ars⟩
  have HRR := Lib.hid rr
  have HRO := Lib.hid ro
  have HSP := Lib.hid hsp
  have HW := Lib.hid hO
  have HG1 := Lib.hid hg1
  have HBW := Lib.hid hbW
  have HJ := Lib.hid hj
  have HSS := Lib.hid hs
  have OK := Lib.hid ok
  have HL := Lib.hid hl
  have hsb0 : s.sb ≠ s.ab := hsp.top.apart hsp.ars.top (by decide)
  have HSB := Lib.hid hsb0
  have HNO := Lib.hid hno'
  have H1 := Lib.hid h1
  have H2 := Lib.hid h2
  have H3 := Lib.hid h3
  clear h hbW ro rr hg0 hg1 hO hsp ok hj hs hl hsb0 hobI hvo hno hno' h1 h2 h3
  clear hobF
  obtain ⟨R, hR⟩ : ∃ R, R = roomP (sp F (j : Int)).P r.n (szO r.h) := ⟨_, rfl⟩
  rw [← hR]
  have HRm := Lib.hid hR
  clear hR
  go_enter Tryz.func36, Tryz.ntmps36
  go_upto_region 1 with (fail)
  rw [← HW.out.1, ← HW.out.2.1, ← HW.out.2.2]
  go_upto_region 6 with (go_at_call 15; (with_reducible refine (shared_is _ _).mono ?_); rintro e wz ⟨rfl, rfl⟩; rw [hsd])
  have HSD := Lib.hid hsd
  clear o2 o4 v1 hsd
  have hs0 := (HO.out W.drew (below_dN (Below.refl _ _) 1)).2
  have hnew := xnew_is W.drew
  go_region_held3 (fun v => v.cell? ⟨b0, 3, none⟩ = some (.int .i64 r.n) ∧ v.cell? ⟨b0, 4, none⟩ = some (.int .i64 r.h) ∧ v.cell? ⟨b0, 5, none⟩ = some (.int .i64 r.p) ∧ v.cell? ⟨s.sb, 0, none⟩ = some (.pointer (some ⟨s.ab, 0, none⟩)))
    (first | exact hs0 | exact hs1 | exact hs2)
    (first | (go_at_call 32; (with_reducible refine hnew.mono ?_); rintro e w1 ⟨xb, vb, rfl, hx1, hb1⟩; have hB1 : Below W.heap.size W w1 := Below.trans (below_dN (Below.refl _ _) 1) hb1; have hs1 := (HO.out w1 hB1).2) | (go_at_call 18; (with_reducible refine (size_is _ _).mono ?_); rintro e wz ⟨rfl, rfl⟩) | (go_at_call 54; refine (map_is hx1 (a := szO r.h) (n := r.n) (how := r.h) (p := r.p) (o := (no : Int)) (szO_fits r.h) OK.out.n).mono ?_; rintro e w2 ⟨rfl, hd2⟩; have hB2 : Below W.heap.size W w2 := hB1.trans (newP_below hx1 hd2 hB1); have hs2 := (HO.out w2 hB2).2))
  all_goals
    have HB2 := Lib.hid hB2
    clear hs0 hs1 hs2 hx1 hd2 hB1 hB2 hb1 hnew
    rw [H1.out]
    go_upto_region 9 with (fail)
    have hs0 := (HO.out w2.drew (below_dN HB2.out 1)).2
    have hrm := room_is (HPX.out w2.drew (below_dN HB2.out 1)).2 (n := r.n) (szO_three r.h)
    rw [← HRm.out] at hrm
    have h2' := H2.out
    rw [← HRm.out] at h2'
    go_region_held3 (fun v => v.cell? ⟨b0, 3, none⟩ = some (.int .i64 r.n) ∧ v.cell? ⟨b0, 4, none⟩ = some (.int .i64 r.h) ∧ v.cell? ⟨b0, 5, none⟩ = some (.int .i64 r.p) ∧ v.cell? ⟨s.sb, 0, none⟩ = some (.pointer (some ⟨s.ab, 0, none⟩)))
      (first | exact hs0)
      (first | (go_at_call 18; (with_reducible refine (size_is _ _).mono ?_); rintro e wz ⟨rfl, rfl⟩) | (go_at_call 55; (with_reducible refine hrm.mono ?_); rintro e wy ⟨rfl, rfl⟩))
    clear hs0 hrm
    have HB3 := Lib.hid (below_dN HB2.out 1)
    change Hid (Below W.heap.size W w2.drew) at HB3
    generalize w2.drew = w3 at HB3 ⊢
    have hRn : (R == 0) = false := by simpa using h2'
    go_upto_region 12 with (fail)
    have hs0 := (HO.out w3.drew (below_dN HB3.out 1)).2
    have hpx := (HPX.out w3.drew (below_dN HB3.out 1)).2
    have hmap := map_is hpx (a := R) (n := r.n) (how := r.h) (p := r.p) (o := (no : Int)) (by have := room_fits (sp F (j : Int)).P r.n (szO r.h); rw [← HRm.out] at this; exact this) OK.out.n
    have h3' := H3.out
    rw [← HRm.out] at h3'
    unfold DidE at hmap
    rw [h3', if_pos rfl] at hmap
    clear h3'
    have hro := HRO.out.call (below_dN HB3.out 1)
    have hss := HSP.out.call (HBW.out.trans ((below_dN HB3.out 1).mono HBW.out.size))
    go_region_held3 (fun v => v.cell? ⟨b0, 3, none⟩ = some (.int .i64 r.n) ∧ v.cell? ⟨b0, 4, none⟩ = some (.int .i64 r.h) ∧ v.cell? ⟨b0, 5, none⟩ = some (.int .i64 r.p) ∧ v.cell? ⟨s.sb, 0, none⟩ = some (.pointer (some ⟨s.ab, 0, none⟩)))
      (first | exact hs0 | exact hs9)
      (first | (go_at_call 54; (with_reducible refine hmap.mono ?_); rintro e w4 ⟨rfl, hd4⟩; have f4 := hd4.choose_spec.2; have ro4 := f4.row hro (hro.apart hpx.top (by decide)); have st4 := f4.row hss.top HSB.out; have hs9 := (⟨ro4.cell 3, ro4.cell 4, ro4.cell 5, st4.cell 0⟩ : w4.cell? ⟨b0, 3, none⟩ = some (.int .i64 r.n) ∧ w4.cell? ⟨b0, 4, none⟩ = some (.int .i64 r.h) ∧ w4.cell? ⟨b0, 5, none⟩ = some (.int .i64 r.p) ∧ w4.cell? ⟨s.sb, 0, none⟩ = some (.pointer (some ⟨s.ab, 0, none⟩)))))
    have hrr := HRR.out.call (below_dN HB3.out 1)
    have rr4 := f4.row hrr (hrr.apart hpx.top (by decide))
    have hBw := HBW.out.trans ((below_dN HB3.out 1).mono HBW.out.size)
    have HD := Lib.hid (((HPX.out w3.drew (below_dN HB3.out 1)).1.putA HJ.out HSS.out hd4).pre hBw)
    have HR4 := Lib.hid rr4
    have HRO4 := Lib.hid ro4
    have HBG := Lib.hid hBw.size
    have HSZ4 := Lib.hid (Nat.le_trans hBw.size f4.size)
    clear hs0 hs9 hpx hmap hro hss hd4 f4 ro4 st4 hrr rr4 hBw
    have o4 : w4.cell? ⟨b0, 4, none⟩ = some (.int .i64 r.h) := HRO4.out.cell 4
    have hsd := HSD.out
    obtain ⟨T2, e2, h2, f2, i2⟩ := HD.out
    have h2d := h2.drewN 1
    obtain ⟨W5, rmk, hw5, g5⟩ := words_make w4.drew
    have b5 : Below w4.drew.heap.size w4.drew W5 := (Below.refl _ _).grown g5 (Nat.le_refl _) (fun k e => by cases e)
    obtain ⟨A2, c2, hv2⟩ := h2.os.form
    have hn2 := (h2.obj hv2).1
    have ho5 := (h2d.call b5).os
    obtain ⟨A6, c6, W6, r6, o6, g6, t6⟩ := ho5.app1 (Nat.le_trans h2d.lw b5.size) (w4.drew.heap.size, 32768) (by rw [h2.no]; have := HL.out; show F.O.length ≤ _; omega) #[.slice (some ⟨w4.drew.heap.size, 0, none⟩) 32768 32768] rfl
    obtain ⟨x1, xf, hD6⟩ := h2d.moreO (w0 := w4.drew) b5 (hw5.base h2d.lw) (Nat.le_refl _) g6 o6 (t6.imp id fun ⟨g, e, hg⟩ => ⟨g, e, Nat.le_trans b5.size hg⟩)
    have r6' := r6 _ rfl
    have v1 : w4.cell? ⟨T2.xa, 1, none⟩ = some T2.vo := h2.c1
    have v5 := (h2d.call b5).c1
    have v5l := (h2d.call b5).top.lt
    rw [e2] at v1 v5 v5l x1 xf hD6
    rw [hv2] at v1 v5 r6' x1
    change (Builtin.append_ #[36, 36] 36 _).run Tryz.prog (W5.alloc (.cells #[.slice (some ⟨w4.drew.heap.size, 0, none⟩) 32768 32768] 50)) = _ at r6'
    have nb1 : some b1 ≠ T2.vo.ownBlock := fun e => by
      obtain ⟨vs, q, _⟩ := h2.os.block e.symm
      exact HR4.out.apart q (by decide) rfl
    have nb0 : some b0 ≠ T2.vo.ownBlock := fun e => by
      obtain ⟨vs, q, _⟩ := h2.os.block e.symm
      exact HRO4.out.apart q (by decide) rfl
    have nx1 : b1 ≠ T.xa := by rw [← e2]; exact HR4.out.apart h2.top (by decide)
    have nx0 : b0 ≠ T.xa := by rw [← e2]; exact HRO4.out.apart h2.top (by decide)
    obtain ⟨m2, hm2⟩ : ∃ m, m = T2.LO.length := ⟨_, rfl⟩
    rw [← hm2] at v1 v5 r6' x1 hD6
    obtain ⟨W7, hW7⟩ : ∃ W7, W7 = W6.setCell ⟨T.xa, 1, none⟩ (.slice A6 (m2 + 1) c6) := ⟨_, rfl⟩
    have rr7 : Lrow W7 b1 33 [.int .i64 0, .int .u64 0] := by rw [hW7]; exact (((HR4.out.drewN 1).call b5).grown g6 nb1).far nx1 _
    have ro7 : Lrow W7 b0 25 (opL r) := by rw [hW7]; exact (((HRO4.out.drewN 1).call b5).grown g6 nb0).far nx0 _
    rw [← hW7] at hD6
    have HD7 : Hid (DidF B w T _ W7) := DidF.trans e2 f2 i2 ((hD6.pre (below_dN (Below.refl _ _) 1)))
    have HR7 := Lib.hid rr7
    have HRO7 := Lib.hid ro7
    have HW7 := Lib.hid hW7
    clear h2 h2d f2 i2 hw5 g5 b5 hv2 hn2 ho5 r6 o6 g6 t6 hD6 nb1 nb0 nx1 nx0 hm2 rr7 ro7 hW7
    go_upto_region 16 with (go_at_call 15; (with_reducible refine (shared_is _ _).mono ?_); rintro e wz ⟨rfl, rfl⟩; rw [hsd])
    go_region_law (refine step_append_run (by rfl) _ _ 36 (by rfl) (.slice A2 m2 c2) (.slice (some ⟨W5.heap.size, 0, none⟩) 1 1) (by simp [Act.eval]) (by simp [Act.eval]) r6' ?_)
    all_goals
      rw [← HW7.out]
      have o2 : W7.cell? ⟨b0, 2, none⟩ = some (.int .i64 0) := by rw [← ha0]; exact HRO7.out.cell 2
      clear x1 xf v5 v1 r6' rmk v5l o4
      have c0 := HR7.out.cell 0
      have c1 := HR7.out.cell 1
      have f0 := HR7.out.frozen 0
      have f1 := HR7.out.frozen 1
      have hrw : IntKind.u64.wrap R = R := by have := room_lt (sp F (j : Int)).P r.n (szO r.h); rw [← HRm.out] at this; rw [IntKind.wrap_u64]; omega
      go_wp2_with fail
      exact bodyPost_ret (v := .agg #[.int .i64 0, .int .u64 R]) (by simp [results, Tryz.results36, go_sem, *]) rfl ⟨rfl, HD7.out.lay HR7.out HG1.out _ _⟩
end
end Go.Proofs.YtnppnoabhpkmkaaGreat
