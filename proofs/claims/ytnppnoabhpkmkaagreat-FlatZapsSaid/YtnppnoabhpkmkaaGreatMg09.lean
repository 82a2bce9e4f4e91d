/- Areas: Protect. -/
import Derived.Test.YtnppnoabhpkmkaaGreatMg08
namespace Go.Proofs.YtnppnoabhpkmkaaGreat
open Go.RowKit
section
variable {B c xa : Nat} {w w' : World} {A : Option Addr} {l : List Ar} {P Q : Int → Pg}
theorem set_mid {R : List Ar} (f : Ar → Ar) {j : Nat} (h : j < R.length) : ((R.take j).map f ++ R.drop j).set j (f R[j]) = (R.take (j + 1)).map f ++ R.drop (j + 1) := by
  have hl : ((R.take j).map f).length = j := by rw [List.length_map, List.length_take]; omega
  rw [List.set_append_right _ _ (by omega), hl, Nat.sub_self, List.drop_eq_getElem_cons h, List.set_cons_zero, List.take_succ_eq_append_getElem h, List.map_append, List.append_assoc]
  rfl

set_option maxRecDepth 100000 in
set_option maxHeartbeats 1000000 in
theorem prot_np (h : AtX B w xa A c l P) {a n : Nat} {p : Int} (hr : rtI a n 0 = 0) (hp : prB p = false) : Calls Tryz.prog 70 #[.pointer (some ⟨xa, 0, none⟩), .int .i64 a, .int .i64 n, .int .i64 p] w (ToldQ B w xa P (prP P a n p) 2 (pcs P a n)) := by
  obtain ⟨h1, h2, h3⟩ := rt_in hr
  have hpi := pieces_ok h hr
  have HCV : Hid (∀ w1, Below w.heap.size w w1 → Calls Tryz.prog 72 #[.pointer (some ⟨xa, 0, none⟩), .int .i64 a, .int .i64 n] w1 fun e w' => e = .returned (.bool (covB P a n)) ∧ Below w1.heap.size w1 w') := fun w1 hb => covers_ok (h.call hb) hr
  have HCU : Hid (∀ w1, Below w.heap.size w w1 → Calls Tryz.prog 73 #[.pointer (some ⟨xa, 0, none⟩), .int .i64 a, .int .i64 n] w1 fun e w' => e = .returned (.bool (cutsB P a n)) ∧ Below w1.heap.size w1 w') := fun w1 hb => cuts_pr (h.call hb) hr
  have HGB := Lib.hid (pcs_huge h.wh.ok a n)
  have HRL : Hid ((pcs P a n).length ≤ 4096) := Nat.le_trans (pcs_is h.wh.ok.ok a n).len (by omega)
  have hpr := fun w => isProt_is p w
  have HX := Lib.hid h
  rw [hp] at hpr
  obtain ⟨R, hR⟩ : ∃ R, R = pcs P a n := ⟨_, rfl⟩
  rw [← hR] at hpi HGB HRL ⊢
  obtain ⟨m, hm⟩ : ∃ m, m = R.length := ⟨_, rfl⟩
  unfold ToldE at hpi
  rw [← hm] at hpi
  have m4 : m ≤ 4096 := by rw [hm]; exact HRL.out
  have HM := Lib.hid hm
  clear h hr h1 h2 h3 hm hR hp HM HGB HRL HCV HCU
  go_enter Tryz.func70, Tryz.ntmps70
  go_wp2_with fail
  refine hpi.mono ?_
  rintro e w1 ⟨A', c', rfl, ho, hb⟩
  have HB := Lib.hid hb
  have HO := Lib.hid ho
  clear hpi ho hb
  go_wp2_with (go_at_call 98; (with_reducible refine (hpr _).mono ?_); rintro e w1 ⟨rfl, rfl⟩)
  go_ret2
  exact ToldQ.no (by decide) (HX.out.did HB.out)

set_option maxRecDepth 100000 in
set_option maxHeartbeats 1000000 in
theorem prot_nc (h : AtX B w xa A c l P) {a n : Nat} {p : Int} (hr : rtI a n 0 = 0) (hp : prB p = true) (hc : covB P a n = false) : Calls Tryz.prog 70 #[.pointer (some ⟨xa, 0, none⟩), .int .i64 a, .int .i64 n, .int .i64 p] w (ToldQ B w xa P (prP P a n p) 6 (pcs P a n)) := by
  obtain ⟨h1, h2, h3⟩ := rt_in hr
  have hpi := pieces_ok h hr
  have HCV : Hid (∀ w1, Below w.heap.size w w1 → Calls Tryz.prog 72 #[.pointer (some ⟨xa, 0, none⟩), .int .i64 a, .int .i64 n] w1 fun e w' => e = .returned (.bool (covB P a n)) ∧ Below w1.heap.size w1 w') := fun w1 hb => covers_ok (h.call hb) hr
  have HCU : Hid (∀ w1, Below w.heap.size w w1 → Calls Tryz.prog 73 #[.pointer (some ⟨xa, 0, none⟩), .int .i64 a, .int .i64 n] w1 fun e w' => e = .returned (.bool (cutsB P a n)) ∧ Below w1.heap.size w1 w') := fun w1 hb => cuts_pr (h.call hb) hr
  have HGB := Lib.hid (pcs_huge h.wh.ok a n)
  have HRL : Hid ((pcs P a n).length ≤ 4096) := Nat.le_trans (pcs_is h.wh.ok.ok a n).len (by omega)
  have hpr := fun w => isProt_is p w
  have HX := Lib.hid h
  rw [hp] at hpr
  rw [hc] at HCV
  obtain ⟨R, hR⟩ : ∃ R, R = pcs P a n := ⟨_, rfl⟩
  rw [← hR] at hpi HGB HRL ⊢
  obtain ⟨m, hm⟩ : ∃ m, m = R.length := ⟨_, rfl⟩
  unfold ToldE at hpi
  rw [← hm] at hpi
  have m4 : m ≤ 4096 := by rw [hm]; exact HRL.out
  have HM := Lib.hid hm
  clear h hr h1 h2 h3 hm hR hp hc HGB HRL HCU
  go_enter Tryz.func70, Tryz.ntmps70
  go_wp2_with fail
  refine hpi.mono ?_
  rintro e w1 ⟨A', c', rfl, ho, hb⟩
  have HB := Lib.hid hb
  have HO := Lib.hid ho
  clear hpi ho hb
  have hcv := HCV.out w1 HB.out
  go_wp2_with (go_at_call 98; (with_reducible refine (hpr _).mono ?_); rintro e w1 ⟨rfl, rfl⟩)
  refine hcv.mono ?_
  rintro e w2 ⟨rfl, hb2⟩
  have HB2 := Lib.hid (HB.out.trans (hb2.mono HB.out.size))
  have HO2 := Lib.hid (HO.out.call hb2)
  clear hcv hb2
  go_wp2_with fail
  go_ret2
  exact ToldQ.no (by decide) (HX.out.did HB2.out)

set_option maxRecDepth 100000 in
set_option maxHeartbeats 1000000 in
theorem prot_cu (h : AtX B w xa A c l P) {a n : Nat} {p : Int} (hr : rtI a n 0 = 0) (hp : prB p = true) (hc : covB P a n = true) (hu : cutsB P a n = true) : Calls Tryz.prog 70 #[.pointer (some ⟨xa, 0, none⟩), .int .i64 a, .int .i64 n, .int .i64 p] w (ToldQ B w xa P (prP P a n p) 2 (pcs P a n)) := by
  obtain ⟨h1, h2, h3⟩ := rt_in hr
  have hpi := pieces_ok h hr
  have HCV : Hid (∀ w1, Below w.heap.size w w1 → Calls Tryz.prog 72 #[.pointer (some ⟨xa, 0, none⟩), .int .i64 a, .int .i64 n] w1 fun e w' => e = .returned (.bool (covB P a n)) ∧ Below w1.heap.size w1 w') := fun w1 hb => covers_ok (h.call hb) hr
  have HCU : Hid (∀ w1, Below w.heap.size w w1 → Calls Tryz.prog 73 #[.pointer (some ⟨xa, 0, none⟩), .int .i64 a, .int .i64 n] w1 fun e w' => e = .returned (.bool (cutsB P a n)) ∧ Below w1.heap.size w1 w') := fun w1 hb => cuts_pr (h.call hb) hr
  have HGB := Lib.hid (pcs_huge h.wh.ok a n)
  have HRL : Hid ((pcs P a n).length ≤ 4096) := Nat.le_trans (pcs_is h.wh.ok.ok a n).len (by omega)
  have hpr := fun w => isProt_is p w
  have HX := Lib.hid h
  rw [hp] at hpr
  rw [hc] at HCV
  rw [hu] at HCU
  obtain ⟨R, hR⟩ : ∃ R, R = pcs P a n := ⟨_, rfl⟩
  rw [← hR] at hpi HGB HRL ⊢
  obtain ⟨m, hm⟩ : ∃ m, m = R.length := ⟨_, rfl⟩
  unfold ToldE at hpi
  rw [← hm] at hpi
  have m4 : m ≤ 4096 := by rw [hm]; exact HRL.out
  have HM := Lib.hid hm
  clear h hr h1 h2 h3 hm hR hp hc hu HGB HRL
  go_enter Tryz.func70, Tryz.ntmps70
  go_wp2_with fail
  refine hpi.mono ?_
  rintro e w1 ⟨A', c', rfl, ho, hb⟩
  have HB := Lib.hid hb
  have HO := Lib.hid ho
  clear hpi ho hb
  have hcv := HCV.out w1 HB.out
  go_wp2_with (go_at_call 98; (with_reducible refine (hpr _).mono ?_); rintro e w1 ⟨rfl, rfl⟩)
  refine hcv.mono ?_
  rintro e w2 ⟨rfl, hb2⟩
  have HB2 := Lib.hid (HB.out.trans (hb2.mono HB.out.size))
  have HO2 := Lib.hid (HO.out.call hb2)
  clear hcv hb2
  have hcu := HCU.out w2 HB2.out
  go_wp2_with fail
  refine hcu.mono ?_
  rintro e w3 ⟨rfl, hb3⟩
  have HB3 := Lib.hid (HB2.out.trans (hb3.mono HB2.out.size))
  have HO3 := Lib.hid (HO2.out.call hb3)
  clear hcu hb3
  go_wp2_with fail
  go_ret2
  exact ToldQ.no (by decide) (HX.out.did HB3.out)

set_option maxRecDepth 100000 in
set_option maxHeartbeats 1000000 in
theorem prot_hu (h : AtX B w xa A c l P) {a n : Nat} {p : Int} (hr : rtI a n 0 = 0) (hp : prB p = true) (hc : covB P a n = true) (hu : cutsB P a n = false) (hp0 : p = 0) (hg : hugeB P a n = true) : Calls Tryz.prog 70 #[.pointer (some ⟨xa, 0, none⟩), .int .i64 a, .int .i64 n, .int .i64 p] w (ToldQ B w xa P (prP P a n p) 2 (pcs P a n)) := by
  obtain ⟨h1, h2, h3⟩ := rt_in hr
  have hpi := pieces_ok h hr
  have HCV : Hid (∀ w1, Below w.heap.size w w1 → Calls Tryz.prog 72 #[.pointer (some ⟨xa, 0, none⟩), .int .i64 a, .int .i64 n] w1 fun e w' => e = .returned (.bool (covB P a n)) ∧ Below w1.heap.size w1 w') := fun w1 hb => covers_ok (h.call hb) hr
  have HCU : Hid (∀ w1, Below w.heap.size w w1 → Calls Tryz.prog 73 #[.pointer (some ⟨xa, 0, none⟩), .int .i64 a, .int .i64 n] w1 fun e w' => e = .returned (.bool (cutsB P a n)) ∧ Below w1.heap.size w1 w') := fun w1 hb => cuts_pr (h.call hb) hr
  have HGB := Lib.hid (pcs_huge h.wh.ok a n)
  have HRL : Hid ((pcs P a n).length ≤ 4096) := Nat.le_trans (pcs_is h.wh.ok.ok a n).len (by omega)
  have hpr := fun w => isProt_is p w
  have HX := Lib.hid h
  rw [hp] at hpr
  rw [hc] at HCV
  rw [hu] at HCU
  rw [hg] at HGB
  have hp0' : (p == 0) = true := by simpa using hp0
  obtain ⟨R, hR⟩ : ∃ R, R = pcs P a n := ⟨_, rfl⟩
  rw [← hR] at hpi HGB HRL ⊢
  obtain ⟨m, hm⟩ : ∃ m, m = R.length := ⟨_, rfl⟩
  unfold ToldE at hpi
  rw [← hm] at hpi
  have m4 : m ≤ 4096 := by rw [hm]; exact HRL.out
  have HM := Lib.hid hm
  clear h hr h1 h2 h3 hm hR hp hc hu hg hp0
  go_enter Tryz.func70, Tryz.ntmps70
  go_wp2_with fail
  refine hpi.mono ?_
  rintro e w1 ⟨A', c', rfl, ho, hb⟩
  have HB := Lib.hid hb
  rw [HM.out] at ho
  have HO := Lib.hid ho
  clear hpi ho hb
  have hcv := HCV.out w1 HB.out
  go_wp2_with (go_at_call 98; (with_reducible refine (hpr _).mono ?_); rintro e w1 ⟨rfl, rfl⟩)
  refine hcv.mono ?_
  rintro e w2 ⟨rfl, hb2⟩
  have HB2 := Lib.hid (HB.out.trans (hb2.mono HB.out.size))
  have HO2 := Lib.hid (HO.out.call hb2)
  clear hcv hb2
  have hcu := HCU.out w2 HB2.out
  go_wp2_with fail
  refine hcu.mono ?_
  rintro e w3 ⟨rfl, hb3⟩
  have HB3 := Lib.hid (HB2.out.trans (hb3.mono HB2.out.size))
  have HO3 := Lib.hid (HO2.out.call hb3)
  clear hcu hb3
  have hgr := great_ok (c := c') (LsD.of (D := w3.heap.size) (l := R) HO3.out (Nat.le_refl _)) (Nat.le_refl _) (by have := HRL.out; omega)
  rw [HGB.out, ← HM.out] at hgr
  go_wp2_with fail
  refine hgr.mono ?_
  rintro e w4 ⟨rfl, hb4⟩
  have HB4 := Lib.hid (HB3.out.trans (hb4.mono HB3.out.size))
  have HO4 := Lib.hid (HO3.out.call hb4)
  clear hgr hb4
  go_wp2_with fail
  go_ret2
  exact ToldQ.no (by decide) (HX.out.did HB4.out)

set_option maxRecDepth 100000 in
set_option maxHeartbeats 1000000 in
theorem prot_g0 (h : AtX B w xa A c l P) {a n : Nat} {p : Int} (hr : rtI a n 0 = 0) (hp : prB p = true) (hc : covB P a n = true) (hu : cutsB P a n = false) (hp0 : p = 0) (hg : hugeB P a n = false) : Calls Tryz.prog 70 #[.pointer (some ⟨xa, 0, none⟩), .int .i64 a, .int .i64 n, .int .i64 p] w (ToldQ B w xa P (prP P a n p) (if fullB (prP P a n p) = true then 13 else 0) (pcs P a n)) := by
  obtain ⟨h1, h2, h3⟩ := rt_in hr
  have hpi := pieces_ok h hr
  have HCV : Hid (∀ w1, Below w.heap.size w w1 → Calls Tryz.prog 72 #[.pointer (some ⟨xa, 0, none⟩), .int .i64 a, .int .i64 n] w1 fun e w' => e = .returned (.bool (covB P a n)) ∧ Below w1.heap.size w1 w') := fun w1 hb => covers_ok (h.call hb) hr
  have HCU : Hid (∀ w1, Below w.heap.size w w1 → Calls Tryz.prog 73 #[.pointer (some ⟨xa, 0, none⟩), .int .i64 a, .int .i64 n] w1 fun e w' => e = .returned (.bool (cutsB P a n)) ∧ Below w1.heap.size w1 w') := fun w1 hb => cuts_pr (h.call hb) hr
  have HGB := Lib.hid (pcs_huge h.wh.ok a n)
  have HRL : Hid ((pcs P a n).length ≤ 4096) := Nat.le_trans (pcs_is h.wh.ok.ok a n).len (by omega)
  have hpr := fun w => isProt_is p w
  have HX := Lib.hid h
  rw [hp] at hpr
  rw [hc] at HCV
  rw [hu] at HCU
  rw [hg] at HGB
  have hp0' : (p == 0) = true := by simpa using hp0
  obtain ⟨er2, her2⟩ : ∃ er : Int, er = if fullB (prP P a n p) = true then 13 else 0 := ⟨_, rfl⟩
  rw [← her2]
  have HE := Lib.hid her2
  obtain ⟨S, hS⟩ : ∃ S, S = allA (prP P a n p) := ⟨_, rfl⟩
  have HQ : Hid (Whole (prP P a n p) S) := by
    show Whole _ _
    rw [hS]
    exact whole_all (h.wh.ok.pr (p := p) fun i hi => cov_in (n := n) (by rw [Int.toNat_natCast]; exact hc) i hi)
  obtain ⟨k, hk⟩ : ∃ k, k = l.length := ⟨_, rfl⟩
  have HK := Lib.hid hk
  have HLA : Hid (∀ w1, Below w.heap.size w w1 → ∀ Ao co, LsD w1.heap.size w1 Ao ((pcs P a n).map fun x : Ar => { x with p := p }) → Calls Tryz.prog 90 #[.slice A k c, .int .i64 a, .int .i64 n, .slice Ao (pcs P a n).length co] w1 (ToldL S w1)) := fun w1 hb Ao co hls => by
    have := laid_pr (h.call hb).own (fun x hx => h.wh.bound hx) h.len (Ao := Ao) (co := co) (o := (pcs P a n).map fun x : Ar => { x with p := p }) hls (fun x hx => by
      obtain ⟨y, hy, e⟩ := List.mem_map.1 hx
      have hb := (pcs_bound h.wh.ok a n hy).1
      rw [← e]
      exact ⟨hb.f0, hb.ft, hb.t4, hb.x0, hb.x4⟩) (by rw [List.length_map]; exact HRL.out) (a := a) (n := n) (by omega)
    rw [h.wh.pr h1 (by omega) hc, ← hS, ← hk, List.length_map] at this
    exact this
  clear her2 hS hk
  obtain ⟨R, hR⟩ : ∃ R, R = pcs P a n := ⟨_, rfl⟩
  rw [← hR] at hpi HGB HRL HLA ⊢
  obtain ⟨m, hm⟩ : ∃ m, m = R.length := ⟨_, rfl⟩
  unfold ToldE at hpi
  rw [← hm] at hpi
  have m4 : m ≤ 4096 := by rw [hm]; exact HRL.out
  have HM := Lib.hid hm
  clear h hr h1 h2 h3 hm hR hp hc hu hg hp0
  go_enter Tryz.func70, Tryz.ntmps70
  go_wp2_with fail
  refine hpi.mono ?_
  rintro e w1 ⟨A', c', rfl, ho, hb⟩
  have HB := Lib.hid hb
  rw [HM.out] at ho
  have HO := Lib.hid ho
  clear hpi ho hb
  rw [← HM.out] at HLA
  have hcv := HCV.out w1 HB.out
  go_wp2_with (go_at_call 98; (with_reducible refine (hpr _).mono ?_); rintro e w1 ⟨rfl, rfl⟩)
  refine hcv.mono ?_
  rintro e w2 ⟨rfl, hb2⟩
  have HB2 := Lib.hid (HB.out.trans (hb2.mono HB.out.size))
  have HO2 := Lib.hid (HO.out.call hb2)
  clear hcv hb2
  have hcu := HCU.out w2 HB2.out
  go_wp2_with fail
  refine hcu.mono ?_
  rintro e w3 ⟨rfl, hb3⟩
  have HB3 := Lib.hid (HB2.out.trans (hb3.mono HB2.out.size))
  have HO3 := Lib.hid (HO2.out.call hb3)
  clear hcu hb3
  have hgr := great_ok (c := c') (LsD.of (D := w3.heap.size) (l := R) HO3.out (Nat.le_refl _)) (Nat.le_refl _) (by have := HRL.out; omega)
  rw [HGB.out, ← HM.out] at hgr
  go_wp2_with fail
  refine hgr.mono ?_
  rintro e w4 ⟨rfl, hb4⟩
  have HB4 := Lib.hid (HB3.out.trans (hb4.mono HB3.out.size))
  have HO4 := Lib.hid (HO3.out.call hb4)
  clear hgr hb4
  have hcl := clone_is HO4.out (by have := HRL.out; omega)
  unfold ToldL at hcl
  rw [← HM.out] at hcl
  go_wp2_with fail
  refine hcl.mono ?_
  rintro e w5 ⟨A5, c5, rfl, ho5, hb5⟩
  have HB5 := Lib.hid (HB4.out.trans (hb5.mono HB4.out.size))
  have HC5 := Lib.hid ho5
  have HBL := Lib.hid hb5
  have HO5 := Lib.hid (HO4.out.call hb5)
  clear hcl ho5 hb5
  go_wp2_with fail
  go_loopw [53] (fun i wr => ∃ j : Nat, j ≤ m ∧ i = .int .i64 j ∧ EAr.Own w4.heap.size wr (.slice A5 m c5) ((R.take j).map (fun x : Ar => { x with p := p }) ++ R.drop j) ∧ Below w4.heap.size w4 wr) (fun i _ => m - (RowKit.intOf i).toNat)
  case atStart => exact ⟨0, Nat.zero_le _, rfl, HC5.out, HBL.out⟩
  case round =>
    obtain ⟨j, hj, rfl, hown, hwr⟩ := hrel
    by_cases hlt : j < m
    · have hjl : j < R.length := by rw [← HM.out]; exact hlt
      have hlen : ((R.take j).map (fun x : Ar => { x with p := p }) ++ R.drop j).length = R.length := by rw [List.length_append, List.length_map, List.length_take, List.length_drop]; omega
      obtain ⟨g, eA, hg, -, -, hat⟩ := hown.some_ (by omega)
      subst eA
      have hjx : ((R.take j).map (fun x : Ar => { x with p := p }) ++ R.drop j)[j]'(by omega) = R[j] := by
        rw [List.getElem_append_right (by rw [List.length_map, List.length_take]; omega)]
        simp [List.length_take, Nat.min_eq_left (Nat.le_of_lt hjl)]
      obtain ⟨hfz, hput⟩ := hown.put (j := j) (by omega) (q := 3) (by decide) (u := .int .i64 p) (x := { R[j] with p := p }) (by rw [hjx]; rfl) rfl
      obtain ⟨pv, hcel⟩ : ∃ u, wr.cell? ⟨g, j * 6 + 3, none⟩ = some u := ⟨_, hat j (by omega) 3 (by decide)⟩
      have hf3 := hfz (j * 6 + 3)
      rw [set_mid (fun x : Ar => { x with p := p }) hjl] at hput
      have HP := Lib.hid hput
      have HW : Hid (Below w4.heap.size w4 (wr.setCell ⟨g, j * 6 + 3, none⟩ (.int .i64 p))) := hwr.setCell hg _
      have j0 : (0 : Int) ≤ j := by omega
      have j1 : (j : Int) < m := by omega
      clear hown hat hg hjx hput hfz hwr hlen
      go_wp2_with fail
      go_roundw
      case rel => exact ⟨j + 1, by omega, by go_num, HP.out, HW.out⟩
      case measure => simp [RowKit.intOf]; omega
    · obtain rfl : j = m := by omega
      rw [List.take_of_length_le (by rw [← HM.out]; exact Nat.le_refl _), List.drop_of_length_le (by rw [← HM.out]; exact Nat.le_refl _), List.append_nil] at hown
      have HB6 := Lib.hid (HB4.out.trans (hwr.mono HB4.out.size))
      have HO6 := Lib.hid (HO4.out.call hwr)
      have hla := HLA.out wr HB6.out A5 c5 (LsD.of (l := R.map (fun x : Ar => { x with p := p })) hown (Nat.le_refl _))
      have cr : wr.cell? ⟨xa, 0, none⟩ = some (.slice A k c) := by rw [HK.out]; exact (HX.out.call HB6.out).c0
      clear hown hwr
      go_wp2_with fail
      refine hla.mono ?_
      rintro e w7 ⟨A7, c7, rfl, ho7, hb7⟩
      have HB7 := Lib.hid (HB6.out.trans (hb7.mono HB6.out.size))
      have HO7 := Lib.hid (HO6.out.call hb7)
      have hx7 := HX.out.call HB7.out
      have hbe := become_pr hx7 ho7 (Nat.le_trans HX.out.lw HB6.out.size) HQ.out
      rw [← HE.out] at hbe
      generalize S.length = r at hbe
      have HT7 := Lib.hid hx7.top
      clear hla ho7 hb7 hx7 cr
      go_wp2_with fail
      refine hbe.mono ?_
      rintro e w8 ⟨rfl, hd⟩
      have HO8 := Lib.hid (ls_foot HO7.out hd.2 HT7.out)
      have HD := Lib.hid (hd.pre HB7.out)
      clear hbe hd
      by_cases e0 : fullB (prP P a n p) = true
      · obtain rfl : er2 = 13 := by rw [HE.out, if_pos e0]
        have hd := HD.out
        rw [if_pos e0] at hd
        have HDD := Lib.hid hd
        clear hd e0
        go_wp2_with fail
        go_ret2
        exact ToldQ.no (by decide) HDD.out
      · obtain rfl : er2 = 0 := by rw [HE.out, if_neg e0]
        have hd := HD.out
        rw [if_neg e0] at hd
        have HDD := Lib.hid hd
        clear hd e0
        go_wp2_with fail
        go_ret2
        have ho := HO8.out
        rw [HM.out]
        exact ToldQ.yes ho HDD.out

set_option maxRecDepth 100000 in
set_option maxHeartbeats 1000000 in
theorem prot_g1 (h : AtX B w xa A c l P) {a n : Nat} {p : Int} (hr : rtI a n 0 = 0) (hp : prB p = true) (hc : covB P a n = true) (hu : cutsB P a n = false) (hp0 : p ≠ 0) : Calls Tryz.prog 70 #[.pointer (some ⟨xa, 0, none⟩), .int .i64 a, .int .i64 n, .int .i64 p] w (ToldQ B w xa P (prP P a n p) (if fullB (prP P a n p) = true then 13 else 0) (pcs P a n)) := by
  obtain ⟨h1, h2, h3⟩ := rt_in hr
  have hpi := pieces_ok h hr
  have HCV : Hid (∀ w1, Below w.heap.size w w1 → Calls Tryz.prog 72 #[.pointer (some ⟨xa, 0, none⟩), .int .i64 a, .int .i64 n] w1 fun e w' => e = .returned (.bool (covB P a n)) ∧ Below w1.heap.size w1 w') := fun w1 hb => covers_ok (h.call hb) hr
  have HCU : Hid (∀ w1, Below w.heap.size w w1 → Calls Tryz.prog 73 #[.pointer (some ⟨xa, 0, none⟩), .int .i64 a, .int .i64 n] w1 fun e w' => e = .returned (.bool (cutsB P a n)) ∧ Below w1.heap.size w1 w') := fun w1 hb => cuts_pr (h.call hb) hr
  have HGB := Lib.hid (pcs_huge h.wh.ok a n)
  have HRL : Hid ((pcs P a n).length ≤ 4096) := Nat.le_trans (pcs_is h.wh.ok.ok a n).len (by omega)
  have hpr := fun w => isProt_is p w
  have HX := Lib.hid h
  rw [hp] at hpr
  rw [hc] at HCV
  rw [hu] at HCU
  have hp0' : (p == 0) = false := by simpa using hp0
  obtain ⟨er2, her2⟩ : ∃ er : Int, er = if fullB (prP P a n p) = true then 13 else 0 := ⟨_, rfl⟩
  rw [← her2]
  have HE := Lib.hid her2
  obtain ⟨S, hS⟩ : ∃ S, S = allA (prP P a n p) := ⟨_, rfl⟩
  have HQ : Hid (Whole (prP P a n p) S) := by
    show Whole _ _
    rw [hS]
    exact whole_all (h.wh.ok.pr (p := p) fun i hi => cov_in (n := n) (by rw [Int.toNat_natCast]; exact hc) i hi)
  obtain ⟨k, hk⟩ : ∃ k, k = l.length := ⟨_, rfl⟩
  have HK := Lib.hid hk
  have HLA : Hid (∀ w1, Below w.heap.size w w1 → ∀ Ao co, LsD w1.heap.size w1 Ao ((pcs P a n).map fun x : Ar => { x with p := p }) → Calls Tryz.prog 90 #[.slice A k c, .int .i64 a, .int .i64 n, .slice Ao (pcs P a n).length co] w1 (ToldL S w1)) := fun w1 hb Ao co hls => by
    have := laid_pr (h.call hb).own (fun x hx => h.wh.bound hx) h.len (Ao := Ao) (co := co) (o := (pcs P a n).map fun x : Ar => { x with p := p }) hls (fun x hx => by
      obtain ⟨y, hy, e⟩ := List.mem_map.1 hx
      have hb := (pcs_bound h.wh.ok a n hy).1
      rw [← e]
      exact ⟨hb.f0, hb.ft, hb.t4, hb.x0, hb.x4⟩) (by rw [List.length_map]; exact HRL.out) (a := a) (n := n) (by omega)
    rw [h.wh.pr h1 (by omega) hc, ← hS, ← hk, List.length_map] at this
    exact this
  clear her2 hS hk
  obtain ⟨R, hR⟩ : ∃ R, R = pcs P a n := ⟨_, rfl⟩
  rw [← hR] at hpi HGB HRL HLA ⊢
  obtain ⟨m, hm⟩ : ∃ m, m = R.length := ⟨_, rfl⟩
  unfold ToldE at hpi
  rw [← hm] at hpi
  have m4 : m ≤ 4096 := by rw [hm]; exact HRL.out
  have HM := Lib.hid hm
  clear h hr h1 h2 h3 hm hR hp hc hu hp0 HGB
  go_enter Tryz.func70, Tryz.ntmps70
  go_wp2_with fail
  refine hpi.mono ?_
  rintro e w1 ⟨A', c', rfl, ho, hb⟩
  have HB := Lib.hid hb
  rw [HM.out] at ho
  have HO := Lib.hid ho
  clear hpi ho hb
  rw [← HM.out] at HLA
  have hcv := HCV.out w1 HB.out
  go_wp2_with (go_at_call 98; (with_reducible refine (hpr _).mono ?_); rintro e w1 ⟨rfl, rfl⟩)
  refine hcv.mono ?_
  rintro e w2 ⟨rfl, hb2⟩
  have HB2 := Lib.hid (HB.out.trans (hb2.mono HB.out.size))
  have HO2 := Lib.hid (HO.out.call hb2)
  clear hcv hb2
  have hcu := HCU.out w2 HB2.out
  go_wp2_with fail
  refine hcu.mono ?_
  rintro e w3 ⟨rfl, hb3⟩
  have HB3 := Lib.hid (HB2.out.trans (hb3.mono HB2.out.size))
  have HO3 := Lib.hid (HO2.out.call hb3)
  clear hcu hb3
  obtain ⟨w4, hw4⟩ : ∃ w4, w4 = w3 := ⟨_, rfl⟩
  have HB4 : Hid (Below w.heap.size w w4) := by rw [hw4]; exact HB3
  have HO4 : Hid (EAr.Own w.heap.size w4 (.slice A' R.length c') R) := by rw [hw4]; exact HO3
  rw [← hw4]
  clear hw4
  have hcl := clone_is HO4.out (by have := HRL.out; omega)
  unfold ToldL at hcl
  rw [← HM.out] at hcl
  go_wp2_with fail
  refine hcl.mono ?_
  rintro e w5 ⟨A5, c5, rfl, ho5, hb5⟩
  have HB5 := Lib.hid (HB4.out.trans (hb5.mono HB4.out.size))
  have HC5 := Lib.hid ho5
  have HBL := Lib.hid hb5
  have HO5 := Lib.hid (HO4.out.call hb5)
  clear hcl ho5 hb5
  go_wp2_with fail
  go_loopw [53] (fun i wr => ∃ j : Nat, j ≤ m ∧ i = .int .i64 j ∧ EAr.Own w4.heap.size wr (.slice A5 m c5) ((R.take j).map (fun x : Ar => { x with p := p }) ++ R.drop j) ∧ Below w4.heap.size w4 wr) (fun i _ => m - (RowKit.intOf i).toNat)
  case atStart => exact ⟨0, Nat.zero_le _, rfl, HC5.out, HBL.out⟩
  case round =>
    obtain ⟨j, hj, rfl, hown, hwr⟩ := hrel
    by_cases hlt : j < m
    · have hjl : j < R.length := by rw [← HM.out]; exact hlt
      have hlen : ((R.take j).map (fun x : Ar => { x with p := p }) ++ R.drop j).length = R.length := by rw [List.length_append, List.length_map, List.length_take, List.length_drop]; omega
      obtain ⟨g, eA, hg, -, -, hat⟩ := hown.some_ (by omega)
      subst eA
      have hjx : ((R.take j).map (fun x : Ar => { x with p := p }) ++ R.drop j)[j]'(by omega) = R[j] := by
        rw [List.getElem_append_right (by rw [List.length_map, List.length_take]; omega)]
        simp [List.length_take, Nat.min_eq_left (Nat.le_of_lt hjl)]
      obtain ⟨hfz, hput⟩ := hown.put (j := j) (by omega) (q := 3) (by decide) (u := .int .i64 p) (x := { R[j] with p := p }) (by rw [hjx]; rfl) rfl
      obtain ⟨pv, hcel⟩ : ∃ u, wr.cell? ⟨g, j * 6 + 3, none⟩ = some u := ⟨_, hat j (by omega) 3 (by decide)⟩
      have hf3 := hfz (j * 6 + 3)
      rw [set_mid (fun x : Ar => { x with p := p }) hjl] at hput
      have HP := Lib.hid hput
      have HW : Hid (Below w4.heap.size w4 (wr.setCell ⟨g, j * 6 + 3, none⟩ (.int .i64 p))) := hwr.setCell hg _
      have j0 : (0 : Int) ≤ j := by omega
      have j1 : (j : Int) < m := by omega
      clear hown hat hg hjx hput hfz hwr hlen
      go_wp2_with fail
      go_roundw
      case rel => exact ⟨j + 1, by omega, by go_num, HP.out, HW.out⟩
      case measure => simp [RowKit.intOf]; omega
    · obtain rfl : j = m := by omega
      rw [List.take_of_length_le (by rw [← HM.out]; exact Nat.le_refl _), List.drop_of_length_le (by rw [← HM.out]; exact Nat.le_refl _), List.append_nil] at hown
      have HB6 := Lib.hid (HB4.out.trans (hwr.mono HB4.out.size))
      have HO6 := Lib.hid (HO4.out.call hwr)
      have hla := HLA.out wr HB6.out A5 c5 (LsD.of (l := R.map (fun x : Ar => { x with p := p })) hown (Nat.le_refl _))
      have cr : wr.cell? ⟨xa, 0, none⟩ = some (.slice A k c) := by rw [HK.out]; exact (HX.out.call HB6.out).c0
      clear hown hwr
      go_wp2_with fail
      refine hla.mono ?_
      rintro e w7 ⟨A7, c7, rfl, ho7, hb7⟩
      have HB7 := Lib.hid (HB6.out.trans (hb7.mono HB6.out.size))
      have HO7 := Lib.hid (HO6.out.call hb7)
      have hx7 := HX.out.call HB7.out
      have hbe := become_pr hx7 ho7 (Nat.le_trans HX.out.lw HB6.out.size) HQ.out
      rw [← HE.out] at hbe
      generalize S.length = r at hbe
      have HT7 := Lib.hid hx7.top
      clear hla ho7 hb7 hx7 cr
      go_wp2_with fail
      refine hbe.mono ?_
      rintro e w8 ⟨rfl, hd⟩
      have HO8 := Lib.hid (ls_foot HO7.out hd.2 HT7.out)
      have HD := Lib.hid (hd.pre HB7.out)
      clear hbe hd
      by_cases e0 : fullB (prP P a n p) = true
      · obtain rfl : er2 = 13 := by rw [HE.out, if_pos e0]
        have hd := HD.out
        rw [if_pos e0] at hd
        have HDD := Lib.hid hd
        clear hd e0
        go_wp2_with fail
        go_ret2
        exact ToldQ.no (by decide) HDD.out
      · obtain rfl : er2 = 0 := by rw [HE.out, if_neg e0]
        have hd := HD.out
        rw [if_neg e0] at hd
        have HDD := Lib.hid hd
        clear hd e0
        go_wp2_with fail
        go_ret2
        have ho := HO8.out
        rw [HM.out]
        exact ToldQ.yes ho HDD.out

set_option maxRecDepth 100000 in
theorem protect_pr (h : AtX B w xa A c l P) {a n p : Int} (ha : Fits a) (hn : Fits n) : Calls Tryz.prog 70 #[.pointer (some ⟨xa, 0, none⟩), .int .i64 a, .int .i64 n, .int .i64 p] w (ToldQ B w xa P (prP P a n p) (prE P a n p) (pcs P a n.toNat)) := by
  obtain ⟨er, her⟩ : ∃ er, er = rtI a n 0 := ⟨_, rfl⟩
  by_cases h0 : er = 0
  · have hr : rtI a n 0 = 0 := her.symm.trans h0
    obtain ⟨h1, h2, h3⟩ := rt_in hr
    obtain ⟨a, rfl⟩ : ∃ k : Nat, a = k := ⟨a.toNat, by omega⟩
    obtain ⟨n, rfl⟩ : ∃ k : Nat, n = k := ⟨n.toNat, by omega⟩
    have hE0 : prE P a n p = if prB p = false then 2 else if covB P a n = false then 6 else if cutsB P a n = true then 2 else if p = 0 ∧ hugeB P a n = true then 2 else if fullB (prP P a n p) = true then 13 else 0 := by
      unfold prE; rw [if_neg (by rw [hr]; decide)]; rfl
    rw [show ((n : Int)).toNat = n from Int.toNat_natCast n, hE0]
    by_cases hp : prB p = true
    · rw [if_neg (by rw [hp]; decide)]
      by_cases hc : covB P a n = true
      · rw [if_neg (by rw [hc]; decide)]
        by_cases hu : cutsB P a n = true
        · rw [if_pos hu]; exact prot_cu h hr hp hc hu
        · rw [if_neg hu]
          have hu' : cutsB P a n = false := by simpa using hu
          by_cases hp0 : p = 0
          · by_cases hg : hugeB P a n = true
            · rw [if_pos ⟨hp0, hg⟩]; exact prot_hu h hr hp hc hu' hp0 hg
            · rw [if_neg (fun e => hg e.2)]; exact prot_g0 h hr hp hc hu' hp0 (by simpa using hg)
          · rw [if_neg (fun e => hp0 e.1)]; exact prot_g1 h hr hp hc hu' hp0
      · rw [if_pos (by simpa using hc)]; exact prot_nc h hr hp (by simpa using hc)
    · rw [if_pos (by simpa using hp)]; exact prot_np h hr (by simpa using hp)
  · have hE : prE P a n p = er := by unfold prE; rw [← her, if_pos h0]
    rw [hE]
    have hpi := pieces_no xa w ha hn (by rw [← her]; exact h0)
    rw [← her] at hpi
    have h0' : (er != 0) = true := by simpa using h0
    have HX := Lib.hid h
    clear h ha hn her hE
    go_enter Tryz.func70, Tryz.ntmps70
    go_wp2_with fail
    refine hpi.mono ?_
    rintro e w1 ⟨A', c', rfl, ho, hb⟩
    have HB := Lib.hid hb
    clear hpi ho hb
    go_wp2_with fail
    go_ret2
    exact ToldQ.no h0 (HX.out.did HB.out)
end
end Go.Proofs.YtnppnoabhpkmkaaGreat
/- Areas: Move. -/
namespace Go.Proofs.YtnppnoabhpkmkaaGreat
open Go.RowKit
section
variable {B c xa : Nat} {w w' : World} {A : Option Addr} {l : List Ar} {P Q : Int → Pg}

set_option maxRecDepth 100000 in
set_option maxHeartbeats 1000000 in
theorem mv_ov (h : AtX B w xa A c l P) {a n t : Nat} (hr : rtI a n 0 = 0) (hr2 : rtI t n 0 = 0) (d1 : (a : Int) < t + n) (d2 : (t : Int) < a + n)  : Calls Tryz.prog 74 #[.pointer (some ⟨xa, 0, none⟩), .int .i64 a, .int .i64 n, .int .i64 t] w (ToldQ B w xa P (mvP P a n t) 2 (pcs P a n)) := by
  obtain ⟨h1, h2, h3⟩ := rt_in hr
  obtain ⟨h4, _, h6⟩ := rt_in hr2
  have hpi := pieces_ok h hr
  obtain ⟨mt, hmt⟩ : ∃ mt, mt = (pcs P t n).length := ⟨_, rfl⟩
  have hus := pcs_none h.wh.ok t n
  rw [← hmt] at hus
  have HPT : Hid (∀ w1, Below w.heap.size w w1 → Calls Tryz.prog 91 #[.pointer (some ⟨xa, 0, none⟩), .int .i64 t, .int .i64 n] w1 fun e w' => ∃ A c, e = .returned (.tuple #[.slice A mt c, .int .i64 0]) ∧ True ∧ Below w1.heap.size w1 w') := fun w1 hb => (pieces_ok (h.call hb) hr2).mono (by
    rintro e w2 ⟨A2, c2, rfl, _, hb2⟩
    exact ⟨A2, c2, by rw [hmt], trivial, hb2⟩)
  have HCV : Hid (∀ w1, Below w.heap.size w w1 → Calls Tryz.prog 72 #[.pointer (some ⟨xa, 0, none⟩), .int .i64 a, .int .i64 n] w1 fun e w' => e = .returned (.bool (covB P a n)) ∧ Below w1.heap.size w1 w') := fun w1 hb => covers_ok (h.call hb) hr
  have HGB := Lib.hid (pcs_huge h.wh.ok a n)
  have HRL : Hid ((pcs P a n).length ≤ 4096) := Nat.le_trans (pcs_is h.wh.ok.ok a n).len (by omega)
  have HRS : Hid (∀ x ∈ pcs P a n, ArS x) := fun x hx => (pcs_bound h.wh.ok a n hx).1
  have HX := Lib.hid h
  have s1 : IntKind.i64.wrap ((t : Int) + n) = (t : Int) + n := IntWalk.i64_in _ (by omega)
  have s2 : IntKind.i64.wrap ((a : Int) + n) = (a : Int) + n := IntWalk.i64_in _ (by omega)
  have s3 : IntKind.i64.wrap ((t : Int) - a) = (t : Int) - a := IntWalk.i64_in _ (by omega)
  have a4 : (a : Int) ≤ 4096 := by omega
  have t4 : (t : Int) ≤ 4096 := by omega
  obtain ⟨R, hR⟩ : ∃ R, R = pcs P a n := ⟨_, rfl⟩
  rw [← hR] at hpi HGB HRL HRS ⊢
  obtain ⟨m, hm⟩ : ∃ m, m = R.length := ⟨_, rfl⟩
  unfold ToldE at hpi
  rw [← hm] at hpi
  have m4 : m ≤ 4096 := by rw [hm]; exact HRL.out
  have HM := Lib.hid hm
  clear h hr hr2 h1 h2 h3 h4 h6 hm hR hmt hus HGB HRL HCV HRS
  go_enter Tryz.func74, Tryz.ntmps74
  go_wp2_with fail
  refine hpi.mono ?_
  rintro e w1 ⟨A', c', rfl, ho, hb⟩
  rw [HM.out] at ho
  have HB := Lib.hid hb
  have HO := Lib.hid ho
  have hpt := HPT.out w1 hb
  clear hpi ho hb
  go_wp2_with fail
  refine hpt.mono ?_
  rintro e w2 ⟨At, ct_, rfl, -, hb2⟩
  have HB2 := Lib.hid (HB.out.trans (hb2.mono HB.out.size))
  have HO2 := Lib.hid (HO.out.call hb2)
  clear hpt hb2
  go_wp2_with fail
  go_ret2
  exact ToldQ.no (by decide) (HX.out.did HB2.out)

set_option maxRecDepth 100000 in
set_option maxHeartbeats 1000000 in
theorem mv_nc_l (h : AtX B w xa A c l P) {a n t : Nat} (hr : rtI a n 0 = 0) (hr2 : rtI t n 0 = 0) (d1 : ¬ (a : Int) < t + n) (hc : covB P a n = false) : Calls Tryz.prog 74 #[.pointer (some ⟨xa, 0, none⟩), .int .i64 a, .int .i64 n, .int .i64 t] w (ToldQ B w xa P (mvP P a n t) 6 (pcs P a n)) := by
  obtain ⟨h1, h2, h3⟩ := rt_in hr
  obtain ⟨h4, _, h6⟩ := rt_in hr2
  have hpi := pieces_ok h hr
  obtain ⟨mt, hmt⟩ : ∃ mt, mt = (pcs P t n).length := ⟨_, rfl⟩
  have hus := pcs_none h.wh.ok t n
  rw [← hmt] at hus
  have HPT : Hid (∀ w1, Below w.heap.size w w1 → Calls Tryz.prog 91 #[.pointer (some ⟨xa, 0, none⟩), .int .i64 t, .int .i64 n] w1 fun e w' => ∃ A c, e = .returned (.tuple #[.slice A mt c, .int .i64 0]) ∧ True ∧ Below w1.heap.size w1 w') := fun w1 hb => (pieces_ok (h.call hb) hr2).mono (by
    rintro e w2 ⟨A2, c2, rfl, _, hb2⟩
    exact ⟨A2, c2, by rw [hmt], trivial, hb2⟩)
  have HCV : Hid (∀ w1, Below w.heap.size w w1 → Calls Tryz.prog 72 #[.pointer (some ⟨xa, 0, none⟩), .int .i64 a, .int .i64 n] w1 fun e w' => e = .returned (.bool (covB P a n)) ∧ Below w1.heap.size w1 w') := fun w1 hb => covers_ok (h.call hb) hr
  have HGB := Lib.hid (pcs_huge h.wh.ok a n)
  have HRL : Hid ((pcs P a n).length ≤ 4096) := Nat.le_trans (pcs_is h.wh.ok.ok a n).len (by omega)
  have HRS : Hid (∀ x ∈ pcs P a n, ArS x) := fun x hx => (pcs_bound h.wh.ok a n hx).1
  have HX := Lib.hid h
  have s1 : IntKind.i64.wrap ((t : Int) + n) = (t : Int) + n := IntWalk.i64_in _ (by omega)
  have s2 : IntKind.i64.wrap ((a : Int) + n) = (a : Int) + n := IntWalk.i64_in _ (by omega)
  have s3 : IntKind.i64.wrap ((t : Int) - a) = (t : Int) - a := IntWalk.i64_in _ (by omega)
  have a4 : (a : Int) ≤ 4096 := by omega
  have t4 : (t : Int) ≤ 4096 := by omega
  have e1 : decide ((a : Int) < t + n) = false := decide_eq_false d1
  rw [hc] at HCV
  obtain ⟨R, hR⟩ : ∃ R, R = pcs P a n := ⟨_, rfl⟩
  rw [← hR] at hpi HGB HRL HRS ⊢
  obtain ⟨m, hm⟩ : ∃ m, m = R.length := ⟨_, rfl⟩
  unfold ToldE at hpi
  rw [← hm] at hpi
  have m4 : m ≤ 4096 := by rw [hm]; exact HRL.out
  have HM := Lib.hid hm
  clear h hr hr2 h1 h2 h3 h4 h6 hm hR hmt hc hus HGB HRL HRS
  go_enter Tryz.func74, Tryz.ntmps74
  go_wp2_with fail
  refine hpi.mono ?_
  rintro e w1 ⟨A', c', rfl, ho, hb⟩
  rw [HM.out] at ho
  have HB := Lib.hid hb
  have HO := Lib.hid ho
  have hpt := HPT.out w1 hb
  clear hpi ho hb
  go_wp2_with fail
  refine hpt.mono ?_
  rintro e w2 ⟨At, ct_, rfl, -, hb2⟩
  have HB2 := Lib.hid (HB.out.trans (hb2.mono HB.out.size))
  have HO2 := Lib.hid (HO.out.call hb2)
  clear hpt hb2
  have hcv := HCV.out w2 HB2.out
  go_wp2_with fail
  refine hcv.mono ?_
  rintro e w3 ⟨rfl, hb3⟩
  have HB3 := Lib.hid (HB2.out.trans (hb3.mono HB2.out.size))
  have HO3 := Lib.hid (HO2.out.call hb3)
  clear hcv hb3
  go_wp2_with fail
  go_ret2
  exact ToldQ.no (by decide) (HX.out.did HB3.out)

set_option maxRecDepth 100000 in
set_option maxHeartbeats 1000000 in
theorem mv_hu_l (h : AtX B w xa A c l P) {a n t : Nat} (hr : rtI a n 0 = 0) (hr2 : rtI t n 0 = 0) (d1 : ¬ (a : Int) < t + n) (hc : covB P a n = true) (hg : hugeB P a n = true) : Calls Tryz.prog 74 #[.pointer (some ⟨xa, 0, none⟩), .int .i64 a, .int .i64 n, .int .i64 t] w (ToldQ B w xa P (mvP P a n t) 2 (pcs P a n)) := by
  obtain ⟨h1, h2, h3⟩ := rt_in hr
  obtain ⟨h4, _, h6⟩ := rt_in hr2
  have hpi := pieces_ok h hr
  obtain ⟨mt, hmt⟩ : ∃ mt, mt = (pcs P t n).length := ⟨_, rfl⟩
  have hus := pcs_none h.wh.ok t n
  rw [← hmt] at hus
  have HPT : Hid (∀ w1, Below w.heap.size w w1 → Calls Tryz.prog 91 #[.pointer (some ⟨xa, 0, none⟩), .int .i64 t, .int .i64 n] w1 fun e w' => ∃ A c, e = .returned (.tuple #[.slice A mt c, .int .i64 0]) ∧ True ∧ Below w1.heap.size w1 w') := fun w1 hb => (pieces_ok (h.call hb) hr2).mono (by
    rintro e w2 ⟨A2, c2, rfl, _, hb2⟩
    exact ⟨A2, c2, by rw [hmt], trivial, hb2⟩)
  have HCV : Hid (∀ w1, Below w.heap.size w w1 → Calls Tryz.prog 72 #[.pointer (some ⟨xa, 0, none⟩), .int .i64 a, .int .i64 n] w1 fun e w' => e = .returned (.bool (covB P a n)) ∧ Below w1.heap.size w1 w') := fun w1 hb => covers_ok (h.call hb) hr
  have HGB := Lib.hid (pcs_huge h.wh.ok a n)
  have HRL : Hid ((pcs P a n).length ≤ 4096) := Nat.le_trans (pcs_is h.wh.ok.ok a n).len (by omega)
  have HRS : Hid (∀ x ∈ pcs P a n, ArS x) := fun x hx => (pcs_bound h.wh.ok a n hx).1
  have HX := Lib.hid h
  have s1 : IntKind.i64.wrap ((t : Int) + n) = (t : Int) + n := IntWalk.i64_in _ (by omega)
  have s2 : IntKind.i64.wrap ((a : Int) + n) = (a : Int) + n := IntWalk.i64_in _ (by omega)
  have s3 : IntKind.i64.wrap ((t : Int) - a) = (t : Int) - a := IntWalk.i64_in _ (by omega)
  have a4 : (a : Int) ≤ 4096 := by omega
  have t4 : (t : Int) ≤ 4096 := by omega
  have e1 : decide ((a : Int) < t + n) = false := decide_eq_false d1
  rw [hc] at HCV
  rw [hg] at HGB
  obtain ⟨R, hR⟩ : ∃ R, R = pcs P a n := ⟨_, rfl⟩
  rw [← hR] at hpi HGB HRL HRS ⊢
  obtain ⟨m, hm⟩ : ∃ m, m = R.length := ⟨_, rfl⟩
  unfold ToldE at hpi
  rw [← hm] at hpi
  have m4 : m ≤ 4096 := by rw [hm]; exact HRL.out
  have HM := Lib.hid hm
  clear h hr hr2 h1 h2 h3 h4 h6 hm hR hmt hc hg hus HRS
  go_enter Tryz.func74, Tryz.ntmps74
  go_wp2_with fail
  refine hpi.mono ?_
  rintro e w1 ⟨A', c', rfl, ho, hb⟩
  rw [HM.out] at ho
  have HB := Lib.hid hb
  have HO := Lib.hid ho
  have hpt := HPT.out w1 hb
  clear hpi ho hb
  go_wp2_with fail
  refine hpt.mono ?_
  rintro e w2 ⟨At, ct_, rfl, -, hb2⟩
  have HB2 := Lib.hid (HB.out.trans (hb2.mono HB.out.size))
  have HO2 := Lib.hid (HO.out.call hb2)
  clear hpt hb2
  have hcv := HCV.out w2 HB2.out
  go_wp2_with fail
  refine hcv.mono ?_
  rintro e w3 ⟨rfl, hb3⟩
  have HB3 := Lib.hid (HB2.out.trans (hb3.mono HB2.out.size))
  have HO3 := Lib.hid (HO2.out.call hb3)
  clear hcv hb3
  have hgr := great_ok (c := c') (LsD.of (D := w3.heap.size) (l := R) HO3.out (Nat.le_refl _)) (Nat.le_refl _) (by have := HRL.out; omega)
  rw [HGB.out, ← HM.out] at hgr
  go_wp2_with fail
  refine hgr.mono ?_
  rintro e w4 ⟨rfl, hb4⟩
  have HB4 := Lib.hid (HB3.out.trans (hb4.mono HB3.out.size))
  have HO4 := Lib.hid (HO3.out.call hb4)
  clear hgr hb4
  go_wp2_with fail
  go_ret2
  exact ToldQ.no (by decide) (HX.out.did HB4.out)

set_option maxRecDepth 100000 in
set_option maxHeartbeats 1000000 in
theorem mv_us_l (h : AtX B w xa A c l P) {a n t : Nat} (hr : rtI a n 0 = 0) (hr2 : rtI t n 0 = 0) (d1 : ¬ (a : Int) < t + n) (hc : covB P a n = true) (hg : hugeB P a n = false) (hu : usedB P t n = true) : Calls Tryz.prog 74 #[.pointer (some ⟨xa, 0, none⟩), .int .i64 a, .int .i64 n, .int .i64 t] w (ToldQ B w xa P (mvP P a n t) 7 (pcs P a n)) := by
  obtain ⟨h1, h2, h3⟩ := rt_in hr
  obtain ⟨h4, _, h6⟩ := rt_in hr2
  have hpi := pieces_ok h hr
  obtain ⟨mt, hmt⟩ : ∃ mt, mt = (pcs P t n).length := ⟨_, rfl⟩
  have hus := pcs_none h.wh.ok t n
  rw [← hmt] at hus
  have HPT : Hid (∀ w1, Below w.heap.size w w1 → Calls Tryz.prog 91 #[.pointer (some ⟨xa, 0, none⟩), .int .i64 t, .int .i64 n] w1 fun e w' => ∃ A c, e = .returned (.tuple #[.slice A mt c, .int .i64 0]) ∧ True ∧ Below w1.heap.size w1 w') := fun w1 hb => (pieces_ok (h.call hb) hr2).mono (by
    rintro e w2 ⟨A2, c2, rfl, _, hb2⟩
    exact ⟨A2, c2, by rw [hmt], trivial, hb2⟩)
  have HCV : Hid (∀ w1, Below w.heap.size w w1 → Calls Tryz.prog 72 #[.pointer (some ⟨xa, 0, none⟩), .int .i64 a, .int .i64 n] w1 fun e w' => e = .returned (.bool (covB P a n)) ∧ Below w1.heap.size w1 w') := fun w1 hb => covers_ok (h.call hb) hr
  have HGB := Lib.hid (pcs_huge h.wh.ok a n)
  have HRL : Hid ((pcs P a n).length ≤ 4096) := Nat.le_trans (pcs_is h.wh.ok.ok a n).len (by omega)
  have HRS : Hid (∀ x ∈ pcs P a n, ArS x) := fun x hx => (pcs_bound h.wh.ok a n hx).1
  have HX := Lib.hid h
  have s1 : IntKind.i64.wrap ((t : Int) + n) = (t : Int) + n := IntWalk.i64_in _ (by omega)
  have s2 : IntKind.i64.wrap ((a : Int) + n) = (a : Int) + n := IntWalk.i64_in _ (by omega)
  have s3 : IntKind.i64.wrap ((t : Int) - a) = (t : Int) - a := IntWalk.i64_in _ (by omega)
  have a4 : (a : Int) ≤ 4096 := by omega
  have t4 : (t : Int) ≤ 4096 := by omega
  have e1 : decide ((a : Int) < t + n) = false := decide_eq_false d1
  rw [hc] at HCV
  rw [hg] at HGB
  rw [hu] at hus
  have m1 : 0 < mt := of_decide_eq_true hus
  have m2 : (0 : Int) < mt := by omega
  obtain ⟨R, hR⟩ : ∃ R, R = pcs P a n := ⟨_, rfl⟩
  rw [← hR] at hpi HGB HRL HRS ⊢
  obtain ⟨m, hm⟩ : ∃ m, m = R.length := ⟨_, rfl⟩
  unfold ToldE at hpi
  rw [← hm] at hpi
  have m4 : m ≤ 4096 := by rw [hm]; exact HRL.out
  have HM := Lib.hid hm
  clear h hr hr2 h1 h2 h3 h4 h6 hm hR hmt hc hg hu hus HRS
  go_enter Tryz.func74, Tryz.ntmps74
  go_wp2_with fail
  refine hpi.mono ?_
  rintro e w1 ⟨A', c', rfl, ho, hb⟩
  rw [HM.out] at ho
  have HB := Lib.hid hb
  have HO := Lib.hid ho
  have hpt := HPT.out w1 hb
  clear hpi ho hb
  go_wp2_with fail
  refine hpt.mono ?_
  rintro e w2 ⟨At, ct_, rfl, -, hb2⟩
  have HB2 := Lib.hid (HB.out.trans (hb2.mono HB.out.size))
  have HO2 := Lib.hid (HO.out.call hb2)
  clear hpt hb2
  have hcv := HCV.out w2 HB2.out
  go_wp2_with fail
  refine hcv.mono ?_
  rintro e w3 ⟨rfl, hb3⟩
  have HB3 := Lib.hid (HB2.out.trans (hb3.mono HB2.out.size))
  have HO3 := Lib.hid (HO2.out.call hb3)
  clear hcv hb3
  have hgr := great_ok (c := c') (LsD.of (D := w3.heap.size) (l := R) HO3.out (Nat.le_refl _)) (Nat.le_refl _) (by have := HRL.out; omega)
  rw [HGB.out, ← HM.out] at hgr
  go_wp2_with fail
  refine hgr.mono ?_
  rintro e w4 ⟨rfl, hb4⟩
  have HB4 := Lib.hid (HB3.out.trans (hb4.mono HB3.out.size))
  have HO4 := Lib.hid (HO3.out.call hb4)
  clear hgr hb4
  go_wp2_with fail
  go_ret2
  exact ToldQ.no (by decide) (HX.out.did HB4.out)

set_option maxRecDepth 100000 in
set_option maxHeartbeats 1000000 in
theorem mv_g_l (h : AtX B w xa A c l P) {a n t : Nat} (hr : rtI a n 0 = 0) (hr2 : rtI t n 0 = 0) (d1 : ¬ (a : Int) < t + n) (hc : covB P a n = true) (hg : hugeB P a n = false) (hu : usedB P t n = false) : Calls Tryz.prog 74 #[.pointer (some ⟨xa, 0, none⟩), .int .i64 a, .int .i64 n, .int .i64 t] w (ToldQ B w xa P (mvP P a n t) (if fullB (mvP P a n t) = true then 13 else 0) (pcs P a n)) := by
  obtain ⟨h1, h2, h3⟩ := rt_in hr
  obtain ⟨h4, _, h6⟩ := rt_in hr2
  have hpi := pieces_ok h hr
  obtain ⟨mt, hmt⟩ : ∃ mt, mt = (pcs P t n).length := ⟨_, rfl⟩
  have hus := pcs_none h.wh.ok t n
  rw [← hmt] at hus
  have HPT : Hid (∀ w1, Below w.heap.size w w1 → Calls Tryz.prog 91 #[.pointer (some ⟨xa, 0, none⟩), .int .i64 t, .int .i64 n] w1 fun e w' => ∃ A c, e = .returned (.tuple #[.slice A mt c, .int .i64 0]) ∧ True ∧ Below w1.heap.size w1 w') := fun w1 hb => (pieces_ok (h.call hb) hr2).mono (by
    rintro e w2 ⟨A2, c2, rfl, _, hb2⟩
    exact ⟨A2, c2, by rw [hmt], trivial, hb2⟩)
  have HCV : Hid (∀ w1, Below w.heap.size w w1 → Calls Tryz.prog 72 #[.pointer (some ⟨xa, 0, none⟩), .int .i64 a, .int .i64 n] w1 fun e w' => e = .returned (.bool (covB P a n)) ∧ Below w1.heap.size w1 w') := fun w1 hb => covers_ok (h.call hb) hr
  have HGB := Lib.hid (pcs_huge h.wh.ok a n)
  have HRL : Hid ((pcs P a n).length ≤ 4096) := Nat.le_trans (pcs_is h.wh.ok.ok a n).len (by omega)
  have HRS : Hid (∀ x ∈ pcs P a n, ArS x) := fun x hx => (pcs_bound h.wh.ok a n hx).1
  have HX := Lib.hid h
  have s1 : IntKind.i64.wrap ((t : Int) + n) = (t : Int) + n := IntWalk.i64_in _ (by omega)
  have s2 : IntKind.i64.wrap ((a : Int) + n) = (a : Int) + n := IntWalk.i64_in _ (by omega)
  have s3 : IntKind.i64.wrap ((t : Int) - a) = (t : Int) - a := IntWalk.i64_in _ (by omega)
  have a4 : (a : Int) ≤ 4096 := by omega
  have t4 : (t : Int) ≤ 4096 := by omega
  have e1 : decide ((a : Int) < t + n) = false := decide_eq_false d1
  rw [hc] at HCV
  rw [hg] at HGB
  rw [hu] at hus
  have m1 : mt = 0 := by have := of_decide_eq_false hus; omega
  subst m1
  obtain ⟨er2, her2⟩ : ∃ er : Int, er = if fullB (mvP P a n t) = true then 13 else 0 := ⟨_, rfl⟩
  rw [← her2]
  have HE := Lib.hid her2
  obtain ⟨S, hS⟩ : ∃ S, S = allA (mvP P a n t) := ⟨_, rfl⟩
  have HQ : Hid (Whole (mvP P a n t) S) := by
    show Whole _ _
    rw [hS]
    exact whole_all (h.wh.ok.mv (by omega) h6)
  obtain ⟨k, hk⟩ : ∃ k, k = l.length := ⟨_, rfl⟩
  have HK := Lib.hid hk
  obtain ⟨S1, hS1⟩ : ∃ S1, S1 = laiL l a n [] := ⟨_, rfl⟩
  have hw1 : Whole (unP P a n) S1 := by rw [hS1, h.wh.un h1 h2]; exact whole_all (h.wh.ok.un a n)
  have hl1 : S1.length ≤ 4096 := by rw [hw1.all]; exact (pcs_is hw1.ok.ok 0 4096).len
  have HLA : Hid (∀ w1, Below w.heap.size w w1 → Calls Tryz.prog 90 #[.slice A k c, .int .i64 a, .int .i64 n, .slice none 0 0] w1 (ToldL S1 w1)) := fun w1 hb => by
    have := laid_pr (h.call hb).own (fun x hx => h.wh.bound hx) h.len (Ao := none) (co := 0) (o := []) (fun h => by cases h) (fun x hx => by cases hx) (by simp) (a := a) (n := n) (by omega)
    rw [← hS1, ← hk] at this
    exact this
  obtain ⟨k1, hk1⟩ : ∃ k1, k1 = S1.length := ⟨_, rfl⟩
  have HLB : Hid (∀ w1 D A1 c1, EAr.Own D w1 (.slice A1 S1.length c1) S1 → ∀ Ao co, LsD w1.heap.size w1 Ao ((pcs P a n).map (fun x : Ar => { x with f := x.f + ((t : Int) - a), t := x.t + ((t : Int) - a) })) → Calls Tryz.prog 90 #[.slice A1 S1.length c1, .int .i64 t, .int .i64 n, .slice Ao (pcs P a n).length co] w1 (ToldL S w1)) := fun w1 D A1 c1 ho1 Ao co hls => by
    have := laid_pr ho1 (fun x hx => hw1.bound hx) hl1 (Ao := Ao) (co := co) (o := (pcs P a n).map (fun x : Ar => { x with f := x.f + ((t : Int) - a), t := x.t + ((t : Int) - a) })) hls (fun x hx => by
      obtain ⟨y, hy, e⟩ := List.mem_map.1 hx
      obtain ⟨hb, hb2, hb3⟩ := pcs_bound h.wh.ok a n hy
      rw [← e]
      have q1 := hb.ft
      exact ⟨by show 0 ≤ y.f + ((t : Int) - a); omega, by show y.f + ((t : Int) - a) < y.t + ((t : Int) - a); omega, by show y.t + ((t : Int) - a) ≤ 4096; omega, hb.x0, hb.x4⟩) (by rw [List.length_map]; exact HRL.out) (a := t) (n := n) (by omega)
    rw [List.length_map, hS1] at this
    rw [h.wh.mv h1 (by omega) h4 h6, ← hS, ← hS1] at this
    exact this
  clear her2 hS hk hS1 hw1 hl1 hk1
  obtain ⟨R, hR⟩ : ∃ R, R = pcs P a n := ⟨_, rfl⟩
  rw [← hR] at hpi HGB HRL HRS HLB ⊢
  obtain ⟨m, hm⟩ : ∃ m, m = R.length := ⟨_, rfl⟩
  unfold ToldE at hpi
  rw [← hm] at hpi
  have m4 : m ≤ 4096 := by rw [hm]; exact HRL.out
  have HM := Lib.hid hm
  clear h hr hr2 h1 h2 h3 h4 h6 hm hR hmt hc hg hu hus
  go_enter Tryz.func74, Tryz.ntmps74
  go_wp2_with fail
  refine hpi.mono ?_
  rintro e w1 ⟨A', c', rfl, ho, hb⟩
  rw [HM.out] at ho
  have HB := Lib.hid hb
  have HO := Lib.hid ho
  have hpt := HPT.out w1 hb
  clear hpi ho hb
  rw [← HM.out] at HLB
  go_wp2_with fail
  refine hpt.mono ?_
  rintro e w2 ⟨At, ct_, rfl, -, hb2⟩
  have HB2 := Lib.hid (HB.out.trans (hb2.mono HB.out.size))
  have HO2 := Lib.hid (HO.out.call hb2)
  clear hpt hb2
  have hcv := HCV.out w2 HB2.out
  go_wp2_with fail
  refine hcv.mono ?_
  rintro e w3 ⟨rfl, hb3⟩
  have HB3 := Lib.hid (HB2.out.trans (hb3.mono HB2.out.size))
  have HO3 := Lib.hid (HO2.out.call hb3)
  clear hcv hb3
  have hgr := great_ok (c := c') (LsD.of (D := w3.heap.size) (l := R) HO3.out (Nat.le_refl _)) (Nat.le_refl _) (by have := HRL.out; omega)
  rw [HGB.out, ← HM.out] at hgr
  go_wp2_with fail
  refine hgr.mono ?_
  rintro e w4 ⟨rfl, hb4⟩
  have HB4 := Lib.hid (HB3.out.trans (hb4.mono HB3.out.size))
  have HO4 := Lib.hid (HO3.out.call hb4)
  clear hgr hb4
  have hcl := clone_is HO4.out (by have := HRL.out; omega)
  unfold ToldL at hcl
  rw [← HM.out] at hcl
  go_wp2_with fail
  refine hcl.mono ?_
  rintro e w5 ⟨A5, c5, rfl, ho5, hb5⟩
  have HB5 := Lib.hid (HB4.out.trans (hb5.mono HB4.out.size))
  have HC5 := Lib.hid ho5
  have HBL := Lib.hid hb5
  have HO5 := Lib.hid (HO4.out.call hb5)
  clear hcl ho5 hb5
  go_wp2_with fail
  go_loopw [67] (fun i wr => ∃ j : Nat, j ≤ m ∧ i = .int .i64 j ∧ EAr.Own w4.heap.size wr (.slice A5 m c5) ((R.take j).map (fun x : Ar => { x with f := x.f + ((t : Int) - a), t := x.t + ((t : Int) - a) }) ++ R.drop j) ∧ Below w4.heap.size w4 wr) (fun i _ => m - (RowKit.intOf i).toNat)
  case atStart => exact ⟨0, Nat.zero_le _, rfl, HC5.out, HBL.out⟩
  case round =>
    obtain ⟨j, hj, rfl, hown, hwr⟩ := hrel
    by_cases hlt : j < m
    · have hjl : j < R.length := by rw [← HM.out]; exact hlt
      have hlen : ((R.take j).map (fun x : Ar => { x with f := x.f + ((t : Int) - a), t := x.t + ((t : Int) - a) }) ++ R.drop j).length = R.length := by rw [List.length_append, List.length_map, List.length_take, List.length_drop]; omega
      obtain ⟨g, eA, hg, -, -, hat⟩ := hown.some_ (by omega)
      subst eA
      have hjx : ((R.take j).map (fun x : Ar => { x with f := x.f + ((t : Int) - a), t := x.t + ((t : Int) - a) }) ++ R.drop j)[j]'(by omega) = R[j] := by
        rw [List.getElem_append_right (by rw [List.length_map, List.length_take]; omega)]
        simp [List.length_take, Nat.min_eq_left (Nat.le_of_lt hjl)]
      have hbd := HRS.out _ (List.getElem_mem hjl)
      obtain ⟨hfz, hput⟩ := hown.put (j := j) (by omega) (q := 0) (by decide) (u := .int .i64 (R[j].f + ((t : Int) - a))) (x := { R[j] with f := R[j].f + ((t : Int) - a) }) (by rw [hjx]; rfl) rfl
      change EAr.Own _ (wr.setCell ⟨g, j * 6, none⟩ _) _ _ at hput
      have hcel := hat j (by omega) 0 (by decide)
      change wr.cell? ⟨g, j * 6, none⟩ = some (.int .i64 _) at hcel
      rw [show (((R.take j).map (fun x : Ar => { x with f := x.f + ((t : Int) - a), t := x.t + ((t : Int) - a) }) ++ R.drop j)[j]'(by omega)).f = R[j].f by rw [hjx]] at hcel
      have hf3 := hfz (j * 6)
      obtain ⟨g2, eA2, -, -, -, hat2⟩ := hput.some_ (by rw [List.length_set]; omega)
      injection eA2 with eA2
      injection eA2 with eA2
      subst eA2
      have hcel2 := hat2 j (by rw [List.length_set]; omega) 1 (by decide)
      rw [List.getElem_set_self] at hcel2
      change (wr.setCell ⟨g, j * 6, none⟩ _).cell? ⟨g, j * 6 + 1, none⟩ = some (.int .i64 R[j].t) at hcel2
      obtain ⟨hfz2, hput2⟩ := hput.put (j := j) (by rw [List.length_set]; omega) (q := 1) (by decide) (u := .int .i64 (R[j].t + ((t : Int) - a))) (x := { R[j] with f := R[j].f + ((t : Int) - a), t := R[j].t + ((t : Int) - a) }) (by rw [List.getElem_set_self]; rfl) rfl
      change EAr.Own _ ((wr.setCell ⟨g, j * 6, none⟩ _).setCell ⟨g, j * 6 + 1, none⟩ _) _ _ at hput2
      have hf4 := hfz2 (j * 6 + 1)
      rw [List.set_set, set_mid (fun x : Ar => { x with f := x.f + ((t : Int) - a), t := x.t + ((t : Int) - a) }) hjl] at hput2
      have HP := Lib.hid hput2
      obtain ⟨b1, b2, b3, _, _⟩ := hbd
      obtain ⟨xf, hxf⟩ : ∃ z, z = R[j].f := ⟨_, rfl⟩
      obtain ⟨xt, hxt⟩ : ∃ z, z = R[j].t := ⟨_, rfl⟩
      rw [← hxf] at hcel hcel2 hf4 HP b1 b2
      rw [← hxt] at hcel2 HP b2 b3
      have HW : Hid (Below w4.heap.size w4 ((wr.setCell ⟨g, j * 6, none⟩ (.int .i64 (xf + ((t : Int) - a)))).setCell ⟨g, j * 6 + 1, none⟩ (.int .i64 (xt + ((t : Int) - a))))) := (hwr.setCell hg _).setCell hg _
      have j0 : (0 : Int) ≤ j := by omega
      have j1 : (j : Int) < m := by omega
      have s1 : IntKind.i64.wrap (xf + ((t : Int) - a)) = xf + ((t : Int) - a) := IntWalk.i64_in _ (by omega)
      have s2 : IntKind.i64.wrap (xt + ((t : Int) - a)) = xt + ((t : Int) - a) := IntWalk.i64_in _ (by omega)
      clear hown hat hat2 hg hjx hput hput2 hfz hfz2 hwr hlen hxf hxt b1 b2 b3
      go_wp2_with fail
      go_roundw
      case rel => exact ⟨j + 1, by omega, by go_num, HP.out, HW.out⟩
      case measure => simp [RowKit.intOf]; omega
    · obtain rfl : j = m := by omega
      rw [List.take_of_length_le (by rw [← HM.out]; exact Nat.le_refl _), List.drop_of_length_le (by rw [← HM.out]; exact Nat.le_refl _), List.append_nil] at hown
      have HB6 := Lib.hid (HB4.out.trans (hwr.mono HB4.out.size))
      have HO6 := Lib.hid (HO4.out.call hwr)
      have HLS := Lib.hid (LsD.of (D := wr.heap.size) (l := R.map (fun x : Ar => { x with f := x.f + ((t : Int) - a), t := x.t + ((t : Int) - a) })) hown (Nat.le_refl _))
      have hla := HLA.out wr HB6.out
      have cr : wr.cell? ⟨xa, 0, none⟩ = some (.slice A k c) := by rw [HK.out]; exact (HX.out.call HB6.out).c0
      clear hown hwr
      go_wp2_with fail
      refine hla.mono ?_
      rintro e w6 ⟨A6, c6, rfl, ho6, hb6⟩
      have HB7 := Lib.hid (HB6.out.trans (hb6.mono HB6.out.size))
      have HO7 := Lib.hid (HO6.out.call hb6)
      have hla2 := HLB.out w6 wr.heap.size A6 c6 ho6 A5 c5 (fun h0 => by
        obtain ⟨g, e1, e2, e3⟩ := (HLS.out.below hb6) h0
        exact ⟨g, e1, Nat.lt_of_lt_of_le e2 hb6.size, e3⟩)
      have HSZ := Lib.hid hb6.size
      clear hla ho6 hb6 cr HLS
      go_wp2_with fail
      refine hla2.mono ?_
      rintro e w7 ⟨A7, c7, rfl, ho7, hb7⟩
      have HB8 := Lib.hid (HB7.out.trans (hb7.mono HB7.out.size))
      have HO8 := Lib.hid (HO7.out.call hb7)
      have hx7 := HX.out.call HB8.out
      have hbe := become_pr hx7 ho7 (Nat.le_trans HX.out.lw HB7.out.size) HQ.out
      rw [← HE.out] at hbe
      generalize S.length = r at hbe
      have HT7 := Lib.hid hx7.top
      clear hla2 ho7 hb7 hx7
      go_wp2_with fail
      refine hbe.mono ?_
      rintro e w8 ⟨rfl, hd⟩
      have HO9 := Lib.hid (ls_foot HO8.out hd.2 HT7.out)
      have HD := Lib.hid (hd.pre HB8.out)
      clear hbe hd
      by_cases e0 : fullB (mvP P a n t) = true
      · obtain rfl : er2 = 13 := by rw [HE.out, if_pos e0]
        have hd := HD.out
        rw [if_pos e0] at hd
        have HDD := Lib.hid hd
        clear hd e0
        go_wp2_with fail
        go_ret2
        exact ToldQ.no (by decide) HDD.out
      · obtain rfl : er2 = 0 := by rw [HE.out, if_neg e0]
        have hd := HD.out
        rw [if_neg e0] at hd
        have HDD := Lib.hid hd
        clear hd e0
        go_wp2_with fail
        go_ret2
        have ho := HO9.out
        rw [HM.out]
        exact ToldQ.yes ho HDD.out

set_option maxRecDepth 100000 in
set_option maxHeartbeats 1000000 in
theorem mv_nc_r (h : AtX B w xa A c l P) {a n t : Nat} (hr : rtI a n 0 = 0) (hr2 : rtI t n 0 = 0) (d1 : (a : Int) < t + n) (d2 : ¬ (t : Int) < a + n) (hc : covB P a n = false) : Calls Tryz.prog 74 #[.pointer (some ⟨xa, 0, none⟩), .int .i64 a, .int .i64 n, .int .i64 t] w (ToldQ B w xa P (mvP P a n t) 6 (pcs P a n)) := by
  obtain ⟨h1, h2, h3⟩ := rt_in hr
  obtain ⟨h4, _, h6⟩ := rt_in hr2
  have hpi := pieces_ok h hr
  obtain ⟨mt, hmt⟩ : ∃ mt, mt = (pcs P t n).length := ⟨_, rfl⟩
  have hus := pcs_none h.wh.ok t n
  rw [← hmt] at hus
  have HPT : Hid (∀ w1, Below w.heap.size w w1 → Calls Tryz.prog 91 #[.pointer (some ⟨xa, 0, none⟩), .int .i64 t, .int .i64 n] w1 fun e w' => ∃ A c, e = .returned (.tuple #[.slice A mt c, .int .i64 0]) ∧ True ∧ Below w1.heap.size w1 w') := fun w1 hb => (pieces_ok (h.call hb) hr2).mono (by
    rintro e w2 ⟨A2, c2, rfl, _, hb2⟩
    exact ⟨A2, c2, by rw [hmt], trivial, hb2⟩)
  have HCV : Hid (∀ w1, Below w.heap.size w w1 → Calls Tryz.prog 72 #[.pointer (some ⟨xa, 0, none⟩), .int .i64 a, .int .i64 n] w1 fun e w' => e = .returned (.bool (covB P a n)) ∧ Below w1.heap.size w1 w') := fun w1 hb => covers_ok (h.call hb) hr
  have HGB := Lib.hid (pcs_huge h.wh.ok a n)
  have HRL : Hid ((pcs P a n).length ≤ 4096) := Nat.le_trans (pcs_is h.wh.ok.ok a n).len (by omega)
  have HRS : Hid (∀ x ∈ pcs P a n, ArS x) := fun x hx => (pcs_bound h.wh.ok a n hx).1
  have HX := Lib.hid h
  have s1 : IntKind.i64.wrap ((t : Int) + n) = (t : Int) + n := IntWalk.i64_in _ (by omega)
  have s2 : IntKind.i64.wrap ((a : Int) + n) = (a : Int) + n := IntWalk.i64_in _ (by omega)
  have s3 : IntKind.i64.wrap ((t : Int) - a) = (t : Int) - a := IntWalk.i64_in _ (by omega)
  have a4 : (a : Int) ≤ 4096 := by omega
  have t4 : (t : Int) ≤ 4096 := by omega
  have e2 : decide ((t : Int) < a + n) = false := decide_eq_false d2
  rw [hc] at HCV
  obtain ⟨R, hR⟩ : ∃ R, R = pcs P a n := ⟨_, rfl⟩
  rw [← hR] at hpi HGB HRL HRS ⊢
  obtain ⟨m, hm⟩ : ∃ m, m = R.length := ⟨_, rfl⟩
  unfold ToldE at hpi
  rw [← hm] at hpi
  have m4 : m ≤ 4096 := by rw [hm]; exact HRL.out
  have HM := Lib.hid hm
  clear h hr hr2 h1 h2 h3 h4 h6 hm hR hmt hc hus HGB HRL HRS
  go_enter Tryz.func74, Tryz.ntmps74
  go_wp2_with fail
  refine hpi.mono ?_
  rintro e w1 ⟨A', c', rfl, ho, hb⟩
  rw [HM.out] at ho
  have HB := Lib.hid hb
  have HO := Lib.hid ho
  have hpt := HPT.out w1 hb
  clear hpi ho hb
  go_wp2_with fail
  refine hpt.mono ?_
  rintro e w2 ⟨At, ct_, rfl, -, hb2⟩
  have HB2 := Lib.hid (HB.out.trans (hb2.mono HB.out.size))
  have HO2 := Lib.hid (HO.out.call hb2)
  clear hpt hb2
  have hcv := HCV.out w2 HB2.out
  go_wp2_with fail
  refine hcv.mono ?_
  rintro e w3 ⟨rfl, hb3⟩
  have HB3 := Lib.hid (HB2.out.trans (hb3.mono HB2.out.size))
  have HO3 := Lib.hid (HO2.out.call hb3)
  clear hcv hb3
  go_wp2_with fail
  go_ret2
  exact ToldQ.no (by decide) (HX.out.did HB3.out)

set_option maxRecDepth 100000 in
set_option maxHeartbeats 1000000 in
theorem mv_hu_r (h : AtX B w xa A c l P) {a n t : Nat} (hr : rtI a n 0 = 0) (hr2 : rtI t n 0 = 0) (d1 : (a : Int) < t + n) (d2 : ¬ (t : Int) < a + n) (hc : covB P a n = true) (hg : hugeB P a n = true) : Calls Tryz.prog 74 #[.pointer (some ⟨xa, 0, none⟩), .int .i64 a, .int .i64 n, .int .i64 t] w (ToldQ B w xa P (mvP P a n t) 2 (pcs P a n)) := by
  obtain ⟨h1, h2, h3⟩ := rt_in hr
  obtain ⟨h4, _, h6⟩ := rt_in hr2
  have hpi := pieces_ok h hr
  obtain ⟨mt, hmt⟩ : ∃ mt, mt = (pcs P t n).length := ⟨_, rfl⟩
  have hus := pcs_none h.wh.ok t n
  rw [← hmt] at hus
  have HPT : Hid (∀ w1, Below w.heap.size w w1 → Calls Tryz.prog 91 #[.pointer (some ⟨xa, 0, none⟩), .int .i64 t, .int .i64 n] w1 fun e w' => ∃ A c, e = .returned (.tuple #[.slice A mt c, .int .i64 0]) ∧ True ∧ Below w1.heap.size w1 w') := fun w1 hb => (pieces_ok (h.call hb) hr2).mono (by
    rintro e w2 ⟨A2, c2, rfl, _, hb2⟩
    exact ⟨A2, c2, by rw [hmt], trivial, hb2⟩)
  have HCV : Hid (∀ w1, Below w.heap.size w w1 → Calls Tryz.prog 72 #[.pointer (some ⟨xa, 0, none⟩), .int .i64 a, .int .i64 n] w1 fun e w' => e = .returned (.bool (covB P a n)) ∧ Below w1.heap.size w1 w') := fun w1 hb => covers_ok (h.call hb) hr
  have HGB := Lib.hid (pcs_huge h.wh.ok a n)
  have HRL : Hid ((pcs P a n).length ≤ 4096) := Nat.le_trans (pcs_is h.wh.ok.ok a n).len (by omega)
  have HRS : Hid (∀ x ∈ pcs P a n, ArS x) := fun x hx => (pcs_bound h.wh.ok a n hx).1
  have HX := Lib.hid h
  have s1 : IntKind.i64.wrap ((t : Int) + n) = (t : Int) + n := IntWalk.i64_in _ (by omega)
  have s2 : IntKind.i64.wrap ((a : Int) + n) = (a : Int) + n := IntWalk.i64_in _ (by omega)
  have s3 : IntKind.i64.wrap ((t : Int) - a) = (t : Int) - a := IntWalk.i64_in _ (by omega)
  have a4 : (a : Int) ≤ 4096 := by omega
  have t4 : (t : Int) ≤ 4096 := by omega
  have e2 : decide ((t : Int) < a + n) = false := decide_eq_false d2
  rw [hc] at HCV
  rw [hg] at HGB
  obtain ⟨R, hR⟩ : ∃ R, R = pcs P a n := ⟨_, rfl⟩
  rw [← hR] at hpi HGB HRL HRS ⊢
  obtain ⟨m, hm⟩ : ∃ m, m = R.length := ⟨_, rfl⟩
  unfold ToldE at hpi
  rw [← hm] at hpi
  have m4 : m ≤ 4096 := by rw [hm]; exact HRL.out
  have HM := Lib.hid hm
  clear h hr hr2 h1 h2 h3 h4 h6 hm hR hmt hc hg hus HRS
  go_enter Tryz.func74, Tryz.ntmps74
  go_wp2_with fail
  refine hpi.mono ?_
  rintro e w1 ⟨A', c', rfl, ho, hb⟩
  rw [HM.out] at ho
  have HB := Lib.hid hb
  have HO := Lib.hid ho
  have hpt := HPT.out w1 hb
  clear hpi ho hb
  go_wp2_with fail
  refine hpt.mono ?_
  rintro e w2 ⟨At, ct_, rfl, -, hb2⟩
  have HB2 := Lib.hid (HB.out.trans (hb2.mono HB.out.size))
  have HO2 := Lib.hid (HO.out.call hb2)
  clear hpt hb2
  have hcv := HCV.out w2 HB2.out
  go_wp2_with fail
  refine hcv.mono ?_
  rintro e w3 ⟨rfl, hb3⟩
  have HB3 := Lib.hid (HB2.out.trans (hb3.mono HB2.out.size))
  have HO3 := Lib.hid (HO2.out.call hb3)
  clear hcv hb3
  have hgr := great_ok (c := c') (LsD.of (D := w3.heap.size) (l := R) HO3.out (Nat.le_refl _)) (Nat.le_refl _) (by have := HRL.out; omega)
  rw [HGB.out, ← HM.out] at hgr
  go_wp2_with fail
  refine hgr.mono ?_
  rintro e w4 ⟨rfl, hb4⟩
  have HB4 := Lib.hid (HB3.out.trans (hb4.mono HB3.out.size))
  have HO4 := Lib.hid (HO3.out.call hb4)
  clear hgr hb4
  go_wp2_with fail
  go_ret2
  exact ToldQ.no (by decide) (HX.out.did HB4.out)

set_option maxRecDepth 100000 in
set_option maxHeartbeats 1000000 in
theorem mv_us_r (h : AtX B w xa A c l P) {a n t : Nat} (hr : rtI a n 0 = 0) (hr2 : rtI t n 0 = 0) (d1 : (a : Int) < t + n) (d2 : ¬ (t : Int) < a + n) (hc : covB P a n = true) (hg : hugeB P a n = false) (hu : usedB P t n = true) : Calls Tryz.prog 74 #[.pointer (some ⟨xa, 0, none⟩), .int .i64 a, .int .i64 n, .int .i64 t] w (ToldQ B w xa P (mvP P a n t) 7 (pcs P a n)) := by
  obtain ⟨h1, h2, h3⟩ := rt_in hr
  obtain ⟨h4, _, h6⟩ := rt_in hr2
  have hpi := pieces_ok h hr
  obtain ⟨mt, hmt⟩ : ∃ mt, mt = (pcs P t n).length := ⟨_, rfl⟩
  have hus := pcs_none h.wh.ok t n
  rw [← hmt] at hus
  have HPT : Hid (∀ w1, Below w.heap.size w w1 → Calls Tryz.prog 91 #[.pointer (some ⟨xa, 0, none⟩), .int .i64 t, .int .i64 n] w1 fun e w' => ∃ A c, e = .returned (.tuple #[.slice A mt c, .int .i64 0]) ∧ True ∧ Below w1.heap.size w1 w') := fun w1 hb => (pieces_ok (h.call hb) hr2).mono (by
    rintro e w2 ⟨A2, c2, rfl, _, hb2⟩
    exact ⟨A2, c2, by rw [hmt], trivial, hb2⟩)
  have HCV : Hid (∀ w1, Below w.heap.size w w1 → Calls Tryz.prog 72 #[.pointer (some ⟨xa, 0, none⟩), .int .i64 a, .int .i64 n] w1 fun e w' => e = .returned (.bool (covB P a n)) ∧ Below w1.heap.size w1 w') := fun w1 hb => covers_ok (h.call hb) hr
  have HGB := Lib.hid (pcs_huge h.wh.ok a n)
  have HRL : Hid ((pcs P a n).length ≤ 4096) := Nat.le_trans (pcs_is h.wh.ok.ok a n).len (by omega)
  have HRS : Hid (∀ x ∈ pcs P a n, ArS x) := fun x hx => (pcs_bound h.wh.ok a n hx).1
  have HX := Lib.hid h
  have s1 : IntKind.i64.wrap ((t : Int) + n) = (t : Int) + n := IntWalk.i64_in _ (by omega)
  have s2 : IntKind.i64.wrap ((a : Int) + n) = (a : Int) + n := IntWalk.i64_in _ (by omega)
  have s3 : IntKind.i64.wrap ((t : Int) - a) = (t : Int) - a := IntWalk.i64_in _ (by omega)
  have a4 : (a : Int) ≤ 4096 := by omega
  have t4 : (t : Int) ≤ 4096 := by omega
  have e2 : decide ((t : Int) < a + n) = false := decide_eq_false d2
  rw [hc] at HCV
  rw [hg] at HGB
  rw [hu] at hus
  have m1 : 0 < mt := of_decide_eq_true hus
  have m2 : (0 : Int) < mt := by omega
  obtain ⟨R, hR⟩ : ∃ R, R = pcs P a n := ⟨_, rfl⟩
  rw [← hR] at hpi HGB HRL HRS ⊢
  obtain ⟨m, hm⟩ : ∃ m, m = R.length := ⟨_, rfl⟩
  unfold ToldE at hpi
  rw [← hm] at hpi
  have m4 : m ≤ 4096 := by rw [hm]; exact HRL.out
  have HM := Lib.hid hm
  clear h hr hr2 h1 h2 h3 h4 h6 hm hR hmt hc hg hu hus HRS
  go_enter Tryz.func74, Tryz.ntmps74
  go_wp2_with fail
  refine hpi.mono ?_
  rintro e w1 ⟨A', c', rfl, ho, hb⟩
  rw [HM.out] at ho
  have HB := Lib.hid hb
  have HO := Lib.hid ho
  have hpt := HPT.out w1 hb
  clear hpi ho hb
  go_wp2_with fail
  refine hpt.mono ?_
  rintro e w2 ⟨At, ct_, rfl, -, hb2⟩
  have HB2 := Lib.hid (HB.out.trans (hb2.mono HB.out.size))
  have HO2 := Lib.hid (HO.out.call hb2)
  clear hpt hb2
  have hcv := HCV.out w2 HB2.out
  go_wp2_with fail
  refine hcv.mono ?_
  rintro e w3 ⟨rfl, hb3⟩
  have HB3 := Lib.hid (HB2.out.trans (hb3.mono HB2.out.size))
  have HO3 := Lib.hid (HO2.out.call hb3)
  clear hcv hb3
  have hgr := great_ok (c := c') (LsD.of (D := w3.heap.size) (l := R) HO3.out (Nat.le_refl _)) (Nat.le_refl _) (by have := HRL.out; omega)
  rw [HGB.out, ← HM.out] at hgr
  go_wp2_with fail
  refine hgr.mono ?_
  rintro e w4 ⟨rfl, hb4⟩
  have HB4 := Lib.hid (HB3.out.trans (hb4.mono HB3.out.size))
  have HO4 := Lib.hid (HO3.out.call hb4)
  clear hgr hb4
  go_wp2_with fail
  go_ret2
  exact ToldQ.no (by decide) (HX.out.did HB4.out)

set_option maxRecDepth 100000 in
set_option maxHeartbeats 1000000 in
theorem mv_g_r (h : AtX B w xa A c l P) {a n t : Nat} (hr : rtI a n 0 = 0) (hr2 : rtI t n 0 = 0) (d1 : (a : Int) < t + n) (d2 : ¬ (t : Int) < a + n) (hc : covB P a n = true) (hg : hugeB P a n = false) (hu : usedB P t n = false) : Calls Tryz.prog 74 #[.pointer (some ⟨xa, 0, none⟩), .int .i64 a, .int .i64 n, .int .i64 t] w (ToldQ B w xa P (mvP P a n t) (if fullB (mvP P a n t) = true then 13 else 0) (pcs P a n)) := by
  obtain ⟨h1, h2, h3⟩ := rt_in hr
  obtain ⟨h4, _, h6⟩ := rt_in hr2
  have hpi := pieces_ok h hr
  obtain ⟨mt, hmt⟩ : ∃ mt, mt = (pcs P t n).length := ⟨_, rfl⟩
  have hus := pcs_none h.wh.ok t n
  rw [← hmt] at hus
  have HPT : Hid (∀ w1, Below w.heap.size w w1 → Calls Tryz.prog 91 #[.pointer (some ⟨xa, 0, none⟩), .int .i64 t, .int .i64 n] w1 fun e w' => ∃ A c, e = .returned (.tuple #[.slice A mt c, .int .i64 0]) ∧ True ∧ Below w1.heap.size w1 w') := fun w1 hb => (pieces_ok (h.call hb) hr2).mono (by
    rintro e w2 ⟨A2, c2, rfl, _, hb2⟩
    exact ⟨A2, c2, by rw [hmt], trivial, hb2⟩)
  have HCV : Hid (∀ w1, Below w.heap.size w w1 → Calls Tryz.prog 72 #[.pointer (some ⟨xa, 0, none⟩), .int .i64 a, .int .i64 n] w1 fun e w' => e = .returned (.bool (covB P a n)) ∧ Below w1.heap.size w1 w') := fun w1 hb => covers_ok (h.call hb) hr
  have HGB := Lib.hid (pcs_huge h.wh.ok a n)
  have HRL : Hid ((pcs P a n).length ≤ 4096) := Nat.le_trans (pcs_is h.wh.ok.ok a n).len (by omega)
  have HRS : Hid (∀ x ∈ pcs P a n, ArS x) := fun x hx => (pcs_bound h.wh.ok a n hx).1
  have HX := Lib.hid h
  have s1 : IntKind.i64.wrap ((t : Int) + n) = (t : Int) + n := IntWalk.i64_in _ (by omega)
  have s2 : IntKind.i64.wrap ((a : Int) + n) = (a : Int) + n := IntWalk.i64_in _ (by omega)
  have s3 : IntKind.i64.wrap ((t : Int) - a) = (t : Int) - a := IntWalk.i64_in _ (by omega)
  have a4 : (a : Int) ≤ 4096 := by omega
  have t4 : (t : Int) ≤ 4096 := by omega
  have e2 : decide ((t : Int) < a + n) = false := decide_eq_false d2
  rw [hc] at HCV
  rw [hg] at HGB
  rw [hu] at hus
  have m1 : mt = 0 := by have := of_decide_eq_false hus; omega
  subst m1
  obtain ⟨er2, her2⟩ : ∃ er : Int, er = if fullB (mvP P a n t) = true then 13 else 0 := ⟨_, rfl⟩
  rw [← her2]
  have HE := Lib.hid her2
  obtain ⟨S, hS⟩ : ∃ S, S = allA (mvP P a n t) := ⟨_, rfl⟩
  have HQ : Hid (Whole (mvP P a n t) S) := by
    show Whole _ _
    rw [hS]
    exact whole_all (h.wh.ok.mv (by omega) h6)
  obtain ⟨k, hk⟩ : ∃ k, k = l.length := ⟨_, rfl⟩
  have HK := Lib.hid hk
  obtain ⟨S1, hS1⟩ : ∃ S1, S1 = laiL l a n [] := ⟨_, rfl⟩
  have hw1 : Whole (unP P a n) S1 := by rw [hS1, h.wh.un h1 h2]; exact whole_all (h.wh.ok.un a n)
  have hl1 : S1.length ≤ 4096 := by rw [hw1.all]; exact (pcs_is hw1.ok.ok 0 4096).len
  have HLA : Hid (∀ w1, Below w.heap.size w w1 → Calls Tryz.prog 90 #[.slice A k c, .int .i64 a, .int .i64 n, .slice none 0 0] w1 (ToldL S1 w1)) := fun w1 hb => by
    have := laid_pr (h.call hb).own (fun x hx => h.wh.bound hx) h.len (Ao := none) (co := 0) (o := []) (fun h => by cases h) (fun x hx => by cases hx) (by simp) (a := a) (n := n) (by omega)
    rw [← hS1, ← hk] at this
    exact this
  obtain ⟨k1, hk1⟩ : ∃ k1, k1 = S1.length := ⟨_, rfl⟩
  have HLB : Hid (∀ w1 D A1 c1, EAr.Own D w1 (.slice A1 S1.length c1) S1 → ∀ Ao co, LsD w1.heap.size w1 Ao ((pcs P a n).map (fun x : Ar => { x with f := x.f + ((t : Int) - a), t := x.t + ((t : Int) - a) })) → Calls Tryz.prog 90 #[.slice A1 S1.length c1, .int .i64 t, .int .i64 n, .slice Ao (pcs P a n).length co] w1 (ToldL S w1)) := fun w1 D A1 c1 ho1 Ao co hls => by
    have := laid_pr ho1 (fun x hx => hw1.bound hx) hl1 (Ao := Ao) (co := co) (o := (pcs P a n).map (fun x : Ar => { x with f := x.f + ((t : Int) - a), t := x.t + ((t : Int) - a) })) hls (fun x hx => by
      obtain ⟨y, hy, e⟩ := List.mem_map.1 hx
      obtain ⟨hb, hb2, hb3⟩ := pcs_bound h.wh.ok a n hy
      rw [← e]
      have q1 := hb.ft
      exact ⟨by show 0 ≤ y.f + ((t : Int) - a); omega, by show y.f + ((t : Int) - a) < y.t + ((t : Int) - a); omega, by show y.t + ((t : Int) - a) ≤ 4096; omega, hb.x0, hb.x4⟩) (by rw [List.length_map]; exact HRL.out) (a := t) (n := n) (by omega)
    rw [List.length_map, hS1] at this
    rw [h.wh.mv h1 (by omega) h4 h6, ← hS, ← hS1] at this
    exact this
  clear her2 hS hk hS1 hw1 hl1 hk1
  obtain ⟨R, hR⟩ : ∃ R, R = pcs P a n := ⟨_, rfl⟩
  rw [← hR] at hpi HGB HRL HRS HLB ⊢
  obtain ⟨m, hm⟩ : ∃ m, m = R.length := ⟨_, rfl⟩
  unfold ToldE at hpi
  rw [← hm] at hpi
  have m4 : m ≤ 4096 := by rw [hm]; exact HRL.out
  have HM := Lib.hid hm
  clear h hr hr2 h1 h2 h3 h4 h6 hm hR hmt hc hg hu hus
  go_enter Tryz.func74, Tryz.ntmps74
  go_wp2_with fail
  refine hpi.mono ?_
  rintro e w1 ⟨A', c', rfl, ho, hb⟩
  rw [HM.out] at ho
  have HB := Lib.hid hb
  have HO := Lib.hid ho
  have hpt := HPT.out w1 hb
  clear hpi ho hb
  rw [← HM.out] at HLB
  go_wp2_with fail
  refine hpt.mono ?_
  rintro e w2 ⟨At, ct_, rfl, -, hb2⟩
  have HB2 := Lib.hid (HB.out.trans (hb2.mono HB.out.size))
  have HO2 := Lib.hid (HO.out.call hb2)
  clear hpt hb2
  have hcv := HCV.out w2 HB2.out
  go_wp2_with fail
  refine hcv.mono ?_
  rintro e w3 ⟨rfl, hb3⟩
  have HB3 := Lib.hid (HB2.out.trans (hb3.mono HB2.out.size))
  have HO3 := Lib.hid (HO2.out.call hb3)
  clear hcv hb3
  have hgr := great_ok (c := c') (LsD.of (D := w3.heap.size) (l := R) HO3.out (Nat.le_refl _)) (Nat.le_refl _) (by have := HRL.out; omega)
  rw [HGB.out, ← HM.out] at hgr
  go_wp2_with fail
  refine hgr.mono ?_
  rintro e w4 ⟨rfl, hb4⟩
  have HB4 := Lib.hid (HB3.out.trans (hb4.mono HB3.out.size))
  have HO4 := Lib.hid (HO3.out.call hb4)
  clear hgr hb4
  have hcl := clone_is HO4.out (by have := HRL.out; omega)
  unfold ToldL at hcl
  rw [← HM.out] at hcl
  go_wp2_with fail
  refine hcl.mono ?_
  rintro e w5 ⟨A5, c5, rfl, ho5, hb5⟩
  have HB5 := Lib.hid (HB4.out.trans (hb5.mono HB4.out.size))
  have HC5 := Lib.hid ho5
  have HBL := Lib.hid hb5
  have HO5 := Lib.hid (HO4.out.call hb5)
  clear hcl ho5 hb5
  go_wp2_with fail
  go_loopw [67] (fun i wr => ∃ j : Nat, j ≤ m ∧ i = .int .i64 j ∧ EAr.Own w4.heap.size wr (.slice A5 m c5) ((R.take j).map (fun x : Ar => { x with f := x.f + ((t : Int) - a), t := x.t + ((t : Int) - a) }) ++ R.drop j) ∧ Below w4.heap.size w4 wr) (fun i _ => m - (RowKit.intOf i).toNat)
  case atStart => exact ⟨0, Nat.zero_le _, rfl, HC5.out, HBL.out⟩
  case round =>
    obtain ⟨j, hj, rfl, hown, hwr⟩ := hrel
    by_cases hlt : j < m
    · have hjl : j < R.length := by rw [← HM.out]; exact hlt
      have hlen : ((R.take j).map (fun x : Ar => { x with f := x.f + ((t : Int) - a), t := x.t + ((t : Int) - a) }) ++ R.drop j).length = R.length := by rw [List.length_append, List.length_map, List.length_take, List.length_drop]; omega
      obtain ⟨g, eA, hg, -, -, hat⟩ := hown.some_ (by omega)
      subst eA
      have hjx : ((R.take j).map (fun x : Ar => { x with f := x.f + ((t : Int) - a), t := x.t + ((t : Int) - a) }) ++ R.drop j)[j]'(by omega) = R[j] := by
        rw [List.getElem_append_right (by rw [List.length_map, List.length_take]; omega)]
        simp [List.length_take, Nat.min_eq_left (Nat.le_of_lt hjl)]
      have hbd := HRS.out _ (List.getElem_mem hjl)
      obtain ⟨hfz, hput⟩ := hown.put (j := j) (by omega) (q := 0) (by decide) (u := .int .i64 (R[j].f + ((t : Int) - a))) (x := { R[j] with f := R[j].f + ((t : Int) - a) }) (by rw [hjx]; rfl) rfl
      change EAr.Own _ (wr.setCell ⟨g, j * 6, none⟩ _) _ _ at hput
      have hcel := hat j (by omega) 0 (by decide)
      change wr.cell? ⟨g, j * 6, none⟩ = some (.int .i64 _) at hcel
      rw [show (((R.take j).map (fun x : Ar => { x with f := x.f + ((t : Int) - a), t := x.t + ((t : Int) - a) }) ++ R.drop j)[j]'(by omega)).f = R[j].f by rw [hjx]] at hcel
      have hf3 := hfz (j * 6)
      obtain ⟨g2, eA2, -, -, -, hat2⟩ := hput.some_ (by rw [List.length_set]; omega)
      injection eA2 with eA2
      injection eA2 with eA2
      subst eA2
      have hcel2 := hat2 j (by rw [List.length_set]; omega) 1 (by decide)
      rw [List.getElem_set_self] at hcel2
      change (wr.setCell ⟨g, j * 6, none⟩ _).cell? ⟨g, j * 6 + 1, none⟩ = some (.int .i64 R[j].t) at hcel2
      obtain ⟨hfz2, hput2⟩ := hput.put (j := j) (by rw [List.length_set]; omega) (q := 1) (by decide) (u := .int .i64 (R[j].t + ((t : Int) - a))) (x := { R[j] with f := R[j].f + ((t : Int) - a), t := R[j].t + ((t : Int) - a) }) (by rw [List.getElem_set_self]; rfl) rfl
      change EAr.Own _ ((wr.setCell ⟨g, j * 6, none⟩ _).setCell ⟨g, j * 6 + 1, none⟩ _) _ _ at hput2
      have hf4 := hfz2 (j * 6 + 1)
      rw [List.set_set, set_mid (fun x : Ar => { x with f := x.f + ((t : Int) - a), t := x.t + ((t : Int) - a) }) hjl] at hput2
      have HP := Lib.hid hput2
      obtain ⟨b1, b2, b3, _, _⟩ := hbd
      obtain ⟨xf, hxf⟩ : ∃ z, z = R[j].f := ⟨_, rfl⟩
      obtain ⟨xt, hxt⟩ : ∃ z, z = R[j].t := ⟨_, rfl⟩
      rw [← hxf] at hcel hcel2 hf4 HP b1 b2
      rw [← hxt] at hcel2 HP b2 b3
      have HW : Hid (Below w4.heap.size w4 ((wr.setCell ⟨g, j * 6, none⟩ (.int .i64 (xf + ((t : Int) - a)))).setCell ⟨g, j * 6 + 1, none⟩ (.int .i64 (xt + ((t : Int) - a))))) := (hwr.setCell hg _).setCell hg _
      have j0 : (0 : Int) ≤ j := by omega
      have j1 : (j : Int) < m := by omega
      have s1 : IntKind.i64.wrap (xf + ((t : Int) - a)) = xf + ((t : Int) - a) := IntWalk.i64_in _ (by omega)
      have s2 : IntKind.i64.wrap (xt + ((t : Int) - a)) = xt + ((t : Int) - a) := IntWalk.i64_in _ (by omega)
      clear hown hat hat2 hg hjx hput hput2 hfz hfz2 hwr hlen hxf hxt b1 b2 b3
      go_wp2_with fail
      go_roundw
      case rel => exact ⟨j + 1, by omega, by go_num, HP.out, HW.out⟩
      case measure => simp [RowKit.intOf]; omega
    · obtain rfl : j = m := by omega
      rw [List.take_of_length_le (by rw [← HM.out]; exact Nat.le_refl _), List.drop_of_length_le (by rw [← HM.out]; exact Nat.le_refl _), List.append_nil] at hown
      have HB6 := Lib.hid (HB4.out.trans (hwr.mono HB4.out.size))
      have HO6 := Lib.hid (HO4.out.call hwr)
      have HLS := Lib.hid (LsD.of (D := wr.heap.size) (l := R.map (fun x : Ar => { x with f := x.f + ((t : Int) - a), t := x.t + ((t : Int) - a) })) hown (Nat.le_refl _))
      have hla := HLA.out wr HB6.out
      have cr : wr.cell? ⟨xa, 0, none⟩ = some (.slice A k c) := by rw [HK.out]; exact (HX.out.call HB6.out).c0
      clear hown hwr
      go_wp2_with fail
      refine hla.mono ?_
      rintro e w6 ⟨A6, c6, rfl, ho6, hb6⟩
      have HB7 := Lib.hid (HB6.out.trans (hb6.mono HB6.out.size))
      have HO7 := Lib.hid (HO6.out.call hb6)
      have hla2 := HLB.out w6 wr.heap.size A6 c6 ho6 A5 c5 (fun h0 => by
        obtain ⟨g, e1, e2, e3⟩ := (HLS.out.below hb6) h0
        exact ⟨g, e1, Nat.lt_of_lt_of_le e2 hb6.size, e3⟩)
      have HSZ := Lib.hid hb6.size
      clear hla ho6 hb6 cr HLS
      go_wp2_with fail
      refine hla2.mono ?_
      rintro e w7 ⟨A7, c7, rfl, ho7, hb7⟩
      have HB8 := Lib.hid (HB7.out.trans (hb7.mono HB7.out.size))
      have HO8 := Lib.hid (HO7.out.call hb7)
      have hx7 := HX.out.call HB8.out
      have hbe := become_pr hx7 ho7 (Nat.le_trans HX.out.lw HB7.out.size) HQ.out
      rw [← HE.out] at hbe
      generalize S.length = r at hbe
      have HT7 := Lib.hid hx7.top
      clear hla2 ho7 hb7 hx7
      go_wp2_with fail
      refine hbe.mono ?_
      rintro e w8 ⟨rfl, hd⟩
      have HO9 := Lib.hid (ls_foot HO8.out hd.2 HT7.out)
      have HD := Lib.hid (hd.pre HB8.out)
      clear hbe hd
      by_cases e0 : fullB (mvP P a n t) = true
      · obtain rfl : er2 = 13 := by rw [HE.out, if_pos e0]
        have hd := HD.out
        rw [if_pos e0] at hd
        have HDD := Lib.hid hd
        clear hd e0
        go_wp2_with fail
        go_ret2
        exact ToldQ.no (by decide) HDD.out
      · obtain rfl : er2 = 0 := by rw [HE.out, if_neg e0]
        have hd := HD.out
        rw [if_neg e0] at hd
        have HDD := Lib.hid hd
        clear hd e0
        go_wp2_with fail
        go_ret2
        have ho := HO9.out
        rw [HM.out]
        exact ToldQ.yes ho HDD.out

set_option maxRecDepth 100000 in
theorem move_pr (h : AtX B w xa A c l P) {a n t : Int} (ha : Fits a) (hn : Fits n) (ht : Fits t) : Calls Tryz.prog 74 #[.pointer (some ⟨xa, 0, none⟩), .int .i64 a, .int .i64 n, .int .i64 t] w (ToldQ B w xa P (mvP P a n t) (mvE P a n t) (pcs P a n.toNat)) := by
  obtain ⟨er, her⟩ : ∃ er, er = rtI a n 0 := ⟨_, rfl⟩
  obtain ⟨es, hes⟩ : ∃ es, es = rtI t n 0 := ⟨_, rfl⟩
  by_cases h0 : er = 0
  · have hr : rtI a n 0 = 0 := her.symm.trans h0
    by_cases h02 : es = 0
    · have hr2 : rtI t n 0 = 0 := hes.symm.trans h02
      obtain ⟨h1, h2, h3⟩ := rt_in hr
      obtain ⟨h4, _, h6⟩ := rt_in hr2
      obtain ⟨a, rfl⟩ : ∃ k : Nat, a = k := ⟨a.toNat, by omega⟩
      obtain ⟨n, rfl⟩ : ∃ k : Nat, n = k := ⟨n.toNat, by omega⟩
      obtain ⟨t, rfl⟩ : ∃ k : Nat, t = k := ⟨t.toNat, by omega⟩
      have hE0 : mvE P a n t = if (t : Int) < a + n ∧ (a : Int) < t + n then 2 else if covB P a n = false then 6 else if hugeB P a n = true then 2 else if usedB P t n = true then 7 else if fullB (mvP P a n t) = true then 13 else 0 := by
        unfold mvE; rw [if_neg (by rw [hr]; decide), if_neg (by rw [hr2]; decide)]; rfl
      rw [show ((n : Int)).toNat = n from Int.toNat_natCast n, hE0]
      by_cases ho : (t : Int) < a + n ∧ (a : Int) < t + n
      · rw [if_pos ho]; exact mv_ov h hr hr2 ho.2 ho.1
      · rw [if_neg ho]
        by_cases d1 : (a : Int) < t + n
        · have d2 : ¬ (t : Int) < a + n := fun e => ho ⟨e, d1⟩
          by_cases hc : covB P a n = true
          · rw [if_neg (by rw [hc]; decide)]
            by_cases hg : hugeB P a n = true
            · rw [if_pos hg]; exact mv_hu_r h hr hr2 d1 d2 hc hg
            · rw [if_neg hg]
              by_cases hu : usedB P t n = true
              · rw [if_pos hu]; exact mv_us_r h hr hr2 d1 d2 hc (by simpa using hg) hu
              · rw [if_neg hu]; exact mv_g_r h hr hr2 d1 d2 hc (by simpa using hg) (by simpa using hu)
          · rw [if_pos (by simpa using hc)]; exact mv_nc_r h hr hr2 d1 d2 (by simpa using hc)
        · by_cases hc : covB P a n = true
          · rw [if_neg (by rw [hc]; decide)]
            by_cases hg : hugeB P a n = true
            · rw [if_pos hg]; exact mv_hu_l h hr hr2 d1 hc hg
            · rw [if_neg hg]
              by_cases hu : usedB P t n = true
              · rw [if_pos hu]; exact mv_us_l h hr hr2 d1 hc (by simpa using hg) hu
              · rw [if_neg hu]; exact mv_g_l h hr hr2 d1 hc (by simpa using hg) (by simpa using hu)
          · rw [if_pos (by simpa using hc)]; exact mv_nc_l h hr hr2 d1 (by simpa using hc)
    · have hE : mvE P a n t = es := by unfold mvE; rw [if_neg (by rw [hr]; decide), ← hes, if_pos h02]
      rw [hE]
      obtain ⟨h1, h2, h3⟩ := rt_in hr
      obtain ⟨a, rfl⟩ : ∃ k : Nat, a = k := ⟨a.toNat, by omega⟩
      obtain ⟨n, rfl⟩ : ∃ k : Nat, n = k := ⟨n.toNat, by omega⟩
      have hpi := pieces_ok h hr
      have HPT : Hid (∀ w1, Calls Tryz.prog 91 #[.pointer (some ⟨xa, 0, none⟩), .int .i64 t, .int .i64 n] w1 (ToldE es [] w1)) := fun w1 => by
        have := pieces_no xa w1 ht hn (by rw [← hes]; exact h02)
        rw [← hes] at this; exact this
      have h0' : (es != 0) = true := by simpa using h02
      have HX := Lib.hid h
      unfold ToldE at hpi
      generalize (pcs P a n).length = m at hpi
      clear h ha hn ht her hE hes h0 hr h1 h2 h3
      go_enter Tryz.func74, Tryz.ntmps74
      go_wp2_with fail
      refine hpi.mono ?_
      rintro e w1 ⟨A', c', rfl, -, hb⟩
      have HB := Lib.hid hb
      have hpt := HPT.out w1
      clear hpi hb
      go_wp2_with fail
      refine hpt.mono ?_
      rintro e w2 ⟨A2, c2, rfl, ho2, hb2⟩
      have HB2 := Lib.hid (HB.out.trans (hb2.mono HB.out.size))
      clear hpt ho2 hb2
      go_wp2_with fail
      go_ret2
      exact ToldQ.no h02 (HX.out.did HB2.out)
  · have hE : mvE P a n t = er := by unfold mvE; rw [← her, if_pos h0]
    rw [hE]
    have hpi := pieces_no xa w ha hn (by rw [← her]; exact h0)
    rw [← her] at hpi
    have h0' : (er != 0) = true := by simpa using h0
    have HX := Lib.hid h
    clear h ha hn ht her hE hes
    go_enter Tryz.func74, Tryz.ntmps74
    go_wp2_with fail
    refine hpi.mono ?_
    rintro e w1 ⟨A', c', rfl, ho, hb⟩
    have HB := Lib.hid hb
    clear hpi ho hb
    go_wp2_with fail
    go_ret2
    exact ToldQ.no h0 (HX.out.did HB.out)
end
end Go.Proofs.YtnppnoabhpkmkaaGreat
