/- The program's reservations: Break. -/
import Derived.Test.YtfalmjibpkkjaaaB5
import Derived.Deep.RegionHeld3
namespace Go.Proofs.Ytfalmjibpkkjaaa
open Go.RowKit
section
variable {w w' : World} {B : Nat} {T : ObT} {S S' : Rs} {n : Nat} {s p f : Int}
theorem find_filter {α : Type} (r q : α → Bool) (L : List α) : (L.filter r).find? q = L.find? fun a => r a && q a := by
  induction L with
  | nil => rfl
  | cons a t ih =>
    by_cases c : r a = true
    · rw [List.filter_cons_of_pos c, List.find?_cons, List.find?_cons, ih, c, Bool.true_and]
    · have c' : r a = false := by simpa using c
      rw [List.filter_cons_of_neg c, List.find?_cons, ih, c', Bool.false_and]
/-- One is broken: what is struck, and what it comes to. -/
theorem ObAt.dropped (h : ObAt B w T S) (hb : Bnd n S) (hs : Fits s) (hp : Fits p) {x : Rv} (e : atP S.L s p = some x) :
    ∃ w2 w3, (∀ ty, (Builtin.delete_ #[71, 66] ty #[.map (some T.bk), .agg #[.int .i64 x.s, .int .i64 x.p]]).run Try.prog w = .ok (.tuple #[]) w2) ∧ (∀ ty, (Builtin.delete_ #[72, 3] ty #[.map (some T.bo), .int .i64 x.f]).run Try.prog w2.drew = .ok (.tuple #[]) w3) ∧
      Lrow w2 T.s 74 [.map (some T.bk), .map (some T.bo), .int .u64 S.T] ∧ Lrow w2 (T.a x.s x.p) 69 (keptC x) ∧ Lrow w3 (T.a x.s x.p) 69 (keptC x) ∧ DidM B w T S (brS S s p) w3 := by
  obtain ⟨hx, x1, x2⟩ := atP_mem e
  have ok := hb.ok x hx
  obtain ⟨w2, r2, g2, s2, m2⟩ := h.kept.drop (f := (x.s, x.p)) ⟨by rw [x1]; exact hs, by rw [x2]; exact pd_fits hp⟩
  have k2 : ∀ k, k < w.heap.size → k ≠ T.bk → w2.heap[k]? = w.heap[k]? := fun k hk hne => g2.block k hk (by intro e; injection e with e; exact hne e)
  have own2 : TO.At w2.drew T.bo S.T.toNat (sayF S.L T.a) := (h.own.heap (k2 _ h.own.lt h.apb.symm)).heap (w' := w2.drew) rfl
  obtain ⟨w3, r3, g3, s3, m3⟩ := own2.drop (f := x.f) (by have := ok.f0; have := ok.f1; unfold FitM; omega)
  have k3 : ∀ k, k < w2.heap.size → k ≠ T.bo → w3.heap[k]? = w2.heap[k]? := fun k hk hne => g3.block k hk (by intro e; injection e with e; exact hne e)
  rw [s2] at k3
  have nr2 : ∀ {g t vs}, Lrow w g t vs → Lrow w2 g t vs := fun {g t vs} r => (k2 _ r.lt (h.kept.apart r)).trans r
  have nr : ∀ {g t vs}, Lrow w g t vs → Lrow w3 g t vs := fun {g t vs} r => (k3 _ r.lt (h.own.apart r)).trans (nr2 r)
  have mem : ∀ y, y ∈ (brS S s p).L → y ∈ S.L := fun y hy => (List.mem_filter.1 hy).1
  have hit : ∀ y, y ∈ S.L → hitP s p y = true → y = x := fun y hy c => by
    unfold hitP at c
    simp only [decide_eq_true_eq] at c
    exact hb.key hy hx (c.1.trans x1.symm) (c.2.trans x2.symm)
  have hitx : hitP s p x = true := by unfold hitP; exact decide_eq_true ⟨x1, x2⟩
  refine ⟨w2, w3, r2, r3, nr2 h.top, nr2 (h.row x hx), nr (h.row x hx), T, rfl, ⟨nr h.top, ?_, ?_, fun y hy => nr (h.row y (mem y hy)), fun y hy z hz he => h.inj y (mem y hy) z (mem z hz) he, h.apb, h.lo, fun y hy => h.loq y (mem y hy)⟩, ?_, ?_⟩
  · refine (m2.heap (k3 _ h.kept.lt h.apb)).eq fun k _ => ?_
    show sayK (S.L.filter fun y => !hitP s p y) T.a k = _
    unfold sayK
    rw [find_filter]
    by_cases d : k = (x.s, x.p)
    · subst d
      rw [updK_same]
      have : (S.L.find? fun a => !hitP s p a && decide (a.s = x.s ∧ a.p = x.p)) = none := by
        rw [List.find?_eq_none]
        intro y hy
        by_cases c : y = x
        · rw [c, hitx]; simp
        · have : ¬ (y.s = x.s ∧ y.p = x.p) := fun k => c (hb.key hy hx k.1 k.2)
          rw [decide_eq_false this, Bool.and_false]; decide
      rw [this]; rfl
    · rw [updK_other _ _ d]
      congr 1
      refine find_congr fun y hy => ?_
      by_cases c : hitP s p y = true
      · have := hit y hy c
        subst this
        have hne : ¬ (y.s = k.1 ∧ y.p = k.2) := fun e => d (Prod.ext e.1.symm e.2.symm)
        rw [decide_eq_false hne, Bool.and_false]
      · rw [show hitP s p y = false by simpa using c]; rfl
  · refine m3.eq fun k _ => ?_
    show sayF (S.L.filter fun y => !hitP s p y) T.a k = _
    unfold sayF
    rw [find_filter]
    by_cases d : k = x.f
    · subst d
      rw [updM_same]
      have : (S.L.find? fun a => !hitP s p a && decide (a.f = x.f)) = none := by
        rw [List.find?_eq_none]
        intro y hy
        by_cases c : y.f = x.f
        · rw [hb.own hy hx c, hitx]; simp
        · rw [decide_eq_false c, Bool.and_false]; decide
      rw [this]; rfl
    · rw [updM_other _ _ d]
      congr 1
      refine find_congr fun y hy => ?_
      by_cases c : hitP s p y = true
      · have := hit y hy c
        subst this
        rw [decide_eq_false (fun e => d e.symm), Bool.and_false]
      · rw [show hitP s p y = false by simpa using c]; rfl
  · have f2 : Foot (MineO T S.L) w w2.drew := (Foot.grown (X := MineO T S.L) g2 (Or.inr (Or.inl rfl))).drewN 1
    exact f2.trans (Foot.grown (X := MineO T S.L) g3 (Or.inr (Or.inr (Or.inl rfl)))) fun _ e _ => e
  · rintro k (rfl | rfl | rfl | ⟨y, hy, rfl⟩)
    · exact Or.inl (Or.inl rfl)
    · exact Or.inl (Or.inr (Or.inl rfl))
    · exact Or.inl (Or.inr (Or.inr (Or.inl rfl)))
    · exact Or.inl (Or.inr (Or.inr (Or.inr ⟨y, mem y hy, rfl⟩)))
set_option maxRecDepth 100000 in
set_option maxHeartbeats 2000000 in
theorem break_r (h : ObAt B w T S) (hb : Bnd n S) (hs : Fits s) (hp : Fits p) : Calls Try.prog 16 #[.pointer (some ⟨T.s, 0, none⟩), .int .i64 s, .int .i64 p] w fun e w' => ∃ A c, e = .returned (.tuple #[.slice A (brV S s p).length c, .int .i64 (brE S s p)]) ∧ EI.Own w.heap.size w' (.slice A (brV S s p).length c) (brV S s p) ∧ DidM B w T S (brS S s p) w' := by
  cases e : atP S.L s p with
  | none =>
    have HE : Hid (brV S s p = [] ∧ brE S s p = 6 ∧ brS S s p = S) := ⟨by unfold brV; rw [e], by unfold brE; rw [e], brS_no e⟩
    have hf := find_no h hs hp e
    have HD : Hid (∀ k, DidM B w T S S (w.drewN k)) := fun k => h.did (below_dN (Below.refl _ _) k)
    clear h hb hs hp e
    go_enter Try.func16, Try.ntmps16
    go_wp2_with (go_at_call 32; (with_reducible refine hf.mono ?_); rintro e w1 ⟨rfl, k, rfl⟩)
    go_ret2
    exact ⟨none, 0, by rw [HE.out.1, HE.out.2.1]; rfl, by rw [HE.out.1]; exact Enc.Own.nil _ _, by rw [HE.out.2.2]; exact HD.out _⟩
  | some x =>
    obtain ⟨hx, x1, x2⟩ := atP_mem e
    have ok := hb.ok x hx
    have hf := find_yes h hs hp e
    have HE : Hid (brV S s p = opN x.n x.f ∧ brE S s p = 0) := ⟨by unfold brV; rw [e]; rfl, by unfold brE; rw [e]⟩
    have hk : ∀ k, Calls Try.prog 35 #[.pointer (some ⟨T.a x.s x.p, 0, none⟩)] (w.drewN k).drew fun e w' => e = .returned (.agg #[.int .i64 x.s, .int .i64 x.p]) ∧ Below w.heap.size w w' := fun k => (key_r (((h.row x hx).drewN k).drewN 1)).mono fun _ _ q => ⟨q.1, (below_dN (below_dN (Below.refl w.heap.size w) k) 1).trans q.2⟩
    have HT : Hid (∀ w1, Below w.heap.size w w1 → w1.cell? ⟨T.s, 0, none⟩ = some (.map (some T.bk)) ∧ ∃ w2 w3, (∀ ty, (Builtin.delete_ #[71, 66] ty #[.map (some T.bk), .agg #[.int .i64 x.s, .int .i64 x.p]]).run Try.prog w1 = .ok (.tuple #[]) w2) ∧ (∀ ty, (Builtin.delete_ #[72, 3] ty #[.map (some T.bo), .int .i64 x.f]).run Try.prog w2.drew = .ok (.tuple #[]) w3) ∧
        w2.cell? ⟨T.s, 0, none⟩ = some (.map (some T.bk)) ∧ w2.cell? ⟨T.s, 1, none⟩ = some (.map (some T.bo)) ∧ w2.cell? ⟨T.a x.s x.p, 2, none⟩ = some (.int .i64 x.f) ∧
        Calls Try.prog 36 #[.pointer (some ⟨T.a x.s x.p, 0, none⟩)] w3 (fun e w' => ∃ A c, e = .returned (.slice A (opN x.n x.f).length c) ∧ EI.Own w.heap.size w' (.slice A (opN x.n x.f).length c) (opN x.n x.f) ∧ DidM B w T S (brS S s p) w')) := fun w1 hb1 => by
      have h1 := h.call hb1
      obtain ⟨w2, w3, r2, r3, y1, y2, y3, hd⟩ := h1.dropped hb hs hp e
      refine ⟨h1.top.cell 0, w2, w3, r2, r3, y1.cell 0, y1.cell 1, y2.cell 2, (held_r y3 ok.nl ok.f0 ok.f1).mono fun e w' q => ?_⟩
      obtain ⟨A, c, q1, q2, q3⟩ := q
      have hd' := hd.pre hb1
      have hsz : w.heap.size ≤ w3.heap.size := by obtain ⟨_, _, _, f, _⟩ := hd'; exact f.size
      exact ⟨A, c, q1, q2.base hsz, hd'.post q3⟩
    have c0 : ∀ k, (w.drewN k).drew.cell? ⟨T.s, 0, none⟩ = some (.map (some T.bk)) := fun k => h.c0
    obtain ⟨R, hR⟩ : ∃ R, R = opN x.n x.f := ⟨_, rfl⟩
    rw [← hR] at HE HT
    generalize x.s = xs at *
    generalize x.p = xp at *
    generalize x.f = xf at *
    generalize T.a xs xp = q at *
    generalize hts : T.s = ts at *
    generalize T.bk = bk at *
    generalize T.bo = bo at *
    have HTS := Lib.hid hts
    clear h hb hs hp e ok hR hx x1 x2 hts
    go_enter Try.func16, Try.ntmps16
    go_upto_region 4 with (go_at_call 32; (with_reducible refine hf.mono ?_); rintro e w1 ⟨rfl, k, rfl⟩)
    have hk0 := hk k
    have hc0 := c0 k
    have hcz : (w.drewN k).cell? ⟨ts, 0, none⟩ = some (.map (some bk)) := hc0
    generalize w.drewN k = wd at *
    clear hf hk c0
    go_wp2_with fail
    go_region_held3 (fun V => V.cell? ⟨ts, 0, none⟩ = some (.map (some bk)))
      (first | exact hc0 | exact hcz | exact s1 | exact s2)
      (first | (go_at_call 35; (with_reducible refine hk0.mono ?_); rintro e w1 ⟨rfl, hb1⟩; obtain ⟨s1, w2, w3, r2, r3, s2, y1, y2, hh⟩ := HT.out w1 hb1) | fail)
    all_goals
      have d1 : w2.drew.cell? ⟨ts, 1, none⟩ = some (.map (some bo)) := y1
      clear hc0 hcz s1 r2 s2
      go_wp2_with fail
      go_still_tail 9, (by kernel_rfl)
      change wpList _ _ _ _ _ w2.drew
      go_wp2_with (go_at_call 36; (with_reducible refine hh.mono ?_); rintro e w4 ⟨A, c, rfl, ho, hd⟩)
      go_ret2
      have hts := HTS.out
      exact ⟨A, c, by rw [HE.out.1, HE.out.2]; rfl, by rw [HE.out.1]; exact ho, hd⟩
end
end Go.Proofs.Ytfalmjibpkkjaaa
