/- The reference of spaces: what changes areas. -/
import Derived.Test.YtnppnoabhpkmkaaGreatMg32
namespace Go.Proofs.YtnppnoabhpkmkaaGreat
open Go.RowKit
section
variable {w w' : World} {B : Nat} {T : RfT} {F : Fl} {s s' : SpB} {S S' : Sp}
/-- A space's areas have turned. -/
theorem SpAt.areas (h : SpAt B w s S) {Q : Int → Pg} (hd : DidP B w s.ab Q w') : ∃ v', SpAt B w' { s with v := v' } { S with P := Q } ∧ Foot (fun k => k = s.ab) w w' := by
  obtain ⟨v', hP, hf⟩ := hd
  obtain ⟨⟨wvs, wr⟩, _⟩ := h.wds.block
  exact ⟨v', ⟨hf.row h.top (h.top.apart h.ars.top (by decide)), hP, h.wds.heap (hf.keep _ wr.lt (wr.apart h.ars.top (by decide))), h.lo⟩, hf⟩
/-- What a change comes to. -/
def ChgF (B : Nat) (w : World) (T : RfT) (F : Fl) (j : Nat) (r : Rq) (e : Ending) (w' : World) : Prop :=
  e = .returned (.int .i64 (chgE (sp F j) r)) ∧ DidF B w T (if chgE (sp F j) r = 0 then put F j (chgS (sp F j) r) else F) w'
def OpAt1 (w : World) (r : Rq) (W : World) (b0 : Nat) : Prop := W = w.alloc (.cells (opL r).toArray 25) ∧ b0 = w.heap.size
theorem opAt1 (w : World) (r : Rq) : ∃ W b0, OpAt1 w r W b0 := ⟨_, _, rfl, rfl⟩
theorem OpAt1.facts {r : Rq} {W : World} {b0 : Nat} (h : OpAt1 w r W b0) : Below w.heap.size w W ∧ Lrow W b0 25 (opL r) ∧ w.heap.size ≤ b0 := by
  obtain ⟨rfl, rfl⟩ := h
  exact ⟨below_new w _, Lrow.new w _ (opL r), Nat.le_refl _⟩
set_option maxRecDepth 100000 in
set_option maxHeartbeats 4000000 in
theorem rchg_ex (h : RfAt B w T F) {j : Nat} (hj : j < F.L.length) (hs : T.LS[j]? = some s) (r : Rq) (k3 : r.k ≠ 3) (k4 : r.k ≠ 4) (k5 : r.k ≠ 5) (k6 : r.k ≠ 6) : Calls Tryz.prog 37 #[.pointer (some ⟨T.xa, 0, none⟩), .pointer (some ⟨s.sb, 0, none⟩), .agg (opL r).toArray] w (ChgF B w T F j r) := by
  have e0 : chgE (sp F (j : Int)) r = 0 := by unfold chgE; rw [if_neg k3, if_neg k4, if_neg k5, if_neg k6]
  have e1 : chgS (sp F (j : Int)) r = { sp F (j : Int) with g := true } := by unfold chgS; rw [if_neg k3, if_neg k4, if_neg k5, if_neg k6]
  unfold ChgF
  rw [e0, if_pos rfl, e1]
  obtain ⟨W, b0, hO⟩ := opAt1 w r
  obtain ⟨hbW, ro, hg0⟩ := hO.facts
  obtain ⟨s', hs', hsp⟩ := h.space hj
  rw [hs] at hs'
  injection hs' with hs'
  subst hs'
  have o0 := ro.cell 0
  have hspW := hsp.call hbW
  have c2 := hspW.c2
  have f2 := hspW.top.frozen 2
  have HD : Hid (DidF B w T (put F j { sp F (j : Int) with g := true }) (W.setCell ⟨s.sb, 2, none⟩ (.bool true))) := by
    obtain ⟨⟨wvs, wr⟩, _⟩ := hspW.wds.block
    have kk : ∀ k, k ≠ s.sb → (W.setCell ⟨s.sb, 2, none⟩ (.bool true)).heap[k]? = W.heap[k]? := fun k hne => Below.heap_setCell W _ _ k hne
    refine ((h.call hbW).putS (s' := s) hj hs rfl rfl rfl (Foot.grown (grown_set W s.sb 2 _) (Or.inl rfl)) ⟨hspW.top.set_ 2 _, ?_, ?_, hspW.lo⟩).pre hbW
    · refine hspW.ars.keep (by simp [World.setCell]) fun k e _ => kk k ?_
      rcases e with e | e
      · subst e; exact hspW.ars.top.apart hspW.top (by decide)
      · obtain ⟨⟨vs, q⟩, _⟩ := hspW.ars.block e
        exact q.apart hspW.top (by decide)
    · exact hspW.wds.heap (kk _ (wr.apart hspW.top (by decide)))
  have n3 : (r.k == 3) = false := by simpa using k3
  have n4 : (r.k == 4) = false := by simpa using k4
  have n5 : (r.k == 5) = false := by simpa using k5
  have n6 : (r.k == 6) = false := by simpa using k6
  have HW := Lib.hid hO
  change W.cell? ⟨b0, 0, none⟩ = some (.int .i64 r.k) at o0
  generalize (sp F (j : Int)).g = g at c2
  clear h hbW ro hg0 hsp hspW hO e0 e1 hj hs
  go_enter Tryz.func37, Tryz.ntmps37
  go_upto_region 1 with (fail)
  rw [← HW.out.1, ← HW.out.2]
  go_wp2_with fail
  go_ret
  exact ⟨rfl, HD.out⟩
/-- All that a change of one space leaves: what a walk wants of it. -/
structure ChgAt (B : Nat) (w : World) (T : RfT) (F : Fl) (j : Nat) (r : Rq) (s : SpB) (W : World) (b0 : Nat) : Prop where
  eq : OpAt1 w r W b0
  bl : Below w.heap.size w W
  op : Lrow W b0 25 (opL r)
  sp : SpAt B W s (sp F j)
  no : ∀ w2, Below W.heap.size W w2 → DidF B w T F w2
  nP : ∀ w2, DidP B W.drew s.ab (Go.Proofs.YtnppnoabhpkmkaaGreat.sp F j).P w2 → DidF B w T F w2
  all : ∀ (w2 : World) (v' : Value) (S' : Sp), SpAt B w2 { s with v := v' } S' → Foot (fun k => k = s.sb ∨ k = s.ab ∨ k = s.wq.1) W w2 → DidF B w T (put F j S') w2
theorem RfAt.chgAt (h : RfAt B w T F) {j : Nat} (hj : j < F.L.length) (hs : T.LS[j]? = some s) (r : Rq) : ∃ W b0, ChgAt B w T F j r s W b0 := by
  obtain ⟨W, b0, hO⟩ := opAt1 w r
  obtain ⟨hbW, ro, hg0⟩ := hO.facts
  obtain ⟨s', hs', hsp⟩ := h.space hj
  rw [hs] at hs'
  injection hs' with hs'
  subst hs'
  have hb1 : Below w.heap.size w W.drew := below_dN hbW 1
  exact ⟨W, b0, hO, hbW, ro, hsp.call hbW, fun w2 hb => h.did (hbW.trans (hb.mono hbW.size)), fun w2 hd => ((h.call hb1).putA_no hj hs hd).pre hb1, fun w2 v' S' hS hf => ((h.call hbW).putS (s' := { s with v := v' }) hj hs rfl rfl rfl hf hS).pre hbW⟩
set_option maxRecDepth 100000 in
set_option maxHeartbeats 4000000 in
theorem rchg_pr (h : RfAt B w T F) {j : Nat} (hj : j < F.L.length) (hs : T.LS[j]? = some s) (r : Rq) (ok : RqOk r) (k4 : r.k = 4) : Calls Tryz.prog 37 #[.pointer (some ⟨T.xa, 0, none⟩), .pointer (some ⟨s.sb, 0, none⟩), .agg (opL r).toArray] w (ChgF B w T F j r) := by
  obtain ⟨W, b0, C⟩ := h.chgAt hj hs r
  have o0 := C.op.cell 0
  change W.cell? ⟨b0, 0, none⟩ = some (.int .i64 r.k) at o0
  rw [k4] at o0
  have hs0 : W.drew.cell? ⟨b0, 2, none⟩ = some (.int .i64 r.a) ∧ W.drew.cell? ⟨b0, 3, none⟩ = some (.int .i64 r.n) ∧ W.drew.cell? ⟨b0, 5, none⟩ = some (.int .i64 r.p) ∧ W.drew.cell? ⟨s.sb, 0, none⟩ = some (.pointer (some ⟨s.ab, 0, none⟩)) := ⟨C.op.cell 2, C.op.cell 3, C.op.cell 5, C.sp.c0⟩
  have hpx : Px B W.drew s.ab s.v (sp F (j : Int)).P := C.sp.ars.drewN 1
  have hpr := protect_is hpx (a := r.a) (n := r.n) (p := r.p) ok.a ok.n
  have e0 : chgE (sp F (j : Int)) r = prE (sp F (j : Int)).P r.a r.n r.p := by unfold chgE; rw [if_neg (by omega), if_pos k4]
  have e1 : chgS (sp F (j : Int)) r = { sp F (j : Int) with P := prP (sp F (j : Int)).P r.a r.n r.p } := by unfold chgS; rw [if_neg (by omega), if_pos k4]
  have HD : Hid (∀ w2, DidP B W.drew s.ab (if prE (sp F (j : Int)).P r.a r.n r.p = 0 then prP (sp F (j : Int)).P r.a r.n r.p else (sp F (j : Int)).P) w2 → DidF B w T (if prE (sp F (j : Int)).P r.a r.n r.p = 0 then put F j { sp F (j : Int) with P := prP (sp F (j : Int)).P r.a r.n r.p } else F) w2) := fun w2 hd => by
    by_cases c : prE (sp F (j : Int)).P r.a r.n r.p = 0
    · rw [if_pos c] at hd ⊢
      obtain ⟨v', hsp2, hf2⟩ := SpAt.areas (w := W.drew) (C.sp.call (below_dN (Below.refl _ _) 1)) hd
      exact C.all w2 v' _ hsp2 ((Foot.of_below (X := fun k => k = s.sb ∨ k = s.ab ∨ k = s.wq.1) (below_dN (Below.refl W.heap.size W) 1)).trans (hf2.mono fun k e => Or.inr (Or.inl e)) fun _ e _ => e)
    · rw [if_neg c] at hd ⊢
      exact C.nP w2 hd
  unfold ChgF
  rw [e0, e1]
  unfold ToldP at hpr
  generalize prE (sp F (j : Int)).P r.a r.n r.p = E at *
  generalize (if E = 0 then pcs (sp F (j : Int)).P r.a r.n.toNat else []) = l at hpr
  generalize l.length = ln at hpr
  obtain ⟨F2, hF2⟩ : ∃ F2, F2 = (if E = 0 then put F j { sp F (j : Int) with P := prP (sp F (j : Int)).P r.a r.n r.p } else F) := ⟨_, rfl⟩
  rw [← hF2] at HD ⊢
  clear hF2
  have HC := Lib.hid C
  have HW := Lib.hid C.eq
  clear h C e0 e1 hj hs hpx
  go_enter Tryz.func37, Tryz.ntmps37
  go_upto_region 1 with (fail)
  rw [← HW.out.1, ← HW.out.2]
  go_upto_region 8 with (fail)
  go_region_held3 (fun v => v.cell? ⟨b0, 2, none⟩ = some (.int .i64 r.a) ∧ v.cell? ⟨b0, 3, none⟩ = some (.int .i64 r.n) ∧ v.cell? ⟨b0, 5, none⟩ = some (.int .i64 r.p) ∧ v.cell? ⟨s.sb, 0, none⟩ = some (.pointer (some ⟨s.ab, 0, none⟩)))
    (first | exact hs0 | exact hs9)
    (first | (go_at_call 57; (with_reducible refine hpr.mono ?_); rintro e w2 ⟨A2, c2, rfl, -, hd2⟩; have f2 := hd2.choose_spec.2; have ro2 := f2.row (HC.out.op.drewN 1) (HC.out.op.apart HC.out.sp.ars.top (by decide)); have st2 := f2.row (HC.out.sp.top.drewN 1) (HC.out.sp.top.apart HC.out.sp.ars.top (by decide)); have hs9 := (⟨ro2.cell 2, ro2.cell 3, ro2.cell 5, st2.cell 0⟩ : w2.cell? ⟨b0, 2, none⟩ = some (.int .i64 r.a) ∧ w2.cell? ⟨b0, 3, none⟩ = some (.int .i64 r.n) ∧ w2.cell? ⟨b0, 5, none⟩ = some (.int .i64 r.p) ∧ w2.cell? ⟨s.sb, 0, none⟩ = some (.pointer (some ⟨s.ab, 0, none⟩)))))
  go_wp2_with fail
  go_ret
  exact ⟨rfl, HD.out _ hd2⟩
set_option maxRecDepth 100000 in
set_option maxHeartbeats 4000000 in
theorem rchg_un (h : RfAt B w T F) {j : Nat} (hj : j < F.L.length) (hs : T.LS[j]? = some s) (r : Rq) (ok : RqOk r) (k3 : r.k = 3) : Calls Tryz.prog 37 #[.pointer (some ⟨T.xa, 0, none⟩), .pointer (some ⟨s.sb, 0, none⟩), .agg (opL r).toArray] w (ChgF B w T F j r) := by
  obtain ⟨W, b0, C⟩ := h.chgAt hj hs r
  have o0 := C.op.cell 0
  change W.cell? ⟨b0, 0, none⟩ = some (.int .i64 r.k) at o0
  rw [k3] at o0
  have hs0 : W.drew.cell? ⟨b0, 2, none⟩ = some (.int .i64 r.a) ∧ W.drew.cell? ⟨b0, 3, none⟩ = some (.int .i64 r.n) ∧ W.drew.cell? ⟨s.sb, 0, none⟩ = some (.pointer (some ⟨s.ab, 0, none⟩)) := ⟨C.op.cell 2, C.op.cell 3, C.sp.c0⟩
  have hpx : Px B W.drew s.ab s.v (sp F (j : Int)).P := C.sp.ars.drewN 1
  have hun := unmap_is hpx (a := r.a) (n := r.n) ok.a ok.n
  have e0 : chgE (sp F (j : Int)) r = unE (sp F (j : Int)).P r.a r.n := by unfold chgE; rw [if_pos k3]
  have e1 : chgS (sp F (j : Int)) r = { sp F (j : Int) with P := unP (sp F (j : Int)).P r.a r.n, W := clr (sp F (j : Int)).W r.a r.n } := by unfold chgS; rw [if_pos k3]
  unfold ChgF
  rw [e0, e1]
  unfold ToldP at hun
  have HC := Lib.hid C
  obtain ⟨E, hE⟩ : ∃ E, E = unE (sp F (j : Int)).P r.a r.n := ⟨_, rfl⟩
  rw [← hE] at hun ⊢
  by_cases c : E = 0
  · have hrt : rtI r.a r.n 0 = 0 := by
      have hz := hE.symm.trans c
      unfold unE at hz
      split at hz
      · rename_i hne; exact absurd hz hne
      · rename_i hne; exact Classical.byContradiction hne
    obtain ⟨t1, t2, t3⟩ := rt_in hrt
    obtain ⟨a, ha⟩ : ∃ a : Nat, r.a = a := ⟨r.a.toNat, by omega⟩
    obtain ⟨n, hn⟩ : ∃ n : Nat, r.n = n := ⟨r.n.toNat, by omega⟩
    have HA := Lib.hid (And.intro ha hn)
    have han : a + n ≤ 4096 := by omega
    subst c
    rw [if_pos rfl, if_pos rfl] at hun
    rw [if_pos rfl]
    have HW := Lib.hid C.eq
    have HN := Lib.hid han
    clear h C hj hs e0 e1 hE hpx hrt t1 t2 t3 ha hn han
    go_enter Tryz.func37, Tryz.ntmps37
    go_upto_region 1 with (fail)
    rw [← HW.out.1, ← HW.out.2]
    go_upto_region 3 with (fail)
    go_region_held3 (fun v => v.cell? ⟨b0, 2, none⟩ = some (.int .i64 r.a) ∧ v.cell? ⟨b0, 3, none⟩ = some (.int .i64 r.n) ∧ v.cell? ⟨s.sb, 0, none⟩ = some (.pointer (some ⟨s.ab, 0, none⟩)))
      (first | exact hs0 | exact hs9)
      (first | (go_at_call 56; (with_reducible refine hun.mono ?_); rintro e w2 ⟨A2, c2, rfl, -, hd2⟩; have f2 := hd2.choose_spec.2; have ro2 := f2.row (HC.out.op.drewN 1) (HC.out.op.apart HC.out.sp.ars.top (by decide)); have st2 := f2.row (HC.out.sp.top.drewN 1) (HC.out.sp.top.apart HC.out.sp.ars.top (by decide)); have hs9 := (⟨ro2.cell 2, ro2.cell 3, st2.cell 0⟩ : w2.cell? ⟨b0, 2, none⟩ = some (.int .i64 r.a) ∧ w2.cell? ⟨b0, 3, none⟩ = some (.int .i64 r.n) ∧ w2.cell? ⟨s.sb, 0, none⟩ = some (.pointer (some ⟨s.ab, 0, none⟩)))))
    obtain ⟨v', hsp2, hf2⟩ := SpAt.areas (w := W.drew) (HC.out.sp.call (below_dN (Below.refl _ _) 1)) hd2
    have hcl := rclear_is hsp2 HN.out
    rw [← HA.out.1, ← HA.out.2] at hcl
    dsimp only at hcl
    have HF2 := Lib.hid hf2
    clear hs0 hs9 hun hd2 hsp2 hf2 ro2 st2 f2
    go_wp2_with (go_at_call 34; (with_reducible refine hcl.mono ?_); rintro e w3 ⟨rfl, hsp3, hg3⟩)
    go_ret
    refine ⟨rfl, HC.out.all w3 v' _ hsp3 ?_⟩
    have f1 : Foot (fun k => k = s.sb ∨ k = s.ab ∨ k = s.wq.1) W w2 := ((Foot.of_below (X := fun k => k = s.sb ∨ k = s.ab ∨ k = s.wq.1) (below_dN (Below.refl W.heap.size W) 1)).trans (HF2.out.mono fun k e => Or.inr (Or.inl e)) fun _ e _ => e)
    exact f1.trans (Foot.grown (X := fun k => k = s.sb ∨ k = s.ab ∨ k = s.wq.1) hg3 (Or.inr (Or.inr rfl))) fun _ e _ => e
  · rw [if_neg c, if_neg c] at hun
    rw [if_neg c]
    have c' : (E == 0) = false := by simpa using c
    have HW := Lib.hid C.eq
    clear h C hj hs e0 e1 hE hpx
    go_enter Tryz.func37, Tryz.ntmps37
    go_upto_region 1 with (fail)
    rw [← HW.out.1, ← HW.out.2]
    go_upto_region 3 with (fail)
    go_region_held3 (fun v => v.cell? ⟨b0, 2, none⟩ = some (.int .i64 r.a) ∧ v.cell? ⟨b0, 3, none⟩ = some (.int .i64 r.n) ∧ v.cell? ⟨s.sb, 0, none⟩ = some (.pointer (some ⟨s.ab, 0, none⟩)))
      (first | exact hs0 | exact hs9)
      (first | (go_at_call 56; (with_reducible refine hun.mono ?_); rintro e w2 ⟨A2, c2, rfl, -, hd2⟩; have f2 := hd2.choose_spec.2; have ro2 := f2.row (HC.out.op.drewN 1) (HC.out.op.apart HC.out.sp.ars.top (by decide)); have st2 := f2.row (HC.out.sp.top.drewN 1) (HC.out.sp.top.apart HC.out.sp.ars.top (by decide)); have hs9 := (⟨ro2.cell 2, ro2.cell 3, st2.cell 0⟩ : w2.cell? ⟨b0, 2, none⟩ = some (.int .i64 r.a) ∧ w2.cell? ⟨b0, 3, none⟩ = some (.int .i64 r.n) ∧ w2.cell? ⟨s.sb, 0, none⟩ = some (.pointer (some ⟨s.ab, 0, none⟩)))))
    go_wp2_with fail
    go_ret
    exact ⟨rfl, HC.out.nP _ hd2⟩
end
end Go.Proofs.YtnppnoabhpkmkaaGreat
/- The reference of spaces: zap, move. -/
namespace Go.Proofs.YtnppnoabhpkmkaaGreat
open Go.RowKit
section
variable {w w' : World} {B : Nat} {T : RfT} {F : Fl} {s s' : SpB} {S S' : Sp}
theorem SpAt.eqW (h : SpAt B w s S) {W : Int → Int} (e : ∀ i : Nat, i < 32768 → W i = S.W i) : SpAt B w s { S with W := W } := ⟨h.top, h.ars, h.wds.eq e, h.lo⟩
set_option maxRecDepth 100000 in
set_option maxHeartbeats 4000000 in
theorem rchg_zap (h : RfAt B w T F) {j : Nat} (hj : j < F.L.length) (hs : T.LS[j]? = some s) (r : Rq) (ok : RqOk r) (k5 : r.k = 5) : Calls Tryz.prog 37 #[.pointer (some ⟨T.xa, 0, none⟩), .pointer (some ⟨s.sb, 0, none⟩), .agg (opL r).toArray] w (ChgF B w T F j r) := by
  obtain ⟨W, b0, C⟩ := h.chgAt hj hs r
  have o0 := C.op.cell 0
  change W.cell? ⟨b0, 0, none⟩ = some (.int .i64 r.k) at o0
  rw [k5] at o0
  have o2 : W.cell? ⟨b0, 2, none⟩ = some (.int .i64 r.a) := C.op.cell 2
  have o3 : W.cell? ⟨b0, 3, none⟩ = some (.int .i64 r.n) := C.op.cell 3
  have hrt := refRight_any r.a r.n 0 ok.a.1 ok.a.2 ok.n.1 ok.n.2 W
  have e0 : chgE (sp F (j : Int)) r = zapE (sp F (j : Int)).P r.a r.n := by unfold chgE; rw [if_neg (by omega), if_neg (by omega), if_pos k5]
  have e1 : chgS (sp F (j : Int)) r = { sp F (j : Int) with W := clr (sp F (j : Int)).W r.a r.n } := by unfold chgS; rw [if_neg (by omega), if_neg (by omega), if_pos k5]
  unfold ChgF
  rw [e0, e1]
  have HC := Lib.hid C
  have HW := Lib.hid C.eq
  unfold zapE
  obtain ⟨E, hE⟩ : ∃ E, E = rtI r.a r.n 0 := ⟨_, rfl⟩
  rw [← hE] at hrt ⊢
  by_cases c : E = 0
  · rw [if_neg (fun k => k c)]
    have hrt0 := hE.symm.trans c
    obtain ⟨t1, t2, t3⟩ := rt_in hrt0
    obtain ⟨a, ha⟩ : ∃ a : Nat, r.a = a := ⟨r.a.toNat, by omega⟩
    obtain ⟨n, hn⟩ : ∃ n : Nat, r.n = n := ⟨r.n.toNat, by omega⟩
    have han : a + n ≤ 4096 := by omega
    subst c
    have hb1 : Below W.heap.size W W.drew := below_dN (Below.refl _ _) 1
    have hb2 : Below W.heap.size W W.drew.drew := below_dN (below_dN (Below.refl _ _) 1) 1
    have hcov := covers_is (C.sp.call hb1).ars (a := a) (n := n) (by rw [← ha, ← hn]; exact hrt0) han
    have hcut := cuts_is (C.sp.call hb2).ars (a := a) (n := n) (by omega) han (by omega)
    have hcl := rclear_is (C.sp.call hb2) han
    rw [← ha, ← hn] at hcov hcut hcl
    have hnn : r.n.toNat = n := by omega
    rw [hnn]
    have hs1 : W.drew.cell? ⟨b0, 2, none⟩ = some (.int .i64 r.a) ∧ W.drew.cell? ⟨b0, 3, none⟩ = some (.int .i64 r.n) ∧ W.drew.cell? ⟨s.sb, 0, none⟩ = some (.pointer (some ⟨s.ab, 0, none⟩)) := ⟨o2, o3, C.sp.c0⟩
    have hs2 : W.drew.drew.cell? ⟨b0, 2, none⟩ = some (.int .i64 r.a) ∧ W.drew.drew.cell? ⟨b0, 3, none⟩ = some (.int .i64 r.n) ∧ W.drew.drew.cell? ⟨s.sb, 0, none⟩ = some (.pointer (some ⟨s.ab, 0, none⟩)) := ⟨o2, o3, C.sp.c0⟩
    by_cases c1 : covB (sp F (j : Int)).P r.a n = true
    · rw [c1] at hcov
      rw [if_neg (by rw [c1]; decide)]
      by_cases c2 : cutsB (sp F (j : Int)).P r.a r.n = true
      · rw [c2] at hcut
        rw [if_pos c2, if_neg (by decide)]
        clear h C e0 e1 hj hs hE hrt0 t1 t2 t3 ha hn han hnn c1 c2 hcl
        go_enter Tryz.func37, Tryz.ntmps37
        go_upto_region 1 with (fail)
        rw [← HW.out.1, ← HW.out.2]
        go_upto_region 14 with (go_at_call 58; (with_reducible refine hrt.mono ?_); rintro e wz ⟨rfl, rfl⟩)
        go_region_held3 (fun v => v.cell? ⟨b0, 2, none⟩ = some (.int .i64 r.a) ∧ v.cell? ⟨b0, 3, none⟩ = some (.int .i64 r.n) ∧ v.cell? ⟨s.sb, 0, none⟩ = some (.pointer (some ⟨s.ab, 0, none⟩)))
          (first | exact hs1)
          (first | (go_at_call 59; (with_reducible refine hcov.mono ?_); rintro e wz ⟨rfl, rfl⟩))
        go_upto_region 16 with (fail)
        go_region_held3 (fun v => v.cell? ⟨b0, 2, none⟩ = some (.int .i64 r.a) ∧ v.cell? ⟨b0, 3, none⟩ = some (.int .i64 r.n) ∧ v.cell? ⟨s.sb, 0, none⟩ = some (.pointer (some ⟨s.ab, 0, none⟩)))
          (first | exact hs2)
          (first | (go_at_call 60; (with_reducible refine hcut.mono ?_); rintro e wz ⟨rfl, rfl⟩))
        go_wp2_with fail
        go_ret
        exact ⟨rfl, HC.out.no _ hb2⟩
      · have c2' : cutsB (sp F (j : Int)).P r.a r.n = false := by simpa using c2
        rw [c2'] at hcut
        rw [if_neg c2, if_pos rfl]
        clear h C e0 e1 hj hs hE hrt0 t1 t2 t3 ha hn han hnn c1 c2 c2'
        go_enter Tryz.func37, Tryz.ntmps37
        go_upto_region 1 with (fail)
        rw [← HW.out.1, ← HW.out.2]
        go_upto_region 14 with (go_at_call 58; (with_reducible refine hrt.mono ?_); rintro e wz ⟨rfl, rfl⟩)
        go_region_held3 (fun v => v.cell? ⟨b0, 2, none⟩ = some (.int .i64 r.a) ∧ v.cell? ⟨b0, 3, none⟩ = some (.int .i64 r.n) ∧ v.cell? ⟨s.sb, 0, none⟩ = some (.pointer (some ⟨s.ab, 0, none⟩)))
          (first | exact hs1)
          (first | (go_at_call 59; (with_reducible refine hcov.mono ?_); rintro e wz ⟨rfl, rfl⟩))
        go_upto_region 16 with (fail)
        go_region_held3 (fun v => v.cell? ⟨b0, 2, none⟩ = some (.int .i64 r.a) ∧ v.cell? ⟨b0, 3, none⟩ = some (.int .i64 r.n) ∧ v.cell? ⟨s.sb, 0, none⟩ = some (.pointer (some ⟨s.ab, 0, none⟩)))
          (first | exact hs2)
          (first | (go_at_call 60; (with_reducible refine hcut.mono ?_); rintro e wz ⟨rfl, rfl⟩))
        go_wp2_with (go_at_call 34; (with_reducible refine hcl.mono ?_); rintro e w3 ⟨rfl, hsp3, hg3⟩)
        go_ret
        exact ⟨rfl, HC.out.all w3 s.v _ hsp3 ((Foot.of_below (X := fun k => k = s.sb ∨ k = s.ab ∨ k = s.wq.1) hb2).trans (Foot.grown (X := fun k => k = s.sb ∨ k = s.ab ∨ k = s.wq.1) hg3 (Or.inr (Or.inr rfl))) fun _ e _ => e)⟩
    · have c1' : covB (sp F (j : Int)).P r.a n = false := by simpa using c1
      rw [c1'] at hcov
      rw [if_pos c1', if_neg (by decide)]
      clear h C e0 e1 hj hs hE hrt0 t1 t2 t3 ha hn han hnn c1 c1' hcl hcut hs2
      go_enter Tryz.func37, Tryz.ntmps37
      go_upto_region 1 with (fail)
      rw [← HW.out.1, ← HW.out.2]
      go_upto_region 14 with (go_at_call 58; (with_reducible refine hrt.mono ?_); rintro e wz ⟨rfl, rfl⟩)
      go_region_held3 (fun v => v.cell? ⟨b0, 2, none⟩ = some (.int .i64 r.a) ∧ v.cell? ⟨b0, 3, none⟩ = some (.int .i64 r.n) ∧ v.cell? ⟨s.sb, 0, none⟩ = some (.pointer (some ⟨s.ab, 0, none⟩)))
        (first | exact hs1)
        (first | (go_at_call 59; (with_reducible refine hcov.mono ?_); rintro e wz ⟨rfl, rfl⟩))
      go_wp2_with fail
      go_ret
      exact ⟨rfl, HC.out.no _ hb1⟩
  · rw [if_pos c, if_neg c]
    have c' : (E != 0) = true := by simpa using c
    clear h C e0 e1 hj hs hE
    go_enter Tryz.func37, Tryz.ntmps37
    go_upto_region 1 with (fail)
    rw [← HW.out.1, ← HW.out.2]
    go_wp2_with (go_at_call 58; (with_reducible refine hrt.mono ?_); rintro e wz ⟨rfl, rfl⟩)
    go_ret
    exact ⟨rfl, HC.out.no _ (Below.refl _ _)⟩
theorem mvE_apart {P : Int → Pg} {a n t : Int} (e : mvE P a n t = 0) : ¬ (t < a + n ∧ a < t + n) := by
  obtain ⟨e1, e2⟩ := mvE_ok e
  unfold mvE at e
  rw [if_neg (fun k => k e1), if_neg (fun k => k e2)] at e
  by_cases c : t < a + n ∧ a < t + n
  · rw [if_pos c] at e; cases e
  · exact c
set_option maxRecDepth 100000 in
set_option maxHeartbeats 4000000 in
theorem rchg_mv (h : RfAt B w T F) {j : Nat} (hj : j < F.L.length) (hs : T.LS[j]? = some s) (r : Rq) (ok : RqOk r) (k6 : r.k = 6) : Calls Tryz.prog 37 #[.pointer (some ⟨T.xa, 0, none⟩), .pointer (some ⟨s.sb, 0, none⟩), .agg (opL r).toArray] w (ChgF B w T F j r) := by
  obtain ⟨W, b0, C⟩ := h.chgAt hj hs r
  have o0 := C.op.cell 0
  change W.cell? ⟨b0, 0, none⟩ = some (.int .i64 r.k) at o0
  rw [k6] at o0
  have hs0 : W.drew.cell? ⟨b0, 2, none⟩ = some (.int .i64 r.a) ∧ W.drew.cell? ⟨b0, 3, none⟩ = some (.int .i64 r.n) ∧ W.drew.cell? ⟨b0, 6, none⟩ = some (.int .i64 r.t) ∧ W.drew.cell? ⟨s.sb, 0, none⟩ = some (.pointer (some ⟨s.ab, 0, none⟩)) := ⟨C.op.cell 2, C.op.cell 3, C.op.cell 6, C.sp.c0⟩
  have hpx : Px B W.drew s.ab s.v (sp F (j : Int)).P := C.sp.ars.drewN 1
  have hmv := move_is hpx (a := r.a) (n := r.n) (t := r.t) ok.a ok.n ok.t
  have e0 : chgE (sp F (j : Int)) r = mvE (sp F (j : Int)).P r.a r.n r.t := by unfold chgE; rw [if_neg (by omega), if_neg (by omega), if_neg (by omega), if_pos k6]
  have e1 : chgS (sp F (j : Int)) r = { sp F (j : Int) with P := mvP (sp F (j : Int)).P r.a r.n r.t, W := mvW (sp F (j : Int)).W r.a r.n r.t } := by unfold chgS; rw [if_neg (by omega), if_neg (by omega), if_neg (by omega), if_pos k6]
  unfold ChgF
  rw [e0, e1]
  unfold ToldP at hmv
  have HC := Lib.hid C
  have HW := Lib.hid C.eq
  obtain ⟨E, hE⟩ : ∃ E, E = mvE (sp F (j : Int)).P r.a r.n r.t := ⟨_, rfl⟩
  rw [← hE] at hmv ⊢
  by_cases c : E = 0
  · have hz := hE.symm.trans c
    obtain ⟨q1, q2⟩ := mvE_ok hz
    have hap := mvE_apart hz
    obtain ⟨t1, t2, t3⟩ := rt_in q1
    obtain ⟨t4, -, t6⟩ := rt_in q2
    obtain ⟨a, ha⟩ : ∃ a : Nat, r.a = a := ⟨r.a.toNat, by omega⟩
    obtain ⟨n, hn⟩ : ∃ n : Nat, r.n = n := ⟨r.n.toNat, by omega⟩
    obtain ⟨t, ht⟩ : ∃ t : Nat, r.t = t := ⟨r.t.toNat, by omega⟩
    have HA := Lib.hid (And.intro ha (And.intro hn ht))
    rw [ha, hn, ht] at hap
    have hb5 : (a : Int) + n ≤ 4096 ∧ (t : Int) + n ≤ 4096 ∧ 1 ≤ n ∧ (t + n ≤ a ∨ a + n ≤ t) := by omega
    subst c
    rw [if_pos rfl, if_pos rfl] at hmv
    rw [if_pos rfl]
    have HB5 := Lib.hid hb5
    have n4 : (n : Int) ≤ 4096 := by omega
    have a4 : (a : Int) ≤ 4096 := by omega
    have p4 : (t : Int) ≤ 4096 := by omega
    obtain ⟨M, hM⟩ : ∃ M : Nat, M = 32768 := ⟨_, rfl⟩
    have HM := Lib.hid hM
    clear h C hj hs e0 e1 hE hz hpx q1 q2 hap t1 t2 t3 t4 t6 ha hn ht hb5 hM
    go_enter Tryz.func37, Tryz.ntmps37
    go_upto_region 1 with (fail)
    rw [← HW.out.1, ← HW.out.2]
    go_upto_region 21 with (fail)
    go_region_held3 (fun v => v.cell? ⟨b0, 2, none⟩ = some (.int .i64 r.a) ∧ v.cell? ⟨b0, 3, none⟩ = some (.int .i64 r.n) ∧ v.cell? ⟨b0, 6, none⟩ = some (.int .i64 r.t) ∧ v.cell? ⟨s.sb, 0, none⟩ = some (.pointer (some ⟨s.ab, 0, none⟩)))
      (first | exact hs0 | exact hs9)
      (first | (go_at_call 61; (with_reducible refine hmv.mono ?_); rintro e w2 ⟨A2, c2, rfl, -, hd2⟩; have f2 := hd2.choose_spec.2; have ro2 := f2.row (HC.out.op.drewN 1) (HC.out.op.apart HC.out.sp.ars.top (by decide)); have st2 := f2.row (HC.out.sp.top.drewN 1) (HC.out.sp.top.apart HC.out.sp.ars.top (by decide)); have hs9 := (⟨ro2.cell 2, ro2.cell 3, ro2.cell 6, st2.cell 0⟩ : w2.cell? ⟨b0, 2, none⟩ = some (.int .i64 r.a) ∧ w2.cell? ⟨b0, 3, none⟩ = some (.int .i64 r.n) ∧ w2.cell? ⟨b0, 6, none⟩ = some (.int .i64 r.t) ∧ w2.cell? ⟨s.sb, 0, none⟩ = some (.pointer (some ⟨s.ab, 0, none⟩)))))
    obtain ⟨v', hsp2, hf2⟩ := SpAt.areas (w := W.drew) (HC.out.sp.call (below_dN (Below.refl _ _) 1)) hd2
    have HS2 := Lib.hid hsp2
    have HF2 := Lib.hid hf2
    have HRO := Lib.hid ro2
    clear hs0 hs9 hmv hd2 f2 ro2 st2 hsp2 hf2
    go_wp2_with fail
    go_loopw [14] (fun i wr => ∃ x : Nat, x ≤ n * 8 ∧ i = .int .i64 x ∧ WIs B wr s.wq (fun k => if (t : Int) * 8 ≤ k ∧ k < (t : Int) * 8 + x then (sp F (j : Int)).W (k - (t : Int) * 8 + (a : Int) * 8) else (sp F (j : Int)).W k) ∧ w2.grownBy wr (some s.wq.1)) (fun i _ => n * 8 - (RowKit.intOf i).toNat)
    case atStart => exact ⟨0, Nat.zero_le _, rfl, HS2.out.wds.eq fun i _ => if_neg (by omega), World.grownBy.refl _ _⟩
    case round =>
      obtain ⟨x, hx, rfl, hw, hg⟩ := hrel
      have nop : some b0 ≠ some s.wq.1 := fun e => by
        injection e with e
        obtain ⟨⟨vs, q⟩, _⟩ := HS2.out.wds.block
        exact HRO.out.apart q (by decide) e
      have nsb : some s.sb ≠ some s.wq.1 := fun e => by
        injection e with e
        obtain ⟨⟨vs, q⟩, _⟩ := HS2.out.wds.block
        exact q.apart HS2.out.top (by decide) e.symm
      have rop := HRO.out.grown hg nop
      have o2 : wr.cell? ⟨b0, 2, none⟩ = some (.int .i64 a) := by rw [← HA.out.1]; exact rop.cell 2
      have o3 : wr.cell? ⟨b0, 3, none⟩ = some (.int .i64 n) := by rw [← HA.out.2.1]; exact rop.cell 3
      have o6 : wr.cell? ⟨b0, 6, none⟩ = some (.int .i64 t) := by rw [← HA.out.2.2]; exact rop.cell 6
      have sb1 : wr.cell? ⟨s.sb, 1, none⟩ = some (.slice (some ⟨s.wq.1, 0, none⟩) M s.wq.2) := by rw [HM.out]; exact (HS2.out.top.grown hg nsb).cell 1
      by_cases hlt : x < n * 8
      · have hb5 := HB5.out
        have hy1 : a * 8 + x < 32768 := by omega
        have hy2 : t * 8 + x < 32768 := by omega
        obtain ⟨z1, -⟩ := hw.at_ hy1
        obtain ⟨z2, zf⟩ := hw.at_ hy2
        rw [if_neg (by omega)] at z1
        generalize (if (t : Int) * 8 ≤ ((t * 8 + x : Nat) : Int) ∧ ((t * 8 + x : Nat) : Int) < (t : Int) * 8 + (x : Int) then (sp F (j : Int)).W (((t * 8 + x : Nat) : Int) - (t : Int) * 8 + (a : Int) * 8) else (sp F (j : Int)).W ((t * 8 + x : Nat) : Int)) = y at z2
        obtain ⟨V, hV⟩ : ∃ V, V = (sp F (j : Int)).W ((a * 8 + x : Nat) : Int) := ⟨_, rfl⟩
        rw [← hV] at z1
        have hput : WIs B (wr.drew.setCell ⟨s.wq.1, t * 8 + x, none⟩ (.int .u64 V)) s.wq (fun k => if (t : Int) * 8 ≤ k ∧ k < (t : Int) * 8 + ((x + 1 : Nat) : Int) then (sp F (j : Int)).W (k - (t : Int) * 8 + (a : Int) * 8) else (sp F (j : Int)).W k) := ((hw.drewN 1).put hy2 V).eq fun i _ => by
          by_cases e : (i : Int) = ((t * 8 + x : Nat) : Int)
          · rw [if_pos e, if_pos (by omega), hV]
            congr 1; omega
          · rw [if_neg e]
            by_cases c : (t : Int) * 8 ≤ i ∧ (i : Int) < (t : Int) * 8 + x
            · rw [if_pos c, if_pos (by omega)]
            · rw [if_neg c, if_neg (by omega)]
        have hG2 : w2.grownBy (wr.drew.setCell ⟨s.wq.1, t * 8 + x, none⟩ (.int .u64 V)) (some s.wq.1) := by
          have := grown_trans1 hg (grown_set wr s.wq.1 (t * 8 + x) (.int .u64 V))
          exact ⟨this.os, this.tape, this.output, this.size, this.block⟩
        have HP := Lib.hid hput
        have HG := Lib.hid hG2
        have z1' : wr.drew.cell? ⟨s.wq.1, a * 8 + x, none⟩ = some (.int .u64 V) := z1
        have z2' : wr.drew.cell? ⟨s.wq.1, t * 8 + x, none⟩ = some (.int .u64 y) := z2
        have zf' : wr.drew.frozen? ⟨s.wq.1, t * 8 + x, none⟩ = false := zf
        have o2' : wr.drew.cell? ⟨b0, 2, none⟩ = some (.int .i64 a) := o2
        have o3' : wr.drew.cell? ⟨b0, 3, none⟩ = some (.int .i64 n) := o3
        have o6' : wr.drew.cell? ⟨b0, 6, none⟩ = some (.int .i64 t) := o6
        have sb1' : wr.drew.cell? ⟨s.sb, 1, none⟩ = some (.slice (some ⟨s.wq.1, 0, none⟩) M s.wq.2) := sb1
        have hlt' : (x : Int) < (n : Int) * 8 := by omega
        have x5 : (x : Int) < 32768 := by omega
        have e1 : (t : Int) * 8 + x < (M : Int) := by have := HM.out; omega
        have e2 : (a : Int) * 8 + x < (M : Int) := by have := HM.out; omega
        clear hput hG2 hw hg rop nop nsb hV
        go_wp2_with fail
        have n1 : 0 ≤ (t : Int) * 8 + x := by omega
        have n2 : 0 ≤ (a : Int) * 8 + x := by omega
        have t1 : ((t : Int) * 8 + x).toNat = t * 8 + x := by omega
        have t2 : ((a : Int) * 8 + x).toNat = a * 8 + x := by omega
        have s1 : IntKind.i64.wrap ((t : Int) * 8) = t * 8 := IntWalk.i64_in _ (by omega)
        have s2 : IntKind.i64.wrap ((t : Int) * 8 + x) = t * 8 + x := IntWalk.i64_in _ (by omega)
        have s3 : IntKind.i64.wrap ((a : Int) * 8) = a * 8 := IntWalk.i64_in _ (by omega)
        have s4 : IntKind.i64.wrap ((a : Int) * 8 + x) = a * 8 + x := IntWalk.i64_in _ (by omega)
        clear hb5
        go_still_tail 21, (by kernel_rfl)
        clear s1 s2 s3 s4 n1 n2 t1 t2 z1 z2 zf o2 o3 o6 sb1
        change wpList _ _ _ _ _ wr.drew
        generalize wr.drew = w3 at z1' z2' zf' o2' o3' o6' sb1' HP HG ⊢
        go_wp2
        go_roundw
        case rel => exact ⟨x + 1, by omega, by go_num, HP.out, HG.out⟩
        case measure => simp [RowKit.intOf]; omega
      · have hxe : x = n * 8 := by omega
        have hlt' : ¬ (x : Int) < (n : Int) * 8 := by omega
        have hsp3 : SpAt B wr { s with v := v' } { P := mvP (sp F (j : Int)).P r.a r.n r.t, W := fun k => if (t : Int) * 8 ≤ k ∧ k < (t : Int) * 8 + x then (sp F (j : Int)).W (k - (t : Int) * 8 + (a : Int) * 8) else (sp F (j : Int)).W k, g := (sp F (j : Int)).g } := HS2.out.word hg hw
        have hcl := rclear_is hsp3 (a := a) (n := n) (by have := HB5.out; omega)
        dsimp only at hcl
        have HG := Lib.hid hg
        clear hw hg hsp3 nop nsb rop sb1 o6
        go_wp2_with (go_at_call 34; (with_reducible refine hcl.mono ?_); rintro e w4 ⟨rfl, hsp4, hg4⟩)
        go_ret
        refine ⟨rfl, HC.out.all w4 v' _ (hsp4.eqW (W := mvW (sp F (j : Int)).W r.a r.n r.t) fun i _ => ?_) ?_⟩
        · have hb5 := HB5.out
          rw [HA.out.1, HA.out.2.1, HA.out.2.2]
          unfold mvW clr
          dsimp only
          by_cases c1 : (t : Int) * 8 ≤ i ∧ (i : Int) < ((t : Int) + n) * 8
          · rw [if_pos c1, if_neg (by omega), if_pos (by omega)]
          · rw [if_neg c1]
            by_cases c2 : (a : Int) * 8 ≤ i ∧ (i : Int) < ((a : Int) + n) * 8
            · rw [if_pos c2, if_pos c2]
            · rw [if_neg c2, if_neg c2, if_neg (by omega)]
        · have f1 : Foot (fun k => k = s.sb ∨ k = s.ab ∨ k = s.wq.1) W w2 := ((Foot.of_below (X := fun k => k = s.sb ∨ k = s.ab ∨ k = s.wq.1) (below_dN (Below.refl W.heap.size W) 1)).trans (HF2.out.mono fun k e => Or.inr (Or.inl e)) fun _ e _ => e)
          exact (f1.trans (Foot.grown (X := fun k => k = s.sb ∨ k = s.ab ∨ k = s.wq.1) HG.out (Or.inr (Or.inr rfl))) fun _ e _ => e).trans (Foot.grown (X := fun k => k = s.sb ∨ k = s.ab ∨ k = s.wq.1) hg4 (Or.inr (Or.inr rfl))) fun _ e _ => e
  · rw [if_neg c, if_neg c] at hmv
    rw [if_neg c]
    have c' : (E == 0) = false := by simpa using c
    clear h C hj hs e0 e1 hE hpx
    go_enter Tryz.func37, Tryz.ntmps37
    go_upto_region 1 with (fail)
    rw [← HW.out.1, ← HW.out.2]
    go_upto_region 21 with (fail)
    go_region_held3 (fun v => v.cell? ⟨b0, 2, none⟩ = some (.int .i64 r.a) ∧ v.cell? ⟨b0, 3, none⟩ = some (.int .i64 r.n) ∧ v.cell? ⟨b0, 6, none⟩ = some (.int .i64 r.t) ∧ v.cell? ⟨s.sb, 0, none⟩ = some (.pointer (some ⟨s.ab, 0, none⟩)))
      (first | exact hs0 | exact hs9)
      (first | (go_at_call 61; (with_reducible refine hmv.mono ?_); rintro e w2 ⟨A2, c2, rfl, -, hd2⟩; have f2 := hd2.choose_spec.2; have ro2 := f2.row (HC.out.op.drewN 1) (HC.out.op.apart HC.out.sp.ars.top (by decide)); have st2 := f2.row (HC.out.sp.top.drewN 1) (HC.out.sp.top.apart HC.out.sp.ars.top (by decide)); have hs9 := (⟨ro2.cell 2, ro2.cell 3, ro2.cell 6, st2.cell 0⟩ : w2.cell? ⟨b0, 2, none⟩ = some (.int .i64 r.a) ∧ w2.cell? ⟨b0, 3, none⟩ = some (.int .i64 r.n) ∧ w2.cell? ⟨b0, 6, none⟩ = some (.int .i64 r.t) ∧ w2.cell? ⟨s.sb, 0, none⟩ = some (.pointer (some ⟨s.ab, 0, none⟩)))))
    go_wp2_with fail
    go_ret
    exact ⟨rfl, HC.out.nP _ hd2⟩
end
end Go.Proofs.YtnppnoabhpkmkaaGreat
