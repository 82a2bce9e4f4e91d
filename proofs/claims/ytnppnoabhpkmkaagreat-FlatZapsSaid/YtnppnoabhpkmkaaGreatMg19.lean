/- The program's spaces: New, Spaces, Areas; a space more; one goes. -/
import Derived.Test.YtnppnoabhpkmkaaGreatMg18
import Derived.Deep.RegionHeld3
namespace Go.Proofs.YtnppnoabhpkmkaaGreat
open Go.RowKit
theorem AtX.base {B B' c xa : Nat} {w : World} {A : Option Addr} {l : List Ar} {P : Int → Pg} (h : AtX B w xa A c l P) (hb : B' ≤ B) : AtX B' w xa A c l P := ⟨h.top, h.own.base hb, h.wh, Nat.le_trans hb h.lo, Nat.le_trans hb h.lw⟩
def NewedV (w : World) (e : Ending) (w' : World) : Prop := ∃ T : PfT, e = .returned (.pointer (some ⟨T.s, 0, none⟩)) ∧ PfAt w.heap.size w' T ⟨[], []⟩ ∧ Below w.heap.size w w' ∧ ∀ k, MineP T k → w.heap.size ≤ k
theorem new_f (w : World) : Calls Tryz.prog 22 #[] w (NewedV w) := by
  have H : Hid (NewedV w (.returned (.pointer (some ⟨w.heap.size, 0, none⟩))) (w.alloc (.cells #[.slice none 0 0, .int .i64 0] 72))) := by
    refine ⟨⟨w.heap.size, .slice none 0 0, [], []⟩, rfl, ⟨Lrow.new w _ _, Enc.Own.nil _ _, rfl, rfl, fun i s h => by simp at h, fun i h => by simp at h, fun k h => absurd h (Nat.not_lt_zero _), fun i j a b h => by simp at h, fun i a h => by simp at h, List.nodup_nil, Nat.le_refl _⟩, below_new _ _, ?_⟩
    rintro k (rfl | e | ⟨i, a, hi, _⟩ | hk)
    · exact Nat.le_refl _
    · cases e
    · simp at hi
    · cases hk
  go_enter Tryz.func22, Tryz.ntmps22
  go_wp2
  go_ret
  exact H.out
section
variable {w w' : World} {B bx : Nat} {T : PfT} {F F' : Fl} {s s' : PsB} {S S' : Sp} {j : Nat} {a : Int}
theorem spaces_f (h : PfAt B w T F) : Calls Tryz.prog 13 #[.pointer (some ⟨T.s, 0, none⟩)] w fun e w' => e = .returned (.int .i64 F.L.length) ∧ Below w.heap.size w w' := by
  obtain ⟨A, c, hv⟩ := h.ls.form
  have c0 := h.c0
  rw [hv, (h.ptr hv).1] at c0
  generalize F.L.length = n at *
  clear h hv
  go_enter Tryz.func13, Tryz.ntmps13
  go_wp2
  go_ret
  exact ⟨rfl, Below.refl _ _⟩
theorem areas_yes (h : PfAt B w T F) (hs : T.LS[j]? = some (some s)) : Calls Tryz.prog 21 #[.pointer (some ⟨T.s, 0, none⟩), .int .i64 j] w (ToldL (allA (sp F j).P) w) := by
  have hsp := space_yes h hs
  obtain ⟨-, hp⟩ := h.at_ hs
  have ha := all_pr hp.ars
  rw [hp.ars.wh.all] at ha
  have c0 : w.cell? ⟨s.sb, 0, none⟩ = some (.pointer (some ⟨s.ab, 0, none⟩)) := hp.top.cell 0
  generalize allA (sp F j).P = R at *
  clear h hs hp
  go_enter Tryz.func21, Tryz.ntmps21
  go_wp2_with (go_at_call 24; refine hsp.mono ?_; rintro e w1 ⟨rfl, rfl⟩)
  refine ha.mono ?_
  rintro e w1 ⟨A, c, rfl, ho, hb⟩
  go_wp2_with fail
  go_ret
  exact ⟨A, c, rfl, ho, hb⟩
theorem areas_no (h : PfAt B w T F) {n : Int} (hn : isS F n = false) : Calls Tryz.prog 21 #[.pointer (some ⟨T.s, 0, none⟩), .int .i64 n] w (ToldL [] w) := by
  have hsp := space_no h hn
  clear h hn
  go_enter Tryz.func21, Tryz.ntmps21
  go_wp2_with (go_at_call 24; refine hsp.mono ?_; rintro e w1 ⟨rfl, rfl⟩)
  go_ret
  exact ⟨none, 0, rfl, own_nil _ _, Below.refl _ _⟩
theorem word_no (h : PfAt B w T F) {n : Int} (hn : isS F n = false) (a : Int) : Calls Tryz.prog 14 #[.pointer (some ⟨T.s, 0, none⟩), .int .i64 n, .int .i64 a] w fun e w' => e = .returned (.tuple #[.int .u64 0, .int .i64 11]) ∧ Below w.heap.size w w' := by
  have hsp := space_no h hn
  clear h hn
  go_enter Tryz.func14, Tryz.ntmps14
  go_wp2_with (go_at_call 24; refine hsp.mono ?_; rintro e w1 ⟨rfl, rfl⟩)
  go_ret2
  exact ⟨rfl, Below.refl _ _⟩
set_option maxRecDepth 100000 in
set_option maxHeartbeats 1000000 in
theorem add_f {w0 : World} (h : PfAt B w0 T F) (hb : Below w0.heap.size w0 w) (hs : PsAt B w s S T.LO) (hf : ∀ k, MinePs s k → w0.heap.size ≤ k) (hmo : s.mb ≠ s.ob) (hg : S.g = false) :
    Calls Tryz.prog 63 #[.pointer (some ⟨T.s, 0, none⟩), .pointer (some ⟨s.sb, 0, none⟩)] w (AnsV B w0 T (addF F S)) := by
  obtain ⟨A, c, hv⟩ := h.ls.form
  have hn := (h.ptr hv).1
  have c0 : w.cell? ⟨T.s, 0, none⟩ = some T.vl := (h.call hb).c0
  unfold addF AnsV
  by_cases hl : 15 < F.L.length
  · rw [if_pos hl]
    have HD := Lib.hid (fun w' (hb' : Below w0.heap.size w0 w') => h.did hb')
    have hl' : (16 : Int) ≤ (F.L.length : Int) := by omega
    have HB := Lib.hid hb
    rw [hv, hn] at c0
    clear h hs hf hv hn hb hmo hg hl
    generalize F.L.length = n at *
    go_enter Tryz.func63, Tryz.ntmps63
    go_wp2
    go_ret2
    exact ⟨rfl, HD.out w HB.out⟩
  · rw [if_neg hl]
    obtain ⟨A5, c5, W5, r5, o5, g5, t5⟩ := (h.call hb).ls.app1 (h.call hb).lw (some s.sb) (by rw [List.length_map, h.nl]; omega) #[.pointer (some ⟨s.sb, 0, none⟩)] rfl
    obtain ⟨x0, xf, hD⟩ := h.more hb hs hf hmo hg g5 o5 (t5.imp id fun ⟨g, e, hg⟩ => ⟨g, e, Nat.le_trans hb.size hg⟩)
    have r5' := r5 _ rfl
    have top5 : Lrow W5 T.s 72 [T.vl, .int .i64 F.O.length] := (h.call hb).top.grown g5 (fun e => by
      obtain ⟨vs, r, _⟩ := (h.call hb).ls.block e.symm
      exact r.apart (h.call hb).top (by decide) rfl)
    obtain ⟨W6, hW6⟩ : ∃ W6, W6 = W5.setCell ⟨T.s, 0, none⟩ (.slice A5 ((T.LS.map fun o => o.map PsB.sb).length + 1) c5) := ⟨_, rfl⟩
    have x1 : W6.cell? ⟨T.s, 0, none⟩ = some (.slice A5 ((T.LS.map fun o => o.map PsB.sb).length + 1) c5) := by rw [hW6]; exact (top5.set_ 0 _).cell 0
    rw [← hW6] at hD
    rw [List.length_map, h.nl] at r5' x1 hW6
    rw [hv, hn] at c0 x0
    rw [hv] at r5'
    rw [hn] at r5'
    change (Builtin.append_ #[70, 70] 70 _).run Tryz.prog (w.alloc (.cells #[.pointer (some ⟨s.sb, 0, none⟩)] 64)) = _ at r5'
    have hl' : ¬ (16 : Int) ≤ (F.L.length : Int) := by omega
    have HW6 := Lib.hid hW6
    have HD := Lib.hid hD
    have e1 : IntKind.u64.wrap (IntKind.i64.wrap (IntKind.i64.wrap ((F.L.length : Int) + 1) - 1)) = (F.L.length : Int) := by
      rw [IntKind.wrap_u64, IntKind.wrap_i64, IntKind.wrap_i64]; omega
    clear h hs hf hv hn hb r5 o5 g5 t5 top5 hW6 hD hmo hg hl
    generalize F.L.length = n at *
    go_enter Tryz.func63, Tryz.ntmps63
    go_upto_region 4 with (at_builtin; refine wpList_append_run rfl _ _ 70 rfl _ _ rfl rfl r5' ?_)
    rw [← HW6.out]
    clear x0 xf r5' c0
    go_wp2_with fail
    go_ret2
    exact ⟨rfl, HD.out⟩
set_option maxRecDepth 100000 in
theorem spawn_f (h : PfAt B w T F) (k i a n hw p t c v : Int) :
    Calls Tryz.prog 39 #[.pointer (some ⟨T.s, 0, none⟩), .agg #[.int .i64 k, .int .i64 i, .int .i64 a, .int .i64 n, .int .i64 hw, .int .i64 p, .int .i64 t, .int .i64 c, .int .u64 v]] w (AnsV B w T (addF F zSp)) := by
  obtain ⟨W0, hW0⟩ : ∃ W0, W0 = w.alloc (.cells #[.int .i64 k, .int .i64 i, .int .i64 a, .int .i64 n, .int .i64 hw, .int .i64 p, .int .i64 t, .int .i64 c, .int .u64 v] 25) := ⟨_, rfl⟩
  have hb0 : Below w.heap.size w W0 := by rw [hW0]; exact below_new _ _
  have HB := Lib.hid hb0
  have HW := Lib.hid hW0
  have HH := Lib.hid h
  clear hb0 hW0 h
  obtain ⟨r, hr⟩ : ∃ r, r = addF F zSp := ⟨_, rfl⟩
  rw [← hr]
  have HR := Lib.hid hr
  clear hr
  obtain ⟨r1, r2, r3⟩ := r
  unfold AnsV
  dsimp only
  go_enter Tryz.func39, Tryz.ntmps39
  go_upto_region 1 with (fail)
  rw [← HW.out]
  go_wp2_with fail
  refine (new_pr _).mono ?_
  rintro e w1 ⟨xa, rfl, hx, hb1⟩
  obtain ⟨W4, hW4⟩ : ∃ W4, W4 = ((w1.alloc (.map #[] 0)).alloc (.map #[] 0)).alloc (.cells #[.pointer (some ⟨xa, 0, none⟩), .map (some w1.heap.size), .map (some (w1.heap.size + 1))] 90) := ⟨_, rfl⟩
  have ha1 : Below w1.heap.size w1 (w1.alloc (.map #[] 0)) := below_new _ _
  have z1 : (w1.alloc (.map #[] 0)).heap.size = w1.heap.size + 1 := World.size_alloc _ _
  have z2 : ((w1.alloc (.map #[] 0)).alloc (.map #[] 0)).heap.size = w1.heap.size + 2 := by rw [World.size_alloc, z1]
  have ha2 : Below (w1.heap.size + 1) (w1.alloc (.map #[] 0)) ((w1.alloc (.map #[] 0)).alloc (.map #[] 0)) := by rw [← z1]; exact below_new _ _
  have ha3 : Below (w1.heap.size + 2) ((w1.alloc (.map #[] 0)).alloc (.map #[] 0)) W4 := by rw [hW4, ← z2]; exact below_new _ _
  have b14 : Below w1.heap.size w1 W4 := (ha1.trans (ha2.mono (by omega))).trans (ha3.mono (by omega))
  have bw1 : Below w.heap.size w w1 := HB.out.trans (hb1.mono HB.out.size)
  have bw : Below w.heap.size w W4 := bw1.trans (b14.mono bw1.size)
  have hsz := bw1.size
  have hsb : Lrow W4 (w1.heap.size + 2) 90 [.pointer (some ⟨xa, 0, none⟩), .map (some w1.heap.size), .map (some (w1.heap.size + 1))] := by rw [hW4, ← z2]; exact Lrow.new _ _ _
  have hm : MemAt W4 w1.heap.size (fun _ => 0) := ((MemAt.new w1).heap (ha2.block _ (by omega))).heap (ha3.block _ (by omega))
  have ho : ObjAt W4 (w1.heap.size + 1) (fun _ => zP) T.LO := by
    have h0 := (MapTy.new (T := TN) (w1.alloc (.map #[] 0))).mono (Nat.zero_le T.LO.length)
    rw [z1] at h0
    exact ⟨fun _ => none, h0.heap (ha3.block _ (by omega)), fun i _ h => absurd rfl h, fun i h => absurd h not_shr0⟩
  have hps : PsAt B W4 ⟨w1.heap.size + 2, xa, w1.heap.size, w1.heap.size + 1, none, 0, []⟩ zSp T.LO :=
    ⟨hsb, (hx.call b14).base (Nat.le_trans HH.out.lw HB.out.size), hm, ho, by have := HH.out.lw; exact ⟨by show B ≤ w1.heap.size + 2; omega, by show B ≤ w1.heap.size; omega, by show B ≤ w1.heap.size + 1; omega⟩⟩
  have hadd := add_f HH.out bw hps (by
    rintro k (rfl | rfl | rfl | rfl)
    · show w.heap.size ≤ w1.heap.size + 2; omega
    · exact Nat.le_trans HB.out.size hx.lo
    · show w.heap.size ≤ w1.heap.size; omega
    · show w.heap.size ≤ w1.heap.size + 1; omega) (by show w1.heap.size ≠ w1.heap.size + 1; omega) rfl
  unfold AnsV at hadd
  rw [← HR.out] at hadd
  dsimp only at hadd
  have hmm := @run_makeMap Tryz.prog
  have HW4 := Lib.hid hW4
  clear hW4 hb1 hx ha1 z1 z2 ha2 ha3 b14 bw1 bw hsb hm ho hps hsz
  go_wp2_with fail
  rw [← HW4.out]
  refine hadd.mono ?_
  rintro e w5 ⟨rfl, hd⟩
  go_wp2_with fail
  go_ret2
  exact ⟨rfl, hd⟩
/-- One goes. -/
theorem exit_f (h : PfAt B w T F) (hs : T.LS[j]? = some (some s)) (k a n hw p t c v : Int) (hg : S'.g = true) :
    Calls Tryz.prog 46 #[.pointer (some ⟨T.s, 0, none⟩), .agg #[.int .i64 k, .int .i64 j, .int .i64 a, .int .i64 n, .int .i64 hw, .int .i64 p, .int .i64 t, .int .i64 c, .int .u64 v]] w (AnsV B w T (0, 0, put F j S')) := by
  obtain ⟨W0, hW0⟩ : ∃ W0, W0 = w.alloc (.cells #[.int .i64 k, .int .i64 j, .int .i64 a, .int .i64 n, .int .i64 hw, .int .i64 p, .int .i64 t, .int .i64 c, .int .u64 v] 25) := ⟨_, rfl⟩
  obtain ⟨bo, hbo⟩ : ∃ bo, bo = w.heap.size := ⟨_, rfl⟩
  have hb0 : Below w.heap.size w W0 := by rw [hW0]; exact below_new _ _
  have hr0 : Lrow W0 bo 25 [.int .i64 k, .int .i64 j, .int .i64 a, .int .i64 n, .int .i64 hw, .int .i64 p, .int .i64 t, .int .i64 c, .int .u64 v] := by rw [hW0, hbo]; exact Lrow.new w _ [.int .i64 k, .int .i64 j, .int .i64 a, .int .i64 n, .int .i64 hw, .int .i64 p, .int .i64 t, .int .i64 c, .int .u64 v]
  have h0 := h.call hb0
  obtain ⟨A, c', hv⟩ := h.ls.form
  obtain ⟨hn, hp⟩ := h0.ptr hv
  have hj : j < F.L.length := by rw [← h.nl]; exact (List.getElem?_eq_some_iff.1 hs).1
  obtain ⟨g, o, hA, ho, c1⟩ := hp j hj
  have c0 := h0.c0
  rw [hv, hn] at c0
  rw [hs] at ho
  injection ho with ho
  subst ho
  have c1 : W0.cell? ⟨g, j, none⟩ = some (.pointer (some ⟨s.sb, 0, none⟩)) := c1
  obtain ⟨f1, hd⟩ := h0.leave hs hv hA hg
  subst hA
  have o1 := hr0.cell 1
  obtain ⟨W2, hW2⟩ : ∃ W2, W2 = (W0.setCell ⟨g, j, none⟩ (.pointer none)).drew := ⟨_, rfl⟩
  have HD : Hid (DidV B w T (put F j S') W2) := by
    show DidV _ _ _ _ _
    rw [hW2]
    exact (hd.pre hb0).post (below_dN (Below.refl _ _) 1)
  have HW := Lib.hid (And.intro hW0 hbo)
  have HW2 := Lib.hid hW2
  have j0 : (0 : Int) ≤ j := by omega
  have j1 : (j : Int) < F.L.length := by omega
  clear h hs hb0 hr0 h0 hv hp hn hd hW0 hbo hW2 hj
  generalize F.L.length = m at *
  unfold AnsV
  go_enter Tryz.func46, Tryz.ntmps46
  go_upto_region 1 with (fail)
  rw [← HW.out.1, ← HW.out.2]
  go_region
  rw [← HW2.out]
  go_wp2
  go_ret2
  exact ⟨rfl, HD.out⟩
end
end Go.Proofs.YtnppnoabhpkmkaaGreat
/- The program's spaces: what is forgotten; OProtect, OZap. -/
namespace Go.Proofs.YtnppnoabhpkmkaaGreat
open Go.RowKit
theorem grown_none {w w' : World} (h : Below w.heap.size w w') : w.grownBy w' none := bel_grown h none
section
variable {w w' : World} {B bx : Nat} {T : PfT} {F F' : Fl} {s s' : PsB} {S S' : Sp} {j : Nat} {a n : Int}
set_option maxRecDepth 100000 in
theorem fg1_is {b1 b2 : Nat} (r1 : Lrow w b1 3 [.int .i64 a]) (r2 : Lrow w b2 3 [.int .i64 n]) (ha : 0 ≤ a) (hn : 0 ≤ n) (h4 : a + n ≤ 4096) (x v0 v1 v2 v3 v4 v5 v6 v7 : Int) :
    Calls Tryz.prog 93 #[.int .i64 x, .agg #[.int .u64 v0, .int .u64 v1, .int .u64 v2, .int .u64 v3, .int .u64 v4, .int .u64 v5, .int .u64 v6, .int .u64 v7], .pointer (some ⟨b1, 0, none⟩), .pointer (some ⟨b2, 0, none⟩)] w fun e w' => e = .returned (.bool (decide (a ≤ x) && decide (x < a + n))) ∧ w.grownBy w' none := by
  obtain ⟨W1, hW1⟩ : ∃ W1, W1 = w.alloc (.cells #[.int .u64 v0, .int .u64 v1, .int .u64 v2, .int .u64 v3, .int .u64 v4, .int .u64 v5, .int .u64 v6, .int .u64 v7] 96) := ⟨_, rfl⟩
  have hb1 : Below w.heap.size w W1 := by rw [hW1]; exact below_new _ _
  have c1 : W1.cell? ⟨b1, 0, none⟩ = some (.int .i64 a) := (r1.call hb1).cell 0
  have c2 : W1.cell? ⟨b2, 0, none⟩ = some (.int .i64 n) := (r2.call hb1).cell 0
  have HG := Lib.hid (grown_none hb1)
  have HW := Lib.hid hW1
  have s1 : IntKind.i64.wrap (a + n) = a + n := IntWalk.i64_in _ (by omega)
  clear r1 r2 hW1 hb1
  by_cases h1 : a ≤ x
  · rw [decide_eq_true h1, Bool.true_and]
    go_enter Tryz.func93, Tryz.ntmps93
    go_upto_region 1 with (fail)
    rw [← HW.out]
    go_wp2
    go_ret
    exact ⟨ret_bool (by rfl), HG.out⟩
  · rw [decide_eq_false h1, Bool.false_and]
    go_enter Tryz.func93, Tryz.ntmps93
    go_upto_region 1 with (fail)
    rw [← HW.out]
    go_wp2
    go_ret
    exact ⟨rfl, HG.out⟩
theorem forget_f {sb mb : Nat} {p o : Value} {W : Int → Int} (hr : Lrow w sb 90 [p, .map (some mb), o]) (hm : MemAt w mb W) (ha : 0 ≤ a) (hn : 0 ≤ n) (h4 : a + n ≤ 4096) :
    Calls Tryz.prog 68 #[.pointer (some ⟨sb, 0, none⟩), .int .i64 a, .int .i64 n] w fun e w' => e = .returned (.tuple #[]) ∧ w.grownBy w' (some mb) ∧ MemAt w' mb (clr W a n) := by
  obtain ⟨W1, hW1⟩ : ∃ W1, W1 = w.alloc (.cells #[.int .i64 a] 3) := ⟨_, rfl⟩
  obtain ⟨b1, hb1⟩ : ∃ b1, b1 = w.heap.size := ⟨_, rfl⟩
  obtain ⟨W2, hW2⟩ : ∃ W2, W2 = W1.alloc (.cells #[.int .i64 n] 3) := ⟨_, rfl⟩
  obtain ⟨b2, hb2⟩ : ∃ b2, b2 = W1.heap.size := ⟨_, rfl⟩
  have q1 : Below w.heap.size w W1 := by rw [hW1]; exact below_new _ _
  have q2 : Below W1.heap.size W1 W2 := by rw [hW2]; exact below_new _ _
  have r1 : Lrow W2 b1 3 [.int .i64 a] := by rw [hW1] at *; rw [hb1]; exact (Lrow.new w _ [.int .i64 a]).call q2
  have r2 : Lrow W2 b2 3 [.int .i64 n] := by rw [hW2, hb2]; exact Lrow.new W1 _ [.int .i64 n]
  have hm2 := (hm.call q1).call q2
  have t1 : W2.cell? ⟨sb, 1, none⟩ = some (.map (some mb)) := ((hr.call q1).call q2).cell 1
  have hdl := deleteM (g := 93) (cb := #[.pointer (some ⟨b1, 0, none⟩), .pointer (some ⟨b2, 0, none⟩)]) hm2 (fun x => decide (a ≤ x) && decide (x < a + n)) (fun args w => by kernel_rfl) (fun W' x hg _ _ => by
    have e1 := r1.grown hg (by intro e; injection e with e; exact hm2.apart r1 e)
    have e2 := r2.grown hg (by intro e; injection e with e; exact hm2.apart r2 e)
    exact fg1_is e1 e2 ha hn h4 x _ _ _ _ _ _ _ _)
  have HQ := Lib.hid (q1.trans (q2.mono q1.size))
  have hb3 : b2 = b1 + 1 := by rw [hb2, hW1, World.size_alloc, hb1]
  have HW := Lib.hid (And.intro hW1 (And.intro hb1 (And.intro hW2 hb3)))
  have hmf : ∀ (fn : Fn) (first cap : Array Value) (w : World), (Instr.makeFunc fn first cap).run Tryz.prog w = .ok (.func fn first cap) w := fun _ _ _ _ => rfl
  clear hr hm hW1 hb1 hW2 hb2 hb3 q1 q2 r1 r2 hm2
  go_enter Tryz.func68, Tryz.ntmps68
  go_upto_region 1 with (fail)
  rw [← HW.out.1, ← HW.out.2.1, ← HW.out.2.2.2, ← HW.out.2.2.1]
  go_wp2_with fail
  refine hdl.mono ?_
  rintro e w3 ⟨rfl, hm3, hg3⟩
  clear hdl
  go_wp2
  go_end0
  refine ⟨rfl, grown_trans1 (bel_grown HQ.out _) hg3, hm3.eq fun i _ _ => ?_⟩
  show (if _ then _ else _) = if _ then _ else _
  by_cases c : a * 8 ≤ i ∧ i < (a + n) * 8
  · rw [if_pos c, if_pos (by simp only [Bool.and_eq_true, decide_eq_true_eq]; omega)]
  · rw [if_neg c, if_neg (by simp only [Bool.and_eq_true, decide_eq_true_eq]; omega)]
/-- A space's areas have turned, or they have not. -/
theorem PsAt.areas (hp : PsAt B w s S T.LO) {Q : Int → Pg} (d : DidA B w s.ab Q w') : ∃ A c l, AtX B w' s.ab A c l Q ∧ Foot (fun k => k = s.ab ∨ k = s.mb ∨ k = s.ob) w w' ∧ Lrow w' s.sb 90 [.pointer (some ⟨s.ab, 0, none⟩), .map (some s.mb), .map (some s.ob)] ∧ MemAt w' s.mb S.W ∧ ObjAt w' s.ob S.P T.LO := by
  obtain ⟨⟨A, c, l, h1⟩, h2⟩ := d
  have kk : ∀ k, k < w.heap.size → k ≠ s.ab → w'.heap[k]? = w.heap[k]? := fun k hk hne => h2.keep k hk hne
  exact ⟨A, c, l, h1, h2.mono fun k e => Or.inl e, (kk _ hp.top.lt (hp.top.apart hp.ars.top (by decide))).trans hp.top, hp.own.heap (kk _ hp.own.lt fun e => hp.own.apart hp.ars.top e.symm), hp.obj.heap (kk _ hp.obj.lt fun e => hp.obj.apart hp.ars.top e.symm)⟩
/-- Only the areas' list has turned. -/
theorem PfAt.ars (h : PfAt B w T F) (hs : T.LS[j]? = some (some s)) {Q : Int → Pg} (d : DidA B w s.ab Q w') (hq : ∀ i, shr (Q i).h → ∃ i', shr ((sp F j).P i').h ∧ ((sp F j).P i').o = (Q i).o) : DidV B w T (put F j { sp F j with P := Q }) w' := by
  obtain ⟨gS, hp⟩ := h.at_ hs
  obtain ⟨A, c, l, h1, h2, h3, h4, h5⟩ := hp.areas d
  exact h.turn0 (s' := { s with A := A, c := c, l := l }) hs rfl rfl rfl rfl h2 ⟨h3, h1, h4, h5.pages hq, hp.lo⟩ gS
theorem put_same {F : Fl} {j : Nat} (hj : j < F.L.length) : put F j { sp F j with P := (sp F j).P } = F := by
  unfold put sp
  rw [Int.toNat_natCast, List.getD_eq_getElem?_getD, List.getElem?_eq_getElem hj]
  show ({ L := F.L.set j F.L[j], O := F.O } : Fl) = F
  rw [List.set_getElem_self]
/-! Deeds. -/
set_option maxRecDepth 100000 in
set_option maxHeartbeats 1000000 in
theorem protect_f (h : PfAt B w T F) (hs : T.LS[j]? = some (some s)) (ha : Fits a) (hn : Fits n) (k i hw p t c v : Int) :
    Calls Tryz.prog 42 #[.pointer (some ⟨s.sb, 0, none⟩), .agg #[.int .i64 k, .int .i64 i, .int .i64 a, .int .i64 n, .int .i64 hw, .int .i64 p, .int .i64 t, .int .i64 c, .int .u64 v]] w (AnsV B w T (if prE (sp F j).P a n p ≠ 0 then noF F (prE (sp F j).P a n p) else (0, 0, put F j { sp F j with P := prP (sp F j).P a n p }))) := by
  obtain ⟨gS, hp⟩ := h.at_ hs
  have hjF : j < F.L.length := by rw [← h.nl]; exact (List.getElem?_eq_some_iff.1 hs).1
  obtain ⟨W0, hW0⟩ : ∃ W0, W0 = w.alloc (.cells #[.int .i64 k, .int .i64 i, .int .i64 a, .int .i64 n, .int .i64 hw, .int .i64 p, .int .i64 t, .int .i64 c, .int .u64 v] 25) := ⟨_, rfl⟩
  obtain ⟨bo, hbo⟩ : ∃ bo, bo = w.heap.size := ⟨_, rfl⟩
  have hb0 : Below w.heap.size w W0 := by rw [hW0]; exact below_new _ _
  have hr0 : Lrow W0 bo 25 [.int .i64 k, .int .i64 i, .int .i64 a, .int .i64 n, .int .i64 hw, .int .i64 p, .int .i64 t, .int .i64 c, .int .u64 v] := by rw [hW0, hbo]; exact Lrow.new w _ [.int .i64 k, .int .i64 i, .int .i64 a, .int .i64 n, .int .i64 hw, .int .i64 p, .int .i64 t, .int .i64 c, .int .u64 v]
  have hp0 := hp.call hb0
  have HW := Lib.hid (And.intro hW0 hbo)
  have HB := Lib.hid hb0
  have HR := Lib.hid hr0
  have HP := Lib.hid hp0
  have HH := Lib.hid (And.intro h hs)
  have hpr := protect_pr (hp0.ars.drewN 1) ha hn (p := p)
  change Calls Tryz.prog _ _ W0.drew _ at hpr
  obtain ⟨E, hE⟩ : ∃ E, E = prE (sp F j).P a n p := ⟨_, rfl⟩
  rw [← hE] at hpr ⊢
  unfold ToldQ at hpr
  generalize (if E = 0 then pcs (sp F j).P a n.toNat else []) = ll at hpr
  generalize ll.length = ln at hpr
  have HD : Hid (∀ w1, DidA B W0.drew s.ab (if E = 0 then prP (sp F j).P a n p else (sp F j).P) w1 → DidV B w T (if E ≠ 0 then noF F E else (0, 0, put F j { sp F j with P := prP (sp F j).P a n p })).2.2 w1) := fun w1 d => by
    have d2 := d.pre (hb0.trans ((below_dN (Below.refl _ _) 1).mono hb0.size))
    by_cases c0 : E = 0
    · rw [if_pos c0] at d2
      rw [if_neg (by simpa using c0)]
      refine h.ars hs d2 fun i hi => ⟨i, ?_⟩
      obtain ⟨q1, q2, q3⟩ := prP_eq (sp F j).P a n p i
      rw [q1] at hi
      exact ⟨hi, q2.symm⟩
    · rw [if_neg c0] at d2
      rw [if_pos c0]
      have := h.ars hs d2 fun i hi => ⟨i, hi, rfl⟩
      rw [put_same hjF] at this
      exact this
  have HA : Hid ((if E ≠ 0 then noF F E else (0, 0, put F j { sp F j with P := prP (sp F j).P a n p })).1 = E ∧ (if E ≠ 0 then noF F E else (0, 0, put F j { sp F j with P := prP (sp F j).P a n p })).2.1 = 0) := by
    by_cases c0 : E = 0
    · show _ ∧ _
      rw [if_neg (by simpa using c0)]; exact ⟨c0.symm, rfl⟩
    · show _ ∧ _
      rw [if_pos c0]; exact ⟨rfl, rfl⟩
  unfold AnsV
  obtain ⟨R, hR⟩ : ∃ R, R = (if E ≠ 0 then noF F E else (0, 0, put F j { sp F j with P := prP (sp F j).P a n p })) := ⟨_, rfl⟩
  rw [← hR] at HD HA ⊢
  obtain ⟨R1, R2, R3⟩ := R
  dsimp only at HD HA ⊢
  obtain ⟨hA1, hA2⟩ := HA.out
  subst hA1 hA2
  clear h hs ha hn hp hjF hW0 hbo hb0 hr0 hp0 hE hR HA gS
  go_enter Tryz.func42, Tryz.ntmps42
  go_upto_region 1 with (fail)
  rw [← HW.out.1, ← HW.out.2]
  have hs0 : (fun U : World => U.cell? ⟨s.sb, 0, none⟩ = some (.pointer (some ⟨s.ab, 0, none⟩)) ∧ U.cell? ⟨bo, 2, none⟩ = some (.int .i64 a) ∧ U.cell? ⟨bo, 3, none⟩ = some (.int .i64 n) ∧ U.cell? ⟨bo, 5, none⟩ = some (.int .i64 p)) W0.drew := ⟨HP.out.top.cell 0, HR.out.cell 2, HR.out.cell 3, HR.out.cell 5⟩
  go_wp2_with fail
  go_region_held3 (fun U => U.cell? ⟨s.sb, 0, none⟩ = some (.pointer (some ⟨s.ab, 0, none⟩)) ∧ U.cell? ⟨bo, 2, none⟩ = some (.int .i64 a) ∧ U.cell? ⟨bo, 3, none⟩ = some (.int .i64 n) ∧ U.cell? ⟨bo, 5, none⟩ = some (.int .i64 p))
    (first | exact hs0 | exact hs9)
    (first | (go_at_call 70; (with_reducible refine hpr.mono ?_); rintro e w1 ⟨A1, c1, rfl, ho1, hd1⟩; have f1 := hd1.2; have r1 := f1.row (HR.out.drewN 1) (HR.out.apart HP.out.ars.top (by decide)); have t1 := f1.row (HP.out.top.drewN 1) (HP.out.top.apart HP.out.ars.top (by decide)); have hs9 : (fun U : World => U.cell? ⟨s.sb, 0, none⟩ = some (.pointer (some ⟨s.ab, 0, none⟩)) ∧ U.cell? ⟨bo, 2, none⟩ = some (.int .i64 a) ∧ U.cell? ⟨bo, 3, none⟩ = some (.int .i64 n) ∧ U.cell? ⟨bo, 5, none⟩ = some (.int .i64 p)) w1 := ⟨t1.cell 0, r1.cell 2, r1.cell 3, r1.cell 5⟩) | fail)
  all_goals
    go_wp2_with fail
    go_ret2
    exact ⟨rfl, HD.out w1 hd1⟩
set_option maxRecDepth 100000 in
set_option maxHeartbeats 1000000 in
theorem zap_rt (h : PfAt B w T F) (hs : T.LS[j]? = some (some s)) (ha : Fits a) (hn : Fits n) (k i hw p t c v : Int) (hE : rtI a n 0 ≠ 0) :
    Calls Tryz.prog 43 #[.pointer (some ⟨s.sb, 0, none⟩), .agg #[.int .i64 k, .int .i64 i, .int .i64 a, .int .i64 n, .int .i64 hw, .int .i64 p, .int .i64 t, .int .i64 c, .int .u64 v]] w (AnsV B w T (noF F (rtI a n 0))) := by
  obtain ⟨gS, hp⟩ := h.at_ hs
  have hjF : j < F.L.length := by rw [← h.nl]; exact (List.getElem?_eq_some_iff.1 hs).1
  obtain ⟨W0, hW0⟩ : ∃ W0, W0 = w.alloc (.cells #[.int .i64 k, .int .i64 i, .int .i64 a, .int .i64 n, .int .i64 hw, .int .i64 p, .int .i64 t, .int .i64 c, .int .u64 v] 25) := ⟨_, rfl⟩
  obtain ⟨bo, hbo⟩ : ∃ bo, bo = w.heap.size := ⟨_, rfl⟩
  have hb0 : Below w.heap.size w W0 := by rw [hW0]; exact below_new _ _
  have hr0 : Lrow W0 bo 25 [.int .i64 k, .int .i64 i, .int .i64 a, .int .i64 n, .int .i64 hw, .int .i64 p, .int .i64 t, .int .i64 c, .int .u64 v] := by rw [hW0, hbo]; exact Lrow.new w _ [.int .i64 k, .int .i64 i, .int .i64 a, .int .i64 n, .int .i64 hw, .int .i64 p, .int .i64 t, .int .i64 c, .int .u64 v]
  have hp0 := hp.call hb0
  have HW := Lib.hid (And.intro hW0 hbo)
  have HB := Lib.hid hb0
  have HR := Lib.hid hr0
  have HP := Lib.hid hp0
  have HH := Lib.hid (And.intro h hs)
  have hri := fun w => right_any a n 0 ha.1 ha.2 hn.1 hn.2 w
  have HD := Lib.hid (h.did hb0)
  obtain ⟨E, hEE⟩ : ∃ E, E = rtI a n 0 := ⟨_, rfl⟩
  rw [← hEE] at hE hri ⊢
  have e0 : (E == 0) = false := by simpa using hE
  have o2 := hr0.cell 2
  have o3 := hr0.cell 3
  unfold AnsV noF
  clear h hs ha hn hp hjF hW0 hbo hb0 hr0 hp0 gS hE hEE
  go_enter Tryz.func43, Tryz.ntmps43
  go_upto_region 1 with (fail)
  rw [← HW.out.1, ← HW.out.2]
  go_wp2_with (go_at_call 71; (with_reducible refine (hri _).mono ?_); rintro e w1 ⟨rfl, rfl⟩)
  go_ret2
  exact ⟨rfl, HD.out⟩
set_option maxRecDepth 100000 in
set_option maxHeartbeats 1000000 in
theorem zap_nc (h : PfAt B w T F) (hs : T.LS[j]? = some (some s)) (ha : Fits a) (hn : Fits n) (k i hw p t c v : Int) (hR : rtI a n 0 = 0) (hC : covB (sp F j).P a n.toNat = false) :
    Calls Tryz.prog 43 #[.pointer (some ⟨s.sb, 0, none⟩), .agg #[.int .i64 k, .int .i64 i, .int .i64 a, .int .i64 n, .int .i64 hw, .int .i64 p, .int .i64 t, .int .i64 c, .int .u64 v]] w (AnsV B w T (noF F 6)) := by
  obtain ⟨gS, hp⟩ := h.at_ hs
  have hjF : j < F.L.length := by rw [← h.nl]; exact (List.getElem?_eq_some_iff.1 hs).1
  obtain ⟨W0, hW0⟩ : ∃ W0, W0 = w.alloc (.cells #[.int .i64 k, .int .i64 i, .int .i64 a, .int .i64 n, .int .i64 hw, .int .i64 p, .int .i64 t, .int .i64 c, .int .u64 v] 25) := ⟨_, rfl⟩
  obtain ⟨bo, hbo⟩ : ∃ bo, bo = w.heap.size := ⟨_, rfl⟩
  have hb0 : Below w.heap.size w W0 := by rw [hW0]; exact below_new _ _
  have hr0 : Lrow W0 bo 25 [.int .i64 k, .int .i64 i, .int .i64 a, .int .i64 n, .int .i64 hw, .int .i64 p, .int .i64 t, .int .i64 c, .int .u64 v] := by rw [hW0, hbo]; exact Lrow.new w _ [.int .i64 k, .int .i64 i, .int .i64 a, .int .i64 n, .int .i64 hw, .int .i64 p, .int .i64 t, .int .i64 c, .int .u64 v]
  have hp0 := hp.call hb0
  have HW := Lib.hid (And.intro hW0 hbo)
  have HB := Lib.hid hb0
  have HR := Lib.hid hr0
  have HP := Lib.hid hp0
  have HH := Lib.hid (And.intro h hs)
  have hri := fun w => right_any a n 0 ha.1 ha.2 hn.1 hn.2 w
  rw [hR] at hri
  obtain ⟨z1, z2, z3⟩ := rt_in hR
  obtain ⟨a, rfl⟩ : ∃ k : Nat, a = k := ⟨a.toNat, by omega⟩
  obtain ⟨n, rfl⟩ : ∃ k : Nat, n = k := ⟨n.toNat, by omega⟩
  have hcv := covers_ok (hp0.ars.drewN 1) hR
  change Calls Tryz.prog _ _ W0.drew _ at hcv
  rw [Int.toNat_natCast] at hC
  have HD := Lib.hid (fun w1 (d : Below w.heap.size w w1) => h.did d)
  clear h hs ha hn hp hjF hW0 hbo hb0 gS z1 z2 z3
  rw [hC] at hcv
  have o2 := hr0.cell 2
  have o3 := hr0.cell 3
  unfold AnsV noF
  go_enter Tryz.func43, Tryz.ntmps43
  go_upto_region 1 with (fail)
  rw [← HW.out.1, ← HW.out.2]
  go_wp2_with (go_at_call 71; (with_reducible refine (hri _).mono ?_); rintro e w1 ⟨rfl, rfl⟩)
  have hs0 : (fun U : World => U.cell? ⟨s.sb, 0, none⟩ = some (.pointer (some ⟨s.ab, 0, none⟩)) ∧ U.cell? ⟨bo, 2, none⟩ = some (.int .i64 a) ∧ U.cell? ⟨bo, 3, none⟩ = some (.int .i64 n)) W0.drew := ⟨hp0.top.cell 0, hr0.cell 2, hr0.cell 3⟩
  have HS0 := Lib.hid (And.intro hp0 hr0)
  clear hp0 hr0
  go_wp2_with fail
  go_region_held3 (fun U => U.cell? ⟨s.sb, 0, none⟩ = some (.pointer (some ⟨s.ab, 0, none⟩)) ∧ U.cell? ⟨bo, 2, none⟩ = some (.int .i64 a) ∧ U.cell? ⟨bo, 3, none⟩ = some (.int .i64 n))
    (first | exact hs0 | exact hs9)
    (first | (go_at_call 72; (with_reducible refine hcv.mono ?_); rintro e w1 ⟨rfl, hb9⟩; have hp9 := (HS0.out.1.call (below_dN (Below.refl _ _) 1)).call hb9; have hr9 := (HS0.out.2.drewN 1).call hb9; have hs9 : (fun U : World => U.cell? ⟨s.sb, 0, none⟩ = some (.pointer (some ⟨s.ab, 0, none⟩)) ∧ U.cell? ⟨bo, 2, none⟩ = some (.int .i64 a) ∧ U.cell? ⟨bo, 3, none⟩ = some (.int .i64 n)) w1 := ⟨hp9.top.cell 0, hr9.cell 2, hr9.cell 3⟩) | fail)
  have HB9 := Lib.hid (HB.out.trans ((below_dN (Below.refl _ _) 1).mono HB.out.size |>.trans (hb9.mono HB.out.size)))
  clear hb9 hp9 hr9 hs9 hs0 hcv
  go_wp2_with fail
  go_ret2
  exact ⟨rfl, HD.out _ HB9.out⟩
set_option maxRecDepth 100000 in
set_option maxHeartbeats 1000000 in
theorem zap_cu (h : PfAt B w T F) (hs : T.LS[j]? = some (some s)) (ha : Fits a) (hn : Fits n) (k i hw p t c v : Int) (hR : rtI a n 0 = 0) (hC : covB (sp F j).P a n.toNat = true) (hU : cutsB (sp F j).P a n = true) :
    Calls Tryz.prog 43 #[.pointer (some ⟨s.sb, 0, none⟩), .agg #[.int .i64 k, .int .i64 i, .int .i64 a, .int .i64 n, .int .i64 hw, .int .i64 p, .int .i64 t, .int .i64 c, .int .u64 v]] w (AnsV B w T (noF F 2)) := by
  obtain ⟨gS, hp⟩ := h.at_ hs
  have hjF : j < F.L.length := by rw [← h.nl]; exact (List.getElem?_eq_some_iff.1 hs).1
  obtain ⟨W0, hW0⟩ : ∃ W0, W0 = w.alloc (.cells #[.int .i64 k, .int .i64 i, .int .i64 a, .int .i64 n, .int .i64 hw, .int .i64 p, .int .i64 t, .int .i64 c, .int .u64 v] 25) := ⟨_, rfl⟩
  obtain ⟨bo, hbo⟩ : ∃ bo, bo = w.heap.size := ⟨_, rfl⟩
  have hb0 : Below w.heap.size w W0 := by rw [hW0]; exact below_new _ _
  have hr0 : Lrow W0 bo 25 [.int .i64 k, .int .i64 i, .int .i64 a, .int .i64 n, .int .i64 hw, .int .i64 p, .int .i64 t, .int .i64 c, .int .u64 v] := by rw [hW0, hbo]; exact Lrow.new w _ [.int .i64 k, .int .i64 i, .int .i64 a, .int .i64 n, .int .i64 hw, .int .i64 p, .int .i64 t, .int .i64 c, .int .u64 v]
  have hp0 := hp.call hb0
  have HW := Lib.hid (And.intro hW0 hbo)
  have HB := Lib.hid hb0
  have HR := Lib.hid hr0
  have HP := Lib.hid hp0
  have HH := Lib.hid (And.intro h hs)
  have hri := fun w => right_any a n 0 ha.1 ha.2 hn.1 hn.2 w
  rw [hR] at hri
  obtain ⟨z1, z2, z3⟩ := rt_in hR
  obtain ⟨a, rfl⟩ : ∃ k : Nat, a = k := ⟨a.toNat, by omega⟩
  obtain ⟨n, rfl⟩ : ∃ k : Nat, n = k := ⟨n.toNat, by omega⟩
  have hcv := covers_ok (hp0.ars.drewN 1) hR
  change Calls Tryz.prog _ _ W0.drew _ at hcv
  rw [Int.toNat_natCast] at hC
  have HD := Lib.hid (fun w1 (d : Below w.heap.size w w1) => h.did d)
  have HRR := Lib.hid hR
  have HCC : Hid (cutsB (sp F j).P a n = true) := hU
  clear h hs ha hn hp hjF hW0 hbo hb0 gS z1 z2 z3 hU
  rw [hC] at hcv
  have o2 := hr0.cell 2
  have o3 := hr0.cell 3
  unfold AnsV noF
  go_enter Tryz.func43, Tryz.ntmps43
  go_upto_region 1 with (fail)
  rw [← HW.out.1, ← HW.out.2]
  go_wp2_with (go_at_call 71; (with_reducible refine (hri _).mono ?_); rintro e w1 ⟨rfl, rfl⟩)
  have hs0 : (fun U : World => U.cell? ⟨s.sb, 0, none⟩ = some (.pointer (some ⟨s.ab, 0, none⟩)) ∧ U.cell? ⟨bo, 2, none⟩ = some (.int .i64 a) ∧ U.cell? ⟨bo, 3, none⟩ = some (.int .i64 n)) W0.drew := ⟨hp0.top.cell 0, hr0.cell 2, hr0.cell 3⟩
  have HS0 := Lib.hid (And.intro hp0 hr0)
  clear hp0 hr0
  go_wp2_with fail
  go_region_held3 (fun U => U.cell? ⟨s.sb, 0, none⟩ = some (.pointer (some ⟨s.ab, 0, none⟩)) ∧ U.cell? ⟨bo, 2, none⟩ = some (.int .i64 a) ∧ U.cell? ⟨bo, 3, none⟩ = some (.int .i64 n))
    (first | exact hs0 | exact hs9)
    (first | (go_at_call 72; (with_reducible refine hcv.mono ?_); rintro e w1 ⟨rfl, hb9⟩; have hp9 := (HS0.out.1.call (below_dN (Below.refl _ _) 1)).call hb9; have hr9 := (HS0.out.2.drewN 1).call hb9; have hs9 : (fun U : World => U.cell? ⟨s.sb, 0, none⟩ = some (.pointer (some ⟨s.ab, 0, none⟩)) ∧ U.cell? ⟨bo, 2, none⟩ = some (.int .i64 a) ∧ U.cell? ⟨bo, 3, none⟩ = some (.int .i64 n)) w1 := ⟨hp9.top.cell 0, hr9.cell 2, hr9.cell 3⟩) | fail)
  have hp1 := hp9
  have hr1 := hr9
  have HB9 : Hid (Below w.heap.size w w1) := HB.out.trans ((below_dN (Below.refl _ _) 1).mono HB.out.size |>.trans (hb9.mono HB.out.size))
  have hcu := cuts_pr (hp1.ars.drewN 1) HRR.out
  change Calls Tryz.prog _ _ w1.drew _ at hcu
  rw [HCC.out] at hcu
  clear hb9 hp9 hr9 hs9 hs0 hcv
  have hs0 : (fun U : World => U.cell? ⟨s.sb, 0, none⟩ = some (.pointer (some ⟨s.ab, 0, none⟩)) ∧ U.cell? ⟨bo, 2, none⟩ = some (.int .i64 a) ∧ U.cell? ⟨bo, 3, none⟩ = some (.int .i64 n)) w1.drew := ⟨hp1.top.cell 0, hr1.cell 2, hr1.cell 3⟩
  have HS1 := Lib.hid (And.intro hp1 hr1)
  clear hp1 hr1
  go_wp2_with fail
  go_region_held3 (fun U => U.cell? ⟨s.sb, 0, none⟩ = some (.pointer (some ⟨s.ab, 0, none⟩)) ∧ U.cell? ⟨bo, 2, none⟩ = some (.int .i64 a) ∧ U.cell? ⟨bo, 3, none⟩ = some (.int .i64 n))
    (first | exact hs0 | exact hs9)
    (first | (go_at_call 73; (with_reducible refine hcu.mono ?_); rintro e w2 ⟨rfl, hb9⟩; have hp9 := (HS1.out.1.call (below_dN (Below.refl _ _) 1)).call hb9; have hr9 := (HS1.out.2.drewN 1).call hb9; have hs9 : (fun U : World => U.cell? ⟨s.sb, 0, none⟩ = some (.pointer (some ⟨s.ab, 0, none⟩)) ∧ U.cell? ⟨bo, 2, none⟩ = some (.int .i64 a) ∧ U.cell? ⟨bo, 3, none⟩ = some (.int .i64 n)) w2 := ⟨hp9.top.cell 0, hr9.cell 2, hr9.cell 3⟩) | fail)
  have HB3 := Lib.hid (HB9.out.trans ((below_dN (Below.refl _ _) 1).mono HB9.out.size |>.trans (hb9.mono HB9.out.size)))
  clear hb9 hp9 hr9 hs9 hs0 hcu
  go_wp2_with fail
  go_ret2
  exact ⟨rfl, HD.out _ HB3.out⟩
set_option maxRecDepth 100000 in
set_option maxHeartbeats 1000000 in
theorem zap_ok (h : PfAt B w T F) (hs : T.LS[j]? = some (some s)) (ha : Fits a) (hn : Fits n) (k i hw p t c v : Int) (hR : rtI a n 0 = 0) (hC : covB (sp F j).P a n.toNat = true) (hU : cutsB (sp F j).P a n = false) :
    Calls Tryz.prog 43 #[.pointer (some ⟨s.sb, 0, none⟩), .agg #[.int .i64 k, .int .i64 i, .int .i64 a, .int .i64 n, .int .i64 hw, .int .i64 p, .int .i64 t, .int .i64 c, .int .u64 v]] w (AnsV B w T (0, 0, put F j { sp F j with W := clr (sp F j).W a n })) := by
  obtain ⟨gS, hp⟩ := h.at_ hs
  have hjF : j < F.L.length := by rw [← h.nl]; exact (List.getElem?_eq_some_iff.1 hs).1
  obtain ⟨W0, hW0⟩ : ∃ W0, W0 = w.alloc (.cells #[.int .i64 k, .int .i64 i, .int .i64 a, .int .i64 n, .int .i64 hw, .int .i64 p, .int .i64 t, .int .i64 c, .int .u64 v] 25) := ⟨_, rfl⟩
  obtain ⟨bo, hbo⟩ : ∃ bo, bo = w.heap.size := ⟨_, rfl⟩
  have hb0 : Below w.heap.size w W0 := by rw [hW0]; exact below_new _ _
  have hr0 : Lrow W0 bo 25 [.int .i64 k, .int .i64 i, .int .i64 a, .int .i64 n, .int .i64 hw, .int .i64 p, .int .i64 t, .int .i64 c, .int .u64 v] := by rw [hW0, hbo]; exact Lrow.new w _ [.int .i64 k, .int .i64 i, .int .i64 a, .int .i64 n, .int .i64 hw, .int .i64 p, .int .i64 t, .int .i64 c, .int .u64 v]
  have hp0 := hp.call hb0
  have HW := Lib.hid (And.intro hW0 hbo)
  have HB := Lib.hid hb0
  have HR := Lib.hid hr0
  have HP := Lib.hid hp0
  have HH := Lib.hid (And.intro h hs)
  have hri := fun w => right_any a n 0 ha.1 ha.2 hn.1 hn.2 w
  rw [hR] at hri
  obtain ⟨z1, z2, z3⟩ := rt_in hR
  obtain ⟨a, rfl⟩ : ∃ k : Nat, a = k := ⟨a.toNat, by omega⟩
  obtain ⟨n, rfl⟩ : ∃ k : Nat, n = k := ⟨n.toNat, by omega⟩
  have hcv := covers_ok (hp0.ars.drewN 1) hR
  change Calls Tryz.prog _ _ W0.drew _ at hcv
  rw [Int.toNat_natCast] at hC
  have HD : Hid (∀ w2 w3, Below w.heap.size w w2 → w2.grownBy w3 (some s.mb) → MemAt w3 s.mb (clr (sp F j).W a n) → DidV B w T (put F j { sp F j with W := clr (sp F j).W a n }) w3) := fun w2 w3 b2 g3 m3 => by
    have hp2 := hp.call b2
    have kk : ∀ k, k < w2.heap.size → k ≠ s.mb → w3.heap[k]? = w2.heap[k]? := fun k hk hne => g3.block k hk (by intro e; injection e with e; exact hne e)
    exact ((h.call b2).turn0 (s' := s) (S' := { sp F j with W := clr (sp F j).W a n }) hs rfl rfl rfl rfl (Foot.grown g3 (Or.inr (Or.inl rfl))) ⟨(kk _ hp2.top.lt (hp2.own.apart hp2.top)).trans hp2.top, hp2.ars.keep g3.size (kk _ hp2.ars.top.lt (hp2.own.apart hp2.ars.top)) (fun k vs r => kk k r.lt (hp2.own.apart r)), m3, hp2.obj.heap (kk _ hp2.obj.lt fun e => (h.dM j s hs).1 e.symm), hp2.lo⟩ gS).pre b2
  have HRR := Lib.hid hR
  have HCC : Hid (cutsB (sp F j).P a n = false) := hU
  have HZ : Hid ((0 : Int) ≤ a ∧ (0 : Int) ≤ n ∧ (a : Int) + n ≤ 4096) := ⟨by omega, by omega, by omega⟩
  clear h hs ha hn hp hjF hW0 hbo hb0 gS z1 z2 z3 hU
  rw [hC] at hcv
  have o2 := hr0.cell 2
  have o3 := hr0.cell 3
  unfold AnsV
  go_enter Tryz.func43, Tryz.ntmps43
  go_upto_region 1 with (fail)
  rw [← HW.out.1, ← HW.out.2]
  go_wp2_with (go_at_call 71; (with_reducible refine (hri _).mono ?_); rintro e w1 ⟨rfl, rfl⟩)
  have hs0 : (fun U : World => U.cell? ⟨s.sb, 0, none⟩ = some (.pointer (some ⟨s.ab, 0, none⟩)) ∧ U.cell? ⟨bo, 2, none⟩ = some (.int .i64 a) ∧ U.cell? ⟨bo, 3, none⟩ = some (.int .i64 n)) W0.drew := ⟨hp0.top.cell 0, hr0.cell 2, hr0.cell 3⟩
  have HS0 := Lib.hid (And.intro hp0 hr0)
  clear hp0 hr0
  go_wp2_with fail
  go_region_held3 (fun U => U.cell? ⟨s.sb, 0, none⟩ = some (.pointer (some ⟨s.ab, 0, none⟩)) ∧ U.cell? ⟨bo, 2, none⟩ = some (.int .i64 a) ∧ U.cell? ⟨bo, 3, none⟩ = some (.int .i64 n))
    (first | exact hs0 | exact hs9)
    (first | (go_at_call 72; (with_reducible refine hcv.mono ?_); rintro e w1 ⟨rfl, hb9⟩; have hp9 := (HS0.out.1.call (below_dN (Below.refl _ _) 1)).call hb9; have hr9 := (HS0.out.2.drewN 1).call hb9; have hs9 : (fun U : World => U.cell? ⟨s.sb, 0, none⟩ = some (.pointer (some ⟨s.ab, 0, none⟩)) ∧ U.cell? ⟨bo, 2, none⟩ = some (.int .i64 a) ∧ U.cell? ⟨bo, 3, none⟩ = some (.int .i64 n)) w1 := ⟨hp9.top.cell 0, hr9.cell 2, hr9.cell 3⟩) | fail)
  have hp1 := hp9
  have hr1 := hr9
  have HB9 : Hid (Below w.heap.size w w1) := HB.out.trans ((below_dN (Below.refl _ _) 1).mono HB.out.size |>.trans (hb9.mono HB.out.size))
  have hcu := cuts_pr (hp1.ars.drewN 1) HRR.out
  change Calls Tryz.prog _ _ w1.drew _ at hcu
  rw [HCC.out] at hcu
  clear hb9 hp9 hr9 hs9 hs0 hcv
  have hs0 : (fun U : World => U.cell? ⟨s.sb, 0, none⟩ = some (.pointer (some ⟨s.ab, 0, none⟩)) ∧ U.cell? ⟨bo, 2, none⟩ = some (.int .i64 a) ∧ U.cell? ⟨bo, 3, none⟩ = some (.int .i64 n)) w1.drew := ⟨hp1.top.cell 0, hr1.cell 2, hr1.cell 3⟩
  have HS1 := Lib.hid (And.intro hp1 hr1)
  clear hp1 hr1
  go_wp2_with fail
  go_region_held3 (fun U => U.cell? ⟨s.sb, 0, none⟩ = some (.pointer (some ⟨s.ab, 0, none⟩)) ∧ U.cell? ⟨bo, 2, none⟩ = some (.int .i64 a) ∧ U.cell? ⟨bo, 3, none⟩ = some (.int .i64 n))
    (first | exact hs0 | exact hs9)
    (first | (go_at_call 73; (with_reducible refine hcu.mono ?_); rintro e w2 ⟨rfl, hb9⟩; have hp9 := (HS1.out.1.call (below_dN (Below.refl _ _) 1)).call hb9; have hr9 := (HS1.out.2.drewN 1).call hb9; have hs9 : (fun U : World => U.cell? ⟨s.sb, 0, none⟩ = some (.pointer (some ⟨s.ab, 0, none⟩)) ∧ U.cell? ⟨bo, 2, none⟩ = some (.int .i64 a) ∧ U.cell? ⟨bo, 3, none⟩ = some (.int .i64 n)) w2 := ⟨hp9.top.cell 0, hr9.cell 2, hr9.cell 3⟩) | fail)
  have HB3 : Hid (Below w.heap.size w w2) := HB9.out.trans ((below_dN (Below.refl _ _) 1).mono HB9.out.size |>.trans (hb9.mono HB9.out.size))
  have hfo := forget_f hp9.top hp9.own HZ.out.1 HZ.out.2.1 HZ.out.2.2
  have o2 := hr9.cell 2
  have o3 := hr9.cell 3
  clear hb9 hp9 hr9 hs9 hs0 hcu
  go_wp2_with fail
  refine hfo.mono ?_
  rintro e w3 ⟨rfl, g3, m3⟩
  clear hfo o2 o3
  go_wp2_with fail
  go_ret2
  exact ⟨rfl, HD.out w2 w3 HB3.out g3 m3⟩
end
end Go.Proofs.YtnppnoabhpkmkaaGreat
