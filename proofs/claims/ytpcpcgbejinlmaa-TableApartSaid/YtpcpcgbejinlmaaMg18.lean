/- Plain facts of package table, without the program: a word turns, a table is hung in, a table is taken out; tables that are zeroed. -/
import Derived.Test.YtpcpcgbejinlmaaMg17
import Derived.Test.YtpcpcgbejinlmaaMg12
namespace Go.Proofs.Ytpcpcgbejinlmaa
open Go.RowKit
theorem wd_put {ws : List Int} {t v : Int} {b : Nat} (hi : inT ws.length t (b : Int) = true) : One ws (ptL ws t (b : Int) 0 v) t b v := by
  obtain ⟨a, _, e, _⟩ := inT_nat hi
  exact wd_set hi e rfl
section
variable {ws ws' L L' : List Int} {p r q u y : Int} {i v : Nat}
theorem nod_keep (h : One ws ws' u i y) : ∀ (l : Nat) (t : Int), nod ws p l t v = some u → (tabs ws l t).Nodup → nod ws' p l t v = some u := by
  intro l
  induction l with
  | zero => intro t hn _; exact hn
  | succ l ih =>
    intro t hn hd
    by_cases hv : v = l + 1
    · subst hv; rw [nod_here] at hn ⊢; exact hn
    · obtain ⟨k0, hk08, hk0, hs, hn', htu, hd', hoff⟩ := nod_facts hd hn hv
      unfold nod
      rw [if_neg hv, hk0, h.else_ t k0 hk08 (fun e => htu e.1), h.ff, if_pos hs]
      exact ih _ hn' hd'
theorem nod_next : ∀ (l : Nat) (t : Int), nod ws p l t (v + 1) = some u → say (FF ws) ((v + 1 : Nat) : Int) (wd ws u (dg p (v + 1))) = 2 → nod ws p l t v = some (unF (wd ws u (dg p (v + 1)))) := by
  intro l
  induction l with
  | zero =>
    intro t hn _
    have := (nod_mem 0 t _ u hn).1
    omega
  | succ l ih =>
    intro t hn hs
    by_cases hv : v + 1 = l + 1
    · obtain rfl : v = l := by omega
      rw [nod_here] at hn
      injection hn with hn
      subst hn
      unfold nod
      rw [if_neg (by omega), if_pos hs]
      exact nod_here ..
    · obtain ⟨hs0, hn'⟩ := nod_down hn hv
      have := (nod_mem l _ _ u hn').1
      unfold nod
      rw [if_neg (by omega), if_pos hs0]
      exact ih _ hn' hs
theorem Inv.perm (h : Inv ws L r q) (hp : L.Perm L') : Inv ws L' r q ∧ (allF ws L r q).Perm (allF ws L' r q) :=
  ⟨⟨h.len, h.gr, h.gq, (hp.append_right _).nodup_iff.1 h.nd, fun f hf => h.fr f (hp.mem_iff.2 hf)⟩, hp.append_right _⟩
def Stp (ws L ws' L' : List Int) (r q : Int) : Prop := Inv ws' L' r q ∧ (allF ws L r q).Perm (allF ws' L' r q) ∧ SameOn ws ws' (tabs ws 3 q)
theorem Stp.refl (h : Inv ws L r q) : Stp ws L ws L r q := ⟨h, List.Perm.refl _, rfl, fun _ _ _ _ => rfl⟩
theorem Stp.trans {ws'' L'' : List Int} (h : Stp ws L ws' L' r q) (k : Stp ws' L' ws'' L'' r q) : Stp ws L ws'' L'' r q := by
  refine ⟨k.1, h.2.1.trans k.2.1, ?_⟩
  have e := tabs_same 3 q h.2.2
  have k2 := k.2.2
  rw [e] at k2
  exact ⟨k2.1.trans h.2.2.1, fun u hu i hi => (k2.2 u hu i hi).trans (h.2.2.2 u hu i hi)⟩
theorem Stp.perm {L'' : List Int} (h : Stp ws L ws' L' r q) (hp : L'.Perm L'') : Stp ws L ws' L'' r q := by
  obtain ⟨a, b⟩ := h.1.perm hp
  exact ⟨a, h.2.1.trans b, h.2.2⟩
theorem Inv.turn (h : Inv ws L r q) (hn : nod ws p 3 r v = some u) (hold : say (FF ws) (v : Int) (wd ws u (dg p v)) ≠ 2) (hnew : say (FF ws) (v : Int) y ≠ 0 ∧ say (FF ws) (v : Int) y ≠ 2) :
    Stp ws L (ptL ws u (dg p v) 0 y) L r q := by
  obtain ⟨i, hi, hi8⟩ := dg_nat p v
  have hu := (nod_mem 3 r v u hn).2
  have hin := h.inT hu hi8
  rw [hi] at hold ⊢
  have ho := wd_put (v := y) hin
  refine h.one hn hi hi8 ho hnew.1 (fun m _ e => absurd e hnew.2) (fun R => ?_) h.fr
  rw [subt_leaf hold, subt_leaf (by rw [ho.ff]; exact hnew.2)]
theorem Inv.link {f : Int} (h : Inv ws L r q) (hn : nod ws p 3 r (v + 1) = some u) (hold : say (FF ws) ((v + 1 : Nat) : Int) (wd ws u (dg p (v + 1))) ≠ 2) (hv : v < 3) (hL : L.Perm (f :: L')) (ht : tabs ws v f = [f]) (hg : Good ws v f) :
    Stp ws L (ptL ws u (dg p (v + 1)) 0 (wordI f true false false false false false)) L' r q ∧ nod (ptL ws u (dg p (v + 1)) 0 (wordI f true false false false false false)) p 3 r v = some f ∧ ∀ (x : Int) (k : Nat), k < 8 → x ≠ u → wd (ptL ws u (dg p (v + 1)) 0 (wordI f true false false false false false)) x (k : Int) = wd ws x (k : Int) := by
  obtain ⟨i, hi, hi8⟩ := dg_nat p (v + 1)
  obtain ⟨n1, n2, n3, n4, n5⟩ := h.parts
  have hu := (nod_mem 3 r _ u hn).2
  have hin := h.inT hu hi8
  have hfL : f ∈ L := hL.mem_iff.2 List.mem_cons_self
  have huf : u ≠ f := fun e => (n4 f hfL).1 (e ▸ hu)
  have hff := h.fr f hfL
  rw [hi] at hold ⊢
  have ho := wd_put (v := wordI f true false false false false false) hin
  obtain ⟨l1, l2⟩ := link_says (F := FF ws) (l := ((v + 1 : Nat) : Int)) (f := f) (by omega) hff.1 (by rw [h.ff]; exact hff.2) (by rw [h.ff]; omega)
  have hS : SameOn ws (ptL ws u (i : Int) 0 (wordI f true false false false false false)) (tabs ws v f) := ho.same (by rw [ht]; simpa using huf)
  have ht' := tabs_same v f hS
  have hk := nod_keep ho 3 r hn n2
  refine ⟨h.one hn hi hi8 ho (by rw [l1]; decide) (fun m e _ => ?_) (fun R => ?_) (fun x hx => h.fr x (hL.mem_iff.2 (List.mem_cons_of_mem _ hx))), ?_, fun x k hk hx => ho.else_ x k hk fun e => hx e.1⟩
  · obtain rfl : m = v := by omega
    rw [l2]; exact good_same m f hS hg
  · rw [subt_leaf hold]
    have : subt (ptL ws u (i : Int) 0 (wordI f true false false false false false)) (v + 1) (wordI f true false false false false false) = [f] := by
      simp only [subt]
      rw [ho.ff, if_pos l1, l2, ht', ht]
    rw [this, List.nil_append]
    exact hL.append_right R
  · have := nod_next 3 r hk (by rw [hi, ho.at_, ho.ff]; exact l1)
    rw [hi, ho.at_, l2] at this
    exact this
theorem Inv.unlink {t : Int} (h : Inv ws L r q) (hn : nod ws p 3 r (v + 1) = some u) (hold : say (FF ws) ((v + 1 : Nat) : Int) (wd ws u (dg p (v + 1))) = 2) (hold2 : unF (wd ws u (dg p (v + 1))) = t) (ht : tabs ws v t = [t]) (hnew : say (FF ws) ((v + 1 : Nat) : Int) y ≠ 0 ∧ say (FF ws) ((v + 1 : Nat) : Int) y ≠ 2) :
    Stp ws L (ptL ws u (dg p (v + 1)) 0 y) (t :: L) r q := by
  obtain ⟨i, hi, hi8⟩ := dg_nat p (v + 1)
  have hu := (nod_mem 3 r _ u hn).2
  have hin := h.inT hu hi8
  have hn2 := nod_next 3 r hn hold
  rw [hold2] at hn2
  have htf := tabs_frames 3 r h.gr t (nod_mem 3 r _ t hn2).2
  rw [h.ff] at htf
  rw [hi] at hold hold2 ⊢
  have ho := wd_put (v := y) hin
  refine h.one hn hi hi8 ho hnew.1 (fun m _ e => absurd e hnew.2) (fun R => ?_) (fun x hx => ?_)
  · have : subt ws (v + 1) (wd ws u (i : Int)) = [t] := by
      simp only [subt]
      rw [if_pos hold, hold2, ht]
    rw [this, subt_leaf (by rw [ho.ff]; exact hnew.2)]
    exact List.Perm.refl _
  · rcases List.mem_cons.1 hx with rfl | e
    · exact htf
    · exact h.fr x e
end
theorem ze_wd {ws : List Int} (hl : ws.length = 4096) {f : Int} (h0 : 0 ≤ f) (h1 : f < 512) (t : Int) (k : Nat) (hk : k < 8) : wd (zeL ws f 1) t (k : Int) = if t = f then 0 else wd ws t (k : Int) := by
  obtain ⟨a, rfl⟩ : ∃ a : Nat, f = a := ⟨f.toNat, by omega⟩
  have he : errZ ws.length (a : Int) 1 = 0 := by
    unfold errZ errF
    rw [if_neg (by omega), hl]
    simp; omega
  have hz : zeL ws (a : Int) 1 = splice ws (a * 8) (List.replicate 8 0) := by unfold zeL; rw [if_pos he]; rfl
  have hlen : (zeL ws (a : Int) 1).length = ws.length := by rw [hz]; simp [splice]; omega
  unfold wd
  rw [hlen]
  by_cases ht : inT ws.length t (k : Int) = true
  · rw [if_pos ht]
    obtain ⟨x, y, ex, ey, hx, hy⟩ := inT_nat ht
    subst ex
    obtain rfl : k = y := by omega
    rw [show (8 * (x : Int) + (k : Int)).toNat = 8 * x + k by omega, hz, List.getD_eq_getElem?_getD, List.getD_eq_getElem?_getD]
    unfold splice
    by_cases e : (x : Int) = (a : Int)
    · obtain rfl : x = a := by omega
      rw [if_pos rfl, List.getElem?_append_right (by rw [List.length_take]; omega), List.length_take, List.getElem?_append_left (by simp; omega), List.getElem?_replicate]
      rw [if_pos (by omega)]; rfl
    · rw [if_neg e, if_pos ht]
      by_cases hlt : x < a
      · rw [List.getElem?_append_left (by rw [List.length_take]; omega), List.getElem?_take_of_lt (by omega)]
      · rw [List.getElem?_append_right (by rw [List.length_take]; omega), List.length_take, List.getElem?_append_right (by simp; omega), List.getElem?_drop]
        congr 2
        simp; omega
  · rw [if_neg ht]
    split <;> rfl
theorem ze_len {ws : List Int} (hl : ws.length = 4096) {f : Int} (h0 : 0 ≤ f) (h1 : f < 512) : (zeL ws f 1).length = 4096 := by
  unfold zeL
  split
  · simp [splice]; omega
  · exact hl
end Go.Proofs.Ytpcpcgbejinlmaa
/- The contract of a walk (follow) that begins at a table for a page: its loop. -/
namespace Go.Proofs.Ytpcpcgbejinlmaa
open Go.RowKit
section
variable {w : World} {a b n : Nat} {T : TypeId} {ws : List Int}
set_option maxRecDepth 100000 in
set_option maxHeartbeats 1600000 in
theorem follow_in (h : RamAt w a b T n ws) (root p : Int) (hi : inT n root 0 = true) (hp : 0 ≤ p ∧ p ≤ 4095) : Calls Try.prog 23 #[.pointer (some ⟨a, 0, none⟩), .int .i64 root, .int .i64 p] w (Trail w (wk ws p 3 root) p) := by
  have he := errT_in hi
  have hd := digits_any p
  have hde : dgE p = 0 := by simp only [dgE, if_pos hp]
  rw [hde] at hd
  have HI := Lib.hid hi
  have HP := Lib.hid hp
  clear hi hp hde
  go_enter Try.func23, Try.ntmps23
  go_wp2
  go_step3
  go_wp2_with fail
  refine (wcheck_any (h.alloc _) _ _).mono ?_
  rw [he]
  rintro e w1 ⟨rfl, hw⟩
  have r1 : Row w1 w.heap.size 70 (TR (.slice none 0 0) 0) := hw ▸ trail_new w
  have B1 : Hid (Below w.heap.size w w1) := hw ▸ below_trail w
  have H1 : RamAt w1 a b T n ws := hw ▸ h.alloc _
  clear hw h he
  go_wp2_with fail
  refine (hd _).mono ?_
  rintro e w2 ⟨A, m, c, rfl, hN, hb⟩
  obtain rfl : m = 4 := by
    have := hN.len
    rw [← this]; simp [dgL, HP.out]
  have r2 := r1.below hb r1.lt
  have B2 : Hid (Below w.heap.size w w2) := B1.out.trans (hb.mono B1.out.size)
  have H2 := H1.below hb H1.top.lt H1.row.lt
  clear hb r1 B1 hd H1
  obtain ⟨q, hq⟩ : ∃ q, q = w2.heap.size := ⟨_, rfl⟩
  have HQ := Lib.hid hq
  rw [← hq] at hN
  have gq := Lib.hid (show w.heap.size < q by rw [hq]; exact r2.lt)
  have aq := Lib.hid (show a < q by rw [hq]; exact H2.top.lt)
  have bq := Lib.hid (show b < q by rw [hq]; exact H2.row.lt)
  go_upto_region 8 with (fail)
  rw [← hq]
  clear hq
  obtain ⟨w3, hw3⟩ : ∃ w3, w3 = w2.alloc (.cells #[.slice none 0 0, .int .i64 0, .int .i64 0, .bool false, .bool false, .bool false, .bool false, .bool false, .bool false, .int .i64 0, .int .i64 0] 70) := ⟨_, rfl⟩
  rw [← hw3]
  have b3 : Below w2.heap.size w2 w3 := hw3 ▸ below_trail w2
  have q3 : Row w3 q 70 (TR (.slice none 0 0) 0) := by rw [hw3, HQ.out]; exact trail_new w2
  clear hw3
  have r3 := r2.below b3 r2.lt
  have H3 := H2.below b3 H2.top.lt H2.row.lt
  have B3 : Hid (Below w.heap.size w w3) := B2.out.trans (b3.mono B2.out.size)
  have N3 := hN.below (HQ.out ▸ b3)
  clear r2 H2 B2 hN b3
  go_wp2_with fail
  refine (wasker_any H3).mono ?_
  rintro e w4 ⟨rb, fb, rfl, hr, hF, lr, lf, b4⟩
  have q4 := Lib.hid (q3.below b4 q3.lt)
  have r4 := Lib.hid (r3.below b4 r3.lt)
  have H4 := Lib.hid (H3.below b4 H3.top.lt H3.row.lt)
  have B4 : Hid (Below w.heap.size w w4) := B3.out.trans (b4.mono B3.out.size)
  have N4 := Lib.hid (N3.below (b4.mono (Nat.le_of_lt q3.lt)))
  have q4l := Lib.hid (show q < w4.heap.size from (q3.below b4 q3.lt).lt)
  have FR := Lib.hid hr
  have FF := Lib.hid hF
  have LR : Hid (rb ≠ q ∧ rb < w4.heap.size) := ⟨by have := q3.lt; omega, lr.2⟩
  have LF : Hid (fb ≠ q ∧ fb < w4.heap.size) := ⟨by have := q3.lt; omega, lf.2⟩
  clear q3 r3 H3 B3 N3 b4 hr hF lr lf HQ
  go_wp2
  go_step3
  go_wp2
  go_loopw [12, 13, 42] (fun en tb i wr => ∃ (k : Nat) (t : Int) (ts : List Int) (v : Value) (sl : Int), en = .int .i64 6 ∧ i = .int .i64 k ∧ tb = .int .i64 t ∧ Mid ws n p root k t ts ∧ wr.ownsRow w4.heap.size 3 1 v k (ts.map (Value.int .i64)) ∧ Row wr q 70 (TR v sl) ∧ w4.grownBy wr (some q)) (fun _ _ i _ => 4 - (intOf i).toNat)
  case atStart => exact ⟨0, root, [], _, 0, rfl, rfl, rfl, ⟨by omega, rfl, HI.out, (app_nil _).symm⟩, World.ownsRow_nil _ _ _ _, q4.out, World.grownBy.refl _ _⟩
  case round =>
    obtain ⟨k, t, ts, v, sl, rfl, rfl, rfl, hm, ho, hq, hg⟩ := hrel
    have hk := hm.le
    have HM := Lib.hid hm
    obtain ⟨ad, rfl, -, hc⟩ := (N4.out.grown hg (Nat.le_refl _) (Nat.le_of_lt q4l.out)).cell (j := k) (by omega)
    obtain ⟨hdg, hd0, hd8⟩ := dg_at HP.out hk
    rw [hdg] at hc
    obtain ⟨d, ed⟩ : ∃ d, d = dg p (3 - k) := ⟨_, rfl⟩
    rw [← ed] at hc hd0 hd8
    have HD := Lib.hid ed
    obtain ⟨Av, cv, rfl⟩ := own_form ho
    obtain ⟨A5, c5, W5, r5, o5, g5⟩ := app1_run (C := w4.heap.size) hg.size ho (by omega) t
    have hne : some q ≠ (Value.slice Av k cv).ownBlock := fun e => by have := (ho.lt _ e.symm).1; have := q4l.out; omega
    have q5 := hq.grown g5 hne
    have hg5 : w4.grownBy W5 (some q) := grown_more hg g5 fun r e => Or.inr (ho.lt r e).1
    have q6 : Row ((W5.setCell ⟨q, 0, none⟩ (.slice A5 (k + 1) c5)).setCell ⟨q, 1, none⟩ (.int .i64 d)) q 70 (TR (.slice A5 (k + 1) c5) d) := (q5.set_ 0 _).set_ 1 _
    have o6 : ((W5.setCell ⟨q, 0, none⟩ (.slice A5 (k + 1) c5)).setCell ⟨q, 1, none⟩ (.int .i64 d)).ownsRow w4.heap.size 3 1 (.slice A5 (k + 1) c5) (k + 1) (ts.map (Value.int .i64) ++ [.int .i64 t]) :=
      ownsRow_setCell_below (ownsRow_setCell_below o5 (a := ⟨q, 0, none⟩) q4l.out _) (a := ⟨q, 1, none⟩) q4l.out _
    have g6 : w4.grownBy ((W5.setCell ⟨q, 0, none⟩ (.slice A5 (k + 1) c5)).setCell ⟨q, 1, none⟩ (.int .i64 d)) (some q) := grown_trans1 (grown_trans1 hg5 (grown_set _ _ _ _)) (grown_set _ _ _ _)
    obtain ⟨w6, hw6⟩ : ∃ w6, w6 = (W5.setCell ⟨q, 0, none⟩ (.slice A5 (k + 1) c5)).setCell ⟨q, 1, none⟩ (.int .i64 d) := ⟨_, rfl⟩
    rw [← hw6] at q6 o6 g6
    have HW6 := Lib.hid hw6
    have Q6 := Lib.hid q6
    have O6 := Lib.hid o6
    have G6 := Lib.hid g6
    have hq0 : wr.cell? ⟨q, 0, none⟩ = some (.slice Av k cv) := hq.cell 0
    have p0 : W5.cell? ⟨q, 0, none⟩ = some (.slice Av k cv) := q5.cell 0
    have p1 : W5.cell? ⟨q, 1, none⟩ = some (.int .i64 sl) := q5.cell 1
    have pf : ∀ o, W5.frozen? ⟨q, o, none⟩ = false := fun o => q5.frozen o
    clear hm ho hq hg hne q5 hg5 q6 o6 g6 hw6 ed hdg o5 g5
    go_wp2_with (at_builtin; refine wpList_append_run rfl _ _ 44 rfl (.slice Av k cv) (.slice (some ⟨wr.heap.size, 0, none⟩) 1 1) rfl rfl r5 ?_)
    clear r5 hq0 hc
    rw [← HW6.out]
    have hin : inT n t d = true := by
      have := inT_iff.1 HM.out.fr
      exact inT_iff.2 ⟨this.1, this.2.1, hd0, hd8⟩
    have h6 : RamAt w6 a b T n ws := H4.out.grown G6.out (by have := aq.out; intro e; injection e with e; omega) (by have := bq.out; intro e; injection e with e; omega)
    have s6 := G6.out.size
    obtain ⟨x, hx⟩ : ∃ x, x = wd ws t d := ⟨_, rfl⟩
    have HX := Lib.hid hx
    obtain ⟨s, hs⟩ : ∃ s, s = say ((n : Int) / 8) (3 - (k : Int)) x := ⟨_, rfl⟩
    have HS := Lib.hid hs
    have hs4 : s = 0 ∨ s = 1 ∨ s = 2 ∨ s = 3 := by rw [hs]; exact say_cases _ _ _
    refine (ask_any h6 (cell_grown G6.out LR.out.1 LR.out.2 FR.out) (cell_grown G6.out LF.out.1 LF.out.2 FF.out) (by have := LR.out.2; omega) (by have := LF.out.2; omega) t d (3 - (k : Int)) hin (by omega) (by omega)).mono ?_
    rw [← hx, ← hs]
    unfold unE
    rintro e w7 ⟨rfl, b7⟩
    obtain ⟨f, ef⟩ : ∃ f, f = unF x := ⟨_, rfl⟩
    obtain ⟨y0, ey0⟩ : ∃ y, y = unB x 0 := ⟨_, rfl⟩
    obtain ⟨y1, ey1⟩ : ∃ y, y = unB x 1 := ⟨_, rfl⟩
    obtain ⟨y7, ey7⟩ : ∃ y, y = unB x 7 := ⟨_, rfl⟩
    obtain ⟨y9, ey9⟩ : ∃ y, y = unB x 9 := ⟨_, rfl⟩
    obtain ⟨y5, ey5⟩ : ∃ y, y = unB x 5 := ⟨_, rfl⟩
    obtain ⟨y6, ey6⟩ : ∃ y, y = unB x 6 := ⟨_, rfl⟩
    rw [← ef, ← ey0, ← ey1, ← ey7, ← ey9, ← ey5, ← ey6]
    have HE := Lib.hid (And.intro ef (And.intro ey0 (And.intro ey1 (And.intro ey7 (And.intro ey9 (And.intro ey5 ey6))))))
    obtain ⟨w8, hw8⟩ : ∃ w8, w8 = w7.alloc (.cells #[.int .i64 f, .bool y0, .bool y1, .bool y7, .bool y9, .bool y5, .bool y6] 28) := ⟨_, rfl⟩
    have b8 : Below w6.heap.size w6 w8 := by rw [hw8]; exact b7.alloc b7.size _
    have e8 : Row w8 w7.heap.size 28 [.int .i64 f, .bool y0, .bool y1, .bool y7, .bool y9, .bool y5, .bool y6] := hw8 ▸ Row.new w7 _ _
    have Q8 := Lib.hid (Q6.out.below b8 Q6.out.lt)
    have G8 := Lib.hid (grown_trans1 G6.out (grown_of_below b8))
    have O8 := Lib.hid (own_call O6.out b8)
    have R8 := Lib.hid (r4.out.grown G8.out (by have := gq.out; intro e; injection e with e; omega))
    have z7 : q < w7.heap.size := by have := Q6.out.lt; have := b7.size; omega
    have z70 : w.heap.size < w7.heap.size := by have := gq.out; omega
    have HW8 := Lib.hid hw8
    clear h6 s6 hx hs b7 ef ey0 ey1 ey7 ey9 ey5 ey6 hw8 b8 hin p0 p1 pf
    go_upto_region 15 with (fail)
    rw [← HW8.out]
    have BEL := Lib.hid (B4.out.grown G8.out B4.out.size (fun r e => by injection e with e; have := gq.out; omega))
    rcases hs4 with rfl | rfl | rfl | rfl
    · have EQ := Lib.hid ((HM.out.stop H4.out.len HD.out HX.out HS.out (by omega)).trans (app_bad ..))
      obtain ⟨⟨c0, c1, c2, c3, c4, c5', c6, c7, c8, c9, c10⟩, hf⟩ := R8.out.trail
      go_wp2_with fail
      rw [Exit.noGoto_ret]
      exact bodyPost_ret (v := .tuple #[.agg #[.slice none 0 0, .int .i64 0, .int .i64 0, .bool false, .bool false, .bool false, .bool false, .bool false, .bool false, .int .i64 0, .int .i64 0], .int .i64 5]) (by simp [results, Try.results23, go_sem, *]) rfl ⟨none, 0, 0, by rw [EQ.out]; rfl, by rw [EQ.out]; exact IntsAt.nil _ _ _, below_11 BEL.out (Nat.le_refl _), fun g e => (by cases e), Nat.le_refl _⟩
    · have EQ := Lib.hid ((HM.out.stop H4.out.len HD.out HX.out HS.out (by omega)).trans (app_none ..))
      obtain ⟨⟨c0, c1, c2, c3, c4, c5', c6, c7, c8, c9, c10⟩, hf⟩ := R8.out.trail
      obtain ⟨⟨d0, d1, d2, d3, d4, d5', d6, d7, d8, d9, d10⟩, -⟩ := Q8.out.trail
      go_wp2_with fail
      rw [Exit.noGoto_ret]
      exact bodyPost_ret (v := .tuple #[.agg #[.slice A5 (k + 1) c5, .int .i64 d, .int .i64 0, .bool false, .bool false, .bool false, .bool false, .bool false, .bool false, .int .i64 0, .int .i64 0], .int .i64 6]) (by simp [results, Try.results23, go_sem, *]) rfl ⟨A5, k + 1, c5, by rw [EQ.out]; rfl, by rw [EQ.out]; exact ints_of_own (own_11 (by have := O8.out; rwa [show ts.map (Value.int .i64) ++ [.int .i64 t] = (ts ++ [t]).map (Value.int .i64) by simp] at this) (by have := gq.out; have := q4l.out; omega)), below_11 BEL.out (Nat.le_refl _), new_of_own O8.out (Nat.le_trans B4.out.size (Nat.le_refl _)), cap_of_own O8.out⟩
    · have e80 : w8.cell? ⟨w7.heap.size, 0, none⟩ = some (.int .i64 f) := e8.cell 0
      go_wp2_with fail
      go_roundw
      case rel => exact ⟨k + 1, f, ts ++ [t], .slice A5 (k + 1) c5, d, rfl, by go_num, rfl, by rw [HE.out.1]; exact HM.out.on H4.out.len HD.out HX.out HS.out, (by have := O8.out; rwa [show ts.map (Value.int .i64) ++ [.int .i64 t] = (ts ++ [t]).map (Value.int .i64) by simp] at this), Q8.out, G8.out⟩
      case measure => simp [intOf]; omega
    · have EQ := Lib.hid ((HM.out.stop H4.out.len HD.out HX.out HS.out (by omega)).trans (app_leaf ..))
      have hl3 := say_leaf HS.out.symm
      have hlv : 3 - k ≤ 2 := by omega
      have hfr := un_frame x
      rw [← HE.out.1] at hfr
      have E8 := e8.seven.1
      obtain ⟨i0, i1, i2, i3, i4, i5, i6⟩ := E8
      go_wp2_with fail
      refine (reached_at f y0 y1 y7 y9 y5 y6 (3 - (k : Int)) (3 - k) (by omega) hlv p HP.out.1 HP.out.2 hfr.1 hfr.2 _).mono ?_
      rintro e w9 ⟨rfl, b9⟩
      obtain ⟨fr, efr⟩ : ∃ fr, fr = f + p % 8 ^ (3 - k) := ⟨_, rfl⟩
      rw [← efr]
      have HFR := Lib.hid efr
      have O9 := Lib.hid (own_call O8.out b9)
      have B9 := Lib.hid (BEL.out.trans (b9.mono BEL.out.size))
      obtain ⟨⟨c0, c1, c2, c3, c4, c5', c6, c7, c8, c9, c10⟩, hf⟩ := (R8.out.below b9 R8.out.lt).trail
      obtain ⟨⟨d0, d1, d2, d3, d4, d5', d6, d7, d8, d9, d10⟩, hff⟩ := (Q8.out.below b9 Q8.out.lt).trail
      have hne : ¬ q = w.heap.size := by have := gq.out; omega
      have hne2 : ¬ w.heap.size = q := fun e => hne e.symm
      clear i0 i1 i2 i3 i4 i5 i6 b9 efr e8 hlv hfr hl3 z7 z70
      go_wp2_with fail
      rw [Exit.noGoto_ret]
      refine bodyPost_ret (v := .tuple #[.agg #[.slice A5 (k + 1) c5, .int .i64 d, .int .i64 f, .bool y0, .bool y1, .bool y7, .bool y9, .bool y5, .bool y6, .int .i64 (3 - (k : Int)), .int .i64 fr], .int .i64 0]) (by simp [results, Try.results23, go_sem, *]) rfl ⟨A5, k + 1, c5, ?_, ?_, below_11 (below_9 B9.out (Nat.le_of_lt gq.out)) (Nat.le_refl _), new_of_own O9.out (Nat.le_trans B4.out.size (Nat.le_refl _)), cap_of_own O9.out⟩
      · obtain ⟨ef, ey0, ey1, ey7, ey9, ey5, ey6⟩ := HE.out
        have hfr := HFR.out
        rw [EQ.out, hfr, ef, ey0, ey1, ey7, ey9, ey5, ey6]
        have e3 : ((3 - k : Nat) : Int) = 3 - (k : Int) := by omega
        simp [lfF, lfB, lfV, lfP, e3]
      · rw [EQ.out]
        exact ints_of_own (own_11 (own_9 (by have := O9.out; rwa [show ts.map (Value.int .i64) ++ [.int .i64 t] = (ts ++ [t]).map (Value.int .i64) by simp] at this) q4l.out) (by have := gq.out; have := q4l.out; omega))
end
end Go.Proofs.Ytpcpcgbejinlmaa
