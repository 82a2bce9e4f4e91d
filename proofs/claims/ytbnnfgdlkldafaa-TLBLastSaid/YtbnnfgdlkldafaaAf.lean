/- Flush, FlushSpace. -/
import Derived.Test.YtbnnfgdlkldafaaAe
namespace Go.Proofs.Ytbnnfgdlkldafaa
open Go.RowKit Go.Shelf
attribute [local go_sem] Oper.semAt_some
theorem bk_mem {L : List Cd} {k : Nat} {x : Nat × Cd} (h : x ∈ bkUp L k) : ∃ i, i < k ∧ x = bkAt L i := by
  unfold bkUp at h
  obtain ⟨i, hi, rfl⟩ := List.mem_map.1 h
  exact ⟨i, List.mem_range.1 hi, rfl⟩
theorem bk_down (L : List Cd) : (bkUp L L.length).Pairwise fun a b => b.1 < a.1 := by
  unfold bkUp
  rw [List.pairwise_map]
  refine List.Pairwise.imp_of_mem ?_ List.pairwise_lt_range
  intro a b ha hb hab
  have := List.mem_range.1 hb
  show L.length - 1 - b < L.length - 1 - a
  omega
theorem bk_has {L : List Cd} {j : Nat} (hj : j < L.length) : (j, L[j]) ∈ bkUp L L.length := by
  unfold bkUp
  refine List.mem_map.2 ⟨L.length - 1 - j, List.mem_range.2 (by omega), ?_⟩
  rw [bkAt_eq (by omega)]
  have e : L.length - 1 - (L.length - 1 - j) = j := by omega
  refine Prod.ext e ?_
  simp only [e]
theorem hld_mem {L : List Cd} {sp q n : Int} {x : Nat × Cd} (h : x ∈ hldX L sp q n) : ∃ hj : x.1 < L.length, x.2 = L[x.1] ∧ metB x.2 sp q n = true := by
  unfold hldX at h
  obtain ⟨h1, h2⟩ := List.mem_filter.1 h
  obtain ⟨i, hi, rfl⟩ := bk_mem h1
  rw [bkAt_eq hi] at h2 ⊢
  exact ⟨by show L.length - 1 - i < L.length; omega, rfl, h2⟩
theorem bnd_le {L : List Cd} {sp q n : Int} {pre rest : List (Nat × Cd)} (h : hldX L sp q n = pre ++ rest) : bnd L pre ≤ L.length := by
  unfold bnd
  cases e : pre.getLast? with
  | none => exact Nat.le_refl _
  | some x =>
    have hm := List.mem_of_getLast? e
    obtain ⟨hj, -⟩ := hld_mem (L := L) (sp := sp) (q := q) (n := n) (x := x) (by rw [h]; exact List.mem_append_left _ hm)
    exact Nat.le_of_lt hj
/-- Between what came last and what comes next none holds a page. -/
theorem hld_gap {L : List Cd} {sp q n : Int} {pre rest : List (Nat × Cd)} (h : hldX L sp q n = pre ++ rest) {b : Nat} (hb : ∀ x ∈ rest, x.1 < b) (j : Nat) (hj : j < L.length) (h1 : b ≤ j) (h2 : j < bnd L pre) : metB L[j] sp q n = false := by
  cases e : metB L[j] sp q n with
  | false => rfl
  | true =>
    exfalso
    have hm : (j, L[j]) ∈ hldX L sp q n := List.mem_filter.2 ⟨bk_has hj, e⟩
    have hd : (hldX L sp q n).Pairwise fun a b => b.1 < a.1 := (bk_down L).sublist List.filter_sublist
    rw [h] at hm hd
    rcases List.mem_append.1 hm with hm | hm
    · unfold bnd at h2
      obtain ⟨pr, x, rfl⟩ : ∃ pr x, pre = pr ++ [x] := by
        rcases List.eq_nil_or_concat pre with rfl | ⟨pr, x, rfl⟩
        · cases hm
        · exact ⟨pr, x, by simp⟩
      rw [List.getLast?_append] at h2
      simp at h2
      rcases List.mem_append.1 hm with hm | hm
      · rw [List.append_assoc, List.pairwise_append] at hd
        have := hd.2.2 _ hm x (by simp)
        simp only at this
        omega
      · rw [List.mem_singleton] at hm
        subst hm
        simp at h2
    · have := hb _ hm
      simp only at this
      omega
theorem scn_gap {L : List Cd} {sp q n : Int} {b d : Nat} (hd : d ≤ L.length) (hbd : b ≤ d) (h : ∀ j (hj : j < L.length), b ≤ j → j < d → metB L[j] sp q n = false) : scn L sp q n d = scn L sp q n b := by
  induction d with
  | zero => rw [show b = 0 by omega]
  | succ d ih =>
    by_cases e : b = d + 1
    · rw [e]
    · rw [scn_keep (by omega) (h d (by omega) (by omega) (by omega))]
      exact ih (by omega) (by omega) (fun j hj h1 h2 => h j hj h1 (by omega))
theorem hld_flt (L : List Cd) (sp q n : Int) : (hldX L sp q n).length = (L.filter fun c => metB c sp q n).length := by
  have e : (bkUp L L.length).map (·.2) = L.reverse := by
    apply List.ext_getElem
    · simp [bkUp]
    · intro i h1 h2
      simp [bkUp] at h1
      simp only [bkUp, List.getElem_map, List.getElem_range, List.getElem_reverse, bkAt_eq h1]
  have : (hldX L sp q n).map (·.2) = L.reverse.filter fun c => metB c sp q n := by
    rw [← e, List.filter_map]; rfl
  have := congrArg List.length this
  rw [List.length_map, List.filter_reverse, List.length_reverse] at this
  exact this
theorem flt_len (L : List Cd) (f : Cd → Bool) : (L.filter f).length + (L.filter fun c => !f c).length = L.length := by
  induction L with
  | nil => rfl
  | cons x r ih =>
    simp only [List.filter_cons, List.length_cons]
    cases f x <;> simp <;> omega
theorem hld_len (L : List Cd) (sp q n : Int) : ((hldX L sp q n).length : Int) = flN L sp q n := by
  have := flt_len L fun c => metB c sp q n
  rw [hld_flt]
  unfold flN flL
  omega
theorem scn_get {L : List Cd} {sp q n : Int} {b : Nat} (hb : b ≤ L.length) {j : Nat} (hj : j < b) : (scn L sp q n b)[j]? = L[j]? := by
  unfold scn
  rw [List.getElem?_append_left (by rw [List.length_take]; omega), List.getElem?_take_of_lt hj]
theorem bnd_next {L : List Cd} {sp q n : Int} {pre rest : List (Nat × Cd)} {x : Nat × Cd} (h : hldX L sp q n = pre ++ x :: rest) : x.1 < bnd L pre ∧ ∀ y ∈ x :: rest, y.1 < x.1 + 1 := by
  have hd : (hldX L sp q n).Pairwise fun a b => b.1 < a.1 := (bk_down L).sublist List.filter_sublist
  obtain ⟨hj, -⟩ := hld_mem (L := L) (sp := sp) (q := q) (n := n) (x := x) (by rw [h]; simp)
  rw [h, List.pairwise_append] at hd
  refine ⟨?_, fun y hy => ?_⟩
  · unfold bnd
    cases e : pre.getLast? with
    | none => exact hj
    | some y => exact hd.2.2 y (List.mem_of_getLast? e) x (by simp)
  · rcases List.mem_cons.1 hy with rfl | hy
    · omega
    · have := (List.pairwise_cons.1 hd.2.1).1 y hy
      omega
section
variable {w : World} {B ta z : Nat} {v : Value} {L : List Cd}
/-- What stands between two rounds of Flush. -/
structure Fl (B : Nat) (w : World) (ta z : Nat) (v : Value) (L : List Cd) (sp q n : Int) (b4 b : Nat) (pre : List (Nat × Cd)) (W : World) : Prop where
  st : ∃ v', Tb B W ta z v' (scn L sp q n (bnd L pre)) ∧ v'.ownBlock = v.ownBlock ∧ (pre = [] → v' = v)
  foot : Foot (Mine ta v) w W
  box : HoB b ta sp q n W
  r4 : Lrow W b4 25 [.pointer (some ⟨ta, 0, none⟩)]
  r9 : Lrow W (b4 + 1) 3 [.int .i64 pre.length]
  part : ∃ rest, hldX L sp q n = pre ++ rest
theorem Foot.ownG {X : Nat → Prop} {A C D : World} {row : Option Nat} {B : Nat} (h : Foot X A C) (hB : A.heap.size ≤ B) (hg : C.grownBy D row) (hr : ∀ r, row = some r → B ≤ r) : Foot X A D :=
  ⟨hg.os.trans h.os, hg.tape.trans h.tape, hg.output.trans h.output, Nat.le_trans h.size hg.size, fun k hk hx => (hg.block k (Nat.lt_of_lt_of_le hk h.size) (fun e => by have := hr k e.symm; omega)).trans (h.keep k hk hx)⟩
theorem Fl.own {sp q n : Int} {b4 b D : Nat} {pre : List (Nat × Cd)} {X Y : World} {row : Option Nat} (h : Fl B w ta z v L sp q n b4 b pre X) (hB : w.heap.size ≤ D) (hg : X.grownBy Y row) (hr : ∀ r, row = some r → D ≤ r ∧ ∃ o : Obj, X.heap[r]? = some o ∧ o.isCells = false) : Fl B w ta z v L sp q n b4 b pre Y := by
  have hr2 := fun r e => (hr r e).2
  obtain ⟨v', hT, e1, e2⟩ := h.st
  exact ⟨⟨v', hT.ownG hg hr2, e1, e2⟩, h.foot.ownG hB hg (fun r e => (hr r e).1), h.box.own hg hr2, h.r4.own hg hr2, h.r9.own hg hr2, h.part⟩
set_option maxRecDepth 100000 in
set_option maxHeartbeats 4000000 in
theorem flush_any (h : Tb B w ta z v L) (sp : Int) {q n : Int} (hq : Fits q) (hn : Fits n) : Calls Try.prog 17 #[.pointer (some ⟨ta, 0, none⟩), .int .i64 sp, .int .i64 q, .int .i64 n] w (Dropped B w ta z v (flL L sp q n) (.int .i64 (flN L sp q n))) := by
  obtain ⟨A, c, rfl⟩ := h.own.form
  obtain ⟨s, hs⟩ : ∃ s, s = w.heap.size := ⟨_, rfl⟩
  obtain ⟨W0, hW0⟩ : ∃ W0, W0 = w.alloc (.cells #[.pointer (some ⟨ta, 0, none⟩)] 25) := ⟨_, rfl⟩
  obtain ⟨W1, hW1⟩ : ∃ W1, W1 = W0.alloc (.cells #[.int .i64 0] 3) := ⟨_, rfl⟩
  have s0 : W0.heap.size = s + 1 := by rw [hW0, hs]; simp
  have s1 : W1.heap.size = s + 2 := by rw [hW1, World.size_alloc, s0]
  have g0 : Below w.heap.size w W0 := hW0 ▸ below_new w _
  have g1 : Below W0.heap.size W0 W1 := hW1 ▸ below_new W0 _
  have gW : Below w.heap.size w W1 := g0.trans (g1.mono g0.size)
  have r4 : Lrow W1 s 25 [.pointer (some ⟨ta, 0, none⟩)] := by
    have : Lrow W0 s 25 [.pointer (some ⟨ta, 0, none⟩)] := by rw [hW0, hs]; exact Lrow.new w _ _
    exact this.call g1
  have r9 : Lrow W1 (s + 1) 3 [.int .i64 0] := by rw [hW1, ← s0]; exact Lrow.new W0 _ _
  have hho := holding_any ta sp q n W1
  have k4 : W1.cell? ⟨s, 0, none⟩ = some (.pointer (some ⟨ta, 0, none⟩)) := r4.cell 0
  have HFL : Hid (∀ W2, HoB W1.heap.size ta sp q n W2 → Below W1.heap.size W1 W2 → Fl B w ta z (.slice A L.length c) L sp q n s (s + 2) [] W2) := fun W2 hb hb2 => by
    have hT2 := (h.call gW).call hb2
    refine ⟨⟨_, ?_, rfl, fun _ => rfl⟩, Foot.of_below (gW.trans (hb2.mono gW.size)), s1 ▸ hb, r4.call hb2, r9.call hb2, ⟨_, rfl⟩⟩
    rw [bnd_nil, scn_all]; exact hT2
  have HT := Lib.hid h
  have hlen := h.len
  have hok := h.good.ok
  have HS1 := Lib.hid s1
  have HSS := Lib.hid hs
  rw [hW1, hW0] at k4 hho
  rw [hs] at k4
  have HW := Lib.hid (And.intro hW0 hW1)
  clear hW0 hW1 s0 s1 g0 g1 gW r4 r9 h hs
  refine (callsIn_wide (n := 12)).1 ?_
  refine callsIn_of_wp_marks Try.func17 rfl trivial ?_ rfl
  simp only [Try.ntmps17, List.size_toArray, List.length_cons, List.length_nil, Nat.reduceAdd, Nat.reduceSub, Array.replicate_succ, Array.replicate_zero, List.push_toArray, List.append_toArray, List.nil_append, List.cons_append]
  gi_wp2_with (refine ⟨trivial, ?_⟩; gi_at_call 24; refine (callsIn_wide.2 hho).mono ?_; rintro e W2 ⟨rfl, hob, hb2, hs2⟩)
  rw [← HW.out.1, ← HW.out.2] at hob hb2 hs2
  have hfl := HFL.out W2 hob hb2
  have hsz : W2.heap.size = s + 6 := by rw [hs2, HS1.out]
  rw [← HSS.out]
  have HSZ := Lib.hid hsz
  clear hob hb2 hs2 hho k4 hsz
  refine wpIn_range9 (P := Try.prog) (by omega) (gf := 32) (lb := #[.pointer (some ⟨s + 2, 0, none⟩), .pointer (some ⟨s + 2 + 1, 0, none⟩), .pointer (some ⟨s + 2 + 2, 0, none⟩), .pointer (some ⟨s + 2 + 3, 0, none⟩)]) rfl (enters_of Try.func32 (by kernel_rfl) rfl)
    (holding1_seq _ (s + 2) ta (sp := sp) A c hok hq hn (by omega)) (fun _ => rfl)
    (Fl B w ta z (.slice A L.length c) L sp q n s (s + 2)) (fun _ _ _ => False)
    (fun pre X Y row hF hg hr => hF.own (by have := HSZ.out; have := HSS.out; omega) hg hr) (fun _ _ _ _ _ h _ _ => h) ?hC hfl (fun x a' V => a' = { tmps := #[.pointer (some ⟨ta, 0, none⟩), .int .i64 sp, .int .i64 q, .int .i64 n, .pointer (some ⟨s, 0, none⟩), undef, undef, undef, .int .i64 0, .pointer (some ⟨s + 1, 0, none⟩), .int .i64 x.1, .pointer (some ⟨ta, 0, none⟩), .int .i64 sp, .int .i64 q, .int .i64 n, hoF (s + 1 + 1), .int .i64 x.1, cv x.2, undef, undef, undef, undef, undef, undef], defers := [] }) (fun _ _ _ _ _ _ h _ _ => h) ?assign ?body ?done ?stop
  case hC =>
    rintro pre V hF
    obtain ⟨rest, hX⟩ := hF.part
    obtain ⟨v', hT, e1, e2⟩ := hF.st
    refine ⟨hF.box.b0.cell 0, hF.box.b1.cell 0, hF.box.b2.cell 0, hF.box.b3.cell 0, fun e => ?_, fun j hj hb => ?_⟩
    · rw [← e2 e]; exact hT.c1
    · have hbl := bnd_le hX
      have hsl := (scn_len (s := sp) (p := q) (n := n) hbl).1
      obtain ⟨A', c', rfl⟩ := hT.own.form
      obtain ⟨g, rfl, -, -, hat⟩ := hT.own.at_ j (by omega)
      obtain ⟨g0, R, rfl, -⟩ := HT.out.own.row (by omega)
      injection e1 with e1
      change g = g0 at e1
      subst e1
      refine ⟨g, rfl, ?_⟩
      have : (scn L sp q n (bnd L pre))[j]'(by omega) = L[j] := by
        have := scn_get (sp := sp) (q := q) (n := n) hbl hb
        rw [List.getElem?_eq_getElem (by omega), List.getElem?_eq_getElem hj] at this
        exact Option.some.inj this
      rw [← this]
      exact hat
  case assign =>
    rintro l pre x V K hF hK
    gi_wp2
    exact hK _ _ (Hi.refl _ _) hF rfl
  case body =>
    rintro l pre x rest a' V hX hF rfl
    obtain ⟨⟨v', hT, e1, e2⟩, hft, hbx, h4, h9, -⟩ := hF
    obtain ⟨hj, ex, hm⟩ := hld_mem (L := L) (sp := sp) (q := q) (n := n) (x := x) (by rw [hX]; simp)
    obtain ⟨hb1, hb2⟩ := bnd_next hX
    have hbl := bnd_le hX
    rw [ex] at hm
    have hgap := scn_gap (sp := sp) (q := q) (n := n) hbl (b := x.1 + 1) (by omega) (fun j hj' h1 h2 => hld_gap hX hb2 j hj' h1 h2)
    rw [hgap] at hT
    have hsl := (scn_len (L := L) (s := sp) (p := q) (n := n) (k := x.1 + 1) (by omega)).1
    have hdr := drop_any hT (x.1 : Int)
    have eL : drL (scn L sp q n (x.1 + 1)) (x.1 : Int) = scn L sp q n x.1 := by
      unfold drL
      rw [if_pos ⟨by omega, by omega⟩]
      exact scn_drop hj hm
    rw [eL] at hdr
    have hpl : pre.length ≤ 64 := by
      have h1 := congrArg List.length hX
      have h2 := List.length_filter_le (fun x => metB x.2 sp q n) (bkUp L L.length)
      rw [bkUp_length] at h2
      unfold hldX at h1
      rw [List.length_append] at h1
      omega
    have c4 : V.cell? ⟨s, 0, none⟩ = some (.pointer (some ⟨ta, 0, none⟩)) := h4.cell 0
    have HFIN : Hid (∀ V1 v1, Tb B V1 ta z v1 (scn L sp q n x.1) → Foot (Mine ta v') V V1 → v1.ownBlock = v'.ownBlock → (V1.cell? ⟨s + 1, 0, none⟩ = some (.int .i64 pre.length) ∧ V1.frozen? ⟨s + 1, 0, none⟩ = false) ∧ Hi W2.heap.size V (V1.setCell ⟨s + 1, 0, none⟩ (.int .i64 ((pre.length : Int) + 1))) ∧ Fl B w ta z (.slice A L.length c) L sp q n s (s + 2) (pre ++ [x]) (V1.setCell ⟨s + 1, 0, none⟩ (.int .i64 ((pre.length : Int) + 1)))) := fun V1 v1 hT1 hF1 e3 => by
      have hn4 := hT.other h4 (by decide) (by decide)
      have hn9 := hT.other h9 (by decide) (by decide)
      have h41 := hF1.row h4 hn4
      have h91 := hF1.row h9 hn9
      have hlow : ∀ k, Mine ta v' k → k < w.heap.size := fun k hk => by
        rcases hk with rfl | e
        · exact HT.out.top.lt
        · exact HT.out.lt (Or.inr (e1 ▸ e))
      have hsw := HSS.out
      have hzw := HSZ.out
      have hh : Hi w.heap.size V V1 := ⟨hF1.size, fun k hk hl => hF1.keep k hl (fun e => by have := hlow k e; omega)⟩
      have hne9 : ∀ k, s + 2 ≤ k ∨ k = s → (V1.setCell ⟨s + 1, 0, none⟩ (.int .i64 ((pre.length : Int) + 1))).heap[k]? = V1.heap[k]? := fun k hk => Below.heap_setCell V1 _ _ k (by show k ≠ s + 1; omega)
      refine ⟨⟨h91.cell 0, h91.frozen 0⟩, (hh.mono (by omega)).trans ⟨by simp [World.setCell], fun k hk _ => hne9 k (by omega)⟩, ⟨⟨v1, ?_, e3.trans e1, fun e => by simp at e⟩, ?_, ?_, ?_, ?_, ⟨rest, by rw [hX]; simp⟩⟩⟩
      · rw [bnd_snoc]
        refine hT1.keep (by simp [World.setCell]) (fun k hk hl => Below.heap_setCell V1 _ _ k ?_)
        rintro rfl
        exact hT1.other h91 (by decide) (by decide) hk
      · refine (hft.trans hF1 (fun k hk _ => ?_)).trans (Foot.grown (X := fun k => k = s + 1) (grown_set V1 (s + 1) 0 _) rfl) (fun k e hk => by have : k = s + 1 := e; omega)
        rcases hk with rfl | e
        · exact Or.inl rfl
        · exact Or.inr (e1 ▸ e)
      · have hrow : ∀ {k : Nat} {t : TypeId} {vs : List Value}, s + 2 ≤ k → Lrow V k t vs → Lrow (V1.setCell ⟨s + 1, 0, none⟩ (.int .i64 ((pre.length : Int) + 1))) k t vs := fun hk r => (hne9 _ (Or.inl hk)).trans (hh.row r (by omega))
        exact ⟨hrow (by omega) hbx.b0, hrow (by omega) hbx.b1, hrow (by omega) hbx.b2, hrow (by omega) hbx.b3⟩
      · exact (hne9 _ (Or.inr rfl)).trans h41
      · have := h91.set_ 0 (.int .i64 ((pre.length : Int) + 1))
        rw [List.length_append]
        exact this
    have p0 : (pre.length : Int) ≤ 64 := by omega
    have p1 : (0 : Int) ≤ pre.length := by omega
    clear hT e1 e2 hft hbx h4 h9 hj ex hm hb1 hb2 hbl hgap hsl eL hpl hX hfl
    gi_wp2_with (refine ⟨trivial, ?_⟩; gi_at_call 20; refine (CallsIn.inRound l (callsIn_wide.2 hdr)).mono ?_; rintro e V1 ⟨rfl, v1, hT1, hF1, e3⟩; obtain ⟨⟨c9, f9⟩, hfin⟩ := HFIN.out V1 v1 hT1 hF1 e3)
    exact hfin
  case done =>
    rintro D V hD hF hK
    have c9 : V.cell? ⟨s + 1, 0, none⟩ = some (.int .i64 (flN L sp q n)) := by rw [← hld_len]; exact hF.r9.cell 0
    have HF := Lib.hid hF
    clear hF hfl
    gi_wp2
    refine ⟨by simp, .inl ⟨_, _, rfl, run_takeDeferred hK, ?_⟩⟩
    have hF2 := HF.out.own (D := W2.heap.size) (by have := HSZ.out; have := HSS.out; omega) (grownBy_putObj' V D (.deferred none)) (fun r e => by injection e with e; subst e; exact ⟨hD, _, hK, rfl⟩)
    obtain ⟨v', hT, e1, -⟩ := hF2.st
    have hbl := bnd_le (L := L) (sp := sp) (q := q) (n := n) (pre := hldX L sp q n) (rest := []) (by simp)
    rw [scn_gap hbl (b := 0) (Nat.zero_le _) (fun j hj h1 h2 => hld_gap (pre := hldX L sp q n) (rest := []) (by simp) (b := 0) (fun x hx => by cases hx) j hj h1 h2), scn_none] at hT
    exact ⟨_, results_tmp rfl _ _ _, rfl, v', hT, hF2.foot, e1⟩
  case stop =>
    rintro D cd pre V _ h _
    exact h.elim
theorem flushSpace_any (h : Tb B w ta z v L) (sp : Int) : Calls Try.prog 21 #[.pointer (some ⟨ta, 0, none⟩), .int .i64 sp] w (Dropped B w ta z v (flL L sp 0 4096) (.int .i64 (flN L sp 0 4096))) := by
  have hf := flush_any h sp (q := 0) (n := 4096) ⟨by omega, by omega⟩ ⟨by omega, by omega⟩
  clear h
  go_enter Try.func21, Try.ntmps21
  go_wp2_with (go_at_call 17; refine hf.mono ?_; rintro e w1 ⟨rfl, hd⟩)
  go_ret
  exact ⟨rfl, hd⟩
end
end Go.Proofs.Ytbnnfgdlkldafaa
