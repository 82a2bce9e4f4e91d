/- The reference of spaces: none, New, Is; a space more. -/
import Derived.Test.YtnppnoabhpkmkaaGreatMg25
namespace Go.Proofs.YtnppnoabhpkmkaaGreat
open Go.RowKit
theorem rnone_is (e : Int) (w : World) : Calls Tryz.prog 30 #[.int .i64 e] w fun x w' => x = .returned (.agg #[.int .i64 e, .int .u64 0]) ∧ Below w.heap.size w w' := by
  go_enter Tryz.func30, Tryz.ntmps30
  go_wp2
  exact bodyPost_ret (v := .agg #[.int .i64 e, .int .u64 0]) (by simp [results, Tryz.results30, go_sem]) rfl ⟨rfl, below_new _ _⟩
/-- A new one. -/
def NewedF (w : World) (e : Ending) (w' : World) : Prop := ∃ T : RfT, e = .returned (.pointer (some ⟨T.xa, 0, none⟩)) ∧ RfAt w.heap.size w' T ⟨[], []⟩ ∧ Below w.heap.size w w' ∧ ∀ k, MineF T k → w.heap.size ≤ k
theorem rnew_is (w : World) : Calls Tryz.prog 23 #[] w (NewedF w) := by
  have H : Hid (NewedF w (.returned (.pointer (some ⟨w.heap.size, 0, none⟩))) (w.alloc (.cells #[.slice none 0 0, .slice none 0 0] 38))) := by
    refine ⟨⟨w.heap.size, .slice none 0 0, .slice none 0 0, [], []⟩, rfl, ⟨Lrow.new w _ _, Enc.Own.nil _ _, Enc.Own.nil _ _, rfl, rfl, fun i h => absurd h (Nat.not_lt_zero _), fun i h => absurd h (Nat.not_lt_zero _), List.nodup_nil, List.nodup_nil, List.nodup_nil, Nat.le_refl _⟩, below_new _ _, ?_⟩
    rintro k (rfl | e | e | ⟨s, hs, _⟩ | ⟨q, hq, _⟩)
    · exact Nat.le_refl _
    · cases e
    · cases e
    · cases hs
    · cases hq
  go_enter Tryz.func23, Tryz.ntmps23
  go_wp2
  go_ret
  exact H.out
section
variable {w w' W : World} {B : Nat} {T : RfT} {F : Fl} {s : SpB} {S : Sp}
theorem isS_nat {i : Nat} (hi : i < F.L.length) : isS F i = !(sp F i).g := by
  unfold isS sp
  rw [decide_eq_true (show (0 : Int) ≤ i by omega), decide_eq_true (show (i : Int) < F.L.length by omega)]; rfl
theorem isS_out {i : Int} (h : ¬ (0 ≤ i ∧ i < F.L.length)) : isS F i = false := by
  unfold isS
  by_cases c : 0 ≤ i
  · rw [decide_eq_false (fun e => h ⟨c, e⟩), Bool.and_false]; rfl
  · rw [decide_eq_false c]; rfl
set_option maxRecDepth 100000 in
theorem ris_is (h : RfAt B w T F) (i : Int) : Calls Tryz.prog 19 #[.pointer (some ⟨T.xa, 0, none⟩), .int .i64 i] w fun e w' => e = .returned (.bool (isS F i)) ∧ w = w' := by
  obtain ⟨A, c, hv⟩ := h.ls.form
  have c0 := h.c0
  rw [hv] at c0
  obtain ⟨hn, hp⟩ := h.ptr hv
  by_cases h0 : 0 ≤ i
  · by_cases h1 : i < F.L.length
    · obtain ⟨j, rfl⟩ : ∃ j : Nat, i = j := ⟨i.toNat, by omega⟩
      have hj : j < F.L.length := by omega
      obtain ⟨g, s, rfl, hs, c1⟩ := hp j hj
      obtain ⟨s', hs', hS⟩ := h.space hj
      rw [hs] at hs'
      injection hs' with hs'
      subst hs'
      rw [isS_nat hj]
      have c2 := hS.top.cell 2
      rw [hn] at c0
      generalize (sp F j).g = b at *
      generalize F.L.length = n at *
      clear h hv hp hn hS hs hj
      go_enter Tryz.func19, Tryz.ntmps19
      go_wp2
      go_ret
      exact ⟨rfl, rfl⟩
    · rw [isS_out (fun e => h1 e.2)]
      rw [hn] at c0
      generalize F.L.length = n at *
      clear h hv hp hn
      go_enter Tryz.func19, Tryz.ntmps19
      go_wp2
      go_ret
      exact ⟨rfl, rfl⟩
  · rw [isS_out (fun e => h0 e.1)]
    clear h hv hp hn
    go_enter Tryz.func19, Tryz.ntmps19
    go_wp2
    go_ret
    exact ⟨rfl, rfl⟩
/-- Rows of other types are none of a space's. -/
theorem SpAt.other (h : SpAt B w s S) {g : Nat} {t : TypeId} {vs : List Value} (r : Lrow w g t vs) (h1 : t ≠ 52) (h2 : t ≠ 48) (h3 : t ≠ 23) : ¬ MineS s g := by
  rintro (rfl | rfl | rfl)
  · exact r.apart h.top h1 rfl
  · exact r.apart h.ars.top h2 rfl
  · obtain ⟨⟨us, q⟩, _⟩ := h.wds.block
    exact r.apart q h3 rfl
/-- The types of the reference's blocks. -/
def FlatT : List TypeId := [38, 53, 50, 52, 48, 23, 45]
theorem RfAt.other (h : RfAt B w T F) {g : Nat} {t : TypeId} {vs : List Value} (r : Lrow w g t vs) (ht : t ∉ FlatT) : ¬ MineF T g := by
  unfold FlatT at ht
  simp only [List.mem_cons, List.not_mem_nil, or_false, not_or] at ht
  obtain ⟨h1, h2, h3, h4, h5, h6, -⟩ := ht
  rintro (rfl | e | e | ⟨s, hs, hk⟩ | ⟨q, hq, rfl⟩)
  · exact r.apart h.top h1 rfl
  · obtain ⟨us, r2, _⟩ := h.ls.block e
    exact r.apart r2 h2 rfl
  · obtain ⟨us, r2, _⟩ := h.os.block e
    exact r.apart r2 h3 rfl
  · obtain ⟨i, hi, rfl⟩ := List.getElem_of_mem hs
    exact (h.sps i hi (by rw [← h.nl]; exact hi)).other r h4 h5 h6 hk
  · obtain ⟨i, hi, rfl⟩ := List.getElem_of_mem hq
    obtain ⟨⟨us, r2⟩, _⟩ := (h.obs i hi (by rw [← h.no]; exact hi)).block
    exact r.apart r2 h6 rfl
/-- A cell of a new block that is none of its own is written. -/
theorem DidF.cell (d : DidF B w T F w') {g i : Nat} {t : TypeId} {vs : List Value} (r : Lrow w' g t vs) (ht : t ∉ FlatT) (hg : w.heap.size ≤ g) (u : Value) : DidF B w T F (w'.setCell ⟨g, i, none⟩ u) := by
  obtain ⟨T', d0, d1, d2, d3⟩ := d
  have hn := d1.other r ht
  have hpg : t ≠ 45 := fun e => ht (by rw [e]; unfold FlatT; simp)
  refine ⟨T', d0, d1.keep (by simp [World.setCell]) (fun k hk => Below.heap_setCell w' _ u k (fun e => hn (by have e : k = g := e; subst e; exact hk))) (fun k vs q => Below.heap_setCell w' _ u k (fun e => by have e : k = g := e; exact r.apart q hpg e.symm)), ⟨d2.os, d2.tape, d2.output, by simpa [World.setCell] using d2.size, fun k hk hx => (Below.heap_setCell w' ⟨g, i, none⟩ u k (by show k ≠ g; omega)).trans (d2.keep k hk hx)⟩, d3⟩
/-- A space more: behind the appending. -/
theorem RfAt.more {w0 w5 : World} {v5 : Value} (h : RfAt B w0 T F) (hb : Below w0.heap.size w0 w) (hs : SpAt B w s S) (hf : ∀ k, MineS s k → w0.heap.size ≤ k)
    (g5 : w.grownBy w5 T.vl.ownBlock) (o5 : ESp.Own B w5 v5 (T.LS.map SpB.sb ++ [s.sb])) (t5 : v5.ownBlock = T.vl.ownBlock ∨ ∃ g, v5.ownBlock = some g ∧ w0.heap.size ≤ g) :
    w5.cell? ⟨T.xa, 0, none⟩ = some T.vl ∧ w5.frozen? ⟨T.xa, 0, none⟩ = false ∧ DidF B w0 T { F with L := F.L ++ [S] } (w5.setCell ⟨T.xa, 0, none⟩ v5) := by
  have hw := h.call hb
  have nx : T.vl.ownBlock ≠ some T.xa := fun e => by
    obtain ⟨vs, r, _⟩ := hw.ls.block e
    exact r.apart hw.top (by decide) rfl
  have top5 : Lrow w5 T.xa 38 [T.vl, T.vo] := hw.top.grown g5 (fun e => nx e.symm)
  have kk : ∀ k, k < w.heap.size → k ≠ T.xa → T.vl.ownBlock ≠ some k → (w5.setCell ⟨T.xa, 0, none⟩ v5).heap[k]? = w.heap[k]? := fun k hk h1 h2 => (Below.heap_setCell w5 _ _ k h1).trans (g5.block k hk (fun e => h2 e.symm))
  have hsz : w.heap.size ≤ (w5.setCell ⟨T.xa, 0, none⟩ v5).heap.size := by have := g5.size; simp [World.setCell]; omega
  have ks : ∀ {s' : SpB} {S' : Sp}, SpAt B w s' S' → SpAt B (w5.setCell ⟨T.xa, 0, none⟩ v5) s' S' := fun {s' S'} q => q.keep hsz (fun k hk => kk k (q.lt k hk) (fun e => q.other hw.top (by decide) (by decide) (by decide) (e ▸ hk)) (fun e => by
    obtain ⟨vs, r, _⟩ := hw.ls.block e
    exact q.other r (by decide) (by decide) (by decide) hk)) (fun k vs r => kk k r.lt (r.apart hw.top (by decide)) (fun e => by
    obtain ⟨us, r2, _⟩ := hw.ls.block e
    exact r.apart r2 (by decide) rfl))
  have kw : ∀ {q : Nat × Nat} {V : Int → Int}, WIs B w q V → WIs B (w5.setCell ⟨T.xa, 0, none⟩ v5) q V := fun {q V} z => by
    obtain ⟨⟨vs, r⟩, _⟩ := z.block
    exact z.heap (kk _ r.lt (r.apart hw.top (by decide)) (fun e => by
      obtain ⟨us, r2, _⟩ := hw.ls.block e
      exact r.apart r2 (by decide) rfl))
  have hnew : ∀ k, MineF T k → k < w0.heap.size := h.lt
  refine ⟨top5.cell 0, top5.frozen 0, ⟨T.xa, v5, T.vo, T.LS ++ [s], T.LO⟩, rfl, ⟨top5.set_ 0 v5, ?_, ?_, ?_, h.no, fun i hi h2 => ?_, fun i hi h2 => kw (hw.obs i hi h2), ?_, ?_, ?_, h.lo⟩, ?_, ?_⟩
  · rw [List.map_append, List.map_cons, List.map_nil]
    refine o5.heap fun g e => ?_
    obtain ⟨vs, r, _⟩ := o5.block e
    exact Below.heap_setCell w5 _ _ g (r.apart top5 (by decide))
  · refine hw.os.heap fun g e => ?_
    obtain ⟨vs, r, _⟩ := hw.os.block e
    exact kk g r.lt (r.apart hw.top (by decide)) (fun e2 => by
      obtain ⟨us, r2, _⟩ := hw.ls.block e2
      exact r.apart r2 (by decide) rfl)
  · show (T.LS ++ [s]).length = (F.L ++ [S]).length
    rw [List.length_append, List.length_append, h.nl]; rfl
  · have hi : i < (T.LS ++ [s]).length := hi
    have h2 : i < (F.L ++ [S]).length := h2
    show SpAt B _ (T.LS ++ [s])[i] (F.L ++ [S])[i]
    by_cases c : i < T.LS.length
    · rw [List.getElem_append_left c, List.getElem_append_left (by rw [← h.nl]; exact c)]
      exact ks (hw.sps i c (by rw [← h.nl]; exact c))
    · have e : i = T.LS.length := by rw [List.length_append, List.length_singleton] at hi; omega
      subst e
      rw [List.getElem_append_right (Nat.le_refl _), List.getElem_append_right (by rw [h.nl]; exact Nat.le_refl _)]
      simp only [Nat.sub_self, List.getElem_singleton]
      exact ks hs
  · show ((T.LS ++ [s]).map SpB.sb).Nodup
    rw [List.map_append, List.nodup_append]
    refine ⟨h.dS, by simp, fun a ha b hb e => ?_⟩
    obtain ⟨z, hz, rfl⟩ := List.mem_map.1 ha
    simp at hb
    subst hb
    have := hnew z.sb (Or.inr (Or.inr (Or.inr (Or.inl ⟨z, hz, Or.inl rfl⟩))))
    have := hf s.sb (Or.inl rfl)
    omega
  · show ((T.LS ++ [s]).map SpB.ab).Nodup
    rw [List.map_append, List.nodup_append]
    refine ⟨h.dA, by simp, fun a ha b hb e => ?_⟩
    obtain ⟨z, hz, rfl⟩ := List.mem_map.1 ha
    simp at hb
    subst hb
    have := hnew z.ab (Or.inr (Or.inr (Or.inr (Or.inl ⟨z, hz, Or.inr (Or.inl rfl)⟩))))
    have := hf s.ab (Or.inr (Or.inl rfl))
    omega
  · show (((T.LS ++ [s]).map fun z => z.wq.1) ++ T.LO.map Prod.fst).Nodup
    have hd := List.nodup_append.1 h.dW
    rw [List.map_append, List.nodup_append, List.nodup_append]
    have hsf := hf s.wq.1 (Or.inr (Or.inr rfl))
    refine ⟨⟨hd.1, by simp, fun a ha b hb e => ?_⟩, hd.2.1, fun a ha b hb e => ?_⟩
    · obtain ⟨z, hz, rfl⟩ := List.mem_map.1 ha
      simp at hb
      subst hb
      have := hnew z.wq.1 (Or.inr (Or.inr (Or.inr (Or.inl ⟨z, hz, Or.inr (Or.inr rfl)⟩))))
      omega
    · rw [List.mem_append] at ha
      rcases ha with ha | ha
      · exact hd.2.2 a ha b hb e
      · simp at ha
        subst ha
        obtain ⟨z, hz, rfl⟩ := List.mem_map.1 hb
        have := hnew z.1 (Or.inr (Or.inr (Or.inr (Or.inr ⟨z, hz, rfl⟩))))
        omega
  · have f1 : Foot (MineF T) w0 w := Foot.of_below hb
    have f2 : Foot (MineF T) w w5 := Foot.grownO g5 fun b e _ => Or.inr (Or.inl e)
    exact (f1.trans f2 fun _ e _ => e).trans (Foot.grown (X := MineF T) (grown_set w5 T.xa 0 v5) (Or.inl rfl)) fun _ e _ => e
  · rintro k (rfl | e | e | ⟨z, hz, hk⟩ | ⟨q, hq, rfl⟩)
    · exact Or.inl (Or.inl rfl)
    · rcases t5 with t5 | ⟨g, t5, hg⟩
      · exact Or.inl (Or.inr (Or.inl (t5 ▸ e)))
      · have e : v5.ownBlock = some k := e
        rw [t5] at e; injection e with e; exact Or.inr (by omega)
    · exact Or.inl (Or.inr (Or.inr (Or.inl e)))
    · have hz : z ∈ T.LS ++ [s] := hz
      rw [List.mem_append, List.mem_singleton] at hz
      rcases hz with hz | rfl
      · exact Or.inl (Or.inr (Or.inr (Or.inr (Or.inl ⟨z, hz, hk⟩))))
      · exact Or.inr (hf k hk)
    · exact Or.inl (Or.inr (Or.inr (Or.inr (Or.inr ⟨q, hq, rfl⟩))))
/-- What a call that answers a result comes to. -/
def ResF (B : Nat) (w : World) (T : RfT) (r : Int × Int × Fl) (e : Ending) (w' : World) : Prop := e = .returned (.agg #[.int .i64 r.1, .int .u64 r.2.1]) ∧ DidF B w T r.2.2 w'
set_option maxRecDepth 100000 in
set_option maxHeartbeats 1000000 in
theorem radd_is {w0 : World} (h : RfAt B w0 T F) (hb : Below w0.heap.size w0 w) (hs : SpAt B w s S) (hf : ∀ k, MineS s k → w0.heap.size ≤ k) :
    Calls Tryz.prog 31 #[.pointer (some ⟨T.xa, 0, none⟩), .pointer (some ⟨s.sb, 0, none⟩)] w (ResF B w0 T (addF F S)) := by
  obtain ⟨A, c, hv⟩ := h.ls.form
  have hn := (h.ptr hv).1
  obtain ⟨W, hW⟩ : ∃ W, W = w.alloc (.cells #[.int .i64 0, .int .u64 0] 33) := ⟨_, rfl⟩
  obtain ⟨rb, hrb⟩ : ∃ rb, rb = w.heap.size := ⟨_, rfl⟩
  have hbW : Below w.heap.size w W := by rw [hW]; exact below_new _ _
  have hb0W : Below w0.heap.size w0 W := hb.trans (hbW.mono hb.size)
  have rr : Lrow W rb 33 [.int .i64 0, .int .u64 0] := by rw [hW, hrb]; exact Lrow.new w _ [.int .i64 0, .int .u64 0]
  have c0 : W.cell? ⟨T.xa, 0, none⟩ = some T.vl := (h.call hb0W).c0
  have hrg : w0.heap.size ≤ rb := by rw [hrb]; exact hb.size
  unfold addF
  by_cases hl : 15 < F.L.length
  · rw [if_pos hl]
    have HD := Lib.hid (fun w' (hb' : Below w0.heap.size w0 w') => h.did hb')
    have hl' : (15 : Int) < (F.L.length : Int) := by omega
    have HW := Lib.hid (And.intro hW hrb)
    have HBB := Lib.hid hb0W
    have HR := Lib.hid rr
    have HSZ := Lib.hid hrg
    rw [hv, hn] at c0
    clear h hs hf hv hn hbW hb0W rr hW hb hrb hrg
    generalize F.L.length = n at *
    go_enter Tryz.func31, Tryz.ntmps31
    go_upto_region 1 with (fail)
    rw [← HW.out.1, ← HW.out.2]
    go_wp2_with (go_at_call 30; (with_reducible refine (rnone_is _ _).mono ?_); rintro e w1 ⟨rfl, hb1⟩; have f0 := (HR.out.call hb1).frozen 0; have f1 := (HR.out.call hb1).frozen 1; have g0 := (HR.out.call hb1).cell 0; have g1 := (HR.out.call hb1).cell 1; have HB1 := Lib.hid hb1; clear hb1)
    have hr1 := HR.out.call HB1.out
    exact bodyPost_ret (v := .agg #[.int .i64 13, .int .u64 0]) (by simp [results, Tryz.results31, go_sem, *]) rfl ⟨rfl, ((HD.out w1 (HBB.out.trans (HB1.out.mono HBB.out.size))).cell hr1 (by decide) HSZ.out _).cell (hr1.set_ 0 _) (by decide) HSZ.out _⟩
  · rw [if_neg hl]
    obtain ⟨A5, c5, W5, r5, o5, g5, t5⟩ := (h.call hb0W).ls.app1 (h.call hb0W).lw s.sb (by rw [List.length_map, h.nl]; omega) #[.pointer (some ⟨s.sb, 0, none⟩)] rfl
    obtain ⟨x0, xf, hD⟩ := h.more hb0W (hs.call hbW) hf g5 o5 (t5.imp id fun ⟨g, e, hg⟩ => ⟨g, e, Nat.le_trans hb0W.size hg⟩)
    have r5' := r5 _ rfl
    have nrb : some rb ≠ T.vl.ownBlock := fun e => by
      obtain ⟨vs, r, _⟩ := (h.call hb0W).ls.block e.symm
      exact rr.apart r (by decide) rfl
    have top5 : Lrow W5 T.xa 38 [T.vl, T.vo] := (h.call hb0W).top.grown g5 (fun e => by
      obtain ⟨vs, r, _⟩ := (h.call hb0W).ls.block e.symm
      exact r.apart (h.call hb0W).top (by decide) rfl)
    have nxa : rb ≠ T.xa := by have := h.top.lt; omega
    obtain ⟨W6, hW6⟩ : ∃ W6, W6 = W5.setCell ⟨T.xa, 0, none⟩ (.slice A5 ((T.LS.map SpB.sb).length + 1) c5) := ⟨_, rfl⟩
    have rr6 : Lrow W6 rb 33 [.int .i64 0, .int .u64 0] := by rw [hW6]; exact (rr.grown g5 nrb).far nxa _
    have x1 : W6.cell? ⟨T.xa, 0, none⟩ = some (.slice A5 ((T.LS.map SpB.sb).length + 1) c5) := by rw [hW6]; exact (top5.set_ 0 _).cell 0
    rw [← hW6] at hD
    rw [List.length_map, h.nl] at r5' x1 hW6
    rw [hv, hn] at c0 x0
    rw [hv] at r5'
    rw [hn] at r5'
    change (Builtin.append_ #[35, 35] 35 _).run Tryz.prog (W.alloc (.cells #[.pointer (some ⟨s.sb, 0, none⟩)] 53)) = _ at r5'
    have hl' : ¬ (15 : Int) < (F.L.length : Int) := by omega
    have HW := Lib.hid (And.intro hW hrb)
    have HW6 := Lib.hid hW6
    have HR := Lib.hid rr6
    have HSZ := Lib.hid hrg
    have HD := Lib.hid hD
    have f0 := rr6.frozen 0
    have f1 := rr6.frozen 1
    have g0 := rr6.cell 0
    have g1 := rr6.cell 1
    have e1 : IntKind.u64.wrap (IntKind.u64.wrap ((F.L.length : Int) + 1) - 1) = (F.L.length : Int) := by
      rw [IntKind.wrap_u64, IntKind.wrap_u64]; omega
    clear h hs hf hv hn hbW hb0W rr hW hb hrb hrg r5 o5 g5 t5 nrb top5 nxa rr6 hD hW6
    generalize F.L.length = n at *
    go_enter Tryz.func31, Tryz.ntmps31
    go_upto_region 1 with (fail)
    rw [← HW.out.1, ← HW.out.2]
    go_upto_region 4 with (at_builtin; refine wpList_append_run rfl _ _ 35 rfl _ _ rfl rfl r5' ?_)
    rw [← HW6.out]
    clear x0 xf r5' c0
    go_wp2_with fail
    exact bodyPost_ret (v := .agg #[.int .i64 0, .int .u64 n]) (by simp [results, Tryz.results31, go_sem, *]) rfl ⟨rfl, (HD.out.cell HR.out (by decide) HSZ.out _).cell (HR.out.set_ 0 _) (by decide) HSZ.out _⟩
end
end Go.Proofs.YtnppnoabhpkmkaaGreat
/- The reference of spaces: clear, Room. -/
namespace Go.Proofs.YtnppnoabhpkmkaaGreat
open Go.RowKit
section
variable {w w' : World} {B : Nat} {T : RfT} {F : Fl} {s : SpB} {S : Sp}
theorem SpAt.word (h : SpAt B w s S) {w' : World} (hg : w.grownBy w' (some s.wq.1)) {W : Int → Int} (hW : WIs B w' s.wq W) : SpAt B w' s { S with W := W } := by
  obtain ⟨⟨vs, r⟩, _⟩ := h.wds.block
  have n1 : s.sb ≠ s.wq.1 := fun e => r.apart h.top (by decide) e.symm
  have n2 : s.ab ≠ s.wq.1 := fun e => r.apart h.ars.top (by decide) e.symm
  have kk : ∀ k, k < w.heap.size → k ≠ s.wq.1 → w'.heap[k]? = w.heap[k]? := fun k hk hne => hg.block k hk (by intro e; injection e with e; exact hne e)
  refine ⟨(kk _ h.top.lt n1).trans h.top, h.ars.keep hg.size fun k e hl => kk k hl ?_, hW, h.lo⟩
  rintro rfl
  rcases e with e | e
  · exact n2 e.symm
  · obtain ⟨⟨us, q⟩, _⟩ := h.ars.block e
    exact r.apart q (by decide) rfl
theorem SpAt.c0 (h : SpAt B w s S) : w.cell? ⟨s.sb, 0, none⟩ = some (.pointer (some ⟨s.ab, 0, none⟩)) := h.top.cell 0
theorem SpAt.c1 (h : SpAt B w s S) : w.cell? ⟨s.sb, 1, none⟩ = some (.slice (some ⟨s.wq.1, 0, none⟩) 32768 s.wq.2) := h.top.cell 1
theorem SpAt.c2 (h : SpAt B w s S) : w.cell? ⟨s.sb, 2, none⟩ = some (.bool S.g) := h.top.cell 2
set_option maxRecDepth 100000 in
set_option maxHeartbeats 2000000 in
theorem rclear_is (h : SpAt B w s S) {a n : Nat} (han : a + n ≤ 4096) : Calls Tryz.prog 34 #[.pointer (some ⟨s.sb, 0, none⟩), .int .i64 a, .int .i64 n] w fun e w' => e = .returned (.tuple #[]) ∧ SpAt B w' s { S with W := clr S.W a n } ∧ w.grownBy w' (some s.wq.1) := by
  have ha4 : (a : Int) ≤ 4096 := by omega
  have hn4 : (n : Int) ≤ 4096 := by omega
  have han4 : (a : Int) + n ≤ 4096 := by omega
  have H := Lib.hid h
  have HN := Lib.hid han
  have nsb : Hid (some s.sb ≠ some s.wq.1) := fun e => by
    obtain ⟨⟨vs, r⟩, _⟩ := h.wds.block
    injection e with e
    exact r.apart h.top (by decide) e.symm
  obtain ⟨M, hM⟩ : ∃ M : Nat, M = 32768 := ⟨_, rfl⟩
  have HM := Lib.hid hM
  clear h han hM
  go_enter Tryz.func34, Tryz.ntmps34
  go_wp2
  go_loopw [6] (fun i wr => ∃ x : Nat, a * 8 ≤ x ∧ x ≤ (a + n) * 8 ∧ i = .int .i64 x ∧ WIs B wr s.wq (fun k => if (a : Int) * 8 ≤ k ∧ k < x then 0 else S.W k) ∧ w.grownBy wr (some s.wq.1)) (fun i _ => (a + n) * 8 - (RowKit.intOf i).toNat)
  case atStart =>
    refine ⟨a * 8, Nat.le_refl _, by omega, by go_num, H.out.wds.eq fun i _ => if_neg (by omega), World.grownBy.refl _ _⟩
  case round =>
    obtain ⟨x, hx1, hx2, rfl, hw, hg⟩ := hrel
    have c1 : wr.cell? ⟨s.sb, 1, none⟩ = some (.slice (some ⟨s.wq.1, 0, none⟩) 32768 s.wq.2) := (H.out.top.grown hg nsb.out).cell 1
    rw [← HM.out] at c1
    by_cases hlt : x < (a + n) * 8
    · have hxl : x < 32768 := by have := HN.out; omega
      obtain ⟨e5, f0⟩ := hw.at_ hxl
      generalize (if (a : Int) * 8 ≤ (x : Int) ∧ (x : Int) < (x : Int) then 0 else S.W x) = y0 at e5
      have hput := hw.put hxl 0
      have hg' := grown_trans1 hg (grown_set wr s.wq.1 x (.int .u64 0))
      have hlt' : (x : Int) < ((a : Int) + n) * 8 := by omega
      have x0 : (0 : Int) ≤ x := by omega
      have x4 : (x : Int) < (M : Int) := by have := HM.out; omega
      have HP := Lib.hid hput
      have HG := Lib.hid hg'
      have HX1 := Lib.hid hx1
      clear hw hg hput hg' hx1 hxl
      go_wp2_with fail
      go_roundw
      case rel =>
        have hx1 := HX1.out
        refine ⟨x + 1, by omega, hlt, by go_num, HP.out.eq fun i hi => ?_, HG.out⟩
        by_cases e : (i : Int) = x
        · rw [if_pos e]; split
          · rfl
          · omega
        · rw [if_neg e]
          by_cases c : (a : Int) * 8 ≤ i ∧ (i : Int) < x
          · rw [if_pos c, if_pos (by omega)]
          · rw [if_neg c, if_neg (by omega)]
      case measure => simp [RowKit.intOf]; omega
    · have hlt' : ¬ (x : Int) < ((a : Int) + n) * 8 := by omega
      have HE : Hid (SpAt B wr s { S with W := clr S.W a n } ∧ w.grownBy wr (some s.wq.1)) := ⟨H.out.word hg (hw.eq fun i _ => by
        unfold clr
        by_cases c : (a : Int) * 8 ≤ i ∧ (i : Int) < ((a : Int) + n) * 8
        · rw [if_pos c, if_pos (by omega)]
        · rw [if_neg c, if_neg (by omega)]), hg⟩
      clear hw hg
      go_wp2_with fail
      go_end0
      exact ⟨rfl, HE.out⟩
set_option maxRecDepth 100000 in
set_option maxHeartbeats 2000000 in
theorem room_is {xa : Nat} {v : Value} {P : Int → Pg} (h : Px B w xa v P) {n sz : Int} (hs : sz = 1 ∨ sz = 8 ∨ sz = 64) : Calls Tryz.prog 55 #[.pointer (some ⟨xa, 0, none⟩), .int .i64 n, .int .i64 sz] w fun e w' => e = .returned (.int .i64 (roomP P n sz)) ∧ w = w' := by
  obtain ⟨g, c, rfl, -, -, hat⟩ := h.form
  have c0 := h.c0
  have HAT : Hid (∀ i : Nat, i < 4096 → w.cell? ⟨g, i * 4, none⟩ = some (.int .i64 (P i).h)) := fun i hi => (pg_at (hat i hi)).1
  clear h hat
  have HS := Lib.hid hs
  go_enter Tryz.func55, Tryz.ntmps55
  go_wp2
  go_loopw [7, 8, 9] (fun r b i wr => ∃ k x : Nat, x + k = 4095 ∧ r = .int .i64 (runN P k) ∧ b = .int .i64 (bestN P n sz k) ∧ i = .int .i64 x ∧ wr = w) (fun _ _ i _ => (RowKit.intOf i).toNat)
  case atStart => exact ⟨0, 4095, rfl, rfl, rfl, rfl, rfl⟩
  case round =>
    obtain ⟨k, x, hkx, rfl, rfl, rfl, rfl⟩ := hrel
    have hrl := runN_le P k
    obtain ⟨r, hr⟩ : ∃ r, r = runN P k := ⟨_, rfl⟩
    obtain ⟨b, hb⟩ : ∃ b, b = bestN P n sz k := ⟨_, rfl⟩
    rw [← hr] at hrl ⊢
    rw [← hb]
    have HR := Lib.hid hr
    have HB := Lib.hid hb
    have HK := Lib.hid hkx
    clear hr hb
    by_cases hx : 1 ≤ x
    · have hc := HAT.out x (by omega)
      obtain ⟨y, hy⟩ : ∃ y, y = (P x).h := ⟨_, rfl⟩
      rw [← hy] at hc
      have HY := Lib.hid hy
      have x1 : (1 : Int) ≤ x := by omega
      have x4 : (x : Int) < 4096 := by omega
      have r4 : (r : Int) ≤ 4095 := by omega
      have hstep : Hid (∀ r', r' = runN P (k + 1) → ∀ b', b' = (if n ≤ r' ∧ (x : Int) % sz = 0 then (x : Int) else b) → b' = bestN P n sz (k + 1)) := fun r' e1 b' e2 => by
        rw [e2, e1, show bestN P n sz (k + 1) = if n ≤ runN P (k + 1) ∧ (4095 - (k : Int)) % sz = 0 then 4095 - (k : Int) else bestN P n sz k from rfl, show (4095 : Int) - k = x by omega, HB.out]
      have hrun : Hid (runN P (k + 1) = if y ≠ 0 then 0 else r + 1) := by
        show _ = _
        rw [show runN P (k + 1) = if (P (4095 - (k : Int))).h ≠ 0 then 0 else runN P k + 1 from rfl, show (4095 : Int) - k = x by omega, ← HY.out, HR.out]
      clear hy hrl hkx
      have fin : Hid (∀ (r' : Nat) (rz : Int), runN P (k + 1) = r' → rz = r' → ∀ b' : Int, b' = (if n ≤ (r' : Int) ∧ (x : Int) % sz = 0 then (x : Int) else b) → ∃ k' x' : Nat, x' + k' = 4095 ∧ Value.int .i64 rz = .int .i64 (runN P k') ∧ Value.int .i64 b' = .int .i64 (bestN P n sz k') ∧ Value.int .i64 ((x : Int) - 1) = .int .i64 x' ∧ True) := fun r' rz e1 e0 b' e2 =>
        ⟨k + 1, x - 1, by have := HK.out; omega, by rw [e1, e0], by rw [hstep.out r' e1.symm b' e2], by congr 1; omega, trivial⟩
      by_cases hy0 : y = 0
      · have hrun' : Hid (runN P (k + 1) = r + 1) := by show _ = _; rw [hrun.out, if_neg (by simpa using hy0)]
        subst hy0
        by_cases hn1 : n ≤ (r : Int) + 1
        · by_cases hm : (x : Int) % sz = 0
          · have HE := Lib.hid (fin.out (r + 1) ((r : Int) + 1) hrun'.out (by omega) x (by rw [if_pos ⟨by omega, hm⟩]))
            rcases hs with rfl | rfl | rfl
            all_goals
              go_wp2_with fail
              go_roundw
              case rel => exact HE.out
              case measure => simp [RowKit.intOf]; omega
          · have HE := Lib.hid (fin.out (r + 1) ((r : Int) + 1) hrun'.out (by omega) b (by rw [if_neg (fun e => hm e.2)]))
            rcases hs with rfl | rfl | rfl
            · exact absurd (Int.emod_one _) hm
            all_goals
              go_wp2_with fail
              go_roundw
              case rel => exact HE.out
              case measure => simp [RowKit.intOf]; omega
        · have HE := Lib.hid (fin.out (r + 1) ((r : Int) + 1) hrun'.out (by omega) b (by rw [if_neg (fun e => hn1 (by have := e.1; omega))]))
          go_wp2_with fail
          go_roundw
          case rel => exact HE.out
          case measure => simp [RowKit.intOf]; omega
      · have hrun' : Hid (runN P (k + 1) = 0) := by show _ = _; rw [hrun.out, if_pos hy0]
        by_cases hn1 : n ≤ 0
        · by_cases hm : (x : Int) % sz = 0
          · have HE := Lib.hid (fin.out 0 0 hrun'.out rfl x (by rw [if_pos ⟨by omega, hm⟩]))
            rcases hs with rfl | rfl | rfl
            all_goals
              go_wp2_with fail
              go_roundw
              case rel => exact HE.out
              case measure => simp [RowKit.intOf]; omega
          · have HE := Lib.hid (fin.out 0 0 hrun'.out rfl b (by rw [if_neg (fun e => hm e.2)]))
            rcases hs with rfl | rfl | rfl
            · exact absurd (Int.emod_one _) hm
            all_goals
              go_wp2_with fail
              go_roundw
              case rel => exact HE.out
              case measure => simp [RowKit.intOf]; omega
        · have HE := Lib.hid (fin.out 0 0 hrun'.out rfl b (by rw [if_neg (fun e => hn1 (by have := e.1; omega))]))
          go_wp2_with fail
          go_roundw
          case rel => exact HE.out
          case measure => simp [RowKit.intOf]; omega
    · have hx0 : x = 0 := by omega
      subst hx0
      have HE : Hid (b = roomP P n sz) := by
        show _ = _
        rw [HB.out]
        have : k = 4095 := by omega
        subst this; rfl
      go_wp2_with fail
      go_ret
      exact ⟨ret_int HE.out, rfl⟩
end
end Go.Proofs.YtnppnoabhpkmkaaGreat
