/- The reference's Move, whole. -/
import Derived.Test.YtnppnoabhpkmkaaGreatMg30
import Derived.Test.YtnppnoabhpkmkaaGreatMg28
import Derived.Laws.OwnMore
namespace Go.Proofs.YtnppnoabhpkmkaaGreat
open Go.RowKit
section
variable {w w' : World} {B D xa xb : Nat} {v vb : Value} {P Q : Int → Pg}
set_option maxRecDepth 100000 in
set_option maxHeartbeats 1000000 in
theorem move_is (h : Px B w xa v P) {a n t : Int} (ha : Fits a) (hn : Fits n) (ht : Fits t) : Calls Tryz.prog 61 #[.pointer (some ⟨xa, 0, none⟩), .int .i64 a, .int .i64 n, .int .i64 t] w (ToldP B w xa P (mvP P a n t) (mvE P a n t) (pcs P a n.toNat)) := by
  obtain ⟨er, her⟩ : ∃ er, er = rtI a n 0 := ⟨_, rfl⟩
  obtain ⟨es, hes⟩ : ∃ es, es = rtI t n 0 := ⟨_, rfl⟩
  have hri := fun w => right_is ha hn w
  have hri2 := fun w => right_is ht hn w
  by_cases h0 : er = 0
  · have hr : rtI a n 0 = 0 := her.symm.trans h0
    rw [hr] at hri
    by_cases h02 : es = 0
    · have hr2 : rtI t n 0 = 0 := hes.symm.trans h02
      rw [hr2] at hri2
      obtain ⟨h1, h2, h3⟩ := rt_in hr
      obtain ⟨h4, _, h6⟩ := rt_in hr2
      obtain ⟨a, rfl⟩ : ∃ k : Nat, a = k := ⟨a.toNat, by omega⟩
      obtain ⟨n, rfl⟩ : ∃ k : Nat, n = k := ⟨n.toNat, by omega⟩
      obtain ⟨t, rfl⟩ : ∃ k : Nat, t = k := ⟨t.toNat, by omega⟩
      have hE0 : mvE P a n t = if (t : Int) < a + n ∧ (a : Int) < t + n then 2 else if covB P a n = false then 6 else if hugeB P a n = true then 2 else if usedB P t n = true then 7 else if fullB (mvP P a n t) = true then 13 else 0 := by
        unfold mvE; rw [if_neg (by rw [hr]; decide), if_neg (by rw [hr2]; decide)]; rfl
      rw [show ((n : Int)).toNat = n from Int.toNat_natCast n, hE0]
      clear hE0
      have hcv := covers_is h (a := a) (n := n) hr (by omega)
      by_cases ho : (t : Int) < a + n ∧ (a : Int) < t + n
      · rw [if_pos ho]
        have HN := Lib.hid (fun w' hb => ToldP.no (w := w) (w' := w') (er := 2) (by decide) (l := pcs P a n) (Q := mvP P a n t) h hb)
        obtain ⟨o1, o2⟩ := ho
        have d1 : decide ((t : Int) < (a : Int) + n) = true := decide_eq_true o1
        have d2 : decide ((a : Int) < (t : Int) + n) = true := decide_eq_true o2
        have n4 : (n : Int) ≤ 4096 := by omega
        have a4 : (a : Int) ≤ 4096 := by omega
        have t4 : (t : Int) ≤ 4096 := by omega
        clear h ha hn ht her hes hr hr2 h0 h02 h1 h2 h3 h4 h6 hcv
        go_enter Tryz.func61, Tryz.ntmps61
        go_wp2_with (go_at_call 82; first | ((with_reducible refine (hri _).mono ?_); rintro e w1 ⟨rfl, rfl⟩) | ((with_reducible refine (hri2 _).mono ?_); rintro e w1 ⟨rfl, rfl⟩))
        go_ret2
        exact HN.out _ (Below.refl _ _)
      · rw [if_neg ho]
        by_cases hc : covB P a n = true
        · rw [if_neg (by rw [hc]; decide)]
          by_cases hd : (a : Int) + n ≤ t
          · exact move_up h hr hr2 (by omega) hc
          · exact move_down h hr hr2 (by omega) hc
        · rw [if_pos (by simpa using hc)]
          rw [show covB P a n = false by simpa using hc] at hcv
          have HN := Lib.hid (fun w' hb => ToldP.no (w := w) (w' := w') (er := 6) (by decide) (l := pcs P a n) (Q := mvP P a n t) h hb)
          have n4 : (n : Int) ≤ 4096 := by omega
          have a4 : (a : Int) ≤ 4096 := by omega
          have t4 : (t : Int) ≤ 4096 := by omega
          by_cases o1 : (t : Int) < (a : Int) + n
          · have o2 : ¬ (a : Int) < (t : Int) + n := fun e => ho ⟨o1, e⟩
            have d1 : decide ((t : Int) < (a : Int) + n) = true := decide_eq_true o1
            have d2 : decide ((a : Int) < (t : Int) + n) = false := decide_eq_false o2
            clear h ha hn ht her hes hr hr2 h0 h02 h1 h2 h3 h4 h6 ho hc
            go_enter Tryz.func61, Tryz.ntmps61
            go_wp2_with (first | (go_at_call 82; first | ((with_reducible refine (hri _).mono ?_); rintro e w1 ⟨rfl, rfl⟩) | ((with_reducible refine (hri2 _).mono ?_); rintro e w1 ⟨rfl, rfl⟩)) | (go_at_call 59; (with_reducible refine hcv.mono ?_); rintro e w1 ⟨rfl, rfl⟩))
            go_ret2
            exact HN.out _ (Below.refl _ _)
          · have d1 : decide ((t : Int) < (a : Int) + n) = false := decide_eq_false o1
            clear h ha hn ht her hes hr hr2 h0 h02 h1 h2 h3 h4 h6 ho hc
            go_enter Tryz.func61, Tryz.ntmps61
            go_wp2_with (first | (go_at_call 82; first | ((with_reducible refine (hri _).mono ?_); rintro e w1 ⟨rfl, rfl⟩) | ((with_reducible refine (hri2 _).mono ?_); rintro e w1 ⟨rfl, rfl⟩)) | (go_at_call 59; (with_reducible refine hcv.mono ?_); rintro e w1 ⟨rfl, rfl⟩))
            go_ret2
            exact HN.out _ (Below.refl _ _)
    · have hE : mvE P a n t = es := by unfold mvE; rw [if_neg (by rw [hr]; decide), ← hes, if_pos h02]
      rw [hE]
      rw [← hes] at hri2
      have h0' : (es != 0) = true := by simpa using h02
      have HN := Lib.hid (fun w' hb => ToldP.no (w := w) (w' := w') (er := es) h02 (l := pcs P a n.toNat) (Q := mvP P a n t) h hb)
      clear h ha hn ht her hes hE hr h0
      go_enter Tryz.func61, Tryz.ntmps61
      go_wp2_with (go_at_call 82; first | ((with_reducible refine (hri _).mono ?_); rintro e w1 ⟨rfl, rfl⟩) | ((with_reducible refine (hri2 _).mono ?_); rintro e w1 ⟨rfl, rfl⟩))
      go_ret2
      exact HN.out _ (Below.refl _ _)
  · have hE : mvE P a n t = er := by unfold mvE; rw [← her, if_pos h0]
    rw [hE]
    rw [← her] at hri
    have h0' : (er != 0) = true := by simpa using h0
    have h0e : (er == 0) = false := by simpa using h0
    have HN := Lib.hid (fun w' hb => ToldP.no (w := w) (w' := w') (er := er) h0 (l := pcs P a n.toNat) (Q := mvP P a n t) h hb)
    clear h ha hn ht her hes hE hri2
    go_enter Tryz.func61, Tryz.ntmps61
    go_wp2_with (go_at_call 82; (with_reducible refine (hri _).mono ?_); rintro e w1 ⟨rfl, rfl⟩)
    go_ret2
    exact HN.out _ (Below.refl _ _)
end
end Go.Proofs.YtnppnoabhpkmkaaGreat
/- The reference of spaces: a space's areas have turned; an object more; new words. -/
namespace Go.Proofs.YtnppnoabhpkmkaaGreat
open Go.RowKit
/-- Numbers that an int holds. -/
structure RqOk (r : Rq) : Prop where
  k : Fits r.k
  s : Fits r.s
  a : Fits r.a
  n : Fits r.n
  h : Fits r.h
  p : Fits r.p
  t : Fits r.t
section
variable {w w' : World} {B : Nat} {T : RfT} {F : Fl} {s s' : SpB} {S S' : Sp}
theorem put_self {j : Nat} (hj : j < F.L.length) : put F (j : Int) (sp F j) = F := by
  unfold put
  rw [Int.toNat_natCast, sp_at hj, List.set_getElem_self]
/-- The areas of one space have turned. -/
theorem RfAt.putA (h : RfAt B w T F) {j : Nat} (hj : j < F.L.length) (hs : T.LS[j]? = some s) {Q : Int → Pg} (hd : DidP B w s.ab Q w') : DidF B w T (put F j { sp F j with P := Q }) w' := by
  have hjl : j < T.LS.length := by rw [h.nl]; exact hj
  have hsj : T.LS[j] = s := by rw [List.getElem?_eq_getElem hjl] at hs; injection hs
  have hsp := h.sps j hjl hj
  rw [hsj, ← sp_at hj] at hsp
  obtain ⟨v', hP, hf⟩ := hd
  obtain ⟨⟨wvs, wr⟩, _⟩ := hsp.wds.block
  refine h.putS (s' := { s with v := v' }) hj hs rfl rfl rfl (hf.mono fun k e => Or.inr (Or.inl e)) ⟨?_, hP, ?_, hsp.lo⟩
  · exact hf.row hsp.top (hsp.top.apart hsp.ars.top (by decide))
  · exact hsp.wds.heap (hf.keep _ wr.lt (wr.apart hsp.ars.top (by decide)))
theorem RfAt.putA_no (h : RfAt B w T F) {j : Nat} (hj : j < F.L.length) (hs : T.LS[j]? = some s) (hd : DidP B w s.ab (sp F j).P w') : DidF B w T F w' := by
  have := h.putA hj hs hd
  rw [show ({ sp F (j : Int) with P := (sp F j).P } : Sp) = sp F j from rfl, put_self hj] at this
  exact this
theorem zrow (n : Nat) : EU.cells (List.replicate n 0) = List.replicate n (.int .u64 0) := by
  induction n with
  | zero => rfl
  | succ n ih => rw [List.replicate_succ, Enc.cells_cons, ih, List.replicate_succ]; rfl
theorem made_zu (m : Nat) : (madeCells (Value.int .u64 0).cells m).toList = List.replicate m (.int .u64 0) := by
  apply List.ext_getElem?
  intro j
  by_cases hj : j < m
  · simp [madeCells, hj, Value.cells, Nat.mod_one]
  · simp [madeCells, hj]
/-- 'make([]uint64, 32768)'. -/
theorem words_make (w : World) : ∃ W1, (Instr.makeSlice 50 (.int .i64 32768) (.int .i64 32768)).run Tryz.prog w = .ok (.slice (some ⟨w.heap.size, 0, none⟩) 32768 32768) W1 ∧ WIs w.heap.size W1 (w.heap.size, 32768) (fun _ => 0) ∧ w.grownBy W1 none := by
  obtain ⟨i0, hi0, hz0, hz1, hz2⟩ := info_parts EU.info
  obtain ⟨W1, r1, o1, g1⟩ := run_makeSlice_full (P := Tryz.prog) (w := w) w.heap.size 50 23 i0 _ 1 EU.und hi0 hz0 hz1 .i64 .i64 32768 (by decide) (by rw [hz2]; decide) (by decide) (Nat.le_refl _)
  refine ⟨W1, r1, ⟨List.replicate 32768 0, List.length_replicate, ?_, fun i h => List.getElem_replicate ..⟩, g1⟩
  show W1.ownsRow w.heap.size 23 1 _ (List.replicate 32768 0).length (EU.cells (List.replicate 32768 0))
  rw [List.length_replicate, zrow, ← made_zu]
  exact o1
/-- An object more: behind the appending. -/
theorem RfAt.moreO {w0 w5 : World} {v5 : Value} {q : Nat × Nat} (h : RfAt B w0 T F) (hb : Below w0.heap.size w0 w) (hW : WIs B w q (fun _ => 0)) (hf : w0.heap.size ≤ q.1)
    (g5 : w.grownBy w5 T.vo.ownBlock) (o5 : EOw.Own B w5 v5 (T.LO ++ [q])) (t5 : v5.ownBlock = T.vo.ownBlock ∨ ∃ g, v5.ownBlock = some g ∧ w0.heap.size ≤ g) :
    w5.cell? ⟨T.xa, 1, none⟩ = some T.vo ∧ w5.frozen? ⟨T.xa, 1, none⟩ = false ∧ DidF B w0 T { F with O := F.O ++ [fun _ => 0] } (w5.setCell ⟨T.xa, 1, none⟩ v5) := by
  have hw := h.call hb
  have nx : T.vo.ownBlock ≠ some T.xa := fun e => by
    obtain ⟨vs, r, _⟩ := hw.os.block e
    exact r.apart hw.top (by decide) rfl
  have top5 : Lrow w5 T.xa 38 [T.vl, T.vo] := hw.top.grown g5 (fun e => nx e.symm)
  have kk : ∀ k, k < w.heap.size → k ≠ T.xa → T.vo.ownBlock ≠ some k → (w5.setCell ⟨T.xa, 1, none⟩ v5).heap[k]? = w.heap[k]? := fun k hk h1 h2 => (Below.heap_setCell w5 _ _ k h1).trans (g5.block k hk (fun e => h2 e.symm))
  have hsz : w.heap.size ≤ (w5.setCell ⟨T.xa, 1, none⟩ v5).heap.size := by have := g5.size; simp [World.setCell]; omega
  have kr : ∀ {g : Nat} {t : TypeId} {vs : List Value}, Lrow w g t vs → t ≠ 38 → t ≠ 50 → (w5.setCell ⟨T.xa, 1, none⟩ v5).heap[g]? = w.heap[g]? := fun {g t vs} r h1 h2 => kk g r.lt (r.apart hw.top h1) (fun e => by
    obtain ⟨us, r2, _⟩ := hw.os.block e
    exact r.apart r2 h2 rfl)
  have kw : ∀ {q : Nat × Nat} {V : Int → Int}, WIs B w q V → WIs B (w5.setCell ⟨T.xa, 1, none⟩ v5) q V := fun {q V} z => by
    obtain ⟨⟨vs, r⟩, _⟩ := z.block
    exact z.heap (kr r (by decide) (by decide))
  have hnew : ∀ k, MineF T k → k < w0.heap.size := h.lt
  have hd := List.nodup_append.1 h.dW
  refine ⟨top5.cell 1, top5.frozen 1, ⟨T.xa, T.vl, v5, T.LS, T.LO ++ [q]⟩, rfl, ⟨top5.set_ 1 v5, ?_, ?_, h.nl, ?_, fun i hi h2 => ?_, fun i hi h2 => ?_, h.dS, h.dA, ?_, h.lo⟩, ?_, ?_⟩
  · refine hw.ls.heap fun g e => ?_
    obtain ⟨vs, r, _⟩ := hw.ls.block e
    exact kr r (by decide) (by decide)
  · refine o5.heap fun g e => ?_
    obtain ⟨vs, r, _⟩ := o5.block e
    exact Below.heap_setCell w5 _ _ g (r.apart top5 (by decide))
  · show (T.LO ++ [q]).length = (F.O ++ [fun _ => 0]).length
    rw [List.length_append, List.length_append, h.no]; rfl
  · have hs := hw.sps i hi h2
    obtain ⟨⟨uvs, ur⟩, _⟩ := hs.wds.block
    refine hs.keep hsz (fun k hk => ?_) fun k vs r => kr r (by decide) (by decide)
    rcases hk with rfl | rfl | rfl
    · exact kr hs.top (by decide) (by decide)
    · exact kr hs.ars.top (by decide) (by decide)
    · exact kr ur (by decide) (by decide)
  · have hi : i < (T.LO ++ [q]).length := hi
    have h2 : i < (F.O ++ [fun _ => 0]).length := h2
    show WIs B _ (T.LO ++ [q])[i] (F.O ++ [fun _ => 0])[i]
    by_cases c : i < T.LO.length
    · rw [List.getElem_append_left c, List.getElem_append_left (by rw [← h.no]; exact c)]
      exact kw (hw.obs i c (by rw [← h.no]; exact c))
    · have e : i = T.LO.length := by rw [List.length_append, List.length_singleton] at hi; omega
      subst e
      rw [List.getElem_append_right (Nat.le_refl _), List.getElem_append_right (by rw [h.no]; exact Nat.le_refl _)]
      simp only [Nat.sub_self, List.getElem_singleton]
      exact kw hW
  · show ((T.LS.map fun z => z.wq.1) ++ (T.LO ++ [q]).map Prod.fst).Nodup
    rw [List.map_append, List.nodup_append, List.nodup_append]
    refine ⟨hd.1, ⟨hd.2.1, by simp, fun a ha b hb' e => ?_⟩, fun a ha b hb' e => ?_⟩
    · obtain ⟨z, hz, rfl⟩ := List.mem_map.1 ha
      simp at hb'
      subst hb'
      have := hnew z.1 (Or.inr (Or.inr (Or.inr (Or.inr ⟨z, hz, rfl⟩))))
      omega
    · rw [List.mem_append] at hb'
      rcases hb' with hb' | hb'
      · exact hd.2.2 a ha b hb' e
      · simp at hb'
        subst hb'
        obtain ⟨z, hz, rfl⟩ := List.mem_map.1 ha
        have := hnew z.wq.1 (Or.inr (Or.inr (Or.inr (Or.inl ⟨z, hz, Or.inr (Or.inr rfl)⟩))))
        omega
  · have f1 : Foot (MineF T) w0 w := Foot.of_below hb
    have f2 : Foot (MineF T) w w5 := Foot.grownO g5 fun b e _ => Or.inr (Or.inr (Or.inl e))
    exact (f1.trans f2 fun _ e _ => e).trans (Foot.grown (X := MineF T) (grown_set w5 T.xa 1 v5) (Or.inl rfl)) fun _ e _ => e
  · rintro k (rfl | e | e | ⟨z, hz, hk⟩ | ⟨z, hz, rfl⟩)
    · exact Or.inl (Or.inl rfl)
    · exact Or.inl (Or.inr (Or.inl e))
    · rcases t5 with t5 | ⟨g, t5, hg⟩
      · exact Or.inl (Or.inr (Or.inr (Or.inl (t5 ▸ e))))
      · have e : v5.ownBlock = some k := e
        rw [t5] at e; injection e with e; exact Or.inr (by omega)
    · exact Or.inl (Or.inr (Or.inr (Or.inr (Or.inl ⟨z, hz, hk⟩))))
    · have hz : z ∈ T.LO ++ [q] := hz
      rw [List.mem_append, List.mem_singleton] at hz
      rcases hz with hz | rfl
      · exact Or.inl (Or.inr (Or.inr (Or.inr (Or.inr ⟨z, hz, rfl⟩))))
      · exact Or.inr hf
end
end Go.Proofs.YtnppnoabhpkmkaaGreat
