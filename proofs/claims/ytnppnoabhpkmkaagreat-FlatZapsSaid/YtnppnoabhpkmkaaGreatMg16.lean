/- The program's spaces: a space more; one has gone. -/
import Derived.Test.YtnppnoabhpkmkaaGreatMg15
namespace Go.Proofs.YtnppnoabhpkmkaaGreat
open Go.RowKit
section
variable {w w' : World} {B : Nat} {T : PfT} {F F' : Fl} {s s' : PsB} {S S' : Sp}
theorem app_get {α : Type} {L : List (Option α)} {i : Nat} {x a : α} (h : (L ++ [some x])[i]? = some (some a)) : (i = L.length ∧ x = a) ∨ (i < L.length ∧ L[i]? = some (some a)) := by
  by_cases c : i < L.length
  · rw [List.getElem?_append_left c] at h; exact Or.inr ⟨c, h⟩
  · rw [List.getElem?_append_right (by omega)] at h
    by_cases d : i = L.length
    · subst d
      rw [Nat.sub_self] at h
      simp at h
      exact Or.inl ⟨rfl, h⟩
    · rw [show i - L.length = (i - L.length - 1) + 1 by omega] at h
      simp at h
theorem PfAt.more {w0 w5 : World} {v5 : Value} (h : PfAt B w0 T F) (hb : Below w0.heap.size w0 w) (hs : PsAt B w s S T.LO) (hf : ∀ k, MinePs s k → w0.heap.size ≤ k) (hmo : s.mb ≠ s.ob) (hg : S.g = false)
    (g5 : w.grownBy w5 T.vl.ownBlock) (o5 : EPs.Own B w5 v5 ((T.LS.map fun o => o.map PsB.sb) ++ [some s.sb])) (t5 : v5.ownBlock = T.vl.ownBlock ∨ ∃ g, v5.ownBlock = some g ∧ w0.heap.size ≤ g) :
    w5.cell? ⟨T.s, 0, none⟩ = some T.vl ∧ w5.frozen? ⟨T.s, 0, none⟩ = false ∧ DidV B w0 T { F with L := F.L ++ [S] } (w5.setCell ⟨T.s, 0, none⟩ v5) := by
  have hw := h.call hb
  have nx : T.vl.ownBlock ≠ some T.s := fun e => by
    obtain ⟨vs, r, _⟩ := hw.ls.block e
    exact r.apart hw.top (by decide) rfl
  have top5 : Lrow w5 T.s 72 [T.vl, .int .i64 F.O.length] := hw.top.grown g5 (fun e => nx e.symm)
  have kk : ∀ k, k < w.heap.size → k ≠ T.s → T.vl.ownBlock ≠ some k → (w5.setCell ⟨T.s, 0, none⟩ v5).heap[k]? = w.heap[k]? := fun k hk h1 h2 => (Below.heap_setCell w5 _ _ k h1).trans (g5.block k hk (fun e => h2 e.symm))
  have hsz : w.heap.size ≤ (w5.setCell ⟨T.s, 0, none⟩ v5).heap.size := by have := g5.size; simp [World.setCell]; omega
  have kr : ∀ {g : Nat} {t : TypeId} {vs : List Value}, Lrow w g t vs → t ≠ 72 → t ≠ 64 → (w5.setCell ⟨T.s, 0, none⟩ v5).heap[g]? = w.heap[g]? := fun {g t vs} r h1 h2 => kk g r.lt (r.apart hw.top h1) (fun e => by
    obtain ⟨us, r2, _⟩ := hw.ls.block e
    exact r.apart r2 h2 rfl)
  have km : ∀ {b : Nat}, (∀ (g : Nat) (t : TypeId) (vs : List Value), Lrow w g t vs → g ≠ b) → b < w.heap.size → (w5.setCell ⟨T.s, 0, none⟩ v5).heap[b]? = w.heap[b]? := fun {b} hap hl => kk b hl (fun e => hap _ _ _ hw.top e.symm) (fun e => by
    obtain ⟨us, r2, _⟩ := hw.ls.block e
    exact hap _ _ _ r2 rfl)
  have ks : ∀ {s' : PsB} {S' : Sp}, PsAt B w s' S' T.LO → PsAt B (w5.setCell ⟨T.s, 0, none⟩ v5) s' S' T.LO := fun {s' S'} q => q.keep hsz (fun k hk => by
    rcases hk with rfl | rfl | rfl | rfl
    · exact kr q.top (by decide) (by decide)
    · exact kr q.ars.top (by decide) (by decide)
    · exact km (fun g t vs r => q.own.apart r) q.own.lt
    · exact km (fun g t vs r => q.obj.apart r) q.obj.lt) (fun k vs r => kr r (by decide) (by decide))
  have hnew : ∀ k, MineP T k → k < w0.heap.size := h.lt
  have hnl : T.LS.length = F.L.length := h.nl
  refine ⟨top5.cell 0, top5.frozen 0, ⟨T.s, v5, T.LS ++ [some s], T.LO⟩, rfl, ⟨top5.set_ 0 v5, ?_, ?_, h.no, fun i a hi => ?_, fun i hi => ?_, fun k hk => ?_, fun i j a b hi hj hne => ?_, fun i a hi => ?_, h.dO, h.lo⟩, ?_, ?_⟩
  · show EPs.Own B _ v5 ((T.LS ++ [some s]).map fun o => o.map PsB.sb)
    rw [List.map_append, List.map_cons, List.map_nil]
    refine o5.heap fun g e => ?_
    obtain ⟨vs, r, _⟩ := o5.block e
    exact Below.heap_setCell w5 _ _ g (r.apart top5 (by decide))
  · show (T.LS ++ [some s]).length = (F.L ++ [S]).length
    rw [List.length_append, List.length_append, h.nl]; rfl
  · show ((F.L ++ [S]).getD i zSp).g = false ∧ PsAt B _ a ((F.L ++ [S]).getD i zSp) T.LO
    rcases app_get hi with ⟨e1, e2⟩ | ⟨e1, e2⟩
    · subst e2
      rw [getD_app zSp S (by omega), if_pos (by omega)]
      exact ⟨hg, ks hs⟩
    · rw [getD_app zSp S (by omega), if_neg (by omega)]
      exact ⟨(h.sps i a e2).1, ks (hw.sps i a e2).2⟩
  · show ((F.L ++ [S]).getD i zSp).g = true
    have hi : (T.LS ++ [some s])[i]? = some none := hi
    have hl := (List.getElem?_eq_some_iff.1 hi).1
    rw [List.length_append, List.length_singleton] at hl
    by_cases c : i < T.LS.length
    · rw [List.getElem?_append_left c] at hi
      rw [getD_app zSp S (by omega), if_neg (by omega)]
      exact h.gone i hi
    · rw [List.getElem?_append_right (by omega), show i - T.LS.length = 0 by omega] at hi
      simp at hi
  · have h2 := hw.obs k hk
    exact ⟨h2.1.heap (km (fun g t vs r => h2.1.apart r) h2.1.lt), h2.2⟩
  · have old : ∀ {i : Nat} {a : PsB}, T.LS[i]? = some (some a) → a.ab < w0.heap.size ∧ a.mb < w0.heap.size ∧ a.ob < w0.heap.size := fun {i a} e => ⟨(h.sps i a e).2.ars.top.lt, (h.sps i a e).2.own.lt, (h.sps i a e).2.obj.lt⟩
    have new : w0.heap.size ≤ s.ab ∧ w0.heap.size ≤ s.mb ∧ w0.heap.size ≤ s.ob := ⟨hf _ (Or.inr (Or.inl rfl)), hf _ (Or.inr (Or.inr (Or.inl rfl))), hf _ (Or.inr (Or.inr (Or.inr rfl)))⟩
    rcases app_get hi with ⟨e1, e2⟩ | ⟨e1, e2⟩ <;> rcases app_get hj with ⟨e3, e4⟩ | ⟨e3, e4⟩
    · omega
    · subst e2
      have := old e4
      omega
    · subst e4
      have := old e2
      omega
    · exact h.dA i j a b e2 e4 hne
  · rcases app_get hi with ⟨e1, e2⟩ | ⟨e1, e2⟩
    · subst e2
      have hO : ∀ b, b ∈ T.LO → b < w0.heap.size := fun b hb => hnew b (Or.inr (Or.inr (Or.inr hb)))
      have n1 := hf _ (Or.inr (Or.inr (Or.inl rfl)))
      have n2 := hf _ (Or.inr (Or.inr (Or.inr rfl)))
      exact ⟨hmo, fun e => by have := hO _ e; omega, fun e => by have := hO _ e; omega⟩
    · exact h.dM i a e2
  · have f1 : Foot (MineP T) w0 w := Foot.of_below hb
    have f2 : Foot (MineP T) w w5 := Foot.grownO g5 fun b e _ => Or.inr (Or.inl e)
    exact (f1.trans f2 fun _ e _ => e).trans (Foot.grown (X := MineP T) (grown_set w5 T.s 0 v5) (Or.inl rfl)) fun _ e _ => e
  · rintro k (rfl | e | ⟨i, a, hi, hk⟩ | hk)
    · exact Or.inl (Or.inl rfl)
    · rcases t5 with t5 | ⟨g, t5, hg⟩
      · exact Or.inl (Or.inr (Or.inl (t5 ▸ e)))
      · have e : v5.ownBlock = some k := e
        rw [t5] at e; injection e with e; exact Or.inr (by omega)
    · rcases app_get hi with ⟨e1, e2⟩ | ⟨e1, e2⟩
      · subst e2; exact Or.inr (hf k hk)
      · exact Or.inl (Or.inr (Or.inr (Or.inl ⟨i, a, e2, hk⟩)))
    · exact Or.inl (Or.inr (Or.inr (Or.inr hk)))
/-- One has gone. -/
theorem PfAt.leave (h : PfAt B w T F) {j : Nat} (hs : T.LS[j]? = some (some s)) {A : Option Addr} {n c g : Nat} (hv : T.vl = .slice A n c) (hA : A = some ⟨g, 0, none⟩) (hg : S'.g = true) :
    w.frozen? ⟨g, j, none⟩ = false ∧ DidV B w T (put F j S') (w.setCell ⟨g, j, none⟩ (.pointer none)) := by
  subst hA
  have hjl := (List.getElem?_eq_some_iff.1 hs).1
  have hjF : j < F.L.length := by rw [← h.nl]; exact hjl
  have ho := h.ls
  rw [hv] at ho
  have hjm : j < (T.LS.map fun o => o.map PsB.sb).length := by rw [List.length_map]; exact hjl
  obtain ⟨hfz, hput⟩ := ho.put (j := j) (q := 0) hjm (by decide) (u := .pointer none) (x := none) rfl rfl
  rw [show j * EPs.sz + 0 = j from by show j * 1 + 0 = j; omega] at hput
  obtain ⟨gvs, gr, gB⟩ := ho.block (g := g) rfl
  have kr : ∀ {b : Nat} {t : TypeId} {vs : List Value}, Lrow w b t vs → t ≠ 64 → (w.setCell ⟨g, j, none⟩ (.pointer none)).heap[b]? = w.heap[b]? := fun {b t vs} r h1 => Below.heap_setCell w _ _ b (r.apart gr h1)
  have km : ∀ {b : Nat}, (∀ (g : Nat) (t : TypeId) (vs : List Value), Lrow w g t vs → g ≠ b) → (w.setCell ⟨g, j, none⟩ (.pointer none)).heap[b]? = w.heap[b]? := fun {b} hap => Below.heap_setCell w _ _ b (fun e => hap _ _ _ gr e.symm)
  have hsz : w.heap.size ≤ (w.setCell ⟨g, j, none⟩ (.pointer none)).heap.size := by simp [World.setCell]
  have sub : ∀ {i : Nat} {a : PsB}, (T.LS.set j none)[i]? = some (some a) → i ≠ j ∧ T.LS[i]? = some (some a) := fun {i a} hi => by
    rcases set_get hi with ⟨_, e⟩ | e
    · cases e
    · exact e
  unfold put
  rw [Int.toNat_natCast]
  refine ⟨hfz j, ⟨T.s, T.vl, T.LS.set j none, T.LO⟩, rfl, ⟨(kr h.top (by decide)).trans h.top, ?_, ?_, h.no, fun i a hi => ?_, fun i hi => ?_, fun k hk => ?_, fun i k a b hi hk hne => ?_, fun i a hi => ?_, h.dO, h.lo⟩, ?_, ?_⟩
  · show EPs.Own B _ T.vl ((T.LS.set j none).map fun o => o.map PsB.sb)
    rw [List.map_set, hv]
    exact hput
  · show (T.LS.set j none).length = (F.L.set j S').length
    rw [List.length_set, List.length_set]; exact h.nl
  · obtain ⟨e1, e2⟩ := sub hi
    show ((F.L.set j S').getD i zSp).g = false ∧ PsAt B _ a ((F.L.set j S').getD i zSp) T.LO
    rw [getD_setF _ hjF, if_neg e1]
    obtain ⟨g2, h2⟩ := h.sps i a e2
    refine ⟨g2, h2.keep hsz (fun k hk => ?_) fun k vs r => kr r (by decide)⟩
    rcases hk with rfl | rfl | rfl | rfl
    · exact kr h2.top (by decide)
    · exact kr h2.ars.top (by decide)
    · exact km (fun g t vs r => h2.own.apart r)
    · exact km (fun g t vs r => h2.obj.apart r)
  · show ((F.L.set j S').getD i zSp).g = true
    have hi : (T.LS.set j none)[i]? = some none := hi
    rw [getD_setF _ hjF]
    by_cases c : i = j
    · rw [if_pos c]; exact hg
    · rw [List.getElem?_set, if_neg (fun e => c e.symm)] at hi
      rw [if_neg c]; exact h.gone i hi
  · have h2 := h.obs k hk
    exact ⟨h2.1.heap (km fun g t vs r => h2.1.apart r), h2.2⟩
  · exact h.dA i k a b (sub hi).2 (sub hk).2 hne
  · exact h.dM i a (sub hi).2
  · exact Foot.grown (X := MineP T) (grown_set w g j (.pointer none)) (Or.inr (Or.inl (by rw [hv]; rfl)))
  · rintro k (rfl | e | ⟨i, a, hi, hk⟩ | hk)
    · exact Or.inl (Or.inl rfl)
    · exact Or.inl (Or.inr (Or.inl e))
    · exact Or.inl (Or.inr (Or.inr (Or.inl ⟨i, a, (sub hi).2, hk⟩)))
    · exact Or.inl (Or.inr (Or.inr (Or.inr hk)))
end
end Go.Proofs.YtnppnoabhpkmkaaGreat
/- The program's spaces: small functions; a space by its number; a place's word. -/
namespace Go.Proofs.YtnppnoabhpkmkaaGreat
open Go.RowKit
theorem ford_is (h : Int) (w : World) : Calls Tryz.prog 84 #[.int .i64 h] w fun e w' => e = .returned (.int .i64 (ordO h)) ∧ w = w' := by
  unfold ordO
  by_cases h1 : h = 3 ∨ h = 5 ∨ h = 6
  · rw [if_pos h1]
    rcases h1 with rfl | rfl | rfl
    all_goals
      go_enter Tryz.func84, Tryz.ntmps84
      go_wp2
      go_ret
      exact ⟨rfl, rfl⟩
  · rw [if_neg h1]
    have k3 : (h == 3) = false := by simpa using (by omega : ¬ h = 3)
    have k5 : (h == 5) = false := by simpa using (by omega : ¬ h = 5)
    have k6 : (h == 6) = false := by simpa using (by omega : ¬ h = 6)
    clear h1
    by_cases h4 : h = 4
    · subst h4
      go_enter Tryz.func84, Tryz.ntmps84
      go_wp2
      go_ret
      exact ⟨rfl, rfl⟩
    · rw [if_neg h4]
      have k4 : (h == 4) = false := by simpa using h4
      go_enter Tryz.func84, Tryz.ntmps84
      go_wp2
      go_ret
      exact ⟨rfl, rfl⟩
theorem fobj_is (h : Int) (w : World) : Calls Tryz.prog 52 #[.int .i64 h] w fun e w' => e = .returned (.bool (decide (shr h))) ∧ w = w' := by
  have H : Hid (decide (shr h) = (h == 2 || h == 5)) := by
    show _ = _
    rw [Bool.eq_iff_iff]; simp only [decide_eq_true_eq, Bool.or_eq_true, beq_iff_eq]; exact Iff.rfl
  go_enter Tryz.func52, Tryz.ntmps52
  go_wp2
  all_goals
    go_ret
    exact ⟨ret_bool (by rw [H.out] <;> simp [*]), rfl⟩
section
variable {w w' : World} {B : Nat} {T : PfT} {F F' : Fl} {s s' : PsB} {S S' : Sp}
theorem space_yes (h : PfAt B w T F) {j : Nat} (hs : T.LS[j]? = some (some s)) : Calls Tryz.prog 24 #[.pointer (some ⟨T.s, 0, none⟩), .int .i64 j] w fun e w' => e = .returned (.pointer (some ⟨s.sb, 0, none⟩)) ∧ w = w' := by
  obtain ⟨A, c, hv⟩ := h.ls.form
  have c0 := h.c0
  rw [hv] at c0
  obtain ⟨hn, hp⟩ := h.ptr hv
  have hj : j < F.L.length := by rw [← h.nl]; exact (List.getElem?_eq_some_iff.1 hs).1
  obtain ⟨g, o, rfl, ho, c1⟩ := hp j hj
  rw [hs] at ho
  injection ho with ho
  subst ho
  have c1 : w.cell? ⟨g, j, none⟩ = some (.pointer (some ⟨s.sb, 0, none⟩)) := c1
  rw [hn] at c0
  generalize F.L.length = n at *
  have j0 : (0 : Int) ≤ j := by omega
  have j1 : (j : Int) < n := by omega
  clear h hv hp hn hs
  go_enter Tryz.func24, Tryz.ntmps24
  go_wp2
  go_ret
  exact ⟨rfl, rfl⟩
theorem space_no (h : PfAt B w T F) {n : Int} (hn : isS F n = false) : Calls Tryz.prog 24 #[.pointer (some ⟨T.s, 0, none⟩), .int .i64 n] w fun e w' => e = .returned (.pointer none) ∧ w = w' := by
  obtain ⟨A, c, hv⟩ := h.ls.form
  have c0 := h.c0
  rw [hv] at c0
  obtain ⟨hl, hp⟩ := h.ptr hv
  by_cases h0 : 0 ≤ n
  · obtain ⟨j, rfl⟩ : ∃ j : Nat, n = j := ⟨n.toNat, by omega⟩
    by_cases h1 : j < F.L.length
    · obtain ⟨g, o, rfl, ho, c1⟩ := hp j h1
      have e := isS_at h ho
      rw [hn] at e
      cases o with
      | some s => cases e
      | none =>
        have c1 : w.cell? ⟨g, j, none⟩ = some (.pointer none) := c1
        rw [hl] at c0
        generalize F.L.length = n at *
        have j1 : (j : Int) < n := by omega
        clear h hv hp hl ho hn e
        go_enter Tryz.func24, Tryz.ntmps24
        go_wp2
        go_ret
        exact ⟨rfl, rfl⟩
    · rw [hl] at c0
      generalize F.L.length = n at *
      have j1 : ¬ (j : Int) < n := by omega
      have j2 : (n : Int) ≤ j := by omega
      clear h hv hp hl hn
      go_enter Tryz.func24, Tryz.ntmps24
      go_wp2
      go_ret
      exact ⟨rfl, rfl⟩
  · have h1 : n < 0 := by omega
    clear h hv hp hl hn
    go_enter Tryz.func24, Tryz.ntmps24
    go_wp2
    go_ret
    exact ⟨rfl, rfl⟩
theorem finder_is (p : Option Addr) (w : World) : Calls Tryz.prog 28 #[.pointer p] w fun e w' =>
    e = .returned (.func (.func 50) #[] #[.pointer (some ⟨w.heap.size, 0, none⟩)]) ∧ w' = w.alloc (.cells #[.pointer p] 64) := by
  have hmf : ∀ (fn : Fn) (first cap : Array Value) (w : World), (Instr.makeFunc fn first cap).run Tryz.prog w = .ok (.func fn first cap) w := fun _ _ _ _ => rfl
  go_enter Tryz.func28, Tryz.ntmps28
  go_wp2
  go_ret
  exact ⟨rfl, rfl⟩
/-- A place's word. -/
theorem pload_is {b : Nat} {W : Int → Int} (h : MemAt w b W) {p k r : Int} (h0 : 0 ≤ p) (h1 : p < 4096) (k0 : 0 ≤ k) (k1 : k < 8) : Calls Tryz.prog 29 #[.agg #[.map (some b), .int .i64 p, .int .i64 k, .int .i64 r]] w fun e w' => e = .returned (.int .u64 (W (p * 8 + k))) ∧ Below w.heap.size w w' := by
  obtain ⟨W1, hW1⟩ : ∃ W1, W1 = w.alloc (.cells #[.map (some b), .int .i64 p, .int .i64 k, .int .i64 r] 78) := ⟨_, rfl⟩
  obtain ⟨q, hq⟩ : ∃ q, q = w.heap.size := ⟨_, rfl⟩
  have hb1 : Below w.heap.size w W1 := by rw [hW1]; exact below_new _ _
  have hr1 : Lrow W1 q 78 [.map (some b), .int .i64 p, .int .i64 k, .int .i64 r] := by rw [hW1, hq]; exact Lrow.new w _ [.map (some b), .int .i64 p, .int .i64 k, .int .i64 r]
  have hl := (h.call hb1).look h0 h1
  have hx := fun w => run_index8 W p k0 k1 w
  obtain ⟨G, hG⟩ : ∃ G, G = g8 W p := ⟨_, rfl⟩
  rw [← hG] at hl hx
  have c0 := hr1.cell 0
  have c1 := hr1.cell 1
  have c2 := hr1.cell 2
  have HW := Lib.hid (And.intro hW1 hq)
  have HB := Lib.hid hb1
  clear h hW1 hq hb1 hr1 hG h0 h1 k0 k1
  go_enter Tryz.func29, Tryz.ntmps29
  go_upto_region 1 with (fail)
  rw [← HW.out.1, ← HW.out.2]
  go_wp2
  go_ret
  exact ⟨rfl, HB.out⟩
end
end Go.Proofs.YtnppnoabhpkmkaaGreat
