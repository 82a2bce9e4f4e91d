/- Package pool: loose, wrong, what is told of a pool. -/
import Derived.Test.YtllepijlebbjbaaPoS
import Derived.Test.YtllepijlebbjbaaPoJ
namespace Go.Proofs.Ytllepijlebbjbaa
open Go.RowKit
section
variable {w w' : World} {B s : Nat} {m P Q z : Int} {F U : Value} {Lf Lu : List Int} {S : Pk}
set_option maxRecDepth 100000 in
theorem loose_i (h : PlR B w s z m F U Lf Lu P Q) (hl : Lf.length ≤ 1024) (p0 : 0 ≤ P) (p1 : P ≤ 1024) :
    Calls Try.prog 42 #[.pointer (some ⟨s, 0, none⟩)] w fun e w' => e = .returned (.int .i64 ((Lf.length : Int) - P)) ∧ ∃ q, w' = w.drewN q := by
  obtain ⟨A, c, rfl⟩ := h.f.form
  have c2 := h.top.cell 2
  have c4 := h.top.cell 4
  have hw : IntKind.i64.wrap ((Lf.length : Int) - P) = (Lf.length : Int) - P := IntWalk.i64_in _ (by omega)
  generalize Lf.length = n at *
  clear h
  go_enter Try.func42, Try.ntmps42
  go_wp2_with fail
  go_quiet (fail)
  go_wp2_with fail
  go_ret
  exact ⟨rfl, _, rfl⟩
theorem has_no {L : List Int} {f : Int} {b : Bool} (h : decide (f ∈ L) = b) (ho : EI.Own B w F L) (hu : UpN L) (hl : L.length ≤ 4096) :
    Calls Try.prog 46 #[F, .int .i64 f] w fun e w' => e = .returned (.bool b) ∧ ∃ q, w' = w.drewN q := by
  have := has_i ho hu hl f
  rwa [h] at this
theorem POk.l1 (h : POk S) (v : Int) : (lsV S.I v).length ≤ 1024 := by
  rw [lsV_len h.ln]; have := List.count_le_length (a := v) (l := S.I); have := h.ln; omega
set_option maxRecDepth 100000 in
set_option maxHeartbeats 4000000 in
theorem wrong_i (h : PlR B w s (szI S.o) S.m F U (lsV S.I 1) (lsV S.I 2) S.P S.U) (ok : POk S) (f : Int) :
    Calls Try.prog 45 #[.pointer (some ⟨s, 0, none⟩), .int .i64 f] w fun e w' => e = .returned (.int .i64 (maE S f)) ∧ ∃ q, w' = w.drewN q := by
  obtain ⟨z, hz, hz8⟩ := sz_o ok
  rw [hz] at h
  have c0 := h.top.cell 0
  have y1 := ok.l1 1
  have y2 := ok.l1 2
  have HH := Lib.hid h
  have HOK := Lib.hid ok
  obtain ⟨M, hM⟩ : ∃ M, M = maE S f := ⟨_, rfl⟩
  rw [← hM]
  have hw : IntKind.i64.wrap (1024 - (z : Int)) = 1024 - (z : Int) := IntWalk.i64_in _ (by omega)
  have z0 : ¬ (z : Int) = 0 := by omega
  have zn : ((z : Int) == 0) = false := by simpa using z0
  unfold maE at hM
  rw [hz] at hM
  have HZ := Lib.hid hz8
  by_cases c1 : f < 0
  · rw [if_pos (Or.inl c1)] at hM
    subst hM
    clear h ok hz hz8 y1 y2
    go_enter Try.func45, Try.ntmps45
    go_wp2_with fail
    go_ret
    exact ⟨rfl, 0, rfl⟩
  · by_cases c2 : 1024 - (z : Int) < f
    · rw [if_pos (Or.inr c2)] at hM
      subst hM
      clear h ok hz hz8 y1 y2
      go_enter Try.func45, Try.ntmps45
      go_wp2_with fail
      go_ret
      exact ⟨rfl, 0, rfl⟩
    · obtain ⟨ff, rfl⟩ : ∃ k : Nat, f = k := ⟨f.toNat, by omega⟩
      rw [if_neg (by omega)] at hM
      have hfl : ff < S.I.length := by have := ok.ln; omega
      rw [Int.toNat_natCast, List.getElem?_eq_getElem hfl] at hM
      have hx : S.I[ff]? = some S.I[ff] := List.getElem?_eq_getElem hfl
      have hal := ok.al _ _ hx
      generalize S.I[ff] = x at hx hal hM
      have f1 : (ff : Int) < 1024 := by omega
      have f0 : (0 : Int) ≤ ff := by omega
      have f0n : ¬ (ff : Int) < 0 := by omega
      by_cases c3 : (ff : Int) % (z : Int) = 0
      · rw [if_neg (by simpa using c3)] at hM
        have b3 : (((ff : Int) % (z : Int)) == 0) = true := by simpa using c3
        have m1 : ∀ v, decide ((ff : Int) ∈ lsV S.I v) = decide (x = v) := fun v => by
          rw [decide_eq_decide, mem_lsV_nat, hx]
          exact ⟨fun e => by injection e.2, fun e => ⟨by omega, by rw [e]⟩⟩
        by_cases c4 : x = 1
        · subst c4
          rw [if_pos (by simp)] at hM
          subst hM
          have hs := has_no (m1 1) h.f (lsV_up S.I 1) (by omega)
          rw [show decide ((1 : Int) = 1) = true from rfl] at hs
          obtain ⟨A, c, hF⟩ := h.f.form
          have c2 := h.top.cell 2
          rw [hF] at hs c2
          generalize (lsV S.I 1).length = n at *
          have c2 : w.cell? ⟨s, 2, none⟩ = some (.slice A n c) := c2
          clear h ok hz hz8 y1 y2 m1 hal hfl hx hF
          go_enter Try.func45, Try.ntmps45
          go_wp2_with fail
          refine hs.mono ?_
          rintro e w1 ⟨rfl, q, rfl⟩
          clear hs
          go_wp2_with fail
          go_ret
          exact ⟨rfl, q, rfl⟩
        · have hs := has_no (m1 1) h.f (lsV_up S.I 1) (by omega)
          rw [decide_eq_false c4] at hs
          have hs2 := fun q => has_no (m1 2) (h.drewN q).u (lsV_up S.I 2) (by omega)
          obtain ⟨A, c, hF⟩ := h.f.form
          obtain ⟨A2, c2', hU⟩ := h.u.form
          have c2 := h.top.cell 2
          have d3 := fun q => (h.drewN q).top.cell 3
          rw [hF] at hs c2
          simp only [hU] at hs2 d3
          generalize (lsV S.I 1).length = n at *
          generalize (lsV S.I 2).length = n2 at *
          have c2 : w.cell? ⟨s, 2, none⟩ = some (.slice A n c) := c2
          have d3 : ∀ q, (w.drewN q).cell? ⟨s, 3, none⟩ = some (.slice A2 n2 c2') := fun q => d3 q
          by_cases c5 : x = 2
          · subst c5
            rw [if_pos (by simp)] at hM
            subst hM
            simp only at hs2
            have HS2 := Lib.hid hs2
            have HD3 := Lib.hid d3
            clear h ok hz hz8 y1 y2 m1 hal hfl hx hF hU hs2 d3
            go_enter Try.func45, Try.ntmps45
            go_wp2_with fail
            refine hs.mono ?_
            rintro e w1 ⟨rfl, q, rfl⟩
            have hs2 := HS2.out q
            have d3 := HD3.out q
            clear hs
            go_wp2_with fail
            refine hs2.mono ?_
            rintro e w1 ⟨rfl, q2, rfl⟩
            clear hs2
            go_wp2_with fail
            go_ret
            exact ⟨rfl, q + q2, rfl⟩
          · have c6 : x = 0 := by omega
            subst c6
            rw [if_neg (by simp)] at hM
            subst hM
            simp only [show decide ((0 : Int) = 2) = false from rfl] at hs2
            have HS2 := Lib.hid hs2
            have HD3 := Lib.hid d3
            clear h ok hz hz8 y1 y2 m1 hal hfl hx hF hU hs2 d3
            go_enter Try.func45, Try.ntmps45
            go_wp2_with fail
            refine hs.mono ?_
            rintro e w1 ⟨rfl, q, rfl⟩
            have hs2 := HS2.out q
            have d3 := HD3.out q
            clear hs
            go_wp2_with fail
            refine hs2.mono ?_
            rintro e w1 ⟨rfl, q2, rfl⟩
            clear hs2
            go_wp2_with fail
            go_ret
            exact ⟨rfl, q + q2, rfl⟩
      · rw [if_pos c3] at hM
        have b3 : (((ff : Int) % (z : Int)) == 0) = false := by simpa using c3
        subst hM
        clear h ok hz hz8 y1 y2
        go_enter Try.func45, Try.ntmps45
        go_wp2_with fail
        go_ret
        exact ⟨rfl, 0, rfl⟩
/-! What is asked of a pool. -/
set_option maxRecDepth 100000 in
theorem ask_free {R : List Int} (h : Calls Try.prog 36 #[.pointer (some ⟨s, 0, none⟩)] w (ToldI R w)) :
    Calls Try.prog 35 #[.pointer (some ⟨s, 0, none⟩), .func (.func 36) #[] #[]] w (ToldI R w) := by
  unfold ToldI at h ⊢
  generalize R.length = n at *
  go_enter Try.func35, Try.ntmps35
  go_wp2_with fail
  refine h.mono ?_
  rintro e w1 ⟨A, c, rfl, ho, hb⟩
  have HO := Lib.hid (And.intro ho hb)
  clear h ho hb
  go_wp2_with fail
  go_ret
  exact ⟨A, c, rfl, HO.out.1, HO.out.2⟩
set_option maxRecDepth 100000 in
theorem ask_total {x : Int} {Q : World → Prop} (h : Calls Try.prog 39 #[.pointer (some ⟨s, 0, none⟩)] w fun e w' => e = .returned (.int .i64 x) ∧ Q w') :
    Calls Try.prog 38 #[.pointer (some ⟨s, 0, none⟩), .func (.func 39) #[] #[]] w fun e w' => e = .returned (.int .i64 x) ∧ Q w' := by
  go_enter Try.func38, Try.ntmps38
  go_wp2_with fail
  refine h.mono ?_
  rintro e w1 ⟨rfl, hp⟩
  have HP := Lib.hid hp
  clear hp h
  go_wp2_with fail
  go_ret
  exact ⟨rfl, HP.out⟩
set_option maxRecDepth 100000 in
theorem ask_promised {x : Int} {Q : World → Prop} (h : Calls Try.prog 40 #[.pointer (some ⟨s, 0, none⟩)] w fun e w' => e = .returned (.int .i64 x) ∧ Q w') :
    Calls Try.prog 38 #[.pointer (some ⟨s, 0, none⟩), .func (.func 40) #[] #[]] w fun e w' => e = .returned (.int .i64 x) ∧ Q w' := by
  go_enter Try.func38, Try.ntmps38
  go_wp2_with fail
  refine h.mono ?_
  rintro e w1 ⟨rfl, hp⟩
  have HP := Lib.hid hp
  clear hp h
  go_wp2_with fail
  go_ret
  exact ⟨rfl, HP.out⟩
set_option maxRecDepth 100000 in
theorem ask_surplus {x : Int} {Q : World → Prop} (h : Calls Try.prog 41 #[.pointer (some ⟨s, 0, none⟩)] w fun e w' => e = .returned (.int .i64 x) ∧ Q w') :
    Calls Try.prog 38 #[.pointer (some ⟨s, 0, none⟩), .func (.func 41) #[] #[]] w fun e w' => e = .returned (.int .i64 x) ∧ Q w' := by
  go_enter Try.func38, Try.ntmps38
  go_wp2_with fail
  refine h.mono ?_
  rintro e w1 ⟨rfl, hp⟩
  have HP := Lib.hid hp
  clear hp h
  go_wp2_with fail
  go_ret
  exact ⟨rfl, HP.out⟩
theorem free_pr (h : PlR B w s z m F U Lf Lu P Q) (hl : Lf.length ≤ 1024) : Calls Try.prog 14 #[.pointer (some ⟨s, 0, none⟩)] w (ToldI Lf w) := by
  have ha : Calls Try.prog 35 #[.pointer (some ⟨s, 0, none⟩), .func (.func 36) #[] #[]] w (ToldI Lf w) := by
    refine ask_free ?_
    obtain ⟨A, c, rfl⟩ := h.f.form
    have hc := clone_i h.f (by omega)
    have c2 := h.top.cell 2
    unfold ToldI at hc ⊢
    generalize Lf.length = n at *
    have c2 : w.cell? ⟨s, 2, none⟩ = some (.slice A n c) := c2
    clear h
    go_enter Try.func36, Try.ntmps36
    go_wp2_with fail
    refine hc.mono ?_
    rintro e w1 ⟨A1, c1, rfl, ho, hb⟩
    have HO := Lib.hid (And.intro ho hb)
    clear hc ho hb
    go_wp2_with fail
    go_ret
    exact ⟨A1, c1, rfl, HO.out.1, HO.out.2⟩
  unfold ToldI at ha ⊢
  generalize Lf.length = n at *
  clear h
  go_enter Try.func14, Try.ntmps14
  go_wp2_with fail
  refine ha.mono ?_
  rintro e w1 ⟨A1, c1, rfl, ho, hb⟩
  have HO := Lib.hid (And.intro ho hb)
  clear ha ho hb
  go_wp2_with fail
  go_ret
  exact ⟨A1, c1, rfl, HO.out.1, HO.out.2⟩
theorem total_pr (h : PlR B w s z m F U Lf Lu P Q) (hl : Lf.length ≤ 1024) (hl2 : Lu.length ≤ 1024) : Calls Try.prog 16 #[.pointer (some ⟨s, 0, none⟩)] w fun e w' => e = .returned (.int .i64 ((Lf.length : Nat) + (Lu.length : Nat))) ∧ Below w.heap.size w w' := by
  obtain ⟨A, c, rfl⟩ := h.f.form
  obtain ⟨A2, c2', rfl⟩ := h.u.form
  have c2 := h.top.cell 2
  have c3 := h.top.cell 3
  have hw : IntKind.i64.wrap ((Lf.length : Int) + (Lu.length : Int)) = (Lf.length : Int) + (Lu.length : Int) := IntWalk.i64_in _ (by omega)
  generalize Lf.length = n at *
  generalize Lu.length = n2 at *
  clear h
  have ha : Calls Try.prog 38 #[.pointer (some ⟨s, 0, none⟩), .func (.func 39) #[] #[]] w fun e w' => e = .returned (.int .i64 ((n : Int) + (n2 : Int))) ∧ Below w.heap.size w w' := by
    refine ask_total ?_
    go_enter Try.func39, Try.ntmps39
    go_wp2_with fail
    go_quiet (fail)
    go_wp2_with fail
    go_ret
    exact ⟨rfl, below_dN (Below.refl _ _) _⟩
  clear hw c2 c3
  go_enter Try.func16, Try.ntmps16
  go_wp2_with fail
  refine ha.mono ?_
  rintro e w1 ⟨rfl, hb⟩
  have HB := Lib.hid hb
  clear ha hb
  go_wp2_with fail
  go_ret
  exact ⟨rfl, HB.out⟩
theorem promised_pr (h : PlR B w s z m F U Lf Lu P Q) : Calls Try.prog 18 #[.pointer (some ⟨s, 0, none⟩)] w fun e w' => e = .returned (.int .i64 P) ∧ Below w.heap.size w w' := by
  have c4 := h.top.cell 4
  clear h
  have ha : Calls Try.prog 38 #[.pointer (some ⟨s, 0, none⟩), .func (.func 40) #[] #[]] w fun e w' => e = .returned (.int .i64 P) ∧ Below w.heap.size w w' := by
    refine ask_promised ?_
    go_enter Try.func40, Try.ntmps40
    go_wp2_with fail
    go_ret
    exact ⟨rfl, Below.refl _ _⟩
  clear c4
  go_enter Try.func18, Try.ntmps18
  go_wp2_with fail
  refine ha.mono ?_
  rintro e w1 ⟨rfl, hb⟩
  have HB := Lib.hid hb
  clear ha hb
  go_wp2_with fail
  go_ret
  exact ⟨rfl, HB.out⟩
theorem surplus_pr (h : PlR B w s z m F U Lf Lu P Q) : Calls Try.prog 19 #[.pointer (some ⟨s, 0, none⟩)] w fun e w' => e = .returned (.int .i64 Q) ∧ Below w.heap.size w w' := by
  have c5 := h.top.cell 5
  clear h
  have ha : Calls Try.prog 38 #[.pointer (some ⟨s, 0, none⟩), .func (.func 41) #[] #[]] w fun e w' => e = .returned (.int .i64 Q) ∧ Below w.heap.size w w' := by
    refine ask_surplus ?_
    go_enter Try.func41, Try.ntmps41
    go_wp2_with fail
    go_ret
    exact ⟨rfl, Below.refl _ _⟩
  clear c5
  go_enter Try.func19, Try.ntmps19
  go_wp2_with fail
  refine ha.mono ?_
  rintro e w1 ⟨rfl, hb⟩
  have HB := Lib.hid hb
  clear ha hb
  go_wp2_with fail
  go_ret
  exact ⟨rfl, HB.out⟩
end
end Go.Proofs.Ytllepijlebbjbaa
