/- What was taken is given back in part: the upper half, of both sides. -/
import Derived.Test.YtgkjkjpeolhgbaaCr
namespace Go.Proofs.Ytgkjkjpeolhgbaa
open Go.RowKit

section
variable {w : World} {B s a x y n : Nat} {F G : List Bool} {T : List (Nat × Nat)} {tv : Value}
theorem taken_far {W W5 : World} (h : St B W s a x y n F G T tv) (hg : W.grownBy W5 tv.ownBlock) {b : Nat} {t : TypeId} {vs : List Value} (r : Lrow W b t vs) (hne : t ≠ 59) : Lrow W5 b t vs := r.grown hg (fun e => by
  rcases h.own.2 with ⟨e2, _⟩ | ⟨q, cap, cur, e2, _, hq, _⟩
  · rw [e2] at e; simp [Value.ownBlock] at e
  · rw [e2] at e
    simp only [Value.ownBlock, Option.some.injEq] at e
    exact r.apart (show Lrow W q 59 cur.toList from hq) hne e)
/-- A block is added to what is taken: an appending whose run is known. -/
theorem took_run {W : World} (h : St B W s a x y n F G T tv) (hT : T.length ≤ 1024) (f k : Nat) : ∃ A c W3,
    (Builtin.append_ #[33, 33] 33 #[tv, .slice (some ⟨W.heap.size, 0, none⟩) 1 1]).run Try.prog (W.alloc (.cells #[.int .i64 f, .int .i64 k] 59)).drew = .ok (.slice A (T.length + 1) c) W3 ∧
    W3.ownsRow B 59 2 (.slice A (T.length + 1) c) (T ++ [(f, k)]).length (bcells (T ++ [(f, k)])) ∧ W.grownBy W3 tv.ownBlock ∧ ((Value.slice A (T.length + 1) c).ownBlock = tv.ownBlock ∨ ∃ g, (Value.slice A (T.length + 1) c).ownBlock = some g ∧ W.heap.size ≤ g) := by
  obtain ⟨i0, hi0, hz0, hz1, hz2⟩ := info_parts info_block
  have hbase := h.lo
  obtain ⟨v1, W1, r1, o1, g1, -, t1⟩ := run_append_own_at (P := Try.prog) (w := (W.alloc (.cells #[.int .i64 f, .int .i64 k] 59)).drewN 1) B 33 33 59 i0 (.agg #[.int .i64 0, .int .i64 0]) 2 16 Try.underlying33 hi0 hz0 hz1 hz2 rfl (by decide) tv T.length _ ((h.alloc _).drewN 1).own ⟨W.heap.size, 0, none⟩ 1 1 [.int .i64 f, .int .i64 k] rfl (new_cells W f k) (two_one f k) (by unfold maxLen; omega) (by omega) (by simp; omega)
  obtain ⟨A, c, hv⟩ := own_form o1
  subst hv
  refine ⟨A, c, W1, r1, ?_, ?_, ?_⟩
  · rw [List.length_append, bcells_append]
    simpa [bcells] using o1
  · exact World.grownBy.trans (World.grownBy.trans (grown_alloc (World.grownBy.refl W _) _) (grown_drewN _ 1 _)) g1
  · rcases t1 with e | e
    · exact Or.inl e
    · exact Or.inr ⟨_, e, by simp⟩
set_option maxHeartbeats 1000000 in
set_option maxRecDepth 100000 in
theorem give_half (h : St B w s a x y n F F T tv) (hH : Held F T) {i k : Nat} (hi : i < T.length) (hw : T[i].2 = k + 1) :
    Calls Try.prog 22 #[.pointer (some ⟨s, 0, none⟩), .int .i64 i, .bool true] w (Gave B s a x y n F tv w) := by
  obtain ⟨A, c, hv⟩ := own_form h.own
  subst hv
  obtain ⟨g, hA, hg, hc1, hc2⟩ := cells_of h.own hi
  subst hA
  obtain ⟨hcap, hcm⟩ := cap_of h.own
  have hT10 : T.length ≤ 1024 := by have := hH.len_n; have := h.len; have := h.n10; omega
  obtain ⟨he1, he2, he3⟩ := hH.even _ (List.getElem_mem hi)
  have hgv := hH.half i k hi hw
  have hal := hH.all (List.getElem_mem hi)
  obtain ⟨m1, hm1⟩ : ∃ m1, m1 = T.length := ⟨_, rfl⟩
  rw [← hm1] at h hcap ⊢
  have HM1 := Lib.hid hm1
  have him : i < m1 := by omega
  have hm10 : m1 ≤ 1024 := by omega
  clear hm1
  have hcz := h.c2
  obtain ⟨f, hf⟩ : ∃ f, f = T[i].1 := ⟨_, rfl⟩
  rw [hw] at hc2 he1 he2 he3 hal
  obtain ⟨k1, hk1⟩ : ∃ k1, k1 = k + 1 := ⟨_, rfl⟩
  rw [← hk1] at hc2
  rw [← hf] at hc1 he2 he3 hgv hal
  rw [Nat.pow_succ] at he3 hal
  have hk8 : k ≤ 8 := by omega
  have k1p : (0 : Int) < k1 := by omega
  have k1n : 0 < k1 := by omega
  have k1s : IntKind.i64.wrap ((k1 : Int) - 1) = k := by
    rw [IntWalk.i64_in _ (by omega)]; omega
  clear hk1
  have hp := two_pos k
  have hal2 : Alq F (f + 2 ^ k) (2 ^ k) false := fun j h1 h2 => hal j (by omega) (by omega)
  have he4 : (f + 2 ^ k) % 2 ^ k = 0 := by rw [Nat.add_mod_right]; exact al_less he2 (by omega)
  have he5 : f + 2 ^ k + 2 ^ k ≤ F.length := by omega
  have hce : chE F (f + 2 ^ k : Nat) k true = 0 := chE_free hk8 he4 he5 hal2
  have hcl : chL F (f + 2 ^ k : Nat) k true = setR F (f + 2 ^ k) (2 ^ k) true := by
    have := chL_of hce
    rw [Int.toNat_natCast, Int.toNat_natCast] at this
    exact this
  have hcnt : (setR F (f + 2 ^ k) (2 ^ k) true).count false < F.count false := by
    have := count_setR (F := F) (a := f + 2 ^ k) (v := true) (m := 2 ^ k) he5 hal2
    simp only [Bool.not_true] at this
    omega
  have hS := fun W => size_any hk8 W
  have hlen' : (setR F (f + 2 ^ k) (2 ^ k) true).length = n := by rw [setR_length]; exact h.len
  obtain ⟨m, hm⟩ : ∃ m, m = 2 ^ k := ⟨_, rfl⟩
  rw [← hm] at hS he5 hp hce hcl hcnt hgv hlen'
  generalize setR F (f + m) m true = F' at hcl hcnt hgv hlen'
  have hfn : f + m ≤ 1024 := by have := h.len; have := h.n10; omega
  have HLn := Lib.hid hlen'
  have HSZ := Lib.hid hS
  clear hm hal2 he4 hS hlen'
  have HS := Lib.hid h
  have HG := Lib.hid hgv
  have HCN := Lib.hid hcnt
  have HCE := Lib.hid hce
  have HCL := Lib.hid hcl
  have HT10 := Lib.hid hT10
  have i0 : (0 : Int) ≤ i := by omega
  have im : (i : Int) < m1 := by omega
  clear h hH hgv hal hce hcl hcnt he2 he3 he5 hf hT10 hw
  go_enter Try.func22, Try.ntmps22
  go_wp2_with fail
  have HS1 := Lib.hid (HS.out.alloc (.cells #[.int .i64 f, .int .i64 k1] 59))
  have HT1 := Lib.hid (Lrow.new w 59 [.int .i64 f, .int .i64 k1])
  have HST := Lib.hid (Step.call (B := B) ((Below.refl w.heap.size w).alloc (Nat.le_refl _) (.cells #[.int .i64 f, .int .i64 k1] 59)) HS.out.lo (.slice (some ⟨g, 0, none⟩) m1 c))
  have hqs : w.heap.size < (w.alloc (.cells #[.int .i64 f, .int .i64 k1] 59)).heap.size := by simp
  clear hc1 hc2 hcz HS
  generalize w.heap.size = q at HT1 hqs ⊢
  generalize (w.alloc (.cells #[.int .i64 f, .int .i64 k1] 59)) = W at HS1 HT1 HST hqs ⊢
  have ho := (HS1.out.drewN 1).own
  rw [HM1.out] at ho
  obtain ⟨v1, W1, v2, W2, r1, r2a, r2b, o2, b2, t2, b1⟩ := without_run (W := W.drew) (B := B) (by have := HS1.out.lo; exact this) ho hi HT10.out
  rw [← HM1.out] at r2a
  clear ho
  obtain ⟨m2, hm2⟩ : ∃ m2, m2 = (T.take i ++ T.drop (i + 1)).length := ⟨_, rfl⟩
  rw [← hm2] at o2
  have HM2 := Lib.hid hm2
  clear hm2
  obtain ⟨A2, c2, hv2⟩ := own_form o2
  subst hv2
  have r1' : (Builtin.append_ #[33, 33] 33 #[.slice (some ⟨W.heap.size, 0, none⟩) 0 0, .slice (some ⟨g, 0, none⟩) i c]).run Try.prog (W.alloc (.cells #[] 59)).drew = .ok v1 W1 := r1
  have hcz := HS1.out.c2
  have hsW : s < W.heap.size := HS1.out.top.lt
  have hsne : ¬ s = W.heap.size := by omega
  have hs1 := HS1.out.top.call (w' := W1) ⟨b1.os, b1.tape, b1.output, b1.size, b1.block⟩
  have hs2 := HS1.out.top.call (w' := W2) ⟨b2.os, b2.tape, b2.output, b2.size, b2.block⟩
  have hc1 : W1.cell? ⟨s, 2, none⟩ = some (.slice (some ⟨g, 0, none⟩) m1 c) := hs1.cell 2
  have hc2 : W2.cell? ⟨s, 2, none⟩ = some (.slice (some ⟨g, 0, none⟩) m1 c) := hs2.cell 2
  have hf2 := hs2.frozen 2
  have HO2 := Lib.hid o2
  have HB2 := Lib.hid b2
  have HT2 := Lib.hid t2
  have iw : IntKind.i64.wrap ((i : Int) + 1) = i + 1 := IntWalk.i64_in _ (by have := HT10.out; omega)
  have it1 : ((i : Int) + 1).toNat = i + 1 := by omega
  have hic : (i : Int) ≤ c := by omega
  have i1 : (0 : Int) ≤ (i : Int) + 1 := by omega
  have i1m : (i : Int) + 1 ≤ m1 := by omega
  have himc : i ≤ c := by omega
  have htc : (m1 : Int) ≤ c := by omega
  have hs2f := hs2
  clear r1 o2 b2 t2 b1 hs1 hs2
  have HF2 := Lib.hid hs2f
  go_cut [17] from 17 to 35 (fun s17 wx => wx = W2.setCell ⟨s, 2, none⟩ (.slice A2 m2 c2))
  case first =>
    by_cases hc : c = i + 1
    · have r2' := r2b hc
      have hTi : m1 = i + 1 := by omega
      subst hc
      clear r2a r2b
      subst hTi
      have hle : (i : Int) ≤ (i : Int) + 1 := by omega
      go_region_law (first | (refine step_append_run (by rfl) _ _ 33 (by rfl) (.slice (some ⟨W.heap.size, 0, none⟩) 0 0) (.slice (some ⟨g, 0, none⟩) i (i + 1)) (by simp [Act.eval, Act.put]) (by simp [Act.eval, Act.put]) r1' ?_) | (refine step_append_run (by rfl) _ _ 33 (by rfl) v1 (.slice (some ⟨g, 0, none⟩) 0 0) (by simp [Act.eval, Act.put]) (by simp [Act.eval, Act.put]) r2' ?_))
      all_goals
        go_wp2_with fail
        go_meet
        rfl
    · have r2' := r2a hc
      have hc' : ¬ (c : Int) = (i : Int) + 1 := by omega
      clear r2a r2b
      go_region_law (first | (refine step_append_run (by rfl) _ _ 33 (by rfl) (.slice (some ⟨W.heap.size, 0, none⟩) 0 0) (.slice (some ⟨g, 0, none⟩) i c) (by simp [Act.eval, Act.put]) (by simp [Act.eval, Act.put]) r1' ?_) | (refine step_append_run (by rfl) _ _ 33 (by rfl) v1 (.slice (some ⟨g, (i + 1) * 2, none⟩) (m1 - (i + 1)) (c - (i + 1))) (by simp [Act.eval, Act.put]) (by simp [Act.eval, Act.put]) r2' ?_))
      all_goals
        go_wp2_with fail
        go_meet
        rfl
  case rest =>
    subst hcut
    have hg2 : W.grownBy W2 (Value.ownBlock (.slice (some ⟨g, 0, none⟩) m1 c)) := ⟨HB2.out.os, HB2.out.tape, HB2.out.output, HB2.out.size, fun k hk _ => HB2.out.block k hk⟩
    have hst := HS1.out.taken hg2 (T' := T.take i ++ T.drop (i + 1)) (by rw [← HM2.out]; exact HO2.out) (Or.inr HT2.out)
    have HSTEP := Lib.hid (HST.out.trans (hst.2.trans (Step.call (below_dN (Below.refl _ _) 1) hst.1.lo _)))
    have HS3 := Lib.hid (hst.1.drewN 1)
    have hT3 : Lrow (W2.setCell ⟨s, 2, none⟩ (.slice A2 m2 c2)).drew q 59 [.int .i64 f, .int .i64 k1] := lrow_grown_far (HS1.out.drewN 1) (HT1.out.drewN 1) HB2.out _
    have HT3 := Lib.hid hT3
    have hs3 := And.intro HS3.out.c0 (And.intro HS3.out.c1 (And.intro (hT3.cell 0) (hT3.cell 1)))
    have hq1 : (W2.setCell ⟨s, 2, none⟩ (.slice A2 m2 c2)).cell? ⟨q, 1, none⟩ = some (.int .i64 k1) := hT3.cell 1
    clear hst hT3 hg2 hcz hc1 hc2 hf2 r1' r2a r2b hs2f HF2
    generalize W2.setCell ⟨s, 2, none⟩ (.slice A2 m2 c2) = W3 at HSTEP HS3 HT3 hs3 hq1 ⊢
    go_wp2_with fail
    have hs3' : W3.drew.cell? ⟨q, 0, none⟩ = some (.int .i64 f) := HT3.out.cell 0
    have hsum : IntKind.i64.wrap ((f : Int) + m) = f + m := IntWalk.i64_in _ (by omega)
    have hq3 : q < W3.heap.size := HT3.out.lt
    have hqn : ¬ q = W3.heap.size := by omega
    go_cut [9] from 45 to 51 (fun s9 wx => s9 = .pointer (some ⟨W3.heap.size, 0, none⟩) ∧ wx = (W3.alloc (.cells #[.int .i64 ((f : Int) + m), .int .i64 k] 59)).drew)
    case first =>
      go_region_held3 (fun v => v.cell? ⟨q, 0, none⟩ = some (.int .i64 f)) (first | exact hs3' | exact (HT3.out.alloc (.cells #[.int .i64 0, .int .i64 0] 59)).cell 0 | exact (HT3.out.alloc (.cells #[.int .i64 ((f : Int) + m), .int .i64 k] 59)).cell 0) (first | (go_at_call 25; refine (HSZ.out _).mono ?_; rintro e w' ⟨rfl, rfl⟩))
      all_goals
        go_wp2_with fail
        go_meet
        exact ⟨rfl, rfl⟩
    case rest =>
      obtain ⟨rfl, rfl⟩ := hcut
      have HS4 : Hid (St B (W3.alloc (.cells #[.int .i64 ((f : Int) + m), .int .i64 k] 59)).drew s a x y n F F (T.take i ++ T.drop (i + 1)) (.slice A2 m2 c2)) := HS3.out.alloc _
      have HT4 : Hid (Lrow (W3.alloc (.cells #[.int .i64 ((f : Int) + m), .int .i64 k] 59)).drew q 59 [.int .i64 f, .int .i64 k1]) := HT3.out.alloc _
      have HA4 : Hid (Lrow (W3.alloc (.cells #[.int .i64 ((f : Int) + m), .int .i64 k] 59)).drew W3.heap.size 59 [.int .i64 ((f : Int) + m), .int .i64 k]) := Lrow.new W3 _ _
      have HSTEP4 : Hid (Step B w (W3.alloc (.cells #[.int .i64 ((f : Int) + m), .int .i64 k] 59)).drew (.slice (some ⟨g, 0, none⟩) m1 c) (.slice A2 m2 c2)) := HSTEP.out.trans (Step.call (w := W3.drewN 1) ((Below.refl _ _).alloc (Nat.le_refl _) _) HS3.out.lo _)
      have hTl : (T.take i ++ T.drop (i + 1)).length ≤ 1024 := by simp; have := HT10.out; omega
      have HGQ : Hid (∀ b, (Value.slice A2 m2 c2).ownBlock = some b → b < W3.heap.size) := fun b e => (HS3.out.own.lt b e).2
      clear hs3' hs3 hq1 hq3 hqn HS3 HT3 HSTEP
      generalize W3.heap.size = qa at HA4 HGQ ⊢
      generalize (W3.alloc (.cells #[.int .i64 ((f : Int) + m), .int .i64 k] 59)).drew = W4 at HS4 HT4 HA4 HSTEP4 ⊢
      obtain ⟨A5, c5, W5, r5, o5, g5, t5⟩ := took_run HS4.out hTl f k
      rw [← HM2.out] at r5 o5 t5
      have hcz := HS4.out.c2
      have hs4 : s < W4.heap.size := HS4.out.top.lt
      have hsn4 : ¬ s = W4.heap.size := by omega
      have hq4 : q < W4.heap.size := HT4.out.lt
      have hqn4 : ¬ q = W4.heap.size := by omega
      have hqf : W4.cell? ⟨q, 0, none⟩ = some (.int .i64 f) := HT4.out.cell 0
      have htk := HS4.out.taken g5 (T' := T.take i ++ T.drop (i + 1) ++ [(f, k)]) o5 t5
      have hno : ∀ b t vs, Lrow W4 b t vs → t ≠ 59 → Lrow W5 b t vs := fun b t vs r hne => taken_far HS4.out g5 r hne
      have hc5 : W5.cell? ⟨s, 2, none⟩ = some (.slice A2 m2 c2) := (hno _ _ _ HS4.out.top (by decide)).cell 2
      have hf5 := (hno _ _ _ HS4.out.top (by decide)).frozen 2
      have HA5 : Hid (Lrow (W5.setCell ⟨s, 2, none⟩ (.slice A5 (m2 + 1) c5)) qa 59 [.int .i64 ((f : Int) + m), .int .i64 k]) := by
        have h1 := HA4.out.grown g5 (fun e => by have := HGQ.out qa e.symm; omega)
        exact h1.far (p := ⟨s, 2, none⟩) (by show qa ≠ s; exact HA4.out.apart HS4.out.top (by decide)) _
      have HTK := Lib.hid htk
      clear o5 g5 t5 htk hno
      go_wp2_with fail
      go_cut [52] from 52 to 64 (fun s52 wx => wx = W5.setCell ⟨s, 2, none⟩ (.slice A5 (m2 + 1) c5))
      case first =>
        go_region_law (refine step_append_run (by rfl) _ _ 33 (by rfl) (.slice A2 m2 c2) (.slice (some ⟨W4.heap.size, 0, none⟩) 1 1) (by simp [Act.eval]) (by simp [Act.eval]) r5 ?_)
        all_goals
          go_wp2_with fail
          go_meet
          rfl
      case rest =>
        subst hcut
        have HS5 := Lib.hid (HTK.out.1.drewN 1)
        have HSTEP5 := Lib.hid (HSTEP4.out.trans (HTK.out.2.trans (Step.call (below_dN (Below.refl _ _) 1) HTK.out.1.lo _)))
        have HA6 := Lib.hid (HA5.out.drewN 1)
        clear hcz hc5 hf5 hqf hs4 hsn4 hq4 hqn4 r5 HTK HA5
        generalize W5.setCell ⟨s, 2, none⟩ (.slice A5 (m2 + 1) c5) = W6 at HS5 HSTEP5 HA6 ⊢
        have hs6 : W6.drew.cell? ⟨s, 0, none⟩ = some (.pointer (some ⟨a, 0, none⟩)) ∧ W6.drew.cell? ⟨s, 1, none⟩ = some (.pointer (some ⟨x, 0, none⟩)) ∧ W6.drew.cell? ⟨qa, 0, none⟩ = some (.int .i64 ((f : Int) + m)) := ⟨HS5.out.c0, HS5.out.c1, HA6.out.cell 0⟩
        have HGV : Hid (Calls Try.prog 28 #[.pointer (some ⟨a, 0, none⟩), .int .i64 ((f : Int) + m), .int .i64 k] W6.drew (Chg B a n 0 F' W6.drew)) := by
          obtain ⟨L, hL, hGd⟩ := HS5.out.bud
          have := give_any hL hGd HS5.out.len HS5.out.n10 (f + m : Nat) k (by omega) (by omega)
          rw [HCE.out, HCL.out] at this
          exact this
        have HCV : Hid (∀ w4, RefAt w4 x y n F → Calls Try.prog 31 #[.pointer (some ⟨x, 0, none⟩), .int .i64 ((f : Int) + m), .int .i64 k, .bool true] w4 (RefChg x y n 0 F' w4)) := fun w4 h4 => by
          have := refChange_any h4 (f + m : Nat) k (by omega) (by omega) true
          rw [HCE.out, HCL.out] at this
          exact this
        go_wp2_with fail
        go_region_held3 (fun v => v.cell? ⟨s, 0, none⟩ = some (.pointer (some ⟨a, 0, none⟩)) ∧ v.cell? ⟨s, 1, none⟩ = some (.pointer (some ⟨x, 0, none⟩)) ∧ v.cell? ⟨qa, 0, none⟩ = some (.int .i64 ((f : Int) + m))) (first | exact hs6 | exact ⟨hs7.c0, hs7.c1, q7.cell 0⟩ | exact ⟨hs8.c0, hs8.c1, q8.cell 0⟩)
          (first | (go_at_call 28; refine Calls.mono HGV.out ?_; rintro e w7 ⟨rfl, ht7, L7, hx7, hg7⟩; have hs7 := HS5.out.budTurn ht7 hx7 hg7 HLn.out; have q7 := ht7.row _ _ _ HA6.out (by decide) (by decide)) | (go_at_call 31; refine Calls.mono (HCV.out _ hs7.ref) ?_; rintro e w8 ⟨rfl, hr8, hg8⟩; have hs8 := hs7.refGrown hg8 hr8; have q8 := lrow_grown_ne hs7.ref.row hg8 q7 (by decide)))
        have HS8 := Lib.hid hs8
        have HST8 := Lib.hid (HSTEP5.out.trans ((Step.turn ht7 _).trans (Step.grown hs7.ref.row (Or.inr (Or.inr (Or.inr (Or.inr rfl)))) HS5.out.ly hg8 _)))
        clear hs7 hs8 q7 q8 ht7 hx7 hg7 hr8 hg8
        go_wp2
        go_ret
        exact ⟨rfl, _, _, _, HS8.out, HG.out, HST8.out, HCN.out⟩
end
end Go.Proofs.Ytgkjkjpeolhgbaa
