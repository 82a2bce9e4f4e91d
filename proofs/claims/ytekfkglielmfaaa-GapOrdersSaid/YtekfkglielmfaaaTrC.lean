/- The reference of stretches: Put. -/
import Derived.Test.YtekfkglielmfaaaTrB
namespace Go.Proofs.Ytekfkglielmfaaa
open Go.RowKit
def dnS (a : Nat) (P : List (Nat × Nat)) : Bool := P.any fun x => decide (a < x.1)
def pfS (a b : Nat) (P : List (Nat × Nat)) : List (Nat × Nat) := if dnS a P = true then insS a b P else P
theorem insS_yes (a b : Nat) (Q : List (Nat × Nat)) : ∀ P : List (Nat × Nat), dnS a P = true → insS a b (P ++ Q) = insS a b P ++ Q
  | [], h => by simp [dnS] at h
  | y :: r, h => by
    rw [List.cons_append]
    unfold insS
    split
    · rfl
    · rename_i hc
      have : dnS a r = true := by
        unfold dnS at h ⊢
        rw [List.any_cons, decide_eq_false hc, Bool.false_or] at h
        exact h
      rw [insS_yes a b Q r this]; rfl
theorem insS_no (a b : Nat) (Q : List (Nat × Nat)) : ∀ P : List (Nat × Nat), dnS a P = false → insS a b (P ++ Q) = P ++ insS a b Q
  | [], _ => rfl
  | y :: r, h => by
    have hc : ¬ a < y.1 ∧ dnS a r = false := by
      unfold dnS at h ⊢
      rw [List.any_cons, Bool.or_eq_false_iff] at h
      exact ⟨of_decide_eq_false h.1, h.2⟩
    rw [List.cons_append, insS, if_neg hc.1, insS_no a b Q r hc.2]; rfl
theorem dnS_snoc (a : Nat) (P : List (Nat × Nat)) (y : Nat × Nat) : dnS a (P ++ [y]) = (dnS a P || decide (a < y.1)) := by unfold dnS; rw [List.any_append]; simp
theorem pfS_done {a b : Nat} {P : List (Nat × Nat)} (h : dnS a P = true) (y : Nat × Nat) : pfS a b (P ++ [y]) = pfS a b P ++ [y] := by
  unfold pfS
  rw [dnS_snoc, h, Bool.true_or, if_pos rfl, if_pos rfl, insS_yes a b [y] P h]
theorem pfS_now {a b : Nat} {P : List (Nat × Nat)} (h : dnS a P = false) {y : Nat × Nat} (hy : a < y.1) : pfS a b (P ++ [y]) = pfS a b P ++ [(a, b)] ++ [y] := by
  unfold pfS
  rw [dnS_snoc, h, decide_eq_true hy, Bool.false_or, if_pos rfl, if_neg (by decide), insS_no a b [y] P h]
  simp [insS, hy]
theorem pfS_not {a b : Nat} {P : List (Nat × Nat)} (h : dnS a P = false) {y : Nat × Nat} (hy : ¬ a < y.1) : pfS a b (P ++ [y]) = pfS a b P ++ [y] := by
  unfold pfS
  rw [dnS_snoc, h, decide_eq_false hy, Bool.false_or, if_neg (by decide), if_neg (by decide)]
theorem pfS_end (a b : Nat) (P : List (Nat × Nat)) : insS a b P = if dnS a P = true then pfS a b P else pfS a b P ++ [(a, b)] := by
  unfold pfS
  cases h : dnS a P with
  | true => simp
  | false =>
    have := insS_no a b [] P h
    rw [List.append_nil] at this
    simp [this, insS]
theorem pfS_len (a b : Nat) (P : List (Nat × Nat)) : (pfS a b P).length ≤ P.length + 1 := by
  unfold pfS
  split
  · rw [insS_len]; omega
  · omega
theorem take_one {α : Type} (L : List α) {j : Nat} (hj : j < L.length) : L.take (j + 1) = L.take j ++ [L[j]] := by rw [List.take_add_one, List.getElem?_eq_getElem hj]; rfl
theorem ovS_snoc (P : List (Nat × Nat)) (y : Nat × Nat) (f t : Int) : ovS (P ++ [y]) f t = (ovS P f t || decide ((y.1 : Int) < t ∧ f < (y.2 : Int))) := by unfold ovS; rw [List.any_append]; simp
theorem ovS_in {L : List (Nat × Nat)} {f t : Int} {j : Nat} (hj : j < L.length) (h : (L[j].1 : Int) < t ∧ f < (L[j].2 : Int)) : ovS L f t = true := List.any_eq_true.2 ⟨L[j], List.getElem_mem hj, decide_eq_true h⟩
section
variable {w w' : World} {B x : Nat} {v v' : Value} {L L' : List (Nat × Nat)} {f t : Int}
/-- One more behind a list of one's own. -/
theorem app_step {D : Nat} {W0 W : World} (hb : Below D W0 W) (hD : D ≤ W.heap.size) {o : Value} {P : List (Nat × Nat)} (ho : ETr.Own D W o P) (hl : P.length ≤ 90000) (y : Nat × Nat) : ∃ A c w3,
    (Builtin.append_ #[32, 32] 32 #[o, .slice (some ⟨W.heap.size, 0, none⟩) 1 1]).run Try.prog (W.alloc (.cells #[.int .i64 y.1, .int .i64 y.2] 31)) = .ok (.slice A (P.length + 1) c) w3 ∧
    ETr.Own D w3 (.slice A (P.length + 1) c) (P ++ [y]) ∧ Below D W0 w3 ∧ (∀ {q t vs}, Lrow W q t vs → some q ≠ o.ownBlock → Lrow w3 q t vs) := by
  obtain ⟨A, c, w3, r, o3, g3, -⟩ := ho.app1 hD y hl #[.int .i64 y.1, .int .i64 y.2] rfl
  refine ⟨A, c, w3, r _ rfl, o3, hb.grown g3 hD (fun k e => by obtain ⟨vs, _, hk⟩ := ho.block e; exact hk), fun hr hn => hr.grown g3 hn⟩
theorem rput_no (h : RtT B w x v L) (hw : wrS f t ≠ 0) : Calls Try.prog 42 #[.pointer (some ⟨x, 0, none⟩), .int .i64 f, .int .i64 t] w fun e w' => e = .returned (.int .i64 3) ∧ DidT B x v L w w' := by
  have hW := wrong_r f t w
  rw [wrS_no hw] at hW
  have HD : Hid (DidT B x v L w w) := DidT.same h (Below.refl _ _)
  clear h hw
  go_enter Try.func42, Try.ntmps42
  go_wp2_with (go_at_call 48; (with_reducible refine hW.mono ?_); rintro e w1 ⟨rfl, rfl⟩)
  go_ret
  exact ⟨rfl, HD.out⟩
set_option maxHeartbeats 4000000 in
set_option maxRecDepth 100000 in
theorem rput_yes (h : RtT B w x v L) (hl : L.length ≤ 1000) {a b : Nat} (hw : wrS a b = 0) : Calls Try.prog 42 #[.pointer (some ⟨x, 0, none⟩), .int .i64 a, .int .i64 b] w fun e w' => e = .returned (.int .i64 (ptE L a b)) ∧ DidT B x v (ptS L a b) w w' := by
  obtain ⟨A, c, hv⟩ := h.2.1.form
  subst hv
  have hW := wrong_r a b w
  rw [hw] at hW
  have hP : ovS L a b = false → ptE L a b = 0 ∧ ptS L a b = insS a b L := fun ho => by
    have he : ptE L a b = 0 := by unfold ptE; rw [if_neg (by rw [hw]; simp), if_neg (by rw [ho]; simp)]
    exact ⟨he, by unfold ptS; rw [if_pos he, Int.toNat_natCast, Int.toNat_natCast]⟩
  have hQ : ovS L a b = true → ptE L a b = 7 ∧ ptS L a b = L := fun ho => by
    have he : ptE L a b = 7 := by unfold ptE; rw [if_neg (by rw [hw]; simp), if_pos ho]
    exact ⟨he, by unfold ptS; rw [if_neg (by rw [he]; decide)]⟩
  obtain ⟨n, hn⟩ : ∃ n, n = L.length := ⟨_, rfl⟩
  rw [← hn] at h ⊢
  have HX := Lib.hid (And.intro h (And.intro hn (And.intro hP hQ)))
  obtain ⟨E, hE⟩ : ∃ E, E = ptE L a b := ⟨_, rfl⟩
  obtain ⟨L', hL'⟩ : ∃ L', L' = ptS L a b := ⟨_, rfl⟩
  rw [← hE, ← hL']
  have HE := Lib.hid (And.intro hE hL')
  have c0 : w.cell? ⟨x, 0, none⟩ = some (.slice A n c) := h.1.cell 0
  have hD : w.heap.size ≤ w.heap.size := Nat.le_refl _
  rw [← hn] at hl
  clear h hP hQ hn hw hE hL'
  go_enter Try.func42, Try.ntmps42
  go_wp2_with (go_at_call 48; (with_reducible refine hW.mono ?_); rintro e w1 ⟨rfl, rfl⟩)
  clear c0 hW
  go_loopw [8, 9, 10] (fun ov dv i wr => ∃ (j lo co : Nat) (Ao : Option Addr), j ≤ n ∧ i = .int .i64 j ∧ ov = .slice Ao lo co ∧ lo = (pfS a b (L.take j)).length ∧ dv = .bool (dnS a (L.take j)) ∧ ETr.Own w.heap.size wr (.slice Ao lo co) (pfS a b (L.take j)) ∧ Below w.heap.size w wr ∧ ovS (L.take j) a b = false) (fun _ _ i _ => n - (RowKit.intOf i).toNat)
  case atStart => exact ⟨0, 0, 0, none, Nat.zero_le _, rfl, rfl, rfl, rfl, Enc.Own.nil _ _, Below.refl _ _, rfl⟩
  case round =>
    obtain ⟨j, lo, co, Ao, hj, rfl, rfl, hlo, rfl, hown, hb, hov⟩ := hrel
    have hrt := HX.out.1.call hb
    have c0 : wr.cell? ⟨x, 0, none⟩ = some (.slice A n c) := hrt.1.cell 0
    have hplen := pfS_len a b (L.take j)
    have htk : (L.take j).length ≤ n := by rw [List.length_take]; have := HX.out.2.1; omega
    by_cases hlt : j < n
    · have hjL : j < L.length := by have := HX.out.2.1; omega
      obtain ⟨g, rfl, -, hg, d0, d1⟩ := hrt.at_ hjL
      have htk1 := take_one L hjL
      obtain ⟨y, hy⟩ : ∃ y, y = L[j] := ⟨_, rfl⟩
      rw [← hy] at d0 d1 htk1
      have hin : ((y.1 : Int) < b ∧ (a : Int) < y.2) → ovS L a b = true := fun hh => ovS_in hjL (by rw [← hy]; exact hh)
      obtain ⟨y0, y1⟩ := y
      dsimp only at d0 d1 hin
      have j1 : (j : Int) < n := by omega
      have j0 : (0 : Int) ≤ j := by omega
      have hw3 : IntKind.i64.wrap ((j : Int) + 1) = (j : Int) + 1 := IntWalk.i64_in _ (by omega)
      obtain ⟨W1, hW1⟩ : ∃ W1, W1 = wr.alloc (.cells #[.int .i64 y0, .int .i64 y1] 31) := ⟨_, rfl⟩
      obtain ⟨q, hq⟩ : ∃ q, q = wr.heap.size := ⟨_, rfl⟩
      have hb1 : Below w.heap.size w W1 := by rw [hW1]; exact hb.alloc hb.size _
      have hrow : Lrow W1 q 31 [.int .i64 y0, .int .i64 y1] := by rw [hW1, hq]; exact Lrow.new wr _ _
      have hown1 : ETr.Own w.heap.size W1 (.slice Ao lo co) (pfS a b (L.take j)) := by rw [hW1]; exact hown.call (below_new _ _)
      have hnb : some q ≠ (Value.slice Ao lo co).ownBlock := fun e => by
        obtain ⟨vs, r, _⟩ := hown.block e.symm
        have := r.lt
        omega
      have e0 := hrow.cell 0
      have e1 := hrow.cell 1
      have HW := Lib.hid (And.intro hW1 hq)
      have HJ := Lib.hid hlt
      by_cases hover : (y0 : Int) < b ∧ (a : Int) < y1
      · obtain ⟨o1, o2⟩ := hover
        have HO := Lib.hid (hin ⟨o1, o2⟩)
        have HD : Hid (DidT B x (.slice (some ⟨g, 0, none⟩) n c) L w W1) := DidT.same HX.out.1 hb1
        clear hW1 hq hb1 hrow hown1 hnb hin htk1 hy hjL hrt hb hov hown hlo hj hlt hplen htk
        go_wp2_with fail
        rw [← HW.out.1]
        go_ret
        exact ⟨ret_int (by rw [HE.out.1, (HX.out.2.2.2 HO.out).1]), by rw [HE.out.2, (HX.out.2.2.2 HO.out).2]; exact HD.out⟩
      · have hov1 : ovS (L.take j ++ [(y0, y1)]) a b = false := by rw [ovS_snoc, hov, Bool.false_or]; exact decide_eq_false hover
        have HOV := Lib.hid hov1
        have hsz : w.heap.size ≤ W1.heap.size := hb1.size
        have hgd : (¬ (y0 : Int) < b) ∨ ((y0 : Int) < b ∧ ¬ (a : Int) < y1) := by
          by_cases c1 : (y0 : Int) < b
          · exact Or.inr ⟨c1, fun c2 => hover ⟨c1, c2⟩⟩
          · exact Or.inl c1
        cases hd : dnS a (L.take j)
        · by_cases hay : a < y0
          · obtain ⟨A3, c3, w3, r3, o3, b3, k3⟩ := app_step hb1 hsz hown1 (by omega) (a, b)
            have hrow3 := k3 hrow hnb
            obtain ⟨A4, c4, w4, r4, o4, b4, k4⟩ := app_step b3 b3.size o3 (by rw [List.length_append]; simp; omega) (y0, y1)
            have hl4 : (pfS a b (L.take j) ++ [(a, b)]).length = lo + 1 := by rw [List.length_append, ← hlo]; rfl
            rw [hl4] at r4 o4
            rw [← hlo] at r3 r4
            have HN := Lib.hid (And.intro o4 (And.intro b4 (pfS_now (b := b) hd (y := (y0, y1)) hay)))
            have HL := Lib.hid (And.intro htk1 hl4)
            have hdt : dnS a (L.take j ++ [(y0, y1)]) = true := by rw [dnS_snoc, hd]; exact decide_eq_true hay
            have HDN := Lib.hid hdt
            have f0 := hrow3.cell 0
            have f1 := hrow3.cell 1
            have hay1 : (a : Int) < y0 := by omega
            clear hW1 hq hb1 hrow hown1 hnb hin htk1 hy hjL hrt hb hov hown hlo hj hlt hplen htk hov1 hover o3 b3 k3 o4 b4 k4 hrow3 hl4 hd hdt hsz hay
            rcases hgd with g1 | ⟨g1, g2⟩
            all_goals
              go_upto_region 10 with (fail)
              rw [← HW.out.1, ← HW.out.2]
              go_wp2_with (at_builtin; first | (refine wpList_append_run rfl _ _ 32 rfl (.slice Ao lo co) (.slice (some ⟨W1.heap.size, 0, none⟩) 1 1) rfl rfl r3 ?_) | (refine wpList_append_run rfl _ _ 32 rfl (.slice A3 (lo + 1) c3) (.slice (some ⟨w3.heap.size, 0, none⟩) 1 1) rfl rfl r4 ?_))
              go_roundw
              case rel => exact ⟨j + 1, _, _, _, HJ.out, by go_num, rfl, by rw [HL.out.1, HN.out.2.2, List.length_append, HL.out.2]; rfl, by rw [HL.out.1, HDN.out], by rw [HL.out.1, HN.out.2.2]; exact HN.out.1, HN.out.2.1, by rw [HL.out.1]; exact HOV.out⟩
              case measure => simp [RowKit.intOf]; have := HJ.out; omega
          · obtain ⟨A3, c3, w3, r3, o3, b3, k3⟩ := app_step hb1 hsz hown1 (by omega) (y0, y1)
            rw [← hlo] at r3 o3
            have HN := Lib.hid (And.intro o3 (And.intro b3 (pfS_not (b := b) hd (y := (y0, y1)) hay)))
            have HL := Lib.hid (And.intro htk1 hlo)
            have hdt : dnS a (L.take j ++ [(y0, y1)]) = false := by rw [dnS_snoc, hd]; exact decide_eq_false hay
            have HDN := Lib.hid hdt
            have hay1 : ¬ (a : Int) < y0 := by omega
            clear hW1 hq hb1 hrow hown1 hnb hin htk1 hy hjL hrt hb hov hown hlo hj hlt hplen htk hov1 hover o3 b3 k3 hd hdt hsz hay
            rcases hgd with g1 | ⟨g1, g2⟩
            all_goals
              go_upto_region 10 with (fail)
              rw [← HW.out.1, ← HW.out.2]
              go_wp2_with (at_builtin; refine wpList_append_run rfl _ _ 32 rfl (.slice Ao lo co) (.slice (some ⟨W1.heap.size, 0, none⟩) 1 1) rfl rfl r3 ?_)
              go_roundw
              case rel => exact ⟨j + 1, _, _, _, HJ.out, by go_num, rfl, by rw [HL.out.1, HN.out.2.2, List.length_append, ← HL.out.2]; rfl, by rw [HL.out.1, HDN.out], by rw [HL.out.1, HN.out.2.2]; exact HN.out.1, HN.out.2.1, by rw [HL.out.1]; exact HOV.out⟩
              case measure => simp [RowKit.intOf]; have := HJ.out; omega
        · obtain ⟨A3, c3, w3, r3, o3, b3, k3⟩ := app_step hb1 hsz hown1 (by omega) (y0, y1)
          rw [← hlo] at r3 o3
          have HN := Lib.hid (And.intro o3 (And.intro b3 (pfS_done (b := b) hd (y0, y1))))
          have HL := Lib.hid (And.intro htk1 hlo)
          have hdt : dnS a (L.take j ++ [(y0, y1)]) = true := by rw [dnS_snoc, hd]; rfl
          have HDN := Lib.hid hdt
          clear hW1 hq hb1 hrow hown1 hnb hin htk1 hy hjL hrt hb hov hown hlo hj hlt hplen htk hov1 hover o3 b3 k3 hd hdt hsz
          rcases hgd with g1 | ⟨g1, g2⟩
          all_goals
            go_upto_region 10 with (fail)
            rw [← HW.out.1, ← HW.out.2]
            go_wp2_with (at_builtin; refine wpList_append_run rfl _ _ 32 rfl (.slice Ao lo co) (.slice (some ⟨W1.heap.size, 0, none⟩) 1 1) rfl rfl r3 ?_)
            go_roundw
            case rel => exact ⟨j + 1, _, _, _, HJ.out, by go_num, rfl, by rw [HL.out.1, HN.out.2.2, List.length_append, ← HL.out.2]; rfl, by rw [HL.out.1, HDN.out], by rw [HL.out.1, HN.out.2.2]; exact HN.out.1, HN.out.2.1, by rw [HL.out.1]; exact HOV.out⟩
            case measure => simp [RowKit.intOf]; have := HJ.out; omega
    · obtain rfl : j = n := by omega
      have hall : L.take j = L := List.take_of_length_le (by have := HX.out.2.1; omega)
      rw [hall] at hov hown hlo hplen
      have HO := Lib.hid hov
      have y0 := hrt.1.frozen 0
      have j1 : ¬ (j : Int) < j := by omega
      have HEND := Lib.hid (pfS_end a b L)
      rw [hall]
      cases hd : dnS a L
      · obtain ⟨A3, c3, w3, r3, o3, b3, k3⟩ := app_step hb hb.size hown (by have := HX.out.2.1; omega) (a, b)
        rw [← hlo] at r3 o3
        have hx3 := HX.out.1.call b3
        have hD := HX.out.1.laid b3 o3
        rw [← show insS a b L = pfS a b L ++ [(a, b)] by rw [HEND.out, hd]; rfl] at hD
        have HD := Lib.hid hD
        have z0 := hx3.1.cell 0
        have z1 := hx3.1.frozen 0
        clear hrt hb hov hown hlo hj hlt hplen htk hall o3 b3 k3 hd hx3 hD
        go_wp2_with (at_builtin; refine wpList_append_run rfl _ _ 32 rfl (.slice Ao lo co) (.slice (some ⟨wr.heap.size, 0, none⟩) 1 1) rfl rfl r3 ?_)
        go_ret
        exact ⟨ret_int (by rw [HE.out.1, (HX.out.2.2.1 HO.out).1]), by rw [HE.out.2, (HX.out.2.2.1 HO.out).2]; exact HD.out⟩
      · rw [← show insS a b L = pfS a b L by rw [HEND.out, hd]; rfl] at hown
        have hD := HX.out.1.laid hb hown
        have HD := Lib.hid hD
        clear hrt hb hov hown hlo hj hlt hplen htk hall hd hD
        go_wp2_with fail
        go_ret
        exact ⟨ret_int (by rw [HE.out.1, (HX.out.2.2.1 HO.out).1]), by rw [HE.out.2, (HX.out.2.2.1 HO.out).2]; exact HD.out⟩
theorem rput (h : RtT B w x v L) (hl : L.length ≤ 1000) (f t : Int) : Calls Try.prog 42 #[.pointer (some ⟨x, 0, none⟩), .int .i64 f, .int .i64 t] w fun e w' => e = .returned (.int .i64 (ptE L f t)) ∧ DidT B x v (ptS L f t) w w' := by
  by_cases hw : wrS f t = 0
  · obtain ⟨a, b, rfl, rfl, -, -, -⟩ := wrS_ok hw
    exact rput_yes h hl hw
  · have he : ptE L f t = 3 := by unfold ptE; rw [if_pos hw]
    have hs : ptS L f t = L := by unfold ptS; rw [if_neg (by rw [he]; decide)]
    rw [he, hs]
    exact rput_no h hw
end
end Go.Proofs.Ytekfkglielmfaaa
