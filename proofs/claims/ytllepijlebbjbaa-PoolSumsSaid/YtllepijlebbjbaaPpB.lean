/- Pools: PoolSums, walked. -/
import Derived.Test.YtllepijlebbjbaaPoN
import Derived.Deep.CutBlock
import Derived.Deep.CutRange
import Derived.Deep.LoopGhost
import Derived.BigRegion
namespace Go.Proofs.Ytllepijlebbjbaa
open Go.RowKit
/-- In use. -/
def usP (S : Pk) : Int := (S.I.count 2 : Nat)
section
variable {S : Pk}
theorem us_set {i : Nat} {x v P U : Int} (hx : S.I[i]? = some x) : usP ⟨S.o, S.m, S.I.set i v, P, U⟩ = usP S - (if x = 2 then 1 else 0) + (if v = 2 then 1 else 0) := count_set hx v 2
theorem sum_grow (f : Int) : (maE S f = 0 → totP (grS S f) = totP S + 1 ∧ usP (grS S f) = usP S) ∧ (maE S f ≠ 0 → grS S f = S) := by
  refine ⟨fun c => ?_, fun c => by unfold grS; rw [if_neg c]⟩
  obtain ⟨a, b, c1, d⟩ := maE_ok c
  unfold grS stP
  rw [if_pos c, tot_set d, us_set d]
  simp
theorem sum_shrink (h : POk S) : (shE S = 0 → totP (shS S) = totP S - 1 ∧ usP (shS S) = usP S) ∧ (shE S ≠ 0 → shS S = S) := by
  refine ⟨fun c => ?_, fun c => by unfold shS; rw [if_neg c]⟩
  obtain ⟨i, _, e1, e2⟩ := shS_is h c
  rw [e2, tot_set e1, us_set e1]
  simp
theorem sum_take (h : POk S) (b : Bool) : (taE S b = 0 → totP (taS S b) = totP S ∧ usP (taS S b) = usP S + 1) ∧ (taE S b ≠ 0 → taS S b = S) := by
  refine ⟨fun c => ?_, fun c => by unfold taS; rw [if_neg c]⟩
  obtain ⟨c0, _, _⟩ := taE_ok h c
  obtain ⟨i, _, e, _, e1⟩ := frL_head c0
  unfold taS
  rw [if_pos c, e, Int.toNat_natCast, tot_set e1, us_set e1]
  simp
theorem sum_extra (f : Int) : (exE S f = 0 → totP (exS S f) = totP S + 1 ∧ usP (exS S f) = usP S + 1) ∧ (exE S f ≠ 0 → exS S f = S) := by
  refine ⟨fun c => ?_, fun c => by unfold exS; rw [if_neg c]⟩
  have c' := c
  unfold exE at c'
  split at c'
  · omega
  · rename_i c2
    obtain ⟨a, b, c1, d⟩ := maE_ok (Classical.not_not.1 c2)
    unfold exS
    rw [if_pos c, tot_set d, us_set d]
    simp
theorem sum_give (f : Int) (b : Bool) : (giE S f = 0 → giV S f b = true → totP (giS S f b) = totP S - 1 ∧ usP (giS S f b) = usP S - 1) ∧ (giE S f = 0 → giV S f b = false → totP (giS S f b) = totP S ∧ usP (giS S f b) = usP S - 1) ∧ (giE S f ≠ 0 → giS S f b = S ∧ giV S f b = false) := by
  refine ⟨fun c d => ?_, fun c d => ?_, fun c => ⟨by unfold giS; rw [if_neg c], by unfold giV; exact decide_eq_false fun e => c e.1⟩⟩
  · obtain ⟨a, a1, e1⟩ := giE_ok c
    unfold giV at d
    have d' := of_decide_eq_true d
    unfold giS
    rw [if_pos c, if_pos d'.2, tot_set e1, us_set e1]
    simp
  · obtain ⟨a, a1, e1⟩ := giE_ok c
    unfold giV at d
    have d' := of_decide_eq_false d
    unfold giS
    rw [if_pos c, if_neg fun e => d' ⟨c, e⟩, tot_set e1, us_set e1]
    simp
theorem sum_pr (n : Int) : totP (prS S n) = totP S ∧ usP (prS S n) = usP S := by
  unfold prS
  split <;> exact ⟨rfl, rfl⟩
theorem sum_un (n : Int) : totP (unS S n) = totP S ∧ usP (unS S n) = usP S := by
  unfold unS
  split <;> exact ⟨rfl, rfl⟩
theorem tot_us : totP S = (S.I.count 1 : Nat) + usP S := rfl
theorem us_bd : 0 ≤ usP S ∧ usP S ≤ totP S := by unfold usP totP; omega
end
/-- Both objects, each in a state of its own. -/
structure Two (I : PoI) (B : Nat) (w : World) (s x : Nat) (S T : Pk) : Prop where
  ok : POk S
  ot : POk T
  at_ : ∃ X g, I.Ob B w s X S ∧ Px B w x g T ∧ ∀ k, X k → ¬ MineX x g k
section
variable {I : PoI} {w w' : World} {B s x : Nat} {S S' T T' : Pk} {X : Nat → Prop} {xa g : Nat}
theorem Two.call (h : Two I B w s x S T) (hb : Below w.heap.size w w') : Two I B w' s x S T := by
  obtain ⟨ok, ot, X, g, h1, h2, h3⟩ := h
  exact ⟨ok, ot, X, g, I.call h1 hb, h2.call hb, h3⟩
theorem Two.lw (h : Two I B w s x S T) : B ≤ w.heap.size := by obtain ⟨_, _, X, g, h1, _⟩ := h; exact I.lw h1
theorem half2 (h1 : I.Ob B w s X S) (h2 : Px B w xa g T) (h3 : ∀ k, X k → ¬ MineX xa g k) (d : DidO I.Ob B w s X S' w') :
    ∃ X', I.Ob B w' s X' S' ∧ Px B w' xa g T ∧ (∀ k, X' k → ¬ MineX xa g k) ∧ Below B w w' := by
  have hb := I.down h1 d
  obtain ⟨X', d1, d2, d3⟩ := d
  refine ⟨X', d1, h2.keep fun k hk => d2.keep k (h2.mine k hk).2 fun e => h3 k e hk, fun k e hk => ?_, hb⟩
  rcases d3 k e with e | e
  · exact h3 k e hk
  · have := (h2.mine k hk).2; omega
/-- The program alone has made its call. -/
theorem Two.prog (ok : POk S') (ot : POk T) (h1 : I.Ob B w s X S) (h2 : Px B w xa g T) (h3 : ∀ k, X k → ¬ MineX xa g k) (d : DidO I.Ob B w s X S' w') : Two I B w' s xa S' T ∧ Below B w w' := by
  obtain ⟨X', a, b, c, e⟩ := half2 h1 h2 h3 d
  exact ⟨⟨ok, ot, X', g, a, b, c⟩, e⟩
def DidTwo (I : PoI) (B : Nat) (w : World) (s x : Nat) (S T : Pk) (e : Ending) (w' : World) : Prop := ∃ b : Bool, e = .returned (.bool b) ∧ Two I B w' s x S T ∧ Below B w w'
set_option maxHeartbeats 2000000 in
set_option maxRecDepth 100000 in
theorem do2_promise (h : Two I B w s x S T) {l : Ac} (hl : IsAc l) (hk : l.k = 3) : Calls Try.prog 12 #[.pointer (some ⟨s, 0, none⟩), .pointer (some ⟨x, 0, none⟩), .agg #[.int .i64 l.k, .int .i64 l.f, .int .i64 l.n, .bool l.y]] w (DidTwo I B w s x (prS S l.n) (prS T l.n)) := by
  obtain ⟨W0, hW0⟩ : ∃ W0, W0 = w.alloc (.cells #[.int .i64 l.k, .int .i64 l.f, .int .i64 l.n, .bool l.y] 33) := ⟨_, rfl⟩
  obtain ⟨q, hq⟩ : ∃ q, q = w.heap.size := ⟨_, rfl⟩
  have g0 : Below w.heap.size w W0 := by rw [hW0]; exact below_new _ _
  have rs : Lrow W0 q 33 (acCells l) := by rw [hW0, hq]; exact Lrow.new w _ (acCells l)
  obtain ⟨ok, ot, X0, g, h0⟩ := h
  have hst := And.intro (I.call h0.1 g0) (And.intro (h0.2.1.call g0) h0.2.2)
  have HB0 : Hid (Below B w W0) := g0.mono h0.2.1.lw
  have HRS := Lib.hid rs
  have HW := Lib.hid (And.intro hW0 hq)
  have HF := Lib.hid hl
  have HOK := Lib.hid ok
  have HOT := Lib.hid ot
  have HX : Hid (∀ k, X0 k → k = q → False) := fun k hk e => by
    have := (I.lo h0.1 k hk).2
    rw [e, HW.out.2] at this
    exact absurd this (by omega)
  have HM : Hid (∀ k, MineX x g k → k = q → False) := fun k hk e => by
    have := (h0.2.1.mine k hk).2
    rw [e, HW.out.2] at this
    exact absurd this (by omega)
  clear h0 hW0 hq g0 rs hl ok ot
  obtain ⟨K, Fr, Nn, Ye⟩ := l
  dsimp only [acCells] at HRS HW HF hk
  subst hk
  go_enter Try.func12, Try.ntmps12
  go_upto_region 1 with (fail)
  rw [← HW.out.1, ← HW.out.2]
  have e0 := HRS.out.cell 0
  obtain ⟨h1, h2, h3⟩ := hst
  have h1' := I.call h1 (below_dN (Below.refl _ W0) 1)
  have h2' := h2.call (below_dN (Below.refl _ W0) 1)
  have hrs := HRS.out.drewN 1
  have HS0 : W0.drew.cell? ⟨q, 2, none⟩ = some (.int .i64 Nn) := hrs.cell 2
  go_wp2_with fail
  go_region_held3 (fun v => v.cell? ⟨q, 2, none⟩ = some (.int .i64 Nn))
    (first | exact HS0 | exact HS1 | exact HS2)
    (first | (go_at_call 26; refine (I.promise h1' HOK.out Nn HF.out.n).mono ?_; rintro e w1 ⟨rfl, hd1⟩; have f1 := hd1.choose_spec.2.1; obtain ⟨X1, k1, k2, k3, kb⟩ := half2 h1' h2' h3 hd1; have r1 := f1.row hrs (fun e => HX.out q e rfl); have HS1 : w1.cell? ⟨q, 2, none⟩ = some (.int .i64 Nn) := r1.cell 2) | (go_at_call 30; refine (promise_x k2 HOT.out Nn).mono ?_; rintro e w2 ⟨rfl, hd2⟩; have hst2 : Two I B w2 s x (prS S Nn) (prS T Nn) := ⟨HOK.out.promise Nn, HOT.out.promise Nn, X1, g, I.keep k1 hd2.2.size fun k hk hl => hd2.2.keep k hl (k3 k hk), hd2.1, k3⟩; have hb2 := hd2.2.below k2.lw fun k hk => (k2.mine k hk).1; have r2 := hd2.2.row r1 (fun e => HM.out q e rfl); have HS2 : w2.cell? ⟨q, 2, none⟩ = some (.int .i64 Nn) := r2.cell 2))
  all_goals
    have HE := Lib.hid (And.intro hst2 (HB0.out.trans (Below.trans (below_dN (Below.refl _ _) 1) (Below.trans kb hb2))))
    clear hst2 hb2 kb
    go_wp2
    go_ret
    exact ⟨_, rfl, HE.out.1, HE.out.2⟩
set_option maxHeartbeats 2000000 in
set_option maxRecDepth 100000 in
theorem do2_unpromise (h : Two I B w s x S T) {l : Ac} (hl : IsAc l) (hk : l.k = 4) : Calls Try.prog 12 #[.pointer (some ⟨s, 0, none⟩), .pointer (some ⟨x, 0, none⟩), .agg #[.int .i64 l.k, .int .i64 l.f, .int .i64 l.n, .bool l.y]] w (DidTwo I B w s x (unS S l.n) (unS T l.n)) := by
  obtain ⟨W0, hW0⟩ : ∃ W0, W0 = w.alloc (.cells #[.int .i64 l.k, .int .i64 l.f, .int .i64 l.n, .bool l.y] 33) := ⟨_, rfl⟩
  obtain ⟨q, hq⟩ : ∃ q, q = w.heap.size := ⟨_, rfl⟩
  have g0 : Below w.heap.size w W0 := by rw [hW0]; exact below_new _ _
  have rs : Lrow W0 q 33 (acCells l) := by rw [hW0, hq]; exact Lrow.new w _ (acCells l)
  obtain ⟨ok, ot, X0, g, h0⟩ := h
  have hst := And.intro (I.call h0.1 g0) (And.intro (h0.2.1.call g0) h0.2.2)
  have HB0 : Hid (Below B w W0) := g0.mono h0.2.1.lw
  have HRS := Lib.hid rs
  have HW := Lib.hid (And.intro hW0 hq)
  have HF := Lib.hid hl
  have HOK := Lib.hid ok
  have HOT := Lib.hid ot
  have HX : Hid (∀ k, X0 k → k = q → False) := fun k hk e => by
    have := (I.lo h0.1 k hk).2
    rw [e, HW.out.2] at this
    exact absurd this (by omega)
  have HM : Hid (∀ k, MineX x g k → k = q → False) := fun k hk e => by
    have := (h0.2.1.mine k hk).2
    rw [e, HW.out.2] at this
    exact absurd this (by omega)
  clear h0 hW0 hq g0 rs hl ok ot
  obtain ⟨K, Fr, Nn, Ye⟩ := l
  dsimp only [acCells] at HRS HW HF hk
  subst hk
  go_enter Try.func12, Try.ntmps12
  go_upto_region 1 with (fail)
  rw [← HW.out.1, ← HW.out.2]
  have e0 := HRS.out.cell 0
  obtain ⟨h1, h2, h3⟩ := hst
  have h1' := I.call h1 (below_dN (Below.refl _ W0) 1)
  have h2' := h2.call (below_dN (Below.refl _ W0) 1)
  have hrs := HRS.out.drewN 1
  have HS0 : W0.drew.cell? ⟨q, 2, none⟩ = some (.int .i64 Nn) := hrs.cell 2
  go_wp2_with fail
  go_region_held3 (fun v => v.cell? ⟨q, 2, none⟩ = some (.int .i64 Nn))
    (first | exact HS0 | exact HS1 | exact HS2)
    (first | (go_at_call 27; refine (I.unpromise h1' HOK.out Nn HF.out.n).mono ?_; rintro e w1 ⟨rfl, hd1⟩; have f1 := hd1.choose_spec.2.1; obtain ⟨X1, k1, k2, k3, kb⟩ := half2 h1' h2' h3 hd1; have r1 := f1.row hrs (fun e => HX.out q e rfl); have HS1 : w1.cell? ⟨q, 2, none⟩ = some (.int .i64 Nn) := r1.cell 2) | (go_at_call 31; refine (unpromise_x k2 HOT.out Nn).mono ?_; rintro e w2 ⟨rfl, hd2⟩; have hst2 : Two I B w2 s x (unS S Nn) (unS T Nn) := ⟨HOK.out.unpromise Nn, HOT.out.unpromise Nn, X1, g, I.keep k1 hd2.2.size fun k hk hl => hd2.2.keep k hl (k3 k hk), hd2.1, k3⟩; have hb2 := hd2.2.below k2.lw fun k hk => (k2.mine k hk).1; have r2 := hd2.2.row r1 (fun e => HM.out q e rfl); have HS2 : w2.cell? ⟨q, 2, none⟩ = some (.int .i64 Nn) := r2.cell 2))
  all_goals
    have HE := Lib.hid (And.intro hst2 (HB0.out.trans (Below.trans (below_dN (Below.refl _ _) 1) (Below.trans kb hb2))))
    clear hst2 hb2 kb
    go_wp2
    go_ret
    exact ⟨_, rfl, HE.out.1, HE.out.2⟩
end
/-- What the loop holds: the sums. -/
def SumAt (I : PoI) (B : Nat) (w0 w : World) (s x : Nat) (n u : Int) (j : Nat) : Prop := ∃ S T, Two I B w s x S T ∧ n = totP S ∧ u = usP S ∧ totP S ≤ j ∧ Below B w0 w
theorem SumAt.mk {I : PoI} {B : Nat} {w0 w : World} {s x : Nat} {n u : Int} {j : Nat} {S T : Pk} (h : Two I B w s x S T) (hn : n = totP S) (hu : u = usP S) (hj : totP S ≤ j) (hb : Below B w0 w) : SumAt I B w0 w s x n u j := ⟨S, T, h, hn, hu, hj, hb⟩
set_option maxHeartbeats 8000000 in
set_option maxRecDepth 100000 in
theorem sums_walk (I : PoI) (A : Option Addr) (n c : Nat) (w : World) (hA : Acs w w.heap.size A n) :
    Calls Try.prog 5 #[.slice A n c] w fun e w' => e = .returned (.bool true) ∧ Below w.heap.size w w' := by
  obtain ⟨M, hM, hls⟩ := hA.list
  have hm := made_any I none 0 0 w.heap.size [] w rfl (fun h => absurd h (by simp)) (Nat.le_refl _)
  have hok := mdE_ok []
  have ht0 : totP (mdE []) = 0 := by
    show (((List.replicate 1024 (0 : Int)).count 1 : Nat) : Int) + (((List.replicate 1024 (0 : Int)).count 2 : Nat) : Int) = 0
    rw [List.count_replicate, List.count_replicate]
    decide
  have hu0 : usP (mdE []) = 0 := by
    show (((List.replicate 1024 (0 : Int)).count 2 : Nat) : Int) = 0
    rw [List.count_replicate]
    decide
  generalize mdE [] = S0 at hm hok ht0 hu0
  have HA := Lib.hid hls
  have HM := Lib.hid hM
  have HOK := Lib.hid (And.intro hok (And.intro ht0 hu0))
  clear hA hM hls hok ht0 hu0
  go_enter Try.func5, Try.ntmps5
  go_wp2_with fail
  refine hm.mono ?_
  rintro e w1 ⟨s, x, rfl, hst, hb1⟩
  have HS1 := Lib.hid hst
  have HB1 := Lib.hid hb1
  have hak := awake_any I w1
  clear hm hst hb1
  go_wp2_with fail
  refine hak.mono ?_
  rintro e w2 ⟨rfl, hb2⟩
  have HG : Hid (SumAt I w.heap.size w w2 s x 0 0 0) := by
    obtain ⟨X, g, h1, h2, h3⟩ := HS1.out.call hb2
    exact ⟨S0, S0, ⟨HOK.out.1, HOK.out.1, X, g, h1, h2, h3⟩, HOK.out.2.1.symm, HOK.out.2.2.symm, by rw [HOK.out.2.1]; exact Int.le_refl _, HB1.out.trans (hb2.mono HB1.out.size)⟩
  clear hak hb2 HS1 HOK HB1
  go_wp2_with fail
  go_loopg [5, 6, 7] (n + 1) (fun g nv uv i wr => ∃ (j : Nat) (N U : Int), j ≤ n ∧ j ≤ 60 ∧ n - j ≤ g ∧ i = .int .i64 j ∧ nv = .int .i64 N ∧ uv = .int .i64 U ∧ SumAt I w.heap.size w wr s x N U j)
  case atStart => exact ⟨0, 0, 0, by omega, by omega, by omega, rfl, rfl, rfl, HG.out⟩
  case round =>
    obtain ⟨j, N, U, hj, hjl60, hgh, rfl, rfl, rfl, hgo⟩ := hrel
    clear HG
    by_cases hboth : j < n ∧ j < 60
    · obtain ⟨hlt, hlim⟩ := hboth
      have hjM : j < M.length := by have := HM.out; omega
      obtain ⟨S, T, h2, hN, hU, hT, hb⟩ := hgo
      obtain ⟨ad, rfl, hc⟩ := (HA.out.below hb) (by omega)
      obtain ⟨ok, hab, hat⟩ := hc j hjM
      obtain ⟨l, hl⟩ : ∃ l, l = M[j] := ⟨_, rfl⟩
      rw [← hl] at hat ok
      have c0 := hat.c0
      have c1 := hat.c1
      have c2 := hat.c2
      have c3 := hat.c3
      have HF := Lib.hid ok
      have hjl : (j : Int) < n := by omega
      have hjm : (j : Int) < 60 := by omega
      have hj0 : (0 : Int) ≤ j := by omega
      clear hat hc hl ok hab
      obtain ⟨K, Fr, Nn, Ye⟩ := l
      dsimp only at c0 c1 c2 c3
      obtain ⟨W, hW⟩ : ∃ W, W = wr.alloc (.cells #[.int .i64 K, .int .i64 Fr, .int .i64 Nn, .bool Ye] 33) := ⟨_, rfl⟩
      obtain ⟨ab, hab2⟩ : ∃ ab, ab = wr.heap.size := ⟨_, rfl⟩
      have hbn : Below wr.heap.size wr W := by rw [hW]; exact below_new _ _
      have HB := Lib.hid (hb.trans (hbn.mono h2.lw))
      have H2 := Lib.hid (h2.call hbn)
      have HX : Hid (Lrow W ab 33 [.int .i64 K, .int .i64 Fr, .int .i64 Nn, .bool Ye]) := by
        show Lrow _ _ _ _
        rw [hW, hab2]; exact Lrow.new wr _ _
      have HN := Lib.hid (And.intro hN (And.intro hU hT))
      have HW := Lib.hid hW
      have HAB := Lib.hid hab2
      have n0 : 0 ≤ N := by have := us_bd (S := S); omega
      have n1 : N ≤ 60 := by omega
      have u0 : 0 ≤ U := by have := us_bd (S := S); omega
      have u1 : U ≤ 60 := by have := us_bd (S := S); omega
      have wn1 : IntKind.i64.wrap (N + 1) = N + 1 := IntWalk.i64_in _ (by omega)
      have wn2 : IntKind.i64.wrap (N - 1) = N - 1 := IntWalk.i64_in _ (by omega)
      have wu1 : IntKind.i64.wrap (U + 1) = U + 1 := IntWalk.i64_in _ (by omega)
      have wu2 : IntKind.i64.wrap (U - 1) = U - 1 := IntWalk.i64_in _ (by omega)
      clear hb h2 hW hab2 hbn hN hU hT
      go_upto_block 2 with (fail)
      rw [← HAB.out, ← HW.out]
      clear c0 c1 c2 c3
      have e0 := HX.out.cell 0
      have e1 := HX.out.cell 1
      have e2 := HX.out.cell 2
      have e3 := HX.out.cell 3
      go_cut [5, 6, 9, 10, 11, 12, 13, 14] from 25 to 130 (fun s5 s6 s9 s10 s11 s12 s13 s14 wx => ∃ N' U' : Int, s5 = .int .i64 N' ∧ s6 = .int .i64 U' ∧ SumAt I w.heap.size w wx s x N' U' (j + 1))
      case first =>
        obtain ⟨ok, ot, X0, g, h1, hx, h3⟩ := H2.out
        have HO := Lib.hid (And.intro ok ot)
        have H1 := Lib.hid (And.intro h1 (And.intro hx h3))
        by_cases k01 : K = 0 ∨ K = 1
        · rcases k01 with rfl | rfl
          all_goals
            have hc := I.grow h1 ok Fr HF.out.f
            have hs := sum_grow (S := S) Fr
            clear ok ot h1 hx h3
            by_cases cz : maE S Fr = 0
            · rw [cz] at hc
              have HS := Lib.hid (hs.1 cz)
              clear hs cz
              go_wp2_with fail
              refine hc.mono ?_
              rintro e w4 ⟨rfl, hd⟩
              obtain ⟨k2, kb⟩ := Two.prog (HO.out.1.grow Fr) HO.out.2 H1.out.1 H1.out.2.1 H1.out.2.2 hd
              have HE : Hid (SumAt I w.heap.size w w4 s x (N + 1) (U) (j + 1)) := SumAt.mk k2 (by rw [HN.out.1, HS.out.1]) (by rw [HN.out.2.1, HS.out.2]) (by rw [HS.out.1]; have := HN.out.2.2; omega) (HB.out.trans kb)
              clear hc hd k2 kb e0 e1 e2 e3
              go_wp2_with fail
              go_meet
              exact ⟨_, _, rfl, rfl, HE.out⟩
            · have HS := Lib.hid (hs.2 cz)
              have cb : (maE S Fr == 0) = false := by simpa using cz
              generalize maE S Fr = E at hc cb cz
              clear hs cz
              go_wp2_with fail
              refine hc.mono ?_
              rintro e w4 ⟨rfl, hd⟩
              obtain ⟨k2, kb⟩ := Two.prog (HO.out.1.grow Fr) HO.out.2 H1.out.1 H1.out.2.1 H1.out.2.2 hd
              have HE : Hid (SumAt I w.heap.size w w4 s x (N) (U) (j + 1)) := SumAt.mk k2 (by rw [HN.out.1, HS.out]) (by rw [HN.out.2.1, HS.out]) (by rw [HS.out]; have := HN.out.2.2; omega) (HB.out.trans kb)
              clear hc hd k2 kb e0 e1 e2 e3
              go_wp2_with fail
              go_meet
              exact ⟨_, _, rfl, rfl, HE.out⟩
        · by_cases k2 : K = 2
          · subst k2
            have hc := I.shrink h1 ok
            have hs := sum_shrink ok
            clear ok ot h1 hx h3
            by_cases cz : shE S = 0
            · rw [cz] at hc
              have HS := Lib.hid (hs.1 cz)
              generalize shV S = V at hc
              clear hs cz
              go_wp2_with fail
              refine hc.mono ?_
              rintro e w4 ⟨rfl, hd⟩
              obtain ⟨k2, kb⟩ := Two.prog (HO.out.1.shrink) HO.out.2 H1.out.1 H1.out.2.1 H1.out.2.2 hd
              have HE : Hid (SumAt I w.heap.size w w4 s x (N - 1) (U) (j + 1)) := SumAt.mk k2 (by rw [HN.out.1, HS.out.1]) (by rw [HN.out.2.1, HS.out.2]) (by rw [HS.out.1]; have := HN.out.2.2; omega) (HB.out.trans kb)
              clear hc hd k2 kb e0 e1 e2 e3
              go_wp2_with fail
              go_meet
              exact ⟨_, _, rfl, rfl, HE.out⟩
            · have HS := Lib.hid (hs.2 cz)
              have cb : (shE S == 0) = false := by simpa using cz
              generalize shE S = E at hc cb cz
              generalize shV S = V at hc
              clear hs cz
              go_wp2_with fail
              refine hc.mono ?_
              rintro e w4 ⟨rfl, hd⟩
              obtain ⟨k2, kb⟩ := Two.prog (HO.out.1.shrink) HO.out.2 H1.out.1 H1.out.2.1 H1.out.2.2 hd
              have HE : Hid (SumAt I w.heap.size w w4 s x (N) (U) (j + 1)) := SumAt.mk k2 (by rw [HN.out.1, HS.out]) (by rw [HN.out.2.1, HS.out]) (by rw [HS.out]; have := HN.out.2.2; omega) (HB.out.trans kb)
              clear hc hd k2 kb e0 e1 e2 e3
              go_wp2_with fail
              go_meet
              exact ⟨_, _, rfl, rfl, HE.out⟩
          · by_cases k56 : K = 5 ∨ K = 6
            · rcases k56 with rfl | rfl
              all_goals
                have hc := I.take h1 ok Ye
                have hs := sum_take ok Ye
                clear ok ot h1 hx h3
                by_cases cz : taE S Ye = 0
                · rw [cz] at hc
                  have HS := Lib.hid (hs.1 cz)
                  generalize taV S Ye = V at hc
                  clear hs cz
                  go_wp2_with fail
                  refine hc.mono ?_
                  rintro e w4 ⟨rfl, hd⟩
                  obtain ⟨k2, kb⟩ := Two.prog (HO.out.1.take Ye) HO.out.2 H1.out.1 H1.out.2.1 H1.out.2.2 hd
                  have HE : Hid (SumAt I w.heap.size w w4 s x (N) (U + 1) (j + 1)) := SumAt.mk k2 (by rw [HN.out.1, HS.out.1]) (by rw [HN.out.2.1, HS.out.2]) (by rw [HS.out.1]; have := HN.out.2.2; omega) (HB.out.trans kb)
                  clear hc hd k2 kb e0 e1 e2 e3
                  go_wp2_with fail
                  go_meet
                  exact ⟨_, _, rfl, rfl, HE.out⟩
                · have HS := Lib.hid (hs.2 cz)
                  have cb : (taE S Ye == 0) = false := by simpa using cz
                  generalize taE S Ye = E at hc cb cz
                  generalize taV S Ye = V at hc
                  clear hs cz
                  go_wp2_with fail
                  refine hc.mono ?_
                  rintro e w4 ⟨rfl, hd⟩
                  obtain ⟨k2, kb⟩ := Two.prog (HO.out.1.take Ye) HO.out.2 H1.out.1 H1.out.2.1 H1.out.2.2 hd
                  have HE : Hid (SumAt I w.heap.size w w4 s x (N) (U) (j + 1)) := SumAt.mk k2 (by rw [HN.out.1, HS.out]) (by rw [HN.out.2.1, HS.out]) (by rw [HS.out]; have := HN.out.2.2; omega) (HB.out.trans kb)
                  clear hc hd k2 kb e0 e1 e2 e3
                  go_wp2_with fail
                  go_meet
                  exact ⟨_, _, rfl, rfl, HE.out⟩
            · by_cases k7 : K = 7
              · subst k7
                have hc := I.extra h1 ok Fr HF.out.f
                have hs := sum_extra (S := S) Fr
                clear ok ot h1 hx h3
                by_cases cz : exE S Fr = 0
                · rw [cz] at hc
                  have HS := Lib.hid (hs.1 cz)
                  clear hs cz
                  go_wp2_with fail
                  refine hc.mono ?_
                  rintro e w4 ⟨rfl, hd⟩
                  obtain ⟨k2, kb⟩ := Two.prog (HO.out.1.extra Fr) HO.out.2 H1.out.1 H1.out.2.1 H1.out.2.2 hd
                  have HE : Hid (SumAt I w.heap.size w w4 s x (N + 1) (U + 1) (j + 1)) := SumAt.mk k2 (by rw [HN.out.1, HS.out.1]) (by rw [HN.out.2.1, HS.out.2]) (by rw [HS.out.1]; have := HN.out.2.2; omega) (HB.out.trans kb)
                  clear hc hd k2 kb e0 e1 e2 e3
                  go_wp2_with fail
                  go_meet
                  exact ⟨_, _, rfl, rfl, HE.out⟩
                · have HS := Lib.hid (hs.2 cz)
                  have cb : (exE S Fr == 0) = false := by simpa using cz
                  generalize exE S Fr = E at hc cb cz
                  clear hs cz
                  go_wp2_with fail
                  refine hc.mono ?_
                  rintro e w4 ⟨rfl, hd⟩
                  obtain ⟨k2, kb⟩ := Two.prog (HO.out.1.extra Fr) HO.out.2 H1.out.1 H1.out.2.1 H1.out.2.2 hd
                  have HE : Hid (SumAt I w.heap.size w w4 s x (N) (U) (j + 1)) := SumAt.mk k2 (by rw [HN.out.1, HS.out]) (by rw [HN.out.2.1, HS.out]) (by rw [HS.out]; have := HN.out.2.2; omega) (HB.out.trans kb)
                  clear hc hd k2 kb e0 e1 e2 e3
                  go_wp2_with fail
                  go_meet
                  exact ⟨_, _, rfl, rfl, HE.out⟩
              · by_cases k3 : K = 3
                · subst k3
                  have hc := do2_promise H2.out HF.out rfl
                  have HS := Lib.hid (sum_pr (S := S) Nn)
                  dsimp only at hc
                  clear ok ot h1 hx h3
                  go_wp2_with fail
                  refine hc.mono ?_
                  rintro e w4 ⟨b4, rfl, k2, kb⟩
                  have HE : Hid (SumAt I w.heap.size w w4 s x N U (j + 1)) := SumAt.mk k2 (by rw [HN.out.1, HS.out.1]) (by rw [HN.out.2.1, HS.out.2]) (by rw [HS.out.1]; have := HN.out.2.2; omega) (HB.out.trans kb)
                  clear hc k2 kb e0 e1 e2 e3
                  go_wp2_with fail
                  go_meet
                  exact ⟨_, _, rfl, rfl, HE.out⟩
                · by_cases k4 : K = 4
                  · subst k4
                    have hc := do2_unpromise H2.out HF.out rfl
                    have HS := Lib.hid (sum_un (S := S) Nn)
                    dsimp only at hc
                    clear ok ot h1 hx h3
                    go_wp2_with fail
                    refine hc.mono ?_
                    rintro e w4 ⟨b4, rfl, k2, kb⟩
                    have HE : Hid (SumAt I w.heap.size w w4 s x N U (j + 1)) := SumAt.mk k2 (by rw [HN.out.1, HS.out.1]) (by rw [HN.out.2.1, HS.out.2]) (by rw [HS.out.1]; have := HN.out.2.2; omega) (HB.out.trans kb)
                    clear hc k2 kb e0 e1 e2 e3
                    go_wp2_with fail
                    go_meet
                    exact ⟨_, _, rfl, rfl, HE.out⟩
                  · have q0 : (K == 0) = false := by simpa using (fun e => k01 (Or.inl e) : ¬ K = 0)
                    have q1 : (K == 1) = false := by simpa using (fun e => k01 (Or.inr e) : ¬ K = 1)
                    have q2 : (K == 2) = false := by simpa using (fun e => k2 e : ¬ K = 2)
                    have q3 : (K == 3) = false := by simpa using (fun e => k3 e : ¬ K = 3)
                    have q4 : (K == 4) = false := by simpa using (fun e => k4 e : ¬ K = 4)
                    have q5 : (K == 5) = false := by simpa using (fun e => k56 (Or.inl e) : ¬ K = 5)
                    have q6 : (K == 6) = false := by simpa using (fun e => k56 (Or.inr e) : ¬ K = 6)
                    have q7 : (K == 7) = false := by simpa using (fun e => k7 e : ¬ K = 7)
                    clear k01 k2 k56 k7 k3 k4
                    have hc := I.give h1 ok Fr Ye HF.out.f
                    have hs := sum_give (S := S) Fr Ye
                    clear ok ot h1 hx h3
                    by_cases cz : giE S Fr = 0
                    · rw [cz] at hc
                      by_cases cv : giV S Fr Ye = true
                      · rw [cv] at hc
                        have HS := Lib.hid (hs.1 cz cv)
                        clear hs cz cv
                        go_wp2_with fail
                        refine hc.mono ?_
                        rintro e w4 ⟨rfl, hd⟩
                        obtain ⟨k2, kb⟩ := Two.prog (HO.out.1.give Fr Ye) HO.out.2 H1.out.1 H1.out.2.1 H1.out.2.2 hd
                        have HE : Hid (SumAt I w.heap.size w w4 s x (N - 1) (U - 1) (j + 1)) := SumAt.mk k2 (by rw [HN.out.1, HS.out.1]) (by rw [HN.out.2.1, HS.out.2]) (by rw [HS.out.1]; have := HN.out.2.2; omega) (HB.out.trans kb)
                        clear hc hd k2 kb e0 e1 e2 e3
                        go_wp2_with fail
                        go_meet
                        exact ⟨_, _, rfl, rfl, HE.out⟩
                      · have cv : giV S Fr Ye = false := by simpa using cv
                        rw [cv] at hc
                        have HS := Lib.hid (hs.2.1 cz cv)
                        clear hs cz cv
                        go_wp2_with fail
                        refine hc.mono ?_
                        rintro e w4 ⟨rfl, hd⟩
                        obtain ⟨k2, kb⟩ := Two.prog (HO.out.1.give Fr Ye) HO.out.2 H1.out.1 H1.out.2.1 H1.out.2.2 hd
                        have HE : Hid (SumAt I w.heap.size w w4 s x (N) (U - 1) (j + 1)) := SumAt.mk k2 (by rw [HN.out.1, HS.out.1]) (by rw [HN.out.2.1, HS.out.2]) (by rw [HS.out.1]; have := HN.out.2.2; omega) (HB.out.trans kb)
                        clear hc hd k2 kb e0 e1 e2 e3
                        go_wp2_with fail
                        go_meet
                        exact ⟨_, _, rfl, rfl, HE.out⟩
                    · have HS := Lib.hid (hs.2.2 cz).1
                      have cb : (giE S Fr == 0) = false := by simpa using cz
                      rw [(hs.2.2 cz).2] at hc
                      generalize giE S Fr = E at hc cb cz
                      clear hs cz
                      go_wp2_with fail
                      refine hc.mono ?_
                      rintro e w4 ⟨rfl, hd⟩
                      obtain ⟨k2, kb⟩ := Two.prog (HO.out.1.give Fr Ye) HO.out.2 H1.out.1 H1.out.2.1 H1.out.2.2 hd
                      have HE : Hid (SumAt I w.heap.size w w4 s x (N) (U) (j + 1)) := SumAt.mk k2 (by rw [HN.out.1, HS.out]) (by rw [HN.out.2.1, HS.out]) (by rw [HS.out]; have := HN.out.2.2; omega) (HB.out.trans kb)
                      clear hc hd k2 kb e0 e1 e2 e3
                      go_wp2_with fail
                      go_meet
                      exact ⟨_, _, rfl, rfl, HE.out⟩
      case rest =>
        obtain ⟨N', U', rfl, rfl, hsum⟩ := hcut
        clear e0 e1 e2 e3 wn1 wn2 wu1 wu2 n0 n1 u0 u1 H2 HN HB
        obtain ⟨S', T', h2, hN, hU, hT, hb⟩ := hsum
        obtain ⟨ok, ot, X0, g, h1, hx, h3⟩ := h2
        have HK := Lib.hid (And.intro ok (And.intro ot (And.intro hx (And.intro h3 (And.intro hN (And.intro hU hT))))))
        have HB := Lib.hid hb
        obtain ⟨d1, hd1⟩ : ∃ d1, d1 = S'.I.count 1 := ⟨_, rfl⟩
        obtain ⟨P, hP⟩ : ∃ P, P = S'.P := ⟨_, rfl⟩
        have hpp : P ≤ (d1 : Int) := by rw [hP, hd1]; exact ok.p1
        have hNd : N' = (d1 : Int) + U' := by rw [hN, hU, hd1]; exact tot_us
        have u0 : 0 ≤ U' := by have := us_bd (S := S'); omega
        have n1 : N' ≤ 61 := by omega
        have hw : IntKind.i64.wrap (N' - U') = (d1 : Int) := by rw [show N' - U' = (d1 : Int) by omega]; exact IntWalk.i64_in _ (by omega)
        have hpd : decide ((d1 : Int) < P) = false := decide_eq_false (by omega)
        have hpd2 : ¬ (d1 : Int) < P := by omega
        have HD := Lib.hid hd1
        have HP := Lib.hid hP
        have hc := I.total h1 ok
        rw [show ((S'.I.count 1 : Nat) : Int) + ((S'.I.count 2 : Nat) : Int) = N' from hN.symm] at hc
        have H1 := Lib.hid h1
        clear ok ot hx h3 hN hU hT hb h1 hd1 hP hNd
        go_wp2_with fail
        refine hc.mono ?_
        rintro e w4 ⟨rfl, hb⟩
        have HB4 := Lib.hid (HB.out.trans (hb.mono HB.out.size))
        have h4 := I.call H1.out hb
        have hx4 := HK.out.2.2.1.call hb
        have hc := I.free h4 HK.out.1
        unfold ToldI at hc
        rw [frL_len HK.out.1.ln, ← HD.out] at hc
        have H4 := Lib.hid (And.intro h4 hx4)
        clear h4 hb hx4
        go_wp2_with fail
        refine hc.mono ?_
        rintro e w5 ⟨A5, c5, rfl, -, hb⟩
        have HB5 := Lib.hid (HB4.out.trans (hb.mono HB4.out.size))
        have h5 := I.call H4.out.1 hb
        have hx5 := H4.out.2.call hb
        have hc := I.promised h5 HK.out.1
        rw [← HP.out] at hc
        have H5 := Lib.hid (And.intro h5 hx5)
        clear h5 hb hx5
        go_wp2_with fail
        refine hc.mono ?_
        rintro e w6 ⟨rfl, hb⟩
        have HB6 := Lib.hid (HB5.out.trans (hb.mono HB5.out.size))
        have h6 := I.call H5.out.1 hb
        have hx6 := H5.out.2.call hb
        have hc := I.free h6 HK.out.1
        unfold ToldI at hc
        rw [frL_len HK.out.1.ln, ← HD.out] at hc
        have H6 := Lib.hid (And.intro h6 hx6)
        clear h6 hb hx6
        go_wp2_with fail
        refine hc.mono ?_
        rintro e w7 ⟨A7, c7, rfl, -, hb⟩
        have HB7 := Lib.hid (HB6.out.trans (hb.mono HB6.out.size))
        have h7 := I.call H6.out.1 hb
        have hx7 := H6.out.2.call hb
        have HE : Hid (SumAt I w.heap.size w w7 s x N' U' (j + 1)) := ⟨S', T', ⟨HK.out.1, HK.out.2.1, X0, g, h7, hx7, HK.out.2.2.2.1⟩, HK.out.2.2.2.2.1, HK.out.2.2.2.2.2.1, HK.out.2.2.2.2.2.2, HB7.out⟩
        clear hc h7 hb hx7
        go_wp2_with fail
        go_roundg (n - (j + 1))
        case measure => omega
        case rel => exact ⟨j + 1, N', U', by omega, by omega, Nat.le_refl _, by go_num, rfl, rfl, HE.out⟩
    · obtain ⟨S, T, h2, hN, hU, hT, hb⟩ := hgo
      have HB := Lib.hid hb
      clear h2 hN hU hT hb HA
      by_cases hlt : j < n
      case' pos => have hlim : ¬ (j : Int) < 60 := by omega
      all_goals
        clear hboth hj
        go_wp2_with fail
        go_ret
        exact ⟨rfl, HB.out⟩
end Go.Proofs.Ytllepijlebbjbaa
