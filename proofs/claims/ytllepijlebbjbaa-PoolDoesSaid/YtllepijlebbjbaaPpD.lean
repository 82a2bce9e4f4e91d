/- Pools: PoolDoes, walked. -/
import Derived.Test.YtllepijlebbjbaaPoL
import Derived.Test.YtllepijlebbjbaaPoM
import Derived.BigRegion
namespace Go.Proofs.Ytllepijlebbjbaa
open Go.RowKit
/-- An operation of a region that is written out. -/
def nthO : List Oper → Nat → Option Oper
  | [], _ => none
  | a :: _, 0 => some a
  | _ :: r, n + 1 => nthO r n
theorem nthO_eq : ∀ (l : List Oper) (i : Nat), nthO l i = l[i]?
  | [], _ => by simp [nthO]
  | a :: r, 0 => by simp [nthO]
  | a :: r, n + 1 => by rw [nthO, nthO_eq r n, List.getElem?_cons_succ]
theorem at_lit {l : List Oper} {i : Nat} {o : Oper} (h : nthO l i = some o) : l.toArray[i]? = some o := by
  rw [List.getElem?_toArray, ← nthO_eq]; exact h
/-- What is held may be more from here on. -/
theorem wpAnyH_weaken {P : Program} {md : Region.Mode} {ops : Array Oper} {Q : Exit → Act → World → Prop} {S S' : World → Prop} (hs : ∀ v, S' v → S v) : ∀ (fuel : Nat) (listed : Array Bool) (a : Act) (w : World), wpAnyH P md ops Q S' fuel listed a w → wpAnyH P md ops Q S fuel listed a w
  | 0, _, _, _, h => h
  | fuel + 1, _, _, _, h => ⟨h.1, fun i hi => wpOp_mono (fun a' w' h' => ⟨hs w' h'.1, wpAnyH_weaken hs fuel _ a' w' h'.2⟩) (h.2 i hi)⟩
def ActAt (v : World) (p : Addr) (K F N : Int) (Y : Bool) : Prop := v.cell? p = some (.int .i64 K) ∧ v.cell? ⟨p.block, p.off + 1, none⟩ = some (.int .i64 F) ∧ v.cell? ⟨p.block, p.off + 2, none⟩ = some (.int .i64 N) ∧ v.cell? ⟨p.block, p.off + 3, none⟩ = some (.bool Y)
theorem ActAt.below {v v' : World} {p : Addr} {K F N : Int} {Y : Bool} {B : Nat} (h : ActAt v p K F N Y) (hb : Below B v v') (hp : p.block < B) : ActAt v' p K F N Y :=
  ⟨(hb.cell hp).trans h.1, (hb.cell (p := ⟨_, _, none⟩) hp).trans h.2.1, (hb.cell (p := ⟨_, _, none⟩) hp).trans h.2.2.1, (hb.cell (p := ⟨_, _, none⟩) hp).trans h.2.2.2⟩
/-- What the region's loads read, behind the call of both. -/
theorem six {v : World} {p : Addr} {K F N : Int} {Y : Bool} {B x g : Nat} {S : Pk} {P U : Int} (h : ActAt v p K F N Y) (hx : Px B v x g S) (hp : P = S.P ∧ U = S.U) : v.cell? p = some (.int .i64 K) ∧ v.cell? ⟨p.block, p.off + 1, none⟩ = some (.int .i64 F) ∧ v.cell? ⟨p.block, p.off + 2, none⟩ = some (.int .i64 N) ∧ v.cell? ⟨p.block, p.off + 3, none⟩ = some (.bool Y) ∧ v.cell? ⟨x, 3, none⟩ = some (.int .i64 P) ∧ v.cell? ⟨x, 4, none⟩ = some (.int .i64 U) :=
  ⟨h.1, h.2.1, h.2.2.1, h.2.2.2, by rw [hp.1]; exact hx.top.cell 3, by rw [hp.2]; exact hx.top.cell 4⟩
set_option maxHeartbeats 16000000 in
set_option maxRecDepth 100000 in
theorem does_walk (I : PoI) (o m : Int) (A : Option Addr) (n c : Nat) (w : World) (_ho : Fits o) (_hm : Fits m) (hA : Acs w w.heap.size A n) :
    Calls Try.prog 3 #[.int .i64 o, .int .i64 m, .slice A n c] w fun e w' => e = .returned (.bool true) ∧ Below w.heap.size w w' := by
  obtain ⟨M, hM, hls⟩ := hA.list
  cases hnw : nwB o m with
  | false =>
    have hnew := I.newN hnw w
    have hnx := fun w => new_x_no hnw w
    clear hA hM hls hnw
    go_enter Try.func3, Try.ntmps3
    go_wp2_with fail
    refine hnew.mono ?_
    rintro e w1 ⟨rfl, hb1⟩
    have HB1 := Lib.hid hb1
    have hnx := hnx w1
    clear hnew hb1
    go_wp2_with fail
    refine hnx.mono ?_
    rintro e w2 ⟨rfl, rfl⟩
    have hak := awake_any I w1
    clear hnx
    go_wp2_with fail
    refine hak.mono ?_
    rintro e w2 ⟨rfl, hb2⟩
    have HB2 := Lib.hid (HB1.out.trans (hb2.mono HB1.out.size))
    clear hak hb2
    go_wp2_with fail
    go_ret
    exact ⟨rfl, HB2.out⟩
  | true =>
    have hnew := I.new hnw w
    have HN0 := Lib.hid hnw
    have HA := Lib.hid hls
    have HM := Lib.hid hM
    clear hA hM hls hnw
    go_enter Try.func3, Try.ntmps3
    go_wp2_with fail
    refine hnew.mono ?_
    rintro e w1 ⟨s, X1, rfl, h1, hb1⟩
    have H1 := Lib.hid (And.intro h1 hb1)
    have hnx := new_x HN0.out w1
    clear hnew h1 hb1
    go_wp2_with fail
    refine hnx.mono ?_
    rintro e w2 ⟨x, g, rfl, hx, hb2⟩
    have HG0 : Hid (St I w.heap.size w2 s x (mdS (newP o m) (M.take 0)) ∧ Below w.heap.size w w2) := ⟨St.new H1.out.1 H1.out.2 hx hb2, H1.out.2.trans (hb2.mono H1.out.2.size)⟩
    have hak := awake_any I w2
    clear hnx hx hb2 H1
    go_wp2_with fail
    refine hak.mono ?_
    rintro e w3 ⟨rfl, hb3⟩
    have HG : Hid (St I w.heap.size w3 s x (mdS (newP o m) (M.take 0)) ∧ Below w.heap.size w w3) := ⟨HG0.out.1.call hb3, HG0.out.2.trans (hb3.mono HG0.out.2.size)⟩
    clear hak hb3 HG0
    go_wp2_with fail
    go_loopw [11] (fun i wr => ∃ j : Nat, j ≤ n ∧ j ≤ 60 ∧ i = .int .i64 j ∧ St I w.heap.size wr s x (mdS (newP o m) (M.take j)) ∧ Below w.heap.size w wr) (fun i _ => n - (RowKit.intOf i).toNat)
    case atStart => exact ⟨0, by omega, by omega, rfl, HG.out.1, HG.out.2⟩
    case round =>
      obtain ⟨j, hj, hj60, rfl, hst, hb⟩ := hrel
      clear HG
      by_cases hboth : j < n ∧ j < 60
      · obtain ⟨hlt, hlim⟩ := hboth
        have hjM : j < M.length := by have := HM.out; omega
        obtain ⟨ad, rfl, hc⟩ := (HA.out.below hb) (by omega)
        obtain ⟨lok, hab, hat⟩ := hc j hjM
        have HNX := Lib.hid (mdS_next (newP o m) M hjM)
        obtain ⟨l, hl⟩ : ∃ l, l = M[j] := ⟨_, rfl⟩
        rw [← hl] at hat lok HNX
        have HOK := Lib.hid ((newP_ok HN0.out).md (M.take j))
        have HOK2 := Lib.hid ((newP_ok HN0.out).md (M.take (j + 1)))
        have HLOK := Lib.hid lok
        obtain ⟨S, hS⟩ : ∃ S, S = mdS (newP o m) (M.take j) := ⟨_, rfl⟩
        obtain ⟨S2, hS2⟩ : ∃ S2, S2 = mdS (newP o m) (M.take (j + 1)) := ⟨_, rfl⟩
        rw [← hS] at hst HOK HNX
        rw [← hS2] at HOK2 HNX
        have HS2 := Lib.hid hS2
        have hjl : (j : Int) < n := by omega
        have hjm : (j : Int) < 60 := by omega
        have hj0 : (0 : Int) ≤ j := by omega
        have HST := Lib.hid (hst.call (below_dN (Below.refl _ wr) 1))
        have HB := Lib.hid (below_dN hb 1)
        obtain ⟨K, Fr, Nn, Ye⟩ := l
        have hs0 : ActAt (wr.drewN 1) (ad.add (j * 4)) K Fr Nn Ye := ⟨hat.c0, hat.c1, hat.c2, hat.c3⟩
        have hs0' : ActAt wr (ad.add (j * 4)) K Fr Nn Ye := ⟨hat.c0, hat.c1, hat.c2, hat.c3⟩
        obtain ⟨d1, hd1⟩ : ∃ d1, d1 = S2.I.count 1 := ⟨_, rfl⟩
        obtain ⟨d2, hd2⟩ : ∃ d2, d2 = S2.I.count 2 := ⟨_, rfl⟩
        have hdl : d1 + d2 ≤ 2048 := by have := List.count_le_length (a := (1 : Int)) (l := S2.I); have := List.count_le_length (a := (2 : Int)) (l := S2.I); have := HOK2.out.ln; omega
        have HD := Lib.hid (And.intro hd1 hd2)
        have hw1 : IntKind.i64.wrap ((d1 : Int) + (d2 : Int)) = (d1 : Int) + (d2 : Int) := IntWalk.i64_in _ (by omega)
        obtain ⟨P, hP⟩ : ∃ P, P = S2.P := ⟨_, rfl⟩
        obtain ⟨Us, hUs⟩ : ∃ Us, Us = S2.U := ⟨_, rfl⟩
        have HPU := Lib.hid (And.intro hP hUs)
        have HFR : Hid (frL S2.I = frL S2.I ∧ (frL S2.I).length = d1) := ⟨rfl, by rw [frL_len HOK2.out.ln, hd1]⟩
        clear hat hb lok hc hl hst hS hS2 hd1 hd2 hP hUs
        unfold ActAt at hs0 hs0'
        go_wp2_with fail
        refine wp_region_noPanic ?_
        refine wp_region_held_drew (S := (fun v => v.cell? (ad.add (j * 4)) = some (.int .i64 K) ∧ v.cell? ⟨(ad.add (j * 4)).block, (ad.add (j * 4)).off + 1, none⟩ = some (.int .i64 Fr) ∧ v.cell? ⟨(ad.add (j * 4)).block, (ad.add (j * 4)).off + 2, none⟩ = some (.int .i64 Nn) ∧ v.cell? ⟨(ad.add (j * 4)).block, (ad.add (j * 4)).off + 3, none⟩ = some (.bool Ye))) (by kernel_rfl) hs0 (fun hHeld => ?_)
        refine wpAnyH_take (i := 0) (oi := _) (v := ?_) (at_lit rfl) (by kernel_rfl) (by kernel_rfl) (by kernel_rfl) (fun _ _ _ h => h) (Or.inl ⟨by rfl, ?_⟩) (by assumption) ?_
        rotate_left
        focus ((intro w5 hSw; (try dsimp only at hSw); go_simp; (try with_reducible rfl)); done)
        (try simp only [Act.put, List.setIfInBounds_toArray, List.set_cons_zero, List.set_cons_succ])
        refine wpAnyH_take (i := 1) (oi := _) (v := ?_) (at_lit rfl) (by kernel_rfl) (by kernel_rfl) (by kernel_rfl) (fun _ _ _ h => h) (Or.inl ⟨by rfl, ?_⟩) (by assumption) ?_
        rotate_left
        focus ((intro w5 hSw; (try dsimp only at hSw); go_simp; (try with_reducible rfl)); done)
        (try simp only [Act.put, List.setIfInBounds_toArray, List.set_cons_zero, List.set_cons_succ])
        refine wpAnyH_take (i := 2) (oi := _) (v := ?_) (at_lit rfl) (by kernel_rfl) (by kernel_rfl) (by kernel_rfl) (fun _ _ _ h => h) (Or.inl ⟨by rfl, ?_⟩) (by assumption) ?_
        rotate_left
        focus ((intro w5 hSw; (try dsimp only at hSw); go_simp; (try with_reducible rfl)); done)
        (try simp only [Act.put, List.setIfInBounds_toArray, List.set_cons_zero, List.set_cons_succ])
        refine wpAnyH_take (i := 3) (oi := _) (v := ?_) (at_lit rfl) (by kernel_rfl) (by kernel_rfl) (by kernel_rfl) (fun _ _ _ h => h) (Or.inl ⟨by rfl, ?_⟩) (by assumption) ?_
        rotate_left
        focus ((intro w5 hSw; (try dsimp only at hSw); go_simp; (try with_reducible rfl)); done)
        (try simp only [Act.put, List.setIfInBounds_toArray, List.set_cons_zero, List.set_cons_succ])
        refine wpAnyH_take (i := 4) (oi := _) (v := ?_) (at_lit rfl) (by kernel_rfl) (by kernel_rfl) (by kernel_rfl) (fun _ _ _ h => h) (Or.inl ⟨by rfl, ?_⟩) (by assumption) ?_
        rotate_left
        focus ((intro w5 hSw; (try dsimp only at hSw); go_simp; (try with_reducible rfl)); done)
        (try simp only [Act.put, List.setIfInBounds_toArray, List.set_cons_zero, List.set_cons_succ])
        refine wpAnyH_take (i := 5) (oi := _) (v := ?_) (at_lit rfl) (by kernel_rfl) (by kernel_rfl) (by kernel_rfl) (fun _ _ _ h => h) (Or.inl ⟨by rfl, ?_⟩) (by assumption) ?_
        rotate_left
        focus ((intro w5 hSw; (try dsimp only at hSw); go_simp; (try with_reducible rfl)); done)
        (try simp only [Act.put, List.setIfInBounds_toArray, List.set_cons_zero, List.set_cons_succ])
        refine wpAnyH_ready (rs := [6]) (by kernel_rfl) (by simp) ?_
        refine AllReadyH.cons (o := _) (at_lit rfl) (fun K hK => ?_) AllReadyH.nil
        go_simp
        go_at_call 12
        refine (do_any HST.out HOK.out HLOK.out).mono ?_
        rintro e w3 ⟨rfl, k1, kb⟩
        rw [← HNX.out] at k1
        obtain ⟨X3, g3, a1, a2, a3⟩ := k1
        have hs3 := ActAt.below (p := ad.add (j * 4)) hs0 kb hab
        have HB3 := HB.out.trans kb
        have hz3 := six hs3 a2 HPU.out
        refine hK.out _ _ ?_ (fun hHeld => ?_)
        focus ((try dsimp only); exact hs3)
        clear hK K
        (try simp only [Act.put, List.setIfInBounds_toArray, List.set_cons_zero, List.set_cons_succ])
        refine wpAnyH_weaken (S' := (fun v => v.cell? (ad.add (j * 4)) = some (.int .i64 K) ∧ v.cell? ⟨(ad.add (j * 4)).block, (ad.add (j * 4)).off + 1, none⟩ = some (.int .i64 Fr) ∧ v.cell? ⟨(ad.add (j * 4)).block, (ad.add (j * 4)).off + 2, none⟩ = some (.int .i64 Nn) ∧ v.cell? ⟨(ad.add (j * 4)).block, (ad.add (j * 4)).off + 3, none⟩ = some (.bool Ye) ∧ v.cell? ⟨x, 3, none⟩ = some (.int .i64 P) ∧ v.cell? ⟨x, 4, none⟩ = some (.int .i64 Us))) (fun v h => ⟨h.1, h.2.1, h.2.2.1, h.2.2.2.1⟩) _ _ _ _ ?_
        refine wpAnyH_take (i := 7) (oi := _) (v := ?_) (at_lit rfl) (by kernel_rfl) (by kernel_rfl) (by kernel_rfl) (fun _ _ _ h => h) (Or.inl ⟨by rfl, ?_⟩) (by assumption) ?_
        rotate_left
        focus ((intro w5 hSw; (try dsimp only at hSw); go_simp; (try with_reducible rfl)); done)
        (try simp only [Act.put, List.setIfInBounds_toArray, List.set_cons_zero, List.set_cons_succ])
        refine wpAnyH_take (i := 8) (oi := _) (v := ?_) (at_lit rfl) (by kernel_rfl) (by kernel_rfl) (by kernel_rfl) (fun _ _ _ h => h) (Or.inl ⟨by rfl, ?_⟩) (by assumption) ?_
        rotate_left
        focus ((intro w5 hSw; (try dsimp only at hSw); go_simp; (try with_reducible rfl)); done)
        (try simp only [Act.put, List.setIfInBounds_toArray, List.set_cons_zero, List.set_cons_succ])
        refine wpAnyH_take (i := 9) (oi := _) (v := ?_) (at_lit rfl) (by kernel_rfl) (by kernel_rfl) (by kernel_rfl) (fun _ _ _ h => h) (Or.inl ⟨by rfl, ?_⟩) (by assumption) ?_
        rotate_left
        focus ((intro w5 hSw; (try dsimp only at hSw); go_simp; (try with_reducible rfl)); done)
        (try simp only [Act.put, List.setIfInBounds_toArray, List.set_cons_zero, List.set_cons_succ])
        refine wpAnyH_take (i := 11) (oi := _) (v := ?_) (at_lit rfl) (by kernel_rfl) (by kernel_rfl) (by kernel_rfl) (fun _ _ _ h => h) (Or.inl ⟨by rfl, ?_⟩) (by assumption) ?_
        rotate_left
        focus ((intro w5 hSw; (try dsimp only at hSw); go_simp; (try with_reducible rfl)); done)
        (try simp only [Act.put, List.setIfInBounds_toArray, List.set_cons_zero, List.set_cons_succ])
        refine wpAnyH_ready (rs := [10]) (by kernel_rfl) (by simp) ?_
        refine AllReadyH.cons (o := _) (at_lit rfl) (fun K hK => ?_) AllReadyH.nil
        go_simp
        go_at_call 14
        refine (I.free a1 HOK2.out).mono ?_
        rintro e w4 ⟨A4, c4, rfl, o4, b4⟩
        rw [HFR.out.2] at o4 ⊢
        have a1 := I.call a1 b4
        have a2 := a2.call b4
        have B4 := b4.mono HB3.size
        have hs4 := ActAt.below (p := ad.add (j * 4)) hs3 B4 hab
        have HB4 := HB3.trans B4
        have hz4 := six hs4 a2 HPU.out
        refine hK.out _ _ ?_ (fun hHeld => ?_)
        focus ((try dsimp only); exact hz4)
        clear hK K
        (try simp only [Act.put, List.setIfInBounds_toArray, List.set_cons_zero, List.set_cons_succ])
        refine wpAnyH_ready (rs := [12]) (by kernel_rfl) (by simp) ?_
        refine AllReadyH.cons (o := _) (at_lit rfl) (fun K hK => ?_) AllReadyH.nil
        go_simp
        go_at_call 15
        refine (free_x a2 HOK2.out.ln).mono ?_
        rintro e w5 ⟨A5, c5, rfl, o5, b5⟩
        rw [HFR.out.2] at o5 ⊢
        have a1 := I.call a1 b5
        have a2 := a2.call b5
        have B5 := b5.mono HB4.size
        have hs5 := ActAt.below (p := ad.add (j * 4)) hs4 B5 hab
        have HB5 := HB4.trans B5
        have hl4 := (o4.call b5)
        rw [← HFR.out.2] at hl4 o5
        have hz5 := six hs5 a2 HPU.out
        refine hK.out _ _ ?_ (fun hHeld => ?_)
        focus ((try dsimp only); exact hz5)
        clear hK K
        (try simp only [Act.put, List.setIfInBounds_toArray, List.set_cons_zero, List.set_cons_succ])
        refine wpAnyH_ready (rs := [13]) (by kernel_rfl) (by simp) ?_
        refine AllReadyH.cons (o := _) (at_lit rfl) (fun K hK => ?_) AllReadyH.nil
        go_simp
        go_at_call 13
        refine (numbers_yes hl4.ls o5.ls HFR.out.2 HFR.out.2 (by rw [HFR.out.2]; omega)).mono ?_
        rintro e w6 ⟨rfl, b6⟩
        have a1 := I.call a1 b6
        have a2 := a2.call b6
        have B6 := b6.mono HB5.size
        have hs6 := ActAt.below (p := ad.add (j * 4)) hs5 B6 hab
        have HB6 := HB5.trans B6
        have hz6 := six hs6 a2 HPU.out
        refine hK.out _ _ ?_ (fun hHeld => ?_)
        focus ((try dsimp only); exact hz6)
        clear hK K
        (try simp only [Act.put, List.setIfInBounds_toArray, List.set_cons_zero, List.set_cons_succ])
        refine wpAnyH_take (i := 14) (oi := _) (v := ?_) (at_lit rfl) (by kernel_rfl) (by kernel_rfl) (by kernel_rfl) (fun _ _ _ h => h) (Or.inl ⟨by rfl, ?_⟩) (by assumption) ?_
        rotate_left
        focus ((intro w5 hSw; (try dsimp only at hSw); go_simp; (try with_reducible rfl)); done)
        (try simp only [Act.put, List.setIfInBounds_toArray, List.set_cons_zero, List.set_cons_succ])
        refine wpAnyH_take (i := 15) (oi := _) (v := ?_) (at_lit rfl) (by kernel_rfl) (by kernel_rfl) (by kernel_rfl) (fun _ _ _ h => h) (Or.inl ⟨by rfl, ?_⟩) (by assumption) ?_
        rotate_left
        focus ((intro w5 hSw; (try dsimp only at hSw); go_simp; (try with_reducible rfl)); done)
        (try simp only [Act.put, List.setIfInBounds_toArray, List.set_cons_zero, List.set_cons_succ])
        refine wpAnyH_take (i := 16) (oi := _) (v := ?_) (at_lit rfl) (by kernel_rfl) (by kernel_rfl) (by kernel_rfl) (fun _ _ _ h => h) (Or.inl ⟨by rfl, ?_⟩) (by assumption) ?_
        rotate_left
        focus ((intro w5 hSw; (try dsimp only at hSw); go_simp; (try with_reducible rfl)); done)
        (try simp only [Act.put, List.setIfInBounds_toArray, List.set_cons_zero, List.set_cons_succ])
        refine wpAnyH_take (i := 17) (oi := _) (v := ?_) (at_lit rfl) (by kernel_rfl) (by kernel_rfl) (by kernel_rfl) (fun _ _ _ h => h) (Or.inl ⟨by rfl, ?_⟩) (by assumption) ?_
        rotate_left
        focus ((intro w5 hSw; (try dsimp only at hSw); go_simp; (try with_reducible rfl)); done)
        (try simp only [Act.put, List.setIfInBounds_toArray, List.set_cons_zero, List.set_cons_succ])
        refine wpAnyH_take (i := 19) (oi := _) (v := ?_) (at_lit rfl) (by kernel_rfl) (by kernel_rfl) (by kernel_rfl) (fun _ _ _ h => h) (Or.inl ⟨by rfl, ?_⟩) (by assumption) ?_
        rotate_left
        focus ((intro w5 hSw; (try dsimp only at hSw); go_simp; (try with_reducible rfl)); done)
        (try simp only [Act.put, List.setIfInBounds_toArray, List.set_cons_zero, List.set_cons_succ])
        refine wpAnyH_take (i := 21) (oi := _) (v := ?_) (at_lit rfl) (by kernel_rfl) (by kernel_rfl) (by kernel_rfl) (fun _ _ _ h => h) (Or.inl ⟨by rfl, ?_⟩) (by assumption) ?_
        rotate_left
        focus ((intro w5 hSw; (try dsimp only at hSw); go_simp; (try with_reducible rfl)); done)
        (try simp only [Act.put, List.setIfInBounds_toArray, List.set_cons_zero, List.set_cons_succ])
        refine wpAnyH_ready (rs := [18]) (by kernel_rfl) (by simp) ?_
        refine AllReadyH.cons (o := _) (at_lit rfl) (fun K hK => ?_) AllReadyH.nil
        go_simp
        go_at_call 16
        refine (I.total a1 HOK2.out).mono ?_
        rintro e w7 ⟨rfl, b7⟩
        rw [← HD.out.1, ← HD.out.2]
        have a1 := I.call a1 b7
        have a2 := a2.call b7
        have B7 := b7.mono HB6.size
        have hs7 := ActAt.below (p := ad.add (j * 4)) hs6 B7 hab
        have HB7 := HB6.trans B7
        have hz7 := six hs7 a2 HPU.out
        refine hK.out _ _ ?_ (fun hHeld => ?_)
        focus ((try dsimp only); exact hz7)
        clear hK K
        (try simp only [Act.put, List.setIfInBounds_toArray, List.set_cons_zero, List.set_cons_succ])
        refine wpAnyH_ready (rs := [20]) (by kernel_rfl) (by simp) ?_
        refine AllReadyH.cons (o := _) (at_lit rfl) (fun K hK => ?_) AllReadyH.nil
        go_simp
        go_at_call 17
        refine (count_x a2 HOK2.out.ln _).mono ?_
        rintro e w8 ⟨rfl, rfl⟩
        first | rw [← HD.out.1] | rw [← HD.out.2]
        refine hK.out _ _ ?_ (fun hHeld => ?_)
        focus ((try dsimp only); exact hz7)
        clear hK K
        (try simp only [Act.put, List.setIfInBounds_toArray, List.set_cons_zero, List.set_cons_succ])
        refine wpAnyH_ready (rs := [22]) (by kernel_rfl) (by simp) ?_
        refine AllReadyH.cons (o := _) (at_lit rfl) (fun K hK => ?_) AllReadyH.nil
        go_simp
        go_at_call 17
        refine (count_x a2 HOK2.out.ln _).mono ?_
        rintro e w8 ⟨rfl, rfl⟩
        first | rw [← HD.out.1] | rw [← HD.out.2]
        refine hK.out _ _ ?_ (fun hHeld => ?_)
        focus ((try dsimp only); exact hz7)
        clear hK K
        (try simp only [Act.put, List.setIfInBounds_toArray, List.set_cons_zero, List.set_cons_succ])
        refine wpAnyH_take (i := 23) (oi := _) (v := ?_) (at_lit rfl) (by kernel_rfl) (by kernel_rfl) (by kernel_rfl) (fun _ _ _ h => h) (Or.inl ⟨by rfl, ?_⟩) (by assumption) ?_
        rotate_left
        focus ((intro w5 hSw; (try dsimp only at hSw); go_simp; (try with_reducible rfl)); done)
        (try simp only [Act.put, List.setIfInBounds_toArray, List.set_cons_zero, List.set_cons_succ])
        refine wpAnyH_take (i := 24) (oi := _) (v := ?_) (at_lit rfl) (by kernel_rfl) (by kernel_rfl) (by kernel_rfl) (fun _ _ _ h => h) (Or.inl ⟨by rfl, ?_⟩) (by assumption) ?_
        rotate_left
        focus ((intro w5 hSw; (try dsimp only at hSw); go_simp; (try with_reducible rfl)); done)
        (try simp only [Act.put, List.setIfInBounds_toArray, List.set_cons_zero, List.set_cons_succ])
        refine wpAnyH_take (i := 25) (oi := _) (v := ?_) (at_lit rfl) (by kernel_rfl) (by kernel_rfl) (by kernel_rfl) (fun _ _ _ h => h) (Or.inl ⟨by rfl, ?_⟩) (by assumption) ?_
        rotate_left
        focus ((intro w5 hSw; (try dsimp only at hSw); go_simp; (try with_reducible rfl)); done)
        (try simp only [Act.put, List.setIfInBounds_toArray, List.set_cons_zero, List.set_cons_succ])
        refine wpAnyH_take (i := 26) (oi := _) (v := ?_) (at_lit rfl) (by kernel_rfl) (by kernel_rfl) (by kernel_rfl) (fun _ _ _ h => h) (Or.inl ⟨by rfl, ?_⟩) (by assumption) ?_
        rotate_left
        focus ((intro w5 hSw; (try dsimp only at hSw); go_simp; (try with_reducible rfl)); done)
        (try simp only [Act.put, List.setIfInBounds_toArray, List.set_cons_zero, List.set_cons_succ])
        refine wpAnyH_take (i := 27) (oi := _) (v := ?_) (at_lit rfl) (by kernel_rfl) (by kernel_rfl) (by kernel_rfl) (fun _ _ _ h => h) (Or.inl ⟨by rfl, ?_⟩) (by assumption) ?_
        rotate_left
        focus ((intro w5 hSw; (try dsimp only at hSw); go_simp; (try with_reducible rfl)); done)
        (try simp only [Act.put, List.setIfInBounds_toArray, List.set_cons_zero, List.set_cons_succ])
        refine wpAnyH_take (i := 29) (oi := _) (v := ?_) (at_lit rfl) (by kernel_rfl) (by kernel_rfl) (by kernel_rfl) (fun _ _ _ h => h) (Or.inl ⟨by rfl, ?_⟩) (by assumption) ?_
        rotate_left
        focus ((intro w5 hSw; (try dsimp only at hSw); go_simp; (try with_reducible rfl)); done)
        (try simp only [Act.put, List.setIfInBounds_toArray, List.set_cons_zero, List.set_cons_succ])
        refine wpAnyH_take (i := 30) (oi := _) (v := ?_) (at_lit rfl) (by kernel_rfl) (by kernel_rfl) (by kernel_rfl) (fun _ _ _ h => h) (Or.inl ⟨by rfl, ?_⟩) (by assumption) ?_
        rotate_left
        focus ((intro w5 hSw; (try dsimp only at hSw); go_simp; (try with_reducible rfl)); done)
        (try simp only [Act.put, List.setIfInBounds_toArray, List.set_cons_zero, List.set_cons_succ])
        refine wpAnyH_take (i := 31) (oi := _) (v := ?_) (at_lit rfl) (by kernel_rfl) (by kernel_rfl) (by kernel_rfl) (fun _ _ _ h => h) (Or.inl ⟨by rfl, ?_⟩) (by assumption) ?_
        rotate_left
        focus ((intro w5 hSw; (try dsimp only at hSw); go_simp; (try with_reducible rfl)); done)
        (try simp only [Act.put, List.setIfInBounds_toArray, List.set_cons_zero, List.set_cons_succ])
        refine wpAnyH_take (i := 32) (oi := _) (v := ?_) (at_lit rfl) (by kernel_rfl) (by kernel_rfl) (by kernel_rfl) (fun _ _ _ h => h) (Or.inl ⟨by rfl, ?_⟩) (by assumption) ?_
        rotate_left
        focus ((intro w5 hSw; (try dsimp only at hSw); go_simp; (try with_reducible rfl)); done)
        (try simp only [Act.put, List.setIfInBounds_toArray, List.set_cons_zero, List.set_cons_succ])
        refine wpAnyH_ready (rs := [28]) (by kernel_rfl) (by simp) ?_
        refine AllReadyH.cons (o := _) (at_lit rfl) (fun K hK => ?_) AllReadyH.nil
        go_simp
        go_at_call 18
        refine (I.promised a1 HOK2.out).mono ?_
        rintro e w9 ⟨rfl, b9⟩
        rw [← HPU.out.1]
        have a1 := I.call a1 b9
        have a2 := a2.call b9
        have B9 := b9.mono HB7.size
        have hs9 := ActAt.below (p := ad.add (j * 4)) hs7 B9 hab
        have HB9 := HB7.trans B9
        have hz9 := six hs9 a2 HPU.out
        refine hK.out _ _ ?_ (fun hHeld => ?_)
        focus ((try dsimp only); exact hz9)
        clear hK K
        (try simp only [Act.put, List.setIfInBounds_toArray, List.set_cons_zero, List.set_cons_succ])
        refine wpAnyH_take (i := 33) (oi := _) (v := ?_) (at_lit rfl) (by kernel_rfl) (by kernel_rfl) (by kernel_rfl) (fun _ _ _ h => h) (Or.inl ⟨by rfl, ?_⟩) (by assumption) ?_
        rotate_left
        focus ((intro w5 hSw; (try dsimp only at hSw); go_simp; (try with_reducible rfl)); done)
        (try simp only [Act.put, List.setIfInBounds_toArray, List.set_cons_zero, List.set_cons_succ])
        refine wpAnyH_take (i := 34) (oi := _) (v := ?_) (at_lit rfl) (by kernel_rfl) (by kernel_rfl) (by kernel_rfl) (fun _ _ _ h => h) (Or.inl ⟨by rfl, ?_⟩) (by assumption) ?_
        rotate_left
        focus ((intro w5 hSw; (try dsimp only at hSw); go_simp; (try with_reducible rfl)); done)
        (try simp only [Act.put, List.setIfInBounds_toArray, List.set_cons_zero, List.set_cons_succ])
        refine wpAnyH_take (i := 35) (oi := _) (v := ?_) (at_lit rfl) (by kernel_rfl) (by kernel_rfl) (by kernel_rfl) (fun _ _ _ h => h) (Or.inl ⟨by rfl, ?_⟩) (by assumption) ?_
        rotate_left
        focus ((intro w5 hSw; (try dsimp only at hSw); go_simp; (try with_reducible rfl)); done)
        (try simp only [Act.put, List.setIfInBounds_toArray, List.set_cons_zero, List.set_cons_succ])
        refine wpAnyH_take (i := 36) (oi := _) (v := ?_) (at_lit rfl) (by kernel_rfl) (by kernel_rfl) (by kernel_rfl) (fun _ _ _ h => h) (Or.inl ⟨by rfl, ?_⟩) (by assumption) ?_
        rotate_left
        focus ((intro w5 hSw; (try dsimp only at hSw); go_simp; (try with_reducible rfl)); done)
        (try simp only [Act.put, List.setIfInBounds_toArray, List.set_cons_zero, List.set_cons_succ])
        refine wpAnyH_take (i := 38) (oi := _) (v := ?_) (at_lit rfl) (by kernel_rfl) (by kernel_rfl) (by kernel_rfl) (fun _ _ _ h => h) (Or.inl ⟨by rfl, ?_⟩) (by assumption) ?_
        rotate_left
        focus ((intro w5 hSw; (try dsimp only at hSw); go_simp; (try with_reducible rfl)); done)
        (try simp only [Act.put, List.setIfInBounds_toArray, List.set_cons_zero, List.set_cons_succ])
        refine wpAnyH_take (i := 39) (oi := _) (v := ?_) (at_lit rfl) (by kernel_rfl) (by kernel_rfl) (by kernel_rfl) (fun _ _ _ h => h) (Or.inl ⟨by rfl, ?_⟩) (by assumption) ?_
        rotate_left
        focus ((intro w5 hSw; (try dsimp only at hSw); go_simp; (try with_reducible rfl)); done)
        (try simp only [Act.put, List.setIfInBounds_toArray, List.set_cons_zero, List.set_cons_succ])
        refine wpAnyH_take (i := 40) (oi := _) (v := ?_) (at_lit rfl) (by kernel_rfl) (by kernel_rfl) (by kernel_rfl) (fun _ _ _ h => h) (Or.inl ⟨by rfl, ?_⟩) (by assumption) ?_
        rotate_left
        focus ((intro w5 hSw; (try dsimp only at hSw); go_simp; (try with_reducible rfl)); done)
        (try simp only [Act.put, List.setIfInBounds_toArray, List.set_cons_zero, List.set_cons_succ])
        refine wpAnyH_take (i := 41) (oi := _) (v := ?_) (at_lit rfl) (by kernel_rfl) (by kernel_rfl) (by kernel_rfl) (fun _ _ _ h => h) (Or.inl ⟨by rfl, ?_⟩) (by assumption) ?_
        rotate_left
        focus ((intro w5 hSw; (try dsimp only at hSw); go_simp; (try with_reducible rfl)); done)
        (try simp only [Act.put, List.setIfInBounds_toArray, List.set_cons_zero, List.set_cons_succ])
        refine wpAnyH_ready (rs := [37]) (by kernel_rfl) (by simp) ?_
        refine AllReadyH.cons (o := _) (at_lit rfl) (fun K hK => ?_) AllReadyH.nil
        go_simp
        go_at_call 19
        refine (I.surplus a1 HOK2.out).mono ?_
        rintro e w11 ⟨rfl, b11⟩
        rw [← HPU.out.2]
        have a1 := I.call a1 b11
        have a2 := a2.call b11
        have B11 := b11.mono HB9.size
        have hs11 := ActAt.below (p := ad.add (j * 4)) hs9 B11 hab
        have HB11 := HB9.trans B11
        have hz11 := six hs11 a2 HPU.out
        refine hK.out _ _ ?_ (fun hHeld => ?_)
        focus ((try dsimp only); exact hz11)
        clear hK K
        (try simp only [Act.put, List.setIfInBounds_toArray, List.set_cons_zero, List.set_cons_succ])
        refine wpAnyH_take (i := 42) (oi := _) (v := ?_) (at_lit rfl) (by kernel_rfl) (by kernel_rfl) (by kernel_rfl) (fun _ _ _ h => h) (Or.inl ⟨by rfl, ?_⟩) (by assumption) ?_
        rotate_left
        focus ((intro w5 hSw; (try dsimp only at hSw); go_simp; (try with_reducible rfl)); done)
        (try simp only [Act.put, List.setIfInBounds_toArray, List.set_cons_zero, List.set_cons_succ])
        refine wpAnyH_take (i := 43) (oi := _) (v := ?_) (at_lit rfl) (by kernel_rfl) (by kernel_rfl) (by kernel_rfl) (fun _ _ _ h => h) (Or.inl ⟨by rfl, ?_⟩) (by assumption) ?_
        rotate_left
        focus ((intro w5 hSw; (try dsimp only at hSw); go_simp; (try with_reducible rfl)); done)
        (try simp only [Act.put, List.setIfInBounds_toArray, List.set_cons_zero, List.set_cons_succ])
        refine wpAnyH_done (by kernel_rfl) ?_ _
        refine NoPanic.normal ?_
        have HE : Hid (St I w.heap.size w11 s x S2 ∧ Below w.heap.size w w11) := ⟨⟨X3, g3, a1, a2, a3⟩, HB11⟩
        go_wp2_with fail
        go_roundw
        case rel => exact ⟨j + 1, by omega, by omega, by go_num, by rw [← HS2.out]; exact HE.out.1, HE.out.2⟩
        case measure => simp [RowKit.intOf]; omega
      · have HB := Lib.hid hb
        clear hst hb HA
        by_cases hlt : j < n
        case' pos => have hlim : ¬ (j : Int) < 60 := by omega
        all_goals
          clear hboth
          go_wp2_with fail
          go_ret
          exact ⟨rfl, HB.out⟩
end Go.Proofs.Ytllepijlebbjbaa
