/- Package frames: are, Turn. -/
import Derived.Test.YtklhcgekagimkaaGreatMg29
namespace Go.Proofs.YtklhcgekagimkaaGreat
open Go.RowKit
section
variable {w w' : World} {B s g : Nat} {I : List Int} {a b : Int}
set_option maxHeartbeats 2000000 in
set_option maxRecDepth 100000 in
theorem are_f (h : Fx B w s g I) (l1 : I.length ≤ 1024) {f n : Nat} (hl : f + n ≤ I.length) (a : Int) : Calls Tryz.prog 87 #[.pointer (some ⟨s, 0, none⟩), .int .i64 f, .int .i64 n, .int .i64 a] w fun e w' => e = .returned (.bool (areF I f n a)) ∧ w = w' := by
  obtain ⟨l, hll⟩ : ∃ l, l = I.length := ⟨_, rfl⟩
  obtain ⟨r, hr⟩ : ∃ r, r = areF I f n a := ⟨_, rfl⟩
  have HX := Lib.hid (And.intro h hll)
  have HT : Hid ((∀ i : Nat, i < n → I[f + i]? = some a) → r = true) := fun h => by rw [hr]; exact decide_eq_true h
  have HN : Hid (∀ j : Nat, j < n → I[f + j]? ≠ some a → r = false) := fun j h1 h2 => by rw [hr]; exact decide_eq_false fun h => h2 (h j h1)
  rw [← hll] at hl l1
  rw [← hr]
  clear h hll hr
  go_enter Tryz.func87, Tryz.ntmps87
  go_wp2_with fail
  go_loopw [11] (fun k wr => ∃ j : Nat, k = .int .i64 j ∧ j ≤ n ∧ (∀ i : Nat, i < j → I[f + i]? = some a) ∧ w = wr) (fun k _ => n - (RowKit.intOf k).toNat)
  case atStart => exact ⟨0, rfl, by omega, fun i h1 => absurd h1 (by omega), rfl⟩
  case round =>
    obtain ⟨j, rfl, hj, hall, rfl⟩ := hrel
    have HA := Lib.hid hall
    by_cases hlt : j < n
    · have hq : f + j < I.length := by have := HX.out.2; omega
      have c0 := HX.out.1.top.cell 0
      rw [← HX.out.2] at c0
      have d0 : w.cell? ⟨g, f + j, none⟩ = some (.int .i64 I[f + j]) := by rw [HX.out.1.at_, List.getElem?_eq_getElem hq]; rfl
      have HG : Hid (I[f + j]? = some I[f + j]) := List.getElem?_eq_getElem hq
      generalize I[f + j] = y at d0 HG
      obtain ⟨q, hqe⟩ : ∃ q, q = f + j := ⟨_, rfl⟩
      have hw2 : IntKind.i64.wrap ((f : Int) + (j : Int)) = (q : Int) := by rw [show (f : Int) + (j : Int) = (q : Int) by omega]; exact IntWalk.i64_in _ (by omega)
      have hw3 : IntKind.i64.wrap ((j : Int) + 1) = (j : Int) + 1 := IntWalk.i64_in _ (by omega)
      rw [← hqe] at d0 hq
      have q1 : (q : Int) < l := by omega
      have q0 : (0 : Int) ≤ q := by omega
      have j1 : (j : Int) < (n : Int) := by omega
      have HQ := Lib.hid (And.intro hqe hlt)
      clear hall hj hq hqe hlt
      by_cases cy : y = a
      · have hb : (y == a) = true := by simpa using cy
        have HCY := Lib.hid cy
        clear cy
        go_wp2_with fail
        go_roundw
        case rel =>
          refine ⟨j + 1, by go_num, by have := HQ.out.2; omega, fun i h1 => ?_, trivial⟩
          rcases Nat.lt_or_ge i j with h3 | h3
          · exact HA.out i h3
          · rw [show i = j by omega, HG.out, HCY.out]
        case measure => simp [RowKit.intOf]; have := HQ.out.2; omega
      · have hb : (y == a) = false := by simpa using cy
        have HR : Hid (r = false) := HN.out j HQ.out.2 (by rw [HG.out]; intro e; injection e with e; exact cy e)
        clear cy
        go_wp2_with fail
        go_ret
        exact ⟨ret_bool HR.out.symm, rfl⟩
    · have HR : Hid (r = true) := HT.out fun i hi => hall i (by omega)
      have j1 : ¬ (j : Int) < (n : Int) := by omega
      clear hall hj hlt
      go_wp2_with fail
      go_ret
      exact ⟨ret_bool HR.out.symm, rfl⟩
/-- What a turn leaves. -/
def Turned (B : Nat) (w : World) (s g : Nat) (I I' : List Int) (w' : World) : Prop := I'.length = I.length ∧ Fx B w' s g I' ∧ Foot (MineF s g) w w'
theorem Turned.same (h : Fx B w s g I) : Turned B w s g I I w := ⟨rfl, h, Foot.refl _ _⟩
theorem Fx.foot (s g : Nat) {k : Nat} (hk : MineF s g k) (w : World) (i : Nat) (v : Value) : Foot (MineF s g) w (w.setCell ⟨k, i, none⟩ v) where
  keep j _ hj := Below.heap_setCell _ _ _ j (fun e => hj (by rw [e]; exact hk))
  size := by simp [World.setCell]
  os := rfl
  tape := rfl
  output := rfl
set_option maxHeartbeats 4000000 in
set_option maxRecDepth 100000 in
theorem turn_ok (h : Fx B w s g I) (ok : OkF I) {f n a b : Nat} (n1 : 1 ≤ n) (hl : f + n ≤ I.length) (ha : isF a = true) (hb : isF b = true) (hm : mayF a b = true) (hr : areF I f n a = true) (hab : a ≠ b) :
    Calls Tryz.prog 64 #[.pointer (some ⟨s, 0, none⟩), .int .i64 f, .int .i64 n, .int .i64 a, .int .i64 b] w fun e w' => e = .returned (.int .i64 0) ∧ Turned B w s g I (putF I f n b) w' := by
  have l1 := ok.l1
  have s1 := state_f a w
  have s2 := state_f b w
  have s3 := isFrame_f h f
  have s4 := len_f h
  have s5 := may_f ha hb w
  have s6 := are_f h l1 hl a
  rw [ha] at s1
  rw [hb] at s2
  rw [hm] at s5
  rw [hr] at s6
  rw [show frB I f = true from decide_eq_true (by omega)] at s3
  have ha6 := isF_iff.1 ha
  have hb6 := isF_iff.1 hb
  obtain ⟨l, hll⟩ : ∃ l, l = I.length := ⟨_, rfl⟩
  have HX := Lib.hid (And.intro h (And.intro hll (And.intro hr hab)))
  rw [← hll] at s4 hl l1
  have hw : IntKind.i64.wrap ((l : Int) - (f : Int)) = (l : Int) - (f : Int) := IntWalk.i64_in _ (by omega)
  have t1 : ¬ (n : Int) < 1 := by omega
  have t2 : ¬ (l : Int) - (f : Int) < n := by omega
  clear h ok ha hb hm hr hll
  go_enter Tryz.func64, Tryz.ntmps64
  go_upto_region 11 with (first
    | (go_at_call 72; first | (with_reducible refine s1.mono ?_; rintro e w1 ⟨rfl, rfl⟩) | (with_reducible refine s2.mono ?_; rintro e w1 ⟨rfl, rfl⟩))
    | (go_at_call 70; (with_reducible refine s3.mono ?_); rintro e w1 ⟨rfl, rfl⟩)
    | (go_at_call 61; (with_reducible refine s4.mono ?_); rintro e w1 ⟨rfl, rfl⟩)
    | (go_at_call 86; (with_reducible refine s5.mono ?_); rintro e w1 ⟨rfl, rfl⟩)
    | (go_at_call 87; (with_reducible refine s6.mono ?_); rintro e w1 ⟨rfl, rfl⟩))
  clear s1 s2 s3 s4 s5 s6
  go_wp2_with fail
  go_loopw [54] (fun k wr => ∃ j : Nat, k = .int .i64 j ∧ j ≤ n ∧ Lrow wr s 110 (.slice (some ⟨g, 0, none⟩) l l :: (ctF I).map (Value.int .i64)) ∧ Lrow wr g 3 ((putF I f j b).map (Value.int .i64)) ∧ w.grownBy wr (some g)) (fun k _ => n - (RowKit.intOf k).toNat)
  case atStart => exact ⟨0, rfl, by omega, by rw [HX.out.2.1]; exact HX.out.1.top, by rw [put_zero]; exact HX.out.1.row, World.grownBy.refl w _⟩
  case round =>
    obtain ⟨j, rfl, hj, ht, hg, hgr⟩ := hrel
    by_cases hlt : j < n
    · have c0 := ht.cell 0
      have hq : f + j < I.length := by have := HX.out.2.1; omega
      have hq2 : f + j < (putF I f j b).length := by rw [put_len (by omega)]; exact hq
      have d0 : wr.cell? ⟨g, f + j, none⟩ = some (.int .i64 (putF I f j b)[f + j]) := by rw [hg.cell, List.getElem?_map, List.getElem?_eq_getElem hq2]; rfl
      have y0 := hg.frozen (f + j)
      generalize (putF I f j b)[f + j] = y at d0
      have hg2 := hg.set_ (f + j) (.int .i64 b)
      rw [← List.map_set, put_next hq] at hg2
      have ht2 := ht.far (p := ⟨g, f + j, none⟩) HX.out.1.ap (.int .i64 b)
      have HK := Lib.hid (And.intro ht2 (And.intro hg2 (grown_trans1 hgr (grown_set wr g (f + j) (.int .i64 b)))))
      obtain ⟨q, hqe⟩ : ∃ q, q = f + j := ⟨_, rfl⟩
      have hw2 : IntKind.i64.wrap ((f : Int) + (j : Int)) = (q : Int) := by rw [show (f : Int) + (j : Int) = (q : Int) by omega]; exact IntWalk.i64_in _ (by omega)
      have hw3 : IntKind.i64.wrap ((j : Int) + 1) = (j : Int) + 1 := IntWalk.i64_in _ (by omega)
      rw [← hqe] at d0 y0 HK
      have q1 : (q : Int) < l := by have := HX.out.2.1; omega
      have q0 : (0 : Int) ≤ q := by omega
      have j1 : (j : Int) < (n : Int) := by omega
      have HQ := Lib.hid hlt
      clear hq hq2 hqe hlt ht hg hgr ht2 hg2 hj
      go_wp2_with fail
      go_roundw
      case rel => exact ⟨j + 1, by go_num, HQ.out, HK.out.1, HK.out.2.1, HK.out.2.2⟩
      case measure => simp [RowKit.intOf]; have := HQ.out; omega
    · have hjn : j = n := by omega
      subst hjn
      obtain ⟨ca, hca⟩ : ∃ ca, ca = I.count (a : Int) := ⟨_, rfl⟩
      obtain ⟨cb, hcb⟩ : ∃ cb, cb = I.count (b : Int) := ⟨_, rfl⟩
      have ca1 : ca ≤ 1024 := by have := count_len I (a : Int); have := HX.out.2.1; omega
      have cb1 : cb ≤ 1024 := by have := count_len I (b : Int); have := HX.out.2.1; omega
      have hnew := ct_turn (a := a) (b := b) HX.out.2.2.1 hab (by omega) (by omega)
      rw [← hca, ← hcb] at hnew
      obtain ⟨V0, hV0⟩ : ∃ V0, V0 = wr.drew := ⟨_, rfl⟩
      have ht0 : Lrow V0 s 110 (.slice (some ⟨g, 0, none⟩) l l :: (ctF I).map (Value.int .i64)) := by rw [hV0]; exact ht.drewN 1
      have hg0 : Lrow V0 g 3 ((putF I f j b).map (Value.int .i64)) := by rw [hV0]; exact hg.drewN 1
      have hr0 : w.grownBy V0 (some g) := by rw [hV0]; exact ⟨hgr.os, hgr.tape, hgr.output, hgr.size, hgr.block⟩
      have e1 : wr.cell? ⟨s, 1 + a, none⟩ = some (.int .i64 ca) := by
        rw [ht.cell, Nat.add_comm, List.getElem?_cons_succ, List.getElem?_map, ct_get _ (by omega), ← hca]; rfl
      have e1' : V0.cell? ⟨s, 1 + a, none⟩ = some (.int .i64 ca) := by rw [hV0]; exact e1
      have y1 := ht0.frozen (1 + a)
      have hwa : IntKind.i64.wrap ((ca : Int) - (j : Int)) = (ca : Int) - (j : Int) := IntWalk.i64_in _ (by omega)
      have hwb : IntKind.i64.wrap ((cb : Int) + (j : Int)) = (cb : Int) + (j : Int) := IntWalk.i64_in _ (by omega)
      obtain ⟨V1, hV1⟩ : ∃ V1, V1 = V0.setCell ⟨s, 1 + a, none⟩ (.int .i64 ((ca : Int) - (j : Int))) := ⟨_, rfl⟩
      have ht1 := ht0.set_ (1 + a) (.int .i64 ((ca : Int) - (j : Int)))
      rw [← hV1, Nat.add_comm 1 a, List.set_cons_succ, ← List.map_set] at ht1
      have hg1 := hg0.far (p := ⟨s, 1 + a, none⟩) (fun e => HX.out.1.ap e.symm) (.int .i64 ((ca : Int) - (j : Int)))
      rw [← hV1] at hg1
      have hf1 : Foot (MineF s g) w V1 := by
        rw [hV1]
        exact (Foot.grown hr0 (Or.inr rfl)).trans (Fx.foot s g (Or.inl rfl) V0 _ _) (fun _ e _ => e)
      have e2 : V1.cell? ⟨s, 1 + b, none⟩ = some (.int .i64 cb) := by
        rw [ht1.cell, Nat.add_comm, List.getElem?_cons_succ, List.getElem?_map, List.getElem?_set, if_neg hab, ct_get _ (by omega), ← hcb]; rfl
      obtain ⟨V2, hV2⟩ : ∃ V2, V2 = V1.drew := ⟨_, rfl⟩
      have e2' : V2.cell? ⟨s, 1 + b, none⟩ = some (.int .i64 cb) := by rw [hV2]; exact e2
      have y2 : V2.frozen? ⟨s, 1 + b, none⟩ = false := by rw [hV2]; exact (ht1.drewN 1).frozen (1 + b)
      have HD : Hid (Turned B w s g I (putF I f j b) (V2.setCell ⟨s, 1 + b, none⟩ (.int .i64 ((cb : Int) + (j : Int))))) := by
        rw [hV2]
        have hl' : f + j ≤ I.length := by have := HX.out.2.1; omega
        refine ⟨put_len hl' _, ⟨?_, (hg1.drewN 1).far (p := ⟨s, 1 + b, none⟩) (fun e => HX.out.1.ap e.symm) _, HX.out.1.ap, HX.out.1.lo⟩, (hf1.drewN 1).trans (Fx.foot s g (Or.inl rfl) _ _ _) (fun _ e _ => e)⟩
        have ht3 := (ht1.drewN 1).set_ (1 + b) (.int .i64 ((cb : Int) + (j : Int)))
        rw [Nat.add_comm 1 b, List.set_cons_succ, ← List.map_set, hnew] at ht3
        rw [put_len hl', ← HX.out.2.1, Nat.add_comm 1 b]
        exact ht3
      have ka : (a : Int) < 6 := by omega
      have kb : (b : Int) < 6 := by omega
      have ka0 : (0 : Int) ≤ a := by omega
      have kb0 : (0 : Int) ≤ b := by omega
      have HV := Lib.hid (And.intro hV0 (And.intro hV1 hV2))
      clear hg hgr hj hlt ht hnew hV0 hV1 hV2 ht0 ht1 hg0 hg1 hf1 hr0 hca hcb
      go_wp2_with fail
      go_still_tail 11, (by kernel_rfl)
      change wpList _ _ _ _ _ wr.drew
      rw [← HV.out.1]
      go_wp2_with fail
      rw [← HV.out.2.1]
      go_still_tail 11, (by kernel_rfl)
      change wpList _ _ _ _ _ V1.drew
      rw [← HV.out.2.2]
      go_wp2_with fail
      go_ret
      exact ⟨rfl, HD.out⟩
end
end Go.Proofs.YtklhcgekagimkaaGreat
