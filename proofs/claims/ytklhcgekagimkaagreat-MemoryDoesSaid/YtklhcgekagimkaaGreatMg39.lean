/- Package memory: At. -/
import Derived.Test.YtklhcgekagimkaaGreatMg38
import Derived.Deep.RegionHeld3
namespace Go.Proofs.YtklhcgekagimkaaGreat
open Go.RowKit
section
variable {X : Nat → Prop} {w w' : World} {B n mk : Nat} {p : Pn} {M : Me}
set_option maxHeartbeats 4000000 in
set_option maxRecDepth 100000 in
theorem at_bad (p : Pn) (w : World) (f o : Int) {x : Int} (hx : isU x = false) : Calls Tryz.prog 34 #[.pointer (some ⟨p.m, 0, none⟩), .int .i64 f, .int .i64 o, .int .i64 x] w fun e w' => e = .returned (.int .i64 2) ∧ w = w' := by
  have hu := isUse_any x w
  rw [hx] at hu
  clear hx
  go_enter Tryz.func34, Tryz.ntmps34
  go_wp2_with (go_at_call 65; (with_reducible refine hu.mono ?_); rintro e w1 ⟨rfl, rfl⟩)
  go_ret
  exact ⟨rfl, rfl⟩
set_option maxHeartbeats 4000000 in
set_option maxRecDepth 100000 in
theorem at_none (h : PmX B w p X n mk M) {f o : Int} (hf : Fits f) {x : Int} (hx : isU x = true) {E : Int} (hE : E ≠ 0) (he : chE M.F f o false = E ∧ chL M.F f o false = M.F) : Calls Tryz.prog 34 #[.pointer (some ⟨p.m, 0, none⟩), .int .i64 f, .int .i64 o, .int .i64 x] w fun e w' => e = .returned (.int .i64 E) ∧ PDid B p X n mk M w w' := by
  have hu := isUse_any x w
  rw [hx] at hu
  have hB5 : Below w.heap.size w (w.drewN 1) := below_dN (Below.refl _ _) 1
  have hG := giver_any p.m o x (w.drewN 1)
  have hR := boxed_rows (w.drewN 1) p.m o x
  obtain ⟨h7, hN, hB7⟩ := boxes_out h (w.drewN 1) hB5 p.m o x
  have S0 : (w.drewN 1).cell? ⟨p.m, 1, none⟩ = some (.pointer (some ⟨p.k, 0, none⟩)) := (h.call hB5).c1
  have S1 := h7.c1
  have hT := nTakeAt h7.kin f o hf
  obtain ⟨b, hbb⟩ : ∃ b, b = (w.drewN 1).heap.size := ⟨_, rfl⟩
  rw [← hbb] at hG hR hN
  clear hbb
  generalize boxed (w.drewN 1) p.m o x = W7 at *
  rw [he.1, he.2] at hT
  have HE := Lib.hid hE
  clear h hx he hE hf hR hN
  go_enter Tryz.func34, Tryz.ntmps34
  go_wp2_with (go_at_call 65; (with_reducible refine hu.mono ?_); rintro e w1 ⟨rfl, rfl⟩)
  go_region_held3 (fun v => v.cell? ⟨p.m, 1, none⟩ = some (.pointer (some ⟨p.k, 0, none⟩)))
    (first | exact S0 | exact S1 | exact hA8.1 | exact hd9.c1)
    (first | (go_at_call 66; refine hG.mono ?_; rintro e w7 ⟨rfl, rfl⟩) | (go_at_call 68; refine hT.mono ?_; rintro e w8 ⟨rfl, X8, hK8, hf8, hx8⟩; have hA8 := after_none h7 HE.out f b (b + 1) (b + 1 + 1) hK8 hf8 hx8) | (go_at_call 88; refine hA8.2.mono ?_; rintro e w9 ⟨rfl, hd9⟩))
  all_goals
    have HD := Lib.hid (PDid.first hB7 hd9)
    go_wp2_with fail
    go_ret
    exact ⟨rfl, HD.out⟩
set_option maxHeartbeats 4000000 in
set_option maxRecDepth 100000 in
theorem at_ok (h : PmX B w p X n mk M) (ok : MeOk n M) {f k : Nat} (k8 : k ≤ 8) (hr : f + 2 ^ k ≤ n) (hq : Alq M.F f (2 ^ k) true) {x : Int} (hx : isU x = true) {F' : List Bool} (he : chE M.F f k false = 0 ∧ chL M.F f k false = F') : Calls Tryz.prog 34 #[.pointer (some ⟨p.m, 0, none⟩), .int .i64 f, .int .i64 k, .int .i64 x] w fun e w' => e = .returned (.int .i64 0) ∧ PDid B p X n mk (gvM M F' M.S f k x) w w' := by
  have hu := isUse_any x w
  rw [hx] at hu
  have hf : Fits (f : Int) := ⟨by omega, by have := ok.hi; have := Nat.le_trans (Nat.le_add_right f (2 ^ k)) hr; omega⟩
  have hB5 : Below w.heap.size w (w.drewN 1) := below_dN (Below.refl _ _) 1
  have hG := giver_any p.m k x (w.drewN 1)
  have hR := boxed_rows (w.drewN 1) p.m k x
  obtain ⟨h7, hN, hB7⟩ := boxes_out h (w.drewN 1) hB5 p.m k x
  have S0 : (w.drewN 1).cell? ⟨p.m, 1, none⟩ = some (.pointer (some ⟨p.k, 0, none⟩)) := (h.call hB5).c1
  have S1 := h7.c1
  have hT := nTakeAt h7.kin f k hf
  obtain ⟨b, hbb⟩ : ∃ b, b = (w.drewN 1).heap.size := ⟨_, rfl⟩
  rw [← hbb] at hG hR hN
  clear hbb
  generalize boxed (w.drewN 1) p.m k x = W7 at *
  rw [he.1, he.2] at hT
  have HQ := Lib.hid (And.intro ok (And.intro k8 (And.intro hr (And.intro hq hx))))
  clear h hx he hf ok k8 hr hq
  go_enter Tryz.func34, Tryz.ntmps34
  go_wp2_with (go_at_call 65; (with_reducible refine hu.mono ?_); rintro e w1 ⟨rfl, rfl⟩)
  go_region_held3 (fun v => v.cell? ⟨p.m, 1, none⟩ = some (.pointer (some ⟨p.k, 0, none⟩)))
    (first | exact S0 | exact S1 | exact hA8.1 | exact hd9.c1)
    (first | (go_at_call 66; refine hG.mono ?_; rintro e w7 ⟨rfl, rfl⟩) | (go_at_call 68; refine hT.mono ?_; rintro e w8 ⟨rfl, X8, hK8, hf8, hx8⟩; have hA8 := after_take h7 HQ.out.1 HQ.out.2.1 HQ.out.2.2.1 HQ.out.2.2.2.1 HQ.out.2.2.2.2 hR hN hK8 hf8 hx8) | (go_at_call 88; refine hA8.2.mono ?_; rintro e w9 ⟨rfl, hd9⟩))
  all_goals
    have HD := Lib.hid (PDid.first hB7 hd9)
    go_wp2_with fail
    go_ret
    exact ⟨rfl, HD.out⟩
theorem at_m (h : PmX B w p X n mk M) (ok : MeOk n M) {f : Int} (hf : Fits f) (o x : Int) : Calls Tryz.prog 34 #[.pointer (some ⟨p.m, 0, none⟩), .int .i64 f, .int .i64 o, .int .i64 x] w fun e w' => e = .returned (.int .i64 (atE M f o x)) ∧ PDid B p X n mk (atM M f o x) w w' := by
  cases hx : isU x
  · have he : atE M f o x = 2 := by unfold atE; rw [if_pos hx]
    have hm : atM M f o x = M := by unfold atM; rw [he, if_neg (by decide)]
    rw [he, hm]
    refine (at_bad p w f o hx).mono ?_
    rintro e w' ⟨rfl, rfl⟩
    exact ⟨rfl, PDid.same h (Below.refl _ _)⟩
  · have he : atE M f o x = chE M.F f o false := by unfold atE; rw [hx, if_neg (by decide)]
    by_cases hE : chE M.F f o false = 0
    · obtain ⟨a, k, rfl, rfl, k8, al, hr, hq, hc⟩ := chE_ok hE
      have hm : atM M a k x = gvM M (chL M.F a k false) M.S a k x := by unfold atM; rw [he, if_pos hE, Int.toNat_natCast, Int.toNat_natCast]
      rw [he, hE, hm]
      exact at_ok h ok k8 (by rw [← ok.f]; exact hr) hq hx ⟨hE, rfl⟩
    · have hm : atM M f o x = M := by unfold atM; rw [he, if_neg hE]
      rw [he, hm]
      exact at_none h hf hx hE ⟨rfl, ch_no hE⟩
end
end Go.Proofs.YtklhcgekagimkaaGreat
/- Package memory: Drop. -/
namespace Go.Proofs.YtklhcgekagimkaaGreat
open Go.RowKit
section
variable {X : Nat → Prop} {w w' : World} {B n mk : Nat} {p : Pn} {M : Me}
set_option maxHeartbeats 4000000 in
set_option maxRecDepth 100000 in
theorem drop_no (h : PmX B w p X n mk M) {f o : Int} (hf : Fits f) {E : Int} (hE : E ≠ 0) (he : chE M.F f o true = E ∧ chL M.F f o true = M.F) : Calls Tryz.prog 30 #[.pointer (some ⟨p.m, 0, none⟩), .int .i64 f, .int .i64 o] w fun e w' => e = .returned (.int .i64 E) ∧ PDid B p X n mk M w w' := by
  have hL := lowr_any h
  have H := Lib.hid h
  have HE := Lib.hid he
  have HF := Lib.hid hf
  have hE' : (E == 0) = false := by simpa using hE
  clear h hf he hE
  go_enter Tryz.func30, Tryz.ntmps30
  go_wp2_with fail
  refine hL.mono ?_
  rintro e w1 ⟨rfl, hb⟩
  obtain ⟨W2, hW⟩ : ∃ W2, W2 = w1.alloc (.cells #[.pointer (some ⟨p.a, 0, none⟩), .pointer (some ⟨p.k, 0, none⟩), .pointer (some ⟨p.s, 0, none⟩)] 76) := ⟨_, rfl⟩
  obtain ⟨q, hq⟩ : ∃ q, q = w1.heap.size := ⟨_, rfl⟩
  have hr : Lrow W2 q 76 [.pointer (some ⟨p.a, 0, none⟩), .pointer (some ⟨p.k, 0, none⟩), .pointer (some ⟨p.s, 0, none⟩)] := by rw [hW, hq]; exact Lrow.new w1 _ _
  have hb2 : Below w1.heap.size w1 W2 := by rw [hW]; exact below_new _ _
  have HB2 : Hid (Below w.heap.size w W2) := hb.trans (hb2.mono hb.size)
  have HP2 : Hid (PmX B W2 p X n mk M) := (H.out.call hb).call hb2
  have HQ2 : Hid (w.heap.size ≤ q) := by have := hb.size; show _ ≤ _; omega
  have hT := nGive HP2.out.kin f o HF.out
  rw [HE.out.1, HE.out.2] at hT
  have e1 := hr.cell 1
  have HR := Lib.hid hr
  have HW := Lib.hid (And.intro hW hq)
  clear hb hL hW hq hr hb2
  go_upto_region 2 with (fail)
  rw [← HW.out.1, ← HW.out.2]
  go_wp2_with fail
  refine hT.mono ?_
  rintro e w3 ⟨rfl, X3, hK3, hf3, hx3⟩
  have HD : Hid (PDid B p X n mk M w w3) := PDid.first HB2.out ⟨X3, HP2.out.kinT hK3 hf3 hx3, hf3.kinP, hx3⟩
  clear hK3 hf3 hx3 hT e1
  go_wp2_with fail
  go_ret
  exact ⟨rfl, HD.out⟩
set_option maxHeartbeats 4000000 in
set_option maxRecDepth 100000 in
theorem drop_ok (h : PmX B w p X n mk M) (ok : MeOk n M) {f k : Nat} (k8 : k ≤ 8) (hr : f + 2 ^ k ≤ n) (hq : Alq M.F f (2 ^ k) false) {F' : List Bool} (he : chE M.F f k true = 0 ∧ chL M.F f k true = F') : Calls Tryz.prog 30 #[.pointer (some ⟨p.m, 0, none⟩), .int .i64 f, .int .i64 k] w fun e w' => e = .returned (.int .i64 0) ∧ PDid B p X n mk ⟨F', M.S, putF M.I f (2 ^ k) 0, M.W⟩ w w' := by
  have hL := lowr_any h
  have H := Lib.hid h
  have HE := Lib.hid he
  have HF : Hid (Fits (f : Int)) := ⟨by omega, by have := ok.hi; have := Nat.le_trans (Nat.le_add_right f (2 ^ k)) hr; omega⟩
  have n1 := ok.hi
  obtain ⟨K, hK⟩ : ∃ K : Nat, K = 2 ^ k := ⟨_, rfl⟩
  have K2 : K ≤ 256 := by rw [hK]; exact Nat.pow_le_pow_right (by omega : 0 < 2) k8
  have hrK : f + K ≤ n := by rw [hK]; exact hr
  have hsv : Value.int .i64 (wrap64 (2 ^ k)) = Value.int .i64 (K : Int) := by rw [two_zpow, ← hK]; congr 1; unfold wrap64; omega
  rw [← hK]
  have HS := Lib.hid hsv
  have HX : Hid (OkF M.I ∧ M.I.length = n ∧ ∀ j, j < K → ∃ y, M.I[f + j]? = some y ∧ 1 ≤ y ∧ y ≤ 5) := ⟨ok.ok, ok.i, fun j hj => ok.busy (by omega) (hq (f + j) (by omega) (by omega))⟩
  clear h he ok hK hr hq hsv
  go_enter Tryz.func30, Tryz.ntmps30
  go_wp2_with fail
  refine hL.mono ?_
  rintro e w1 ⟨rfl, hb⟩
  obtain ⟨W2, hW⟩ : ∃ W2, W2 = w1.alloc (.cells #[.pointer (some ⟨p.a, 0, none⟩), .pointer (some ⟨p.k, 0, none⟩), .pointer (some ⟨p.s, 0, none⟩)] 76) := ⟨_, rfl⟩
  obtain ⟨q, hq⟩ : ∃ q, q = w1.heap.size := ⟨_, rfl⟩
  have hr : Lrow W2 q 76 [.pointer (some ⟨p.a, 0, none⟩), .pointer (some ⟨p.k, 0, none⟩), .pointer (some ⟨p.s, 0, none⟩)] := by rw [hW, hq]; exact Lrow.new w1 _ _
  have hb2 : Below w1.heap.size w1 W2 := by rw [hW]; exact below_new _ _
  have HB2 : Hid (Below w.heap.size w W2) := hb.trans (hb2.mono hb.size)
  have HP2 : Hid (PmX B W2 p X n mk M) := (H.out.call hb).call hb2
  have HQ2 : Hid (w.heap.size ≤ q) := by have := hb.size; show _ ≤ _; omega
  have hT := nGive HP2.out.kin f k HF.out
  rw [HE.out.1, HE.out.2] at hT
  have e1 := hr.cell 1
  have HR := Lib.hid hr
  have HW := Lib.hid (And.intro hW hq)
  clear hb hL hW hq hr hb2
  go_upto_region 2 with (fail)
  rw [← HW.out.1, ← HW.out.2]
  go_wp2_with fail
  refine hT.mono ?_
  rintro e w3 ⟨rfl, X3, hK3, hf3, hx3⟩
  have hp3 := HP2.out.kinT hK3 hf3 hx3
  have hr3 : Lrow w3 q 76 [.pointer (some ⟨p.a, 0, none⟩), .pointer (some ⟨p.k, 0, none⟩), .pointer (some ⟨p.s, 0, none⟩)] :=
    hf3.row HR.out (fun e => by have := (H.out.kin.lo q e).2; have := HQ2.out; omega)
  have HF3 : Hid (Foot (MineP p X) w w3 ∧ ∀ q, X3 q → X q ∨ w.heap.size ≤ q) := ⟨(Foot.of_below HB2.out).trans hf3.kinP fun _ e _ => e, fun q e => by
    rcases hx3 q e with e | e
    · exact Or.inl e
    · have := HB2.out.size; exact Or.inr (by omega)⟩
  have HP3 := Lib.hid hp3
  have HR3 := Lib.hid hr3
  clear hK3 hf3 hx3 hT e1 hp3 hr3
  go_wp2_with fail
  rw [HS.out]
  go_loopw [9, 22] (fun _ i wr => ∃ j : Nat, j ≤ K ∧ i = .int .i64 j ∧ PmX B wr p X3 n mk ⟨F', M.S, putF M.I f j 0, M.W⟩ ∧ Lrow wr q 76 [.pointer (some ⟨p.a, 0, none⟩), .pointer (some ⟨p.k, 0, none⟩), .pointer (some ⟨p.s, 0, none⟩)] ∧ Foot (MineP p X) w wr) (fun _ i _ => K - (RowKit.intOf i).toNat)
  case atStart => exact ⟨0, Nat.zero_le _, rfl, by rw [put_zero]; exact HP3.out, HR3.out, HF3.out.1⟩
  case round =>
    obtain ⟨j, hj, rfl, hp, hrw, hft⟩ := hrel
    by_cases hlt : j < K
    · obtain ⟨y, hy, y1, y5⟩ := HX.out.2.2 j hlt
      have hlen : f + j < (putF M.I f j 0).length := by rw [put_len (by rw [HX.out.2.1]; omega), HX.out.2.1]; omega
      have hyj : (putF M.I f j 0)[f + j]? = some y := by rw [put_get (by rw [HX.out.2.1]; omega), if_neg (by omega)]; exact hy
      have okj := HX.out.1.put (f := f) (n := j) (b := 0) (by rw [HX.out.2.1]; omega) (by omega) (by omega)
      obtain ⟨t1, t2⟩ := tuE_back hyj y1 y5
      rw [put_next (by rw [HX.out.2.1]; omega)] at t2
      obtain ⟨z, hz⟩ : ∃ z, z = f + j := ⟨_, rfl⟩
      rw [← hz] at t1 t2 hyj hlen
      have hv : isV (putF M.I f j 0) z = y := by
        unfold isV frB
        rw [decide_eq_true (by omega), if_pos rfl, Int.toNat_natCast, List.getD_eq_getElem?_getD, hyj]; rfl
      have hp1 := hp.drewN 1
      have hI := is_f hp1.frs z
      rw [hv] at hI
      have hT := turn_f hp1.frs okj z 1 y 0
      rw [t1, t2] at hT
      have hw2 : IntKind.i64.wrap ((f : Int) + (j : Int)) = (z : Int) := by rw [IntWalk.i64_in _ (by omega)]; omega
      have hw3 : IntKind.i64.wrap ((j : Int) + 1) = (j : Int) + 1 := IntWalk.i64_in _ (by omega)
      have S0 : (wr.drewN 1).cell? ⟨q, 2, none⟩ = some (.pointer (some ⟨p.s, 0, none⟩)) := (hrw.drewN 1).cell 2
      have j1 : (j : Int) < (K : Int) := by omega
      have HRW := Lib.hid (And.intro hrw hft)
      have HP := Lib.hid hp1
      have HJ := Lib.hid hlt
      clear hj hp hrw hft hy y1 y5 hlen hyj okj t1 t2 hz hv hp1 hlt
      go_wp2_with fail
      go_region_held3 (fun v => v.cell? ⟨q, 2, none⟩ = some (.pointer (some ⟨p.s, 0, none⟩)))
        (first | exact S0 | exact S4)
        (first | (go_at_call 38; refine hI.mono ?_; rintro e v4 ⟨rfl, rfl⟩) | (go_at_call 64; refine hT.mono ?_; rintro e w4 ⟨rfl, hl4, hf4, ht4⟩; have hr4 := ht4.row (HRW.out.1.drewN 1) (fun e => by rcases e with e | e; exact row_ne (HRW.out.1.drewN 1) HP.out.frs.top (by decide) e; exact row_ne (HRW.out.1.drewN 1) HP.out.frs.row (by decide) e); have S4 : w4.cell? ⟨q, 2, none⟩ = some (.pointer (some ⟨p.s, 0, none⟩)) := hr4.cell 2))
      all_goals
        have HN := Lib.hid (And.intro (HP.out.frsT hf4 ht4) (And.intro hr4 ((HRW.out.2.drewN 1).trans ht4 (fun q e _ => by rcases e with e | e; exact Or.inr (Or.inr (Or.inr (Or.inl e))); exact Or.inr (Or.inr (Or.inr (Or.inr (Or.inl e))))))))
        clear hl4 hf4 ht4 hr4 S4 S0 hI hT
        go_wp2_with fail
        go_roundw
        case rel => exact ⟨j + 1, HJ.out, by go_num, HN.out.1, HN.out.2.1, HN.out.2.2⟩
        case measure => simp [RowKit.intOf]; have := HJ.out; omega
    · obtain rfl : j = K := by omega
      have HD : Hid (PDid B p X n mk ⟨F', M.S, putF M.I f j 0, M.W⟩ w wr) := ⟨X3, hp, hft, HF3.out.2⟩
      clear hp hrw hft hj hlt
      go_wp2_with fail
      go_ret
      exact ⟨rfl, HD.out⟩
theorem drop_m (h : PmX B w p X n mk M) (ok : MeOk n M) {f : Int} (hf : Fits f) (o : Int) : Calls Tryz.prog 30 #[.pointer (some ⟨p.m, 0, none⟩), .int .i64 f, .int .i64 o] w fun e w' => e = .returned (.int .i64 (drE M f o)) ∧ PDid B p X n mk (drM M f o) w w' := by
  by_cases hE : chE M.F f o true = 0
  · obtain ⟨a, k, rfl, rfl, k8, al, hr, hq, hc⟩ := chE_ok hE
    have hm : drM M a k = ⟨chL M.F a k true, M.S, putF M.I a (2 ^ k) 0, M.W⟩ := by unfold drM drE; rw [if_pos hE, Int.toNat_natCast, Int.toNat_natCast]
    rw [show drE M a k = 0 from hE, hm]
    exact drop_ok h ok k8 (by rw [← ok.f]; exact hr) hq ⟨hE, rfl⟩
  · have hm : drM M f o = M := by unfold drM drE; rw [if_neg hE]
    rw [hm]
    exact drop_no h hf hE ⟨rfl, ch_no hE⟩
end
end Go.Proofs.YtklhcgekagimkaaGreat
