/- Package memory: Right, Drop. -/
import Derived.Test.YtklhcgekagimkaaGreatMg36
import Derived.Deep.RegionHeld3
namespace Go.Proofs.YtklhcgekagimkaaGreat
open Go.RowKit
theorem put_one (I : List Int) {q : Nat} (hq : q < I.length) (b : Int) : putF I q 1 b = I.set q b := by
  have h := put_next (I := I) (f := q) (m := 0) (by omega) b
  rw [put_zero, Nat.add_zero, Nat.zero_add] at h
  exact h.symm
theorem OkF.put {I : List Int} (h : OkF I) {f n : Nat} (hl : f + n ≤ I.length) {b : Int} (h0 : 0 ≤ b) (h1 : b ≤ 5) : OkF (putF I f n b) := by
  refine ⟨by rw [put_len hl]; exact h.l0, by rw [put_len hl]; exact h.l1, fun y hy => ?_⟩
  obtain ⟨j, hj⟩ := List.mem_iff_getElem?.1 hy
  rw [put_get hl] at hj
  split at hj
  · injection hj with hj; omega
  · exact h.is y (List.mem_of_getElem? hj)
theorem tuE_back {I : List Int} {q : Nat} {y : Int} (hq : I[q]? = some y) (h1 : 1 ≤ y) (h5 : y ≤ 5) : tuE I q 1 y 0 = 0 ∧ tuL I q 1 y 0 = I.set q 0 := by
  have hlt := (List.getElem?_eq_some_iff.1 hq).1
  have he : tuE I q 1 y 0 = 0 := by
    unfold tuE
    rw [if_neg, if_neg (by omega), if_neg, if_neg]
    · rw [Int.toNat_natCast, show (1 : Int).toNat = 1 from rfl]
      intro c
      unfold areF at c
      have := of_decide_eq_false c
      apply this
      intro i hi
      obtain rfl : i = 0 := by omega
      simpa using hq
    · unfold mayF; simp; omega
    · rintro (c | c | c)
      · omega
      · unfold isF at c; simp at c; omega
      · simp [isF] at c
  refine ⟨he, ?_⟩
  unfold tuL
  rw [if_pos he, Int.toNat_natCast, show (1 : Int).toNat = 1 from rfl, put_one _ hlt]
section
variable {X : Nat → Prop} {w w' : World} {B n mk : Nat} {p : Pn} {M : Me}
set_option maxHeartbeats 2000000 in
set_option maxRecDepth 100000 in
theorem right_mn (w : World) : Calls Tryz.prog 28 #[.pointer none] w fun e w' => e = .returned (.bool false) ∧ Below w.heap.size w w' := by
  have hL := lowr_nil w
  go_enter Tryz.func28, Tryz.ntmps28
  go_wp2_with fail
  refine hL.mono ?_
  rintro e w1 ⟨rfl, hb⟩
  obtain ⟨W2, hW⟩ : ∃ W2, W2 = w1.alloc (.cells #[.pointer none, .pointer none, .pointer none] 76) := ⟨_, rfl⟩
  obtain ⟨q, hq⟩ : ∃ q, q = w1.heap.size := ⟨_, rfl⟩
  have hr : Lrow W2 q 76 [.pointer none, .pointer none, .pointer none] := by rw [hW, hq]; exact Lrow.new w1 _ _
  have hb2 : Below w1.heap.size w1 W2 := by rw [hW]; exact below_new _ _
  have HB2 : Hid (Below w.heap.size w W2) := hb.trans (hb2.mono hb.size)
  have hI := len_nil W2
  have e2 := hr.cell 2
  have HW := Lib.hid (And.intro hW hq)
  clear hb hL hW hq hr hb2
  go_upto_region 2 with (fail)
  rw [← HW.out.1, ← HW.out.2]
  go_wp2_with (go_at_call 61; (with_reducible refine hI.mono ?_); rintro e w3 ⟨rfl, rfl⟩)
  go_loopw [10] (fun i wr => i = .int .i64 0 ∧ W2 = wr) (fun _ _ => 0)
  case atStart => exact ⟨rfl, rfl⟩
  case round =>
    obtain ⟨rfl, rfl⟩ := hrel
    go_wp2_with fail
    go_ret
    exact ⟨rfl, HB2.out⟩
set_option maxHeartbeats 4000000 in
set_option maxRecDepth 100000 in
theorem right_m (h : PmX B w p X n mk M) (ok : MeOk n M) : Calls Tryz.prog 28 #[.pointer (some ⟨p.m, 0, none⟩)] w fun e w' => e = .returned (.bool true) ∧ Below w.heap.size w w' := by
  have hL := lowr_any h
  have H := Lib.hid (And.intro h ok)
  have n1 := ok.hi
  clear h ok
  go_enter Tryz.func28, Tryz.ntmps28
  go_wp2_with fail
  refine hL.mono ?_
  rintro e w1 ⟨rfl, hb⟩
  obtain ⟨W2, hW⟩ : ∃ W2, W2 = w1.alloc (.cells #[.pointer (some ⟨p.a, 0, none⟩), .pointer (some ⟨p.k, 0, none⟩), .pointer (some ⟨p.s, 0, none⟩)] 76) := ⟨_, rfl⟩
  obtain ⟨q, hq⟩ : ∃ q, q = w1.heap.size := ⟨_, rfl⟩
  have hr : Lrow W2 q 76 [.pointer (some ⟨p.a, 0, none⟩), .pointer (some ⟨p.k, 0, none⟩), .pointer (some ⟨p.s, 0, none⟩)] := by rw [hW, hq]; exact Lrow.new w1 _ _
  have hb2 : Below w1.heap.size w1 W2 := by rw [hW]; exact below_new _ _
  have HB2 : Hid (Below w.heap.size w W2) := hb.trans (hb2.mono hb.size)
  have HP2 : Hid (PmX B W2 p X n mk M) := (H.out.1.call hb).call hb2
  have hI := len_f HP2.out.frs
  rw [H.out.2.i] at hI
  have e2 := hr.cell 2
  have HR := Lib.hid hr
  have HW := Lib.hid (And.intro hW hq)
  clear hb hL hW hq hr hb2
  go_upto_region 2 with (fail)
  rw [← HW.out.1, ← HW.out.2]
  go_wp2_with (go_at_call 61; (with_reducible refine hI.mono ?_); rintro e w3 ⟨rfl, rfl⟩)
  clear hI e2
  go_loopw [10] (fun i wr => ∃ j : Nat, j ≤ n ∧ i = .int .i64 j ∧ Below W2.heap.size W2 wr) (fun i _ => n - (RowKit.intOf i).toNat)
  case atStart => exact ⟨0, Nat.zero_le _, rfl, Below.refl _ _⟩
  case round =>
    obtain ⟨j, hj, rfl, hb⟩ := hrel
    by_cases hlt : j < n
    · have hrj := (HR.out.call hb).drewN 1
      have hpj := (HP2.out.call hb).drewN 1
      obtain ⟨y, hy⟩ : ∃ y, M.I[j]? = some y := ⟨_, List.getElem?_eq_getElem (by rw [H.out.2.i]; exact hlt)⟩
      have hv : isV M.I j = y := by
        unfold isV frB
        rw [decide_eq_true (by rw [H.out.2.i]; omega), if_pos rfl, Int.toNat_natCast, List.getD_eq_getElem?_getD, hy]; rfl
      have hh : hasB M.F j = (y == 0) := by
        have := H.out.2.fit j hlt
        unfold hasB
        rw [Int.toNat_natCast, decide_eq_true (by omega), Bool.true_and]
        rw [hy] at this
        by_cases c : y = 0
        · rw [this.2 (by rw [c]), c]; rfl
        · have hf : M.F[j]? ≠ some true := fun e => c (by have := this.1 e; injection this)
          have : (M.F[j]? == some true) = false := by simpa using hf
          rw [this]; simpa using c
      have hI : ∀ V, Below (wr.drewN 1).heap.size (wr.drewN 1) V → Calls Tryz.prog 38 #[.pointer (some ⟨p.s, 0, none⟩), .int .i64 j] V fun e w' => e = .returned (.int .i64 y) ∧ V = w' := fun V hV => by
        have := is_f (hpj.call hV).frs j
        rw [hv] at this
        exact this
      have hH := nHas hpj.kin j ⟨by omega, by omega⟩
      rw [hh] at hH
      have S0 : (wr.drewN 1).cell? ⟨q, 1, none⟩ = some (.pointer (some ⟨p.k, 0, none⟩)) ∧ (wr.drewN 1).cell? ⟨q, 2, none⟩ = some (.pointer (some ⟨p.s, 0, none⟩)) := ⟨hrj.cell 1, hrj.cell 2⟩
      have S1 : ∀ V, Below (wr.drewN 1).heap.size (wr.drewN 1) V → V.cell? ⟨q, 1, none⟩ = some (.pointer (some ⟨p.k, 0, none⟩)) ∧ V.cell? ⟨q, 2, none⟩ = some (.pointer (some ⟨p.s, 0, none⟩)) := fun V hV => ⟨(hrj.call hV).cell 1, (hrj.call hV).cell 2⟩
      have HB := Lib.hid hb
      have j1 : (j : Int) < n := by omega
      have hw3 : IntKind.i64.wrap ((j : Int) + 1) = (j : Int) + 1 := IntWalk.i64_in _ (by omega)
      clear hj hb hrj hpj hy hv hh
      go_wp2_with fail
      go_region_held3 (fun v => v.cell? ⟨q, 1, none⟩ = some (.pointer (some ⟨p.k, 0, none⟩)) ∧ v.cell? ⟨q, 2, none⟩ = some (.pointer (some ⟨p.s, 0, none⟩)))
        (first | exact S0 | exact S1 _ hb5)
        (first | (go_at_call 62; refine hH.mono ?_; rintro e w5 ⟨rfl, hb5⟩) | (go_at_call 38; refine (hI _ hb5).mono ?_; rintro e w6 ⟨rfl, rfl⟩))
      all_goals
        go_wp2_with fail
        go_roundw
        case rel => exact ⟨j + 1, by omega, by go_num, HB.out.trans ((below_dN (Below.refl _ _) 1).trans (Below.mono hb5 HB.out.size))⟩
        case measure => simp [RowKit.intOf]; omega
    · have HB := Lib.hid hb
      have j1 : ¬ (j : Int) < n := by omega
      clear hb hlt hj
      go_wp2_with fail
      go_ret
      exact ⟨rfl, HB2.out.trans (HB.out.mono HB2.out.size)⟩
end
end Go.Proofs.YtklhcgekagimkaaGreat
/- Package memory: Block, One. -/
namespace Go.Proofs.YtklhcgekagimkaaGreat
open Go.RowKit
section
variable {X : Nat → Prop} {w w' : World} {B n mk : Nat} {p : Pn} {M : Me}
/-- What was given by two calls in a row. -/
theorem PDid.trans {X' : Nat → Prop} {M' : Me} {w1 : World} (hf : Foot (MineP p X) w w1) (hx : ∀ q, X' q → X q ∨ w.heap.size ≤ q) (h : PDid B p X' n mk M' w1 w') : PDid B p X n mk M' w w' := by
  obtain ⟨X2, h1, h2, h3⟩ := h
  refine ⟨X2, h1, hf.trans h2 fun q e hq => ?_, fun q e => ?_⟩
  · rcases e with e | e | e | e | e | e
    · exact Or.inl e
    · exact Or.inr (Or.inl e)
    · exact Or.inr (Or.inr (Or.inl e))
    · exact Or.inr (Or.inr (Or.inr (Or.inl e)))
    · exact Or.inr (Or.inr (Or.inr (Or.inr (Or.inl e))))
    · rcases hx q e with e | e
      · exact Or.inr (Or.inr (Or.inr (Or.inr (Or.inr e))))
      · omega
  · rcases h3 q e with e | e
    · exact hx q e
    · exact Or.inr (Nat.le_trans hf.size e)
theorem PDid.first {M' : Me} {w1 : World} (hb : Below w.heap.size w w1) (h : PDid B p X n mk M' w1 w') : PDid B p X n mk M' w w' :=
  PDid.trans (Foot.of_below hb) (fun _ e => Or.inl e) h
theorem PDid.c1 {M' : Me} (h : PDid B p X n mk M' w w') : w'.cell? ⟨p.m, 1, none⟩ = some (.pointer (some ⟨p.k, 0, none⟩)) := by
  obtain ⟨_, h, _⟩ := h
  exact h.c1
theorem Foot.kinP {w1 : World} (hf : Foot X w w1) : Foot (MineP p X) w w1 := hf.mono fun _ e => Or.inr (Or.inr (Or.inr (Or.inr (Or.inr e))))
/-- What was taken is cleared and made so. -/
theorem after_take (h7 : PmX B w p X n mk M) (ok : MeOk n M) {F' : List Bool} {S' : List Nat} {f k : Nat} (k8 : k ≤ 8) (hr : f + 2 ^ k ≤ n) (hq : Alq M.F f (2 ^ k) true) {x : Int} (hx : isU x = true) {b0 b1 b2 : Nat}
    (hR : Lrow w b0 23 [.pointer (some ⟨p.m, 0, none⟩)] ∧ Lrow w b1 3 [.int .i64 k] ∧ Lrow w b2 3 [.int .i64 x]) (hN : ¬ X b0 ∧ ¬ X b1 ∧ ¬ X b2)
    {X8 : Nat → Prop} {w8 : World} (hK : Kn X8 B w8 p.k n F' S') (hf : Foot X w w8) (hn : ∀ q, X8 q → X q ∨ w.heap.size ≤ q) :
    w8.cell? ⟨p.m, 1, none⟩ = some (.pointer (some ⟨p.k, 0, none⟩)) ∧ Calls Tryz.prog 88 #[.int .i64 f, .int .i64 0, .pointer (some ⟨b0, 0, none⟩), .pointer (some ⟨b1, 0, none⟩), .pointer (some ⟨b2, 0, none⟩)] w8 fun e w' =>
      e = .returned (.tuple #[.int .i64 f, .int .i64 0]) ∧ PDid B p X n mk (gvM M F' S' f k x) w w' := by
  have h8 := h7.kinT hK hf hn
  refine ⟨h8.c1, (giveIt_ok h8 ok.ok ok.i k8 hr hx (ok.free_are hr hq) (hf.row hR.1 hN.1) (hf.row hR.2.1 hN.2.1) (hf.row hR.2.2 hN.2.2)).mono ?_⟩
  rintro e w' ⟨rfl, hd⟩
  exact ⟨rfl, PDid.trans hf.kinP hn hd⟩
theorem after_none (h7 : PmX B w p X n mk M) {E : Int} (hE : E ≠ 0) (V : Int) (b0 b1 b2 : Nat)
    {X8 : Nat → Prop} {w8 : World} (hK : Kn X8 B w8 p.k n M.F M.S) (hf : Foot X w w8) (hn : ∀ q, X8 q → X q ∨ w.heap.size ≤ q) :
    w8.cell? ⟨p.m, 1, none⟩ = some (.pointer (some ⟨p.k, 0, none⟩)) ∧ Calls Tryz.prog 88 #[.int .i64 V, .int .i64 E, .pointer (some ⟨b0, 0, none⟩), .pointer (some ⟨b1, 0, none⟩), .pointer (some ⟨b2, 0, none⟩)] w8 fun e w' =>
      e = .returned (.tuple #[.int .i64 0, .int .i64 E]) ∧ PDid B p X n mk M w w' := by
  have h8 := h7.kinT hK hf hn
  refine ⟨h8.c1, (giveIt_no hE V b0 b1 b2 w8).mono ?_⟩
  rintro e w' ⟨rfl, rfl⟩
  exact ⟨rfl, X8, h8, hf.kinP, hn⟩
/-- The boxes beside a memory. -/
theorem boxes_out (h : PmX B w p X n mk M) (w1 : World) (hb : Below w.heap.size w w1) (m : Nat) (o x : Int) : PmX B (boxed w1 m o x) p X n mk M ∧ (¬ X w1.heap.size ∧ ¬ X (w1.heap.size + 1) ∧ ¬ X (w1.heap.size + 1 + 1)) ∧ Below w.heap.size w (boxed w1 m o x) := by
  have h1 := h.call hb
  refine ⟨h1.call (boxed_below _ _ _ _), ⟨fun e => ?_, fun e => ?_, fun e => ?_⟩, hb.trans ((boxed_below _ _ _ _).mono hb.size)⟩
  all_goals have := (h1.kin.lo _ e).2; omega
set_option maxHeartbeats 4000000 in
set_option maxRecDepth 100000 in
theorem block_bad (p : Pn) (w : World) {o kd x : Int} (hb : okB o kd = false ∨ isU x = false) : Calls Tryz.prog 32 #[.pointer (some ⟨p.m, 0, none⟩), .int .i64 o, .int .i64 kd, .int .i64 x] w fun e w' => e = .returned (.tuple #[.int .i64 0, .int .i64 2]) ∧ w = w' := by
  have hu := isUse_any x w
  rcases (show o < 0 ∨ (¬ o < 0 ∧ 8 < o) ∨ (¬ o < 0 ∧ ¬ 8 < o ∧ kd < 0) ∨ (¬ o < 0 ∧ ¬ 8 < o ∧ ¬ kd < 0 ∧ 2 < kd) ∨ (¬ o < 0 ∧ ¬ 8 < o ∧ ¬ kd < 0 ∧ ¬ 2 < kd ∧ isU x = false) by
    rcases hb with hb | hb
    · unfold okB at hb; have := of_decide_eq_false hb; omega
    · by_cases c1 : o < 0
      · exact Or.inl c1
      · by_cases c2 : 8 < o
        · exact Or.inr (Or.inl ⟨c1, c2⟩)
        · by_cases c3 : kd < 0
          · exact Or.inr (Or.inr (Or.inl ⟨c1, c2, c3⟩))
          · by_cases c4 : 2 < kd
            · exact Or.inr (Or.inr (Or.inr (Or.inl ⟨c1, c2, c3, c4⟩)))
            · exact Or.inr (Or.inr (Or.inr (Or.inr ⟨c1, c2, c3, c4, hb⟩)))) with c1 | ⟨c1, c2⟩ | ⟨c1, c2, c3⟩ | ⟨c1, c2, c3, c4⟩ | ⟨c1, c2, c3, c4, c5⟩
  case' inr.inr.inr.inr => rw [c5] at hu; clear c5
  all_goals
    clear hb
    go_enter Tryz.func32, Tryz.ntmps32
    go_wp2_with (go_at_call 65; (with_reducible refine hu.mono ?_); rintro e w1 ⟨rfl, rfl⟩)
    go_ret2
    exact ⟨rfl, rfl⟩
set_option maxHeartbeats 4000000 in
set_option maxRecDepth 100000 in
theorem block_few (h : PmX B w p X n mk M) (ok : MeOk n M) (hk : mk ≤ n) {k c : Nat} (k8 : k ≤ 8) (c2 : c ≤ 2) {x : Int} (hx : isU x = true) (hc : (spN M mk : Nat) < 2 ^ k) : Calls Tryz.prog 32 #[.pointer (some ⟨p.m, 0, none⟩), .int .i64 k, .int .i64 c, .int .i64 x] w fun e w' => e = .returned (.tuple #[.int .i64 0, .int .i64 8]) ∧ Below w.heap.size w w' := by
  have hu := isUse_any x w
  rw [hx] at hu
  have hS := spare_m (h.drewN 1) hk
  obtain ⟨s, hs⟩ : ∃ s, s = spN M mk := ⟨_, rfl⟩
  rw [← hs] at hS
  have s1 : s ≤ 1024 := by rw [hs]; have := spN_le M mk ok.kin; have := ok.f; have := ok.hi; omega
  obtain ⟨K, hK⟩ : ∃ K : Nat, K = 2 ^ k := ⟨_, rfl⟩
  have K2 : K ≤ 256 := by rw [hK]; exact Nat.pow_le_pow_right (by omega : 0 < 2) k8
  have hsv : Value.int .i64 (wrap64 (2 ^ k)) = Value.int .i64 (K : Int) := by rw [two_zpow, ← hK]; congr 1; unfold wrap64; omega
  have hsv2 : IntKind.i64.wrap (2 ^ k) = (K : Int) := by rw [two_zpow, ← hK]; exact IntWalk.i64_in _ (by omega)
  have t1 : ¬ (k : Int) < 0 := by omega
  have t2 : ¬ (8 : Int) < k := by omega
  have t3 : ¬ (c : Int) < 0 := by omega
  have t4 : ¬ (2 : Int) < c := by omega
  rw [← hs, ← hK] at hc
  have hlt : (s : Int) < (K : Int) := by omega
  clear h ok hx hs hK k8 c2 hc
  go_enter Tryz.func32, Tryz.ntmps32
  go_wp2_with (go_at_call 65; (with_reducible refine hu.mono ?_); rintro e w1 ⟨rfl, rfl⟩)
  go_region_held3 (fun _ => True) (first | exact trivial) (first | (go_at_call 18; refine hS.mono ?_; rintro e w5 ⟨rfl, hb5⟩))
  all_goals
    go_wp2_with fail
    go_ret2
    exact ⟨rfl, (below_dN (Below.refl _ _) 1).trans hb5⟩
end
end Go.Proofs.YtklhcgekagimkaaGreat
