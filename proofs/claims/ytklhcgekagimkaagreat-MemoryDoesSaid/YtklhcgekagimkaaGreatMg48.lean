/- Memory, without the program: a frame is given while some is spare; what is given is clear. -/
import Derived.Test.YtklhcgekagimkaaGreatMg47
import Derived.Deep.RegionHeld3
namespace Go.Proofs.YtklhcgekagimkaaGreat
open Go.RowKit
section
variable {M : Me} {n mk : Nat}
theorem stP_kind {F : List Bool} {S : List Nat} {o kd : Nat} (hk : kd ≤ 2) : ∀ (i : Nat) {x : Nat × Nat}, stP F S o kd i = some x → knd S x.1 ≤ 2
  | 0, x, h => by rw [fnd_kind h]; exact hk
  | i + 1, x, h => by
    unfold stP at h
    split at h
    · rename_i y hy
      injection h with h
      subst h
      exact stP_kind hk i hy
    · rw [fnd_kind h]; exact nxt_le kd i
theorem stP_no {F : List Bool} {S : List Nat} {o kd i : Nat} (h : stP F S o kd (i + 1) = none) : stP F S o kd i = none ∧ fnd S o (nxt kd i) true (pcs F S) = none := by
  unfold stP at h
  split at h
  · cases h
  · rename_i hy
    exact ⟨hy, h⟩
/-- A free frame that is not isolated. -/
theorem fr_some (M : Me) (h : 0 < frO M.F M.S 0 + frO M.F M.S 1 + frO M.F M.S 2) : ∃ i, M.F[i]? = some true ∧ knd M.S i ≠ 3 := by
  refine Classical.byContradiction fun hc => ?_
  have key : ∀ kd : Int, kd ≠ 3 → frO M.F M.S kd = 0 := by
    intro kd hkd
    unfold frO
    have := cnR_const (p := frP M.F M.S kd) (a := 0) (m := M.F.length) (v := false) fun i _ => ?_
    · rw [this]; rfl
    · rw [Nat.zero_add]
      unfold frP kdP
      by_cases c : M.F[i]? = some true
      · have h3 : knd M.S i = 3 := Classical.byContradiction fun e => hc ⟨i, c, e⟩
        rw [h3, c]
        simp
        omega
      · have : (M.F[i]? == some true) = false := by simpa using c
        rw [this]; rfl
  rw [key 0 (by decide), key 1 (by decide), key 2 (by decide)] at h
  omega
theorem kt_found (h : MeOk n M) {kd : Nat} (hk : kd ≤ 2) (hs : 0 < frO M.F M.S 0 + frO M.F M.S 1 + frO M.F M.S 2) : ∃ x, ktP M.F M.S 0 kd = some x := by
  obtain ⟨i, hi, h3⟩ := fr_some M hs
  obtain ⟨y, hy, y1, y2⟩ := pcs_cover M.S hi
  have hy3 : knd M.S y.1 ≠ 3 := fun e => h3 ((pcs_kind hy y1 y2).2 e)
  have hyl := knd_le h.kin y.1
  cases hp : ktP M.F M.S 0 kd with
  | some x => exact ⟨x, rfl⟩
  | none =>
    rw [chs_fnd] at hp
    obtain ⟨p1, f2⟩ := stP_no hp
    obtain ⟨p0, f1⟩ := stP_no p1
    have hl := (pcs_rise M.F M.S).less
    have e0 := (fnd_spec M.S 0 kd false (pcs M.F M.S) hl).1 p0 y hy
    have e1 := (fnd_spec M.S 0 (nxt kd 0) true (pcs M.F M.S) hl).1 f1 y hy
    have e2 := (fnd_spec M.S 0 (nxt kd 1) true (pcs M.F M.S) hl).1 f2 y hy
    exfalso
    obtain rfl | rfl | rfl : kd = 0 ∨ kd = 1 ∨ kd = 2 := by omega
    all_goals
      simp [nxt] at e0 e1 e2
      omega
/-- What a taking of one frame takes. -/
theorem kt_taken (h : MeOk n M) {kd : Nat} (hk : kd ≤ 2) {x : Nat × Nat} (hx : ktP M.F M.S 0 kd = some x) :
    ktE M.F M.S 0 kd = 0 ∧ ktV M.F M.S 0 kd = x.1 ∧ x.1 < n ∧ ktF M.F M.S 0 kd = setR M.F x.1 1 false ∧ M.F[x.1]? = some true ∧ frO (ktF M.F M.S 0 kd) (ktS M.F M.S 0 kd) 3 = frO M.F M.S 3 := by
  obtain ⟨q1, q2, q3, q4⟩ := ktk_some (o := 0) (by omega) hk hx
  obtain ⟨r1, r2, r3, r4, r5⟩ := ktP_fre hx
  have hn : x.1 < n := by rw [h.f, Nat.pow_zero] at r5; omega
  have hft : M.F[x.1]? = some true := r4.2 x.1 (Nat.le_refl _) (by simp)
  have hk3 : knd M.S x.1 ≤ 2 := by rw [chs_fnd] at hx; exact stP_kind hk 2 hx
  refine ⟨q1, q2, hn, q3, hft, ?_⟩
  have hlen : (ktF M.F M.S 0 kd).length = M.F.length := ktF_length _ _ _ _
  unfold frO
  rw [hlen]
  refine cnR_congr fun i hi => ?_
  rw [Nat.zero_add]
  have hF : (ktF M.F M.S 0 kd)[i]? = if x.1 ≤ i ∧ i < x.1 + 1 then some false else M.F[i]? := by
    rw [show ktF M.F M.S 0 kd = setR M.F x.1 1 false from q3]
    exact setR_get _ _ _ _ (by rw [h.f]; omega) i
  have hS : knd (ktS M.F M.S 0 kd) i = knd M.S i ∨ (i / 8 = x.1 / 8 ∧ knd (ktS M.F M.S 0 kd) i = kd) := by
    rw [show ktS M.F M.S 0 kd = _ from q4]
    split
    · have hu : upr x.1 0 - x.1 / 8 = 1 := by unfold upr; simp
      rw [hu]
      have hg := setS_get M.S (x.1 / 8) 1 kd (by rw [h.s]; omega) (i / 8)
      unfold knd
      rw [List.getD_eq_getElem?_getD, hg]
      by_cases c : i / 8 = x.1 / 8
      · rw [if_pos (by omega)]; exact Or.inr ⟨c, rfl⟩
      · rw [if_neg (by omega), ← List.getD_eq_getElem?_getD]; exact Or.inl rfl
    · exact Or.inl rfl
  unfold frP kdP
  rw [hF]
  by_cases c : i = x.1
  · subst c
    rw [if_pos (by omega)]
    have : (((knd M.S x.1 : Nat) : Int) == 3) = false := by simp; omega
    rw [this]; simp
  · rw [if_neg (by omega)]
    rcases hS with e | ⟨e1, e2⟩
    · rw [e]
    · have h1 : (((knd (ktS M.F M.S 0 kd) i : Nat) : Int) == 3) = false := by rw [e2]; simp; omega
      have h2 : (((knd M.S i : Nat) : Int) == 3) = false := by
        have : knd M.S i = knd M.S x.1 := by unfold knd; rw [e1]
        rw [this]; simp; omega
      rw [h1, h2]
theorem sp_count (M : Me) (mk : Nat) (h : ∀ x ∈ M.S, x ≤ 3) : spN M mk = M.F.count true - frO M.F M.S 3 - mk := by rw [fr_spare M h]; rfl
/-- One frame: refused only if none is spare; else one less is. -/
theorem one_none {kd : Nat} (hk : kd ≤ 2) (hs : spN M mk = 0) : blE M mk 0 kd 2 = 8 := by
  unfold blE
  rw [if_neg, if_pos]
  · rw [hs, show (0 : Int).toNat = 0 from rfl]; decide
  · rintro (c | c)
    · have := okB_nat (o := 0) (kd := kd) (by omega) hk
      rw [show ((0 : Nat) : Int) = 0 from rfl] at this
      rw [c] at this; cases this
    · exact absurd c (by decide)
theorem one_some (h : MeOk n M) {kd : Nat} (hk : kd ≤ 2) (hs : 0 < spN M mk) : ∃ f : Nat, f < n ∧ blE M mk 0 kd 2 = 0 ∧ blV M mk 0 kd 2 = f ∧ spN (blM M mk 0 kd 2) mk + 1 = spN M mk ∧ isV (blM M mk 0 kd 2).I f = 2 ∧ (blM M mk 0 kd 2).W = zeL M.W f 1 := by
  obtain ⟨x, hx⟩ := kt_found h hk (by unfold spN at hs; omega)
  obtain ⟨t1, t2, t3, t4, t5, t6⟩ := kt_taken h hk hx
  have he : blE M mk 0 kd 2 = 0 := by
    unfold blE
    rw [if_neg, if_neg]
    · exact t1
    · rw [show (0 : Int).toNat = 0 from rfl]; simp; omega
    · rintro (c | c)
      · have := okB_nat (o := 0) (kd := kd) (by omega) hk
        rw [show ((0 : Nat) : Int) = 0 from rfl] at this
        rw [c] at this; cases this
      · exact absurd c (by decide)
  have hm : blM M mk 0 kd 2 = gvM M (ktF M.F M.S 0 kd) (ktS M.F M.S 0 kd) x.1 0 2 := by
    unfold blM
    rw [if_pos he, t2, Int.toNat_natCast, show (0 : Int).toNat = 0 from rfl]
  refine ⟨x.1, t3, he, by unfold blV; rw [if_pos he, t2], ?_, ?_, by rw [hm]; rfl⟩
  · rw [hm, sp_count _ mk (show ∀ y ∈ (gvM M (ktF M.F M.S 0 kd) (ktS M.F M.S 0 kd) x.1 0 2).S, y ≤ 3 from ktS_le h.kin _ _), sp_count M mk h.kin] 
    have hc : (ktF M.F M.S 0 kd).count true + 1 = M.F.count true := by
      rw [t4]
      have hal : Alq M.F x.1 1 (!false) := by
        intro i h1 h2
        obtain rfl : i = x.1 := by omega
        exact t5
      exact count_setR (F := M.F) (a := x.1) (v := false) (m := 1) (by rw [h.f]; omega) hal
    rw [sp_count M mk h.kin] at hs
    show (ktF M.F M.S 0 kd).count true - frO (ktF M.F M.S 0 kd) (ktS M.F M.S 0 kd) 3 - mk + 1 = _
    rw [t6]
    omega
  · rw [hm]
    refine isV_at ?_
    show (putF M.I x.1 (2 ^ 0) 2)[x.1]? = some 2
    rw [put_get (by rw [h.i]; simp; omega), if_pos (by simp)]
/-- What is given is clear. -/
theorem ze_clear {W : List Int} {f i : Nat} (hl : W.length = n * 8) (hf : f < n) (hi : i < 8) (n1 : n ≤ 1024) : ldV (zeL W f 1) (64 * f + 8 * i) = 0 ∧ errW (n * 8) (64 * f + 8 * i) = 0 := by
  have hz : errZ W.length f 1 = 0 := by
    rw [hl]
    have := errZ_zero (n := n) (f := f) (m := 1) (by omega) (by omega)
    exact this
  have hzl : zeL W f 1 = splice W (f * 8) (List.replicate 8 0) := by
    unfold zeL
    rw [if_pos hz, Int.toNat_natCast]; rfl
  have hw : errW (n * 8) (64 * f + 8 * i) = 0 := by
    unfold errW
    rw [if_neg (by omega), if_pos (by omega)]
  refine ⟨?_, hw⟩
  have hlen : (splice W (f * 8) (List.replicate 8 (0 : Int))).length = n * 8 := by rw [length_splice _ _ _ (by rw [List.length_replicate]; omega), hl]
  rw [hzl]
  unfold ldV
  rw [hlen, if_pos hw, show ((64 : Int) * f + 8 * i).toNat / 8 = f * 8 + i by omega, List.getD_eq_getElem?_getD, splice_get _ _ _ (by rw [List.length_replicate]; omega), if_neg (by omega), if_pos (by rw [List.length_replicate]; omega), List.getElem?_replicate, if_pos (by omega)]
  rfl
end
end Go.Proofs.YtklhcgekagimkaaGreat
/- Memory: MemoryApart, walked. -/
namespace Go.Proofs.YtklhcgekagimkaaGreat
open Go.RowKit
def EW : Enc Tryz.prog Int where
  enc x := [.int .u64 x]
  sz := 1
  el := 34
  sl := 40
  zero := .int .u64 0
  bytes := 8
  len _ := rfl
  one a u h := by
    simp only [List.mem_cons, List.not_mem_nil, or_false] at h
    rcases h with rfl
    rfl
  pos := by decide
  zsz := rfl
  und := by kernel_rfl
  info := by kernel_rfl
  small := by decide
theorem EW_cells (L : List Int) : EW.cells L = wcells L := by
  unfold wcells
  induction L with
  | nil => rfl
  | cons x r ih => rw [Enc.cells_cons, ih]; rfl
theorem ld_at {W : List Int} {n i q : Nat} (hl : W.length = n * 8) (hi : i < n) (hq : q < 8) : ldV W (64 * i + 8 * q) = W.getD (8 * i + q) 0 ∧ errW (n * 8) (64 * i + 8 * q) = 0 := by
  have hw : errW (n * 8) (64 * i + 8 * q) = 0 := by
    unfold errW
    rw [if_neg (by omega), if_pos (by omega)]
  refine ⟨?_, hw⟩
  unfold ldV
  rw [hl, if_pos hw, show ((64 : Int) * i + 8 * q).toNat / 8 = 8 * i + q by omega]
/-- What is given changes no frame that was given ahead. -/
theorem ap_in {n mk : Nat} {M : Me} (h : MeOk n M) (hl : M.W.length = n * 8) {o kd x : Int} (he : blE M mk o kd x = 0) : ∃ f k : Nat, o = k ∧ k ≤ 8 ∧ blV M mk o kd x = f ∧ f + 2 ^ k ≤ n ∧ (∀ i : Nat, f ≤ i → i < f + 2 ^ k → M.I[i]? = some 0) ∧
    (∀ i : Nat, ¬ (f ≤ i ∧ i < f + 2 ^ k) → (blM M mk o kd x).I[i]? = M.I[i]? ∧ ∀ q, q < 8 → i < n → (blM M mk o kd x).W.getD (8 * i + q) 0 = M.W.getD (8 * i + q) 0) := by
  have hm : blM M mk o kd x = gvM M (ktF M.F M.S o kd) (ktS M.F M.S o kd) (ktV M.F M.S o kd).toNat o.toNat x := by unfold blM; rw [if_pos he]
  have hv : blV M mk o kd x = ktV M.F M.S o kd := by unfold blV; rw [if_pos he]
  have hE : ktE M.F M.S o kd = 0 := by
    unfold blE at he
    split at he
    · omega
    · split at he
      · omega
      · exact he
  obtain ⟨k, f, c, rfl, rfl, k8, c2, hV, hr, hq, hF⟩ := kt_ok hE
  rw [h.f] at hr
  refine ⟨f, k, rfl, k8, by rw [hv, hV], hr, fun i h1 h2 => ?_, fun i hi => ?_⟩
  · exact (h.fit i (by omega)).1 (hq.2 i h1 h2)
  · rw [hm, hV, Int.toNat_natCast, Int.toNat_natCast]
    refine ⟨?_, fun q hq8 hin => ?_⟩
    · show (putF M.I f (2 ^ k) x)[i]? = _
      rw [put_get (by rw [h.i]; exact hr), if_neg hi]
    · show (zeL M.W f ((2 ^ k : Nat) : Int)).getD _ 0 = _
      have hz : errZ M.W.length f ((2 ^ k : Nat) : Int) = 0 := by rw [hl]; exact errZ_zero (two_pos k) hr
      unfold zeL
      rw [if_pos hz, Int.toNat_natCast, Int.toNat_natCast, List.getD_eq_getElem?_getD, List.getD_eq_getElem?_getD, splice_get _ _ _ (by rw [List.length_replicate]; omega), List.length_replicate]
      by_cases c : 8 * i + q < f * 8
      · rw [if_pos c]
      · rw [if_neg c, if_neg (by omega)]
theorem getD_in {α : Type} {L : List α} {d : α} {j : Nat} (h : j < L.length) : L[j]? = some (L.getD j d) := by rw [List.getD_eq_getElem?_getD, List.getElem?_eq_getElem h]; rfl
theorem RmX.at2 {w : World} {B n mk : Nat} {r : Rn} {M : Me} {g c : Nat} (h : RmX B w r (.slice (some ⟨g, 0, none⟩) n c) n mk M) (hl : M.I.length = n) {j : Nat} (hj : j < n) {y : Int} (hy : M.I[j]? = some y) : w.cell? ⟨g, j, none⟩ = some (.int .i64 y) := by
  rw [h.at_ hl hj, (List.getElem?_eq_some_iff.1 hy).2]
/-- Which frames are given. -/
structure ApS (k : Nat) (M M' : Me) (E V o : Int) (b : Nat → Bool) : Prop where
  le : ∀ i, i < k → b i = true → M.I[i]? = some 0
  no : ∀ i, i < k → b i = false → isV M'.I i = M.I.getD i 0 ∧ ∀ q : Nat, q < 8 → ldV M'.W (64 * i + 8 * q) = M.W.getD (8 * i + q) 0 ∧ errW (k * 8) (64 * i + 8 * q) = 0
theorem ap_s {k mk : Nat} {M : Me} (h : MeOk k M) (hl : M.W.length = k * 8) (hl2 : ∀ o kd x, (blM M mk o kd x).W.length = k * 8) (o kd x : Int) :
    (blE M mk o kd x ≠ 0 ∧ ApS k M (blM M mk o kd x) (blE M mk o kd x) (blV M mk o kd x) o (fun _ => false)) ∨
    (blE M mk o kd x = 0 ∧ ∃ f z : Nat, o = z ∧ z ≤ 8 ∧ blV M mk o kd x = f ∧ f + 2 ^ z ≤ k ∧ ApS k M (blM M mk o kd x) 0 f o (fun i => decide (f ≤ i ∧ i < f + 2 ^ z))) := by
  by_cases he : blE M mk o kd x = 0
  · obtain ⟨f, z, h1, h2, h3, h4, h5, h6⟩ := ap_in h hl he
    refine Or.inr ⟨he, f, z, h1, h2, h3, h4, fun i hi hb => ?_, fun i hi hb => ?_⟩
    · have := of_decide_eq_true hb
      exact h5 i this.1 this.2
    · have hn := of_decide_eq_false hb
      obtain ⟨q1, q2⟩ := h6 i hn
      refine ⟨isV_at (by rw [q1]; exact getD_in (by rw [h.i]; exact hi)), fun q hq => ?_⟩
      obtain ⟨l1, l2⟩ := ld_at (W := (blM M mk o kd x).W) (hl2 o kd x) hi hq
      exact ⟨by rw [l1]; exact q2 q hq hi, l2⟩
  · have hm : blM M mk o kd x = M := by unfold blM; rw [if_neg he]
    refine Or.inl ⟨he, fun i hi hb => (by cases hb), fun i hi hb => ?_⟩
    rw [hm]
    exact ⟨isV_at (getD_in (by rw [h.i]; exact hi)), fun q hq => ld_at hl hi hq⟩
set_option maxHeartbeats 16000000 in
set_option maxRecDepth 100000 in
theorem apart_walk (A : Option Addr) (n c : Nat) (a : Ac) (w0 : World) (hA00 : Acs w0 w0.heap.size A n) :
    Calls Tryz.prog 7 #[.slice A n c, .agg #[.int .i64 a.k, .int .i64 a.f, .int .i64 a.o, .int .i64 a.a, .int .i64 a.t, .int .i64 a.n]] w0 fun e w' => e = .returned (.bool true) ∧ Below w0.heap.size w0 w' := by
  obtain ⟨K, Fr, Or, Of, Is, N⟩ := a
  dsimp only
  obtain ⟨w, hW0⟩ : ∃ W0, W0 = w0.alloc (.cells #[.int .i64 K, .int .i64 Fr, .int .i64 Or, .int .i64 Of, .int .i64 Is, .int .i64 N] 59) := ⟨_, rfl⟩
  obtain ⟨q, hq⟩ : ∃ q, q = w0.heap.size := ⟨_, rfl⟩
  have g00 : Below w0.heap.size w0 w := by rw [hW0]; exact below_new _ _
  have rs : Lrow w q 59 [.int .i64 K, .int .i64 Fr, .int .i64 Or, .int .i64 Of, .int .i64 Is, .int .i64 N] := by rw [hW0, hq]; exact Lrow.new w0 _ _
  have HRS := Lib.hid rs
  have HG0 := Lib.hid g00
  obtain ⟨k, hk⟩ : ∃ k : Nat, k = 64 := ⟨_, rfl⟩
  have hA : Acs w w.heap.size A n := fun hn => by
    obtain ⟨p, e, hl, hc⟩ := (hA00.below g00) hn
    exact ⟨p, e, Nat.lt_of_lt_of_le hl g00.size, hc⟩
  obtain ⟨L, hL, hA⟩ := hA.list
  have hmade := made_any (m := 64) (k := k) (mk := 0) (by rw [hk]; decide) (by omega) (by omega) (by omega) A n c w.heap.size L w hL hA (Nat.le_refl _)
  have hok := mdE_ok (k := k) (by omega) (by omega) 0 L
  generalize mdE k 0 L = M at *
  have HOK := Lib.hid (And.intro hok hk)
  have HW := Lib.hid (And.intro hW0 hq)
  have hmade : Calls Tryz.prog 9 #[.int .i64 64, .int .i64 0, .slice A n c] w fun e w' => ∃ p r, e = .returned (.tuple #[.pointer (some ⟨p.m, 0, none⟩), .pointer (some ⟨r.x, 0, none⟩), .bool true]) ∧ StE w.heap.size w' p r k 0 M ∧ Below w.heap.size w w' := hmade
  clear hW0 hq g00 rs hA00 hA hL hk hok
  go_enter Tryz.func7, Tryz.ntmps7
  go_upto_region 1 with (fail)
  rw [← HW.out.1, ← HW.out.2]
  go_wp2_with fail
  refine hmade.mono ?_
  rintro e w1 ⟨p, r, rfl, hst, hb1⟩
  have HS1 := Lib.hid (And.intro hst hb1)
  have h2 := awake_any w1
  clear hmade hst hb1
  go_wp2_with fail
  refine h2.mono ?_
  rintro e w2 ⟨rfl, hb2⟩
  have HB2 := Lib.hid (HS1.out.2.trans (hb2.mono HS1.out.2.size))
  obtain ⟨X, v, hp, hr, hd⟩ := HS1.out.1.call hb2
  obtain ⟨g, cc, rfl, hvb⟩ := hr.form HOK.out.1.i (by have := HOK.out.2; omega)
  -- the words of the reference, once more
  obtain ⟨W1, hW1⟩ : ∃ W1, W1 = w2.alloc (.cells #[] 34) := ⟨_, rfl⟩
  have hbn : Below w2.heap.size w2 W1 := by rw [hW1]; exact below_new _ _
  have hmd : EW.Own w2.heap.size W1 (.slice (some ⟨w2.heap.size, 0, none⟩) 0 0) [] := by rw [hW1]; exact own_made EW w2
  have hr1 := hr.call hbn
  obtain ⟨wl, hwl⟩ : ∃ wl, wl = M.W.length := ⟨_, rfl⟩
  have hwl2 : wl = k * 8 := by rw [hwl]; exact hr.ram.len
  obtain ⟨A2, c2, W2, r2, o2, g2, -⟩ := hmd.app hbn.size ⟨r.d, 0, none⟩ (k * 8) M.W (by
    intro j u hu
    rw [EW_cells] at hu
    rw [addr_add]
    exact (show Lrow W1 r.d _ _ from hr1.ram.row).cell j |>.trans hu) (by rw [List.length_nil]; have := HOK.out.2; omega)
  have r2' := r2 _ rfl
  rw [List.nil_append] at o2
  simp only [List.length_nil, Nat.zero_add] at r2' o2
  change (Builtin.append_ #[40, 40] 40 _).run Tryz.prog W1 = _ at r2'
  have hb3 : Below w2.heap.size w2 W2 := hbn.grown g2 hbn.size (fun k e => by injection e with e; change w2.heap.size = k at e; omega)
  obtain ⟨gw, hA2, hgw, -, -, -⟩ := o2.some_ (by have := HOK.out.2; omega)
  obtain ⟨rest, hrow, -⟩ := own_rowK o2 hA2
  subst hA2
  rw [← hwl] at r2'
  have c0 : w2.cell? ⟨r.x, 1, none⟩ = some (.pointer (some ⟨r.c, 0, none⟩)) := hr.c1
  have e0 : w2.cell? ⟨r.c, 0, none⟩ = some (.slice (some ⟨r.d, 0, none⟩) wl wl) := by rw [hwl2]; exact hr.ram.field
  have c1 : W1.cell? ⟨r.x, 1, none⟩ = some (.pointer (some ⟨r.c, 0, none⟩)) := hr1.c1
  have e1 : W1.cell? ⟨r.c, 0, none⟩ = some (.slice (some ⟨r.d, 0, none⟩) wl wl) := by rw [hwl2]; exact hr1.ram.field
  rw [← hwl2] at r2'
  rw [hW1] at r2' c1 e1
  have H2 := Lib.hid (And.intro (hp.call hb3) (And.intro (hr.call hb3) (And.intro hd (And.intro hrow (And.intro hgw (fun (q : Nat) (h : MineP p X q) => (hp.mine h).2))))))
  have HB3 := Lib.hid (HB2.out.trans (hb3.mono HB2.out.size))
  have HLEN := Lib.hid (And.intro hwl hwl2)
  have rs2 := HRS.out.call HB3.out
  have q2 := rs2.cell 2
  have q3 := rs2.cell 3
  have q4 := rs2.cell 4
  have HQ : Hid (q < w.heap.size) := HRS.out.lt
  clear h2 hb2 hp hr hd hvb hmd hbn o2 g2 r2 hr1 hb3 hrow hgw hwl hwl2 hW1 rs2
  go_wp2_with (at_builtin; refine wpList_append_run rfl _ _ 40 rfl (.slice (some ⟨w2.heap.size, 0, none⟩) 0 0) (.slice (some ⟨r.d, 0, none⟩) wl wl) rfl rfl r2' ?_)
  have hB := block_m H2.out.1 HOK.out.1 (Nat.zero_le _) Or Of Is
  have hWL : ∀ o kd x, (blM M 0 o kd x).W.length = k * 8 := fun o kd x => by
    unfold blM gvM zeL
    split
    · simp only
      split
      · rename_i hz
        rw [length_splice _ _ _ (by
          rw [List.length_replicate]
          unfold errZ errF at hz
          split at hz
          · omega
          · split at hz
            · omega
            · omega)]
        exact HLEN.out.1 ▸ HLEN.out.2
      · exact HLEN.out.1 ▸ HLEN.out.2
    · exact HLEN.out.1 ▸ HLEN.out.2
  rcases ap_s HOK.out.1 (HLEN.out.1 ▸ HLEN.out.2) hWL Or Of Is with ⟨hE, hap⟩ | ⟨hE, f, z, ho, hz8, hv, hfz, hap⟩
  · have hE' : (blE M 0 Or Of Is == 0) = false := by simpa using hE
    clear hE hWL
    generalize blE M 0 Or Of Is = E at *
    generalize blV M 0 Or Of Is = V at *
    generalize blM M 0 Or Of Is = M' at *
    have HAP := Lib.hid hap
    clear hap
    refine hB.mono ?_
    rintro e w4 ⟨rfl, hd4⟩
    have hb4 := PDid.below H2.out.1 hd4
    obtain ⟨X4, hp4, hf4, hx4⟩ := hd4
    have hr4 := H2.out.2.1.foot hf4 fun q hq e => H2.out.2.2.1 q e hq
    have rs4 := hf4.row (HRS.out.call HB3.out) fun e => by have := (H2.out.1.mine e).1; have := HQ.out; omega
    have rg4 := hf4.row H2.out.2.2.2.1 fun e => by have := H2.out.2.2.2.2.2 _ e; have := H2.out.2.2.2.2.1; omega
    have H4 := Lib.hid (And.intro hp4 (And.intro hr4 (And.intro rs4 (And.intro rg4 (HB3.out.trans hb4)))))
    clear hB hb4 hp4 hf4 hx4 hr4 rs4 rg4 q2 q3 q4 c0 c1 e0 e1 r2'
    go_wp2_with fail
    go_loopw [11] (fun t wr => ∃ i : Nat, i ≤ k ∧ t = .int .i64 i ∧ Below w4.heap.size w4 wr) (fun t _ => k - (RowKit.intOf t).toNat)
    case atStart => exact ⟨0, Nat.zero_le _, rfl, Below.refl _ _⟩
    case round =>
      obtain ⟨i, hi, rfl, hb⟩ := hrel
      have hpr := H4.out.1.call hb
      have hrr := H4.out.2.1.call hb
      have rsr := H4.out.2.2.1.call hb
      have rgr := H4.out.2.2.2.1.call hb
      have c2 := hrr.c2
      have x2 := rsr.cell 2
      by_cases hlt : i < k
      · obtain ⟨y, hy⟩ : ∃ y, M.I[i]? = some y := ⟨_, List.getElem?_eq_getElem (by rw [HOK.out.1.i]; exact hlt)⟩
        have d0 := hrr.at2 HOK.out.1.i hlt hy
        have i1 : (i : Int) < (k : Int) := by omega
        have i0 : (0 : Int) ≤ i := by omega
        have hw3 : IntKind.i64.wrap ((i : Int) + 1) = (i : Int) + 1 := IntWalk.i64_in _ (by have := HOK.out.2; omega)
        have hno := HAP.out.no i hlt rfl
        have hI := is_m (hpr.drewN 1) i
        rw [hno.1, List.getD_eq_getElem?_getD, hy] at hI
        have hI : Calls Tryz.prog 11 #[.pointer (some ⟨p.m, 0, none⟩), .int .i64 i] (wr.drewN 1) fun e w' => e = .returned (.int .i64 y) ∧ Below (wr.drewN 1).heap.size (wr.drewN 1) w' := hI
        have S0 : (wr.drewN 1).cell? ⟨r.x, 2, none⟩ = some (.slice (some ⟨g, 0, none⟩) k cc) ∧ (wr.drewN 1).cell? ⟨g, i, none⟩ = some (.int .i64 y) := ⟨(hrr.drewN 1).c2, (hrr.drewN 1).at2 HOK.out.1.i hlt hy⟩
        have hSS : ∀ U, Below (wr.drewN 1).heap.size (wr.drewN 1) U → U.cell? ⟨r.x, 2, none⟩ = some (.slice (some ⟨g, 0, none⟩) k cc) ∧ U.cell? ⟨g, i, none⟩ = some (.int .i64 y) := fun U hU => ⟨((hrr.drewN 1).call hU).c2, ((hrr.drewN 1).call hU).at2 HOK.out.1.i hlt hy⟩
        have HN := Lib.hid hno.2
        have HR := Lib.hid (And.intro (hpr.drewN 1) (And.intro (rgr.drewN 1) (And.intro (below_dN hb 1) hlt)))
        clear hno hpr hrr rsr rgr hb hi hlt hy
        go_wp2_with fail
        go_region_held3 (fun v => v.cell? ⟨r.x, 2, none⟩ = some (.slice (some ⟨g, 0, none⟩) k cc) ∧ v.cell? ⟨g, i, none⟩ = some (.int .i64 y))
          (first | exact S0 | exact S1)
          (first | (go_at_call 11; refine hI.mono ?_; rintro e w5 ⟨rfl, hb5⟩; have S1 := hSS _ hb5))
        all_goals
          have HP5 := Lib.hid (HR.out.1.call hb5)
          have HG5 := Lib.hid (HR.out.2.1.call hb5)
          have HB5 := Lib.hid (HR.out.2.2.1.trans (hb5.mono HR.out.2.2.1.size))
          clear S0 S1 hSS hI hb5 c2 d0 x2
          go_wp2_with fail
          go_loopw [12] (fun t wq => ∃ j : Nat, j ≤ 8 ∧ t = .int .i64 j ∧ Below w5.heap.size w5 wq) (fun t _ => 8 - (RowKit.intOf t).toNat)
          case atStart => exact ⟨0, by omega, rfl, Below.refl _ _⟩
          case round =>
            obtain ⟨j, hj, rfl, hbi⟩ := hrel
            by_cases hlj : j < 8
            · have hRm := ram_m (HP5.out.call hbi)
              obtain ⟨z1, z2⟩ := HN.out j hlj
              have i80 : i < 64 := by have := HR.out.2.2.2; have := HOK.out.2; omega
              obtain ⟨zz, hzz⟩ : ∃ zz, zz = 64 * i + 8 * j := ⟨_, rfl⟩
              obtain ⟨z8, hz8⟩ : ∃ z8, z8 = 8 * i + j := ⟨_, rfl⟩
              have ha1 : IntKind.i64.wrap (64 * (i : Int)) = 64 * (i : Int) := IntWalk.i64_in _ (by omega)
              have ha2 : IntKind.i64.wrap (8 * (j : Int)) = 8 * (j : Int) := IntWalk.i64_in _ (by omega)
              have ha3 : IntKind.i64.wrap (64 * (i : Int) + 8 * (j : Int)) = (zz : Int) := by rw [IntWalk.i64_in _ (by omega)]; omega
              have ha4 : IntKind.i64.wrap (8 * (i : Int)) = 8 * (i : Int) := IntWalk.i64_in _ (by omega)
              have ha5 : IntKind.i64.wrap (8 * (i : Int) + (j : Int)) = (z8 : Int) := by rw [IntWalk.i64_in _ (by omega)]; omega
              have ha6 : (z8 : Int) < wl := by have := HLEN.out.2; have := HR.out.2.2.2; omega
              have ha7 : (0 : Int) ≤ z8 := by omega
              rw [show (64 : Int) * i + 8 * j = (zz : Int) by omega] at z1 z2
              rw [← hz8] at z1
              have hw4 : IntKind.i64.wrap ((j : Int) + 1) = (j : Int) + 1 := IntWalk.i64_in _ (by omega)
              have j1 : (j : Int) < 8 := by omega
              have hz8l : z8 < M.W.length := by rw [← HLEN.out.1]; omega
              have u0 : ∀ U, Below w5.heap.size w5 U → U.cell? ⟨gw, z8, none⟩ = some (.int .u64 (M.W.getD z8 0)) := fun U hU => by
                rw [(HG5.out.call hU).cell, EW_cells, List.getElem?_append_left (by rw [wcells_length]; exact hz8l), wcells_get, getD_in hz8l]; rfl
              obtain ⟨u, hu⟩ : ∃ u, u = M.W.getD z8 0 := ⟨_, rfl⟩
              rw [← hu] at z1 u0
              have HBI := Lib.hid hbi
              have HZ := Lib.hid (And.intro z1 (And.intro z2 u0))
              have HL := Lib.hid hlj
              clear hbi hj hlj z1 z2 hzz hz8 i80 hz8l u0 hu
              go_wp2_with fail
              refine hRm.mono ?_
              rintro e w7 ⟨rfl, hb7⟩
              have HB7 := Lib.hid (HBI.out.trans (hb7.mono HBI.out.size))
              have hL := load_any (HP5.out.call HB7.out).ram zz
              rw [HZ.out.1, HZ.out.2.1] at hL
              have u7 := HZ.out.2.2 _ HB7.out
              clear hRm hb7
              go_wp2_with fail
              refine hL.mono ?_
              rintro e w8 ⟨rfl, rfl⟩
              clear hL
              go_wp2_with fail
              go_roundw
              case rel => exact ⟨j + 1, HL.out, by go_num, HB7.out⟩
              case measure => simp [RowKit.intOf]; have := HL.out; omega
            · have HBI := Lib.hid hbi
              have j1 : ¬ (j : Int) < 8 := by omega
              clear hbi hj hlj
              go_wp2_with fail
              go_roundw
              case rel => exact ⟨i + 1, HR.out.2.2.2, by go_num, HB5.out.trans (HBI.out.mono HB5.out.size)⟩
              case measure => simp [RowKit.intOf]; have := HR.out.2.2.2; omega
      · have i1 : ¬ (i : Int) < (k : Int) := by omega
        have HBF := Lib.hid (HG0.out.trans ((H4.out.2.2.2.2.trans (hb.mono H4.out.2.2.2.2.size)).mono HG0.out.size))
        clear hb hpr hrr rsr rgr hi hlt
        go_wp2_with fail
        go_ret
        exact ⟨rfl, HBF.out⟩
  · obtain ⟨K2, hK2⟩ : ∃ K2 : Nat, K2 = 2 ^ z := ⟨_, rfl⟩
    have hSz : ∀ U, Calls Tryz.prog 33 #[.int .i64 z] U fun e w' => e = .returned (.int .i64 K2) ∧ U = w' := fun U => by
      have := size_any hz8 U
      rw [← hK2] at this
      exact this
    rw [← hK2] at hfz hap
    subst ho
    rw [hE, hv] at hB
    clear hE hv hWL hK2 hz8
    generalize blM M 0 z Of Is = M' at *
    have HAP := Lib.hid hap
    clear hap
    refine hB.mono ?_
    rintro e w4 ⟨rfl, hd4⟩
    have hb4 := PDid.below H2.out.1 hd4
    obtain ⟨X4, hp4, hf4, hx4⟩ := hd4
    have hr4 := H2.out.2.1.foot hf4 fun q hq e => H2.out.2.2.1 q e hq
    have rs4 := hf4.row (HRS.out.call HB3.out) fun e => by have := (H2.out.1.mine e).1; have := HQ.out; omega
    have rg4 := hf4.row H2.out.2.2.2.1 fun e => by have := H2.out.2.2.2.2.2 _ e; have := H2.out.2.2.2.2.1; omega
    have H4 := Lib.hid (And.intro hp4 (And.intro hr4 (And.intro rs4 (And.intro rg4 (HB3.out.trans hb4)))))
    clear hB hb4 hp4 hf4 hx4 hr4 rs4 rg4 q2 q3 q4 c0 c1 e0 e1 r2'
    go_wp2_with fail
    go_loopw [11] (fun t wr => ∃ i : Nat, i ≤ k ∧ t = .int .i64 i ∧ Below w4.heap.size w4 wr) (fun t _ => k - (RowKit.intOf t).toNat)
    case atStart => exact ⟨0, Nat.zero_le _, rfl, Below.refl _ _⟩
    case round =>
      obtain ⟨i, hi, rfl, hb⟩ := hrel
      have hpr := H4.out.1.call hb
      have hrr := H4.out.2.1.call hb
      have rsr := H4.out.2.2.1.call hb
      have rgr := H4.out.2.2.2.1.call hb
      have c2 := hrr.c2
      have x2 := rsr.cell 2
      by_cases hlt : i < k
      · obtain ⟨y, hy⟩ : ∃ y, M.I[i]? = some y := ⟨_, List.getElem?_eq_getElem (by rw [HOK.out.1.i]; exact hlt)⟩
        have d0 := hrr.at2 HOK.out.1.i hlt hy
        have i1 : (i : Int) < (k : Int) := by omega
        have i0 : (0 : Int) ≤ i := by omega
        have hw3 : IntKind.i64.wrap ((i : Int) + 1) = (i : Int) + 1 := IntWalk.i64_in _ (by have := HOK.out.2; omega)
        by_cases hfi : f ≤ i
        · have hw5 : IntKind.i64.wrap ((i : Int) - (f : Int)) = (i : Int) - (f : Int) := IntWalk.i64_in _ (by have := HOK.out.2; omega)
          have f1 : (f : Int) ≤ i := by omega
          have hZ := hSz wr
          by_cases hin : i < f + K2
          · have f2 : (i : Int) - f < K2 := by omega
            have h0 := HAP.out.le i hlt (decide_eq_true ⟨hfi, hin⟩)
            rw [hy] at h0
            obtain rfl : y = 0 := by injection h0
            have HR := Lib.hid (And.intro hb hlt)
            clear hb hlt hpr hrr rsr rgr hi hy h0 hfi hin
            go_wp2_with (go_at_call 33; (with_reducible refine hZ.mono ?_); rintro e w6 ⟨rfl, rfl⟩)
            go_roundw
            case rel => exact ⟨i + 1, HR.out.2, by go_num, HR.out.1⟩
            case measure => simp [RowKit.intOf]; have := HR.out.2; omega
          · have f2 : ¬ (i : Int) - f < K2 := by omega
            have hbn : decide (f ≤ i ∧ i < f + K2) = false := decide_eq_false fun e => hin e.2
            have HBN := Lib.hid hbn
            clear hbn hfi hin
            have hno := HAP.out.no i hlt HBN.out
            have hI := is_m (hpr.drewN 1) i
            rw [hno.1, List.getD_eq_getElem?_getD, hy] at hI
            have hI : Calls Tryz.prog 11 #[.pointer (some ⟨p.m, 0, none⟩), .int .i64 i] (wr.drewN 1) fun e w' => e = .returned (.int .i64 y) ∧ Below (wr.drewN 1).heap.size (wr.drewN 1) w' := hI
            have S0 : (wr.drewN 1).cell? ⟨r.x, 2, none⟩ = some (.slice (some ⟨g, 0, none⟩) k cc) ∧ (wr.drewN 1).cell? ⟨g, i, none⟩ = some (.int .i64 y) := ⟨(hrr.drewN 1).c2, (hrr.drewN 1).at2 HOK.out.1.i hlt hy⟩
            have hSS : ∀ U, Below (wr.drewN 1).heap.size (wr.drewN 1) U → U.cell? ⟨r.x, 2, none⟩ = some (.slice (some ⟨g, 0, none⟩) k cc) ∧ U.cell? ⟨g, i, none⟩ = some (.int .i64 y) := fun U hU => ⟨((hrr.drewN 1).call hU).c2, ((hrr.drewN 1).call hU).at2 HOK.out.1.i hlt hy⟩
            have HN := Lib.hid hno.2
            have HR := Lib.hid (And.intro (hpr.drewN 1) (And.intro (rgr.drewN 1) (And.intro (below_dN hb 1) hlt)))
            clear hno hpr hrr rsr rgr hb hi hlt hy
            go_wp2_with (go_at_call 33; (with_reducible refine hZ.mono ?_); rintro e w6 ⟨rfl, rfl⟩)
            go_region_held3 (fun v => v.cell? ⟨r.x, 2, none⟩ = some (.slice (some ⟨g, 0, none⟩) k cc) ∧ v.cell? ⟨g, i, none⟩ = some (.int .i64 y))
              (first | exact S0 | exact S1)
              (first | (go_at_call 11; refine hI.mono ?_; rintro e w5 ⟨rfl, hb5⟩; have S1 := hSS _ hb5))
            all_goals
              have HP5 := Lib.hid (HR.out.1.call hb5)
              have HG5 := Lib.hid (HR.out.2.1.call hb5)
              have HB5 := Lib.hid (HR.out.2.2.1.trans (hb5.mono HR.out.2.2.1.size))
              clear S0 S1 hSS hI hb5 c2 d0 x2
              go_wp2_with fail
              go_loopw [12] (fun t wq => ∃ j : Nat, j ≤ 8 ∧ t = .int .i64 j ∧ Below w5.heap.size w5 wq) (fun t _ => 8 - (RowKit.intOf t).toNat)
              case atStart => exact ⟨0, by omega, rfl, Below.refl _ _⟩
              case round =>
                obtain ⟨j, hj, rfl, hbi⟩ := hrel
                by_cases hlj : j < 8
                · have hRm := ram_m (HP5.out.call hbi)
                  obtain ⟨z1, z2⟩ := HN.out j hlj
                  have i80 : i < 64 := by have := HR.out.2.2.2; have := HOK.out.2; omega
                  obtain ⟨zz, hzz⟩ : ∃ zz, zz = 64 * i + 8 * j := ⟨_, rfl⟩
                  obtain ⟨z8, hz8⟩ : ∃ z8, z8 = 8 * i + j := ⟨_, rfl⟩
                  have ha1 : IntKind.i64.wrap (64 * (i : Int)) = 64 * (i : Int) := IntWalk.i64_in _ (by omega)
                  have ha2 : IntKind.i64.wrap (8 * (j : Int)) = 8 * (j : Int) := IntWalk.i64_in _ (by omega)
                  have ha3 : IntKind.i64.wrap (64 * (i : Int) + 8 * (j : Int)) = (zz : Int) := by rw [IntWalk.i64_in _ (by omega)]; omega
                  have ha4 : IntKind.i64.wrap (8 * (i : Int)) = 8 * (i : Int) := IntWalk.i64_in _ (by omega)
                  have ha5 : IntKind.i64.wrap (8 * (i : Int) + (j : Int)) = (z8 : Int) := by rw [IntWalk.i64_in _ (by omega)]; omega
                  have ha6 : (z8 : Int) < wl := by have := HLEN.out.2; have := HR.out.2.2.2; omega
                  have ha7 : (0 : Int) ≤ z8 := by omega
                  rw [show (64 : Int) * i + 8 * j = (zz : Int) by omega] at z1 z2
                  rw [← hz8] at z1
                  have hw4 : IntKind.i64.wrap ((j : Int) + 1) = (j : Int) + 1 := IntWalk.i64_in _ (by omega)
                  have j1 : (j : Int) < 8 := by omega
                  have hz8l : z8 < M.W.length := by rw [← HLEN.out.1]; omega
                  have u0 : ∀ U, Below w5.heap.size w5 U → U.cell? ⟨gw, z8, none⟩ = some (.int .u64 (M.W.getD z8 0)) := fun U hU => by
                    rw [(HG5.out.call hU).cell, EW_cells, List.getElem?_append_left (by rw [wcells_length]; exact hz8l), wcells_get, getD_in hz8l]; rfl
                  obtain ⟨u, hu⟩ : ∃ u, u = M.W.getD z8 0 := ⟨_, rfl⟩
                  rw [← hu] at z1 u0
                  have HBI := Lib.hid hbi
                  have HZ := Lib.hid (And.intro z1 (And.intro z2 u0))
                  have HL := Lib.hid hlj
                  clear hbi hj hlj z1 z2 hzz hz8 i80 hz8l u0 hu
                  go_wp2_with fail
                  refine hRm.mono ?_
                  rintro e w7 ⟨rfl, hb7⟩
                  have HB7 := Lib.hid (HBI.out.trans (hb7.mono HBI.out.size))
                  have hL := load_any (HP5.out.call HB7.out).ram zz
                  rw [HZ.out.1, HZ.out.2.1] at hL
                  have u7 := HZ.out.2.2 _ HB7.out
                  clear hRm hb7
                  go_wp2_with fail
                  refine hL.mono ?_
                  rintro e w8 ⟨rfl, rfl⟩
                  clear hL
                  go_wp2_with fail
                  go_roundw
                  case rel => exact ⟨j + 1, HL.out, by go_num, HB7.out⟩
                  case measure => simp [RowKit.intOf]; have := HL.out; omega
                · have HBI := Lib.hid hbi
                  have j1 : ¬ (j : Int) < 8 := by omega
                  clear hbi hj hlj
                  go_wp2_with fail
                  go_roundw
                  case rel => exact ⟨i + 1, HR.out.2.2.2, by go_num, HB5.out.trans (HBI.out.mono HB5.out.size)⟩
                  case measure => simp [RowKit.intOf]; have := HR.out.2.2.2; omega
        · have f1 : ¬ (f : Int) ≤ i := by omega
          have hbn : decide (f ≤ i ∧ i < f + K2) = false := decide_eq_false fun e => hfi e.1
          have HBN := Lib.hid hbn
          clear hbn hfi
          have hno := HAP.out.no i hlt HBN.out
          have hI := is_m (hpr.drewN 1) i
          rw [hno.1, List.getD_eq_getElem?_getD, hy] at hI
          have hI : Calls Tryz.prog 11 #[.pointer (some ⟨p.m, 0, none⟩), .int .i64 i] (wr.drewN 1) fun e w' => e = .returned (.int .i64 y) ∧ Below (wr.drewN 1).heap.size (wr.drewN 1) w' := hI
          have S0 : (wr.drewN 1).cell? ⟨r.x, 2, none⟩ = some (.slice (some ⟨g, 0, none⟩) k cc) ∧ (wr.drewN 1).cell? ⟨g, i, none⟩ = some (.int .i64 y) := ⟨(hrr.drewN 1).c2, (hrr.drewN 1).at2 HOK.out.1.i hlt hy⟩
          have hSS : ∀ U, Below (wr.drewN 1).heap.size (wr.drewN 1) U → U.cell? ⟨r.x, 2, none⟩ = some (.slice (some ⟨g, 0, none⟩) k cc) ∧ U.cell? ⟨g, i, none⟩ = some (.int .i64 y) := fun U hU => ⟨((hrr.drewN 1).call hU).c2, ((hrr.drewN 1).call hU).at2 HOK.out.1.i hlt hy⟩
          have HN := Lib.hid hno.2
          have HR := Lib.hid (And.intro (hpr.drewN 1) (And.intro (rgr.drewN 1) (And.intro (below_dN hb 1) hlt)))
          clear hno hpr hrr rsr rgr hb hi hlt hy
          go_wp2_with fail
          go_region_held3 (fun v => v.cell? ⟨r.x, 2, none⟩ = some (.slice (some ⟨g, 0, none⟩) k cc) ∧ v.cell? ⟨g, i, none⟩ = some (.int .i64 y))
            (first | exact S0 | exact S1)
            (first | (go_at_call 11; refine hI.mono ?_; rintro e w5 ⟨rfl, hb5⟩; have S1 := hSS _ hb5))
          all_goals
            have HP5 := Lib.hid (HR.out.1.call hb5)
            have HG5 := Lib.hid (HR.out.2.1.call hb5)
            have HB5 := Lib.hid (HR.out.2.2.1.trans (hb5.mono HR.out.2.2.1.size))
            clear S0 S1 hSS hI hb5 c2 d0 x2
            go_wp2_with fail
            go_loopw [12] (fun t wq => ∃ j : Nat, j ≤ 8 ∧ t = .int .i64 j ∧ Below w5.heap.size w5 wq) (fun t _ => 8 - (RowKit.intOf t).toNat)
            case atStart => exact ⟨0, by omega, rfl, Below.refl _ _⟩
            case round =>
              obtain ⟨j, hj, rfl, hbi⟩ := hrel
              by_cases hlj : j < 8
              · have hRm := ram_m (HP5.out.call hbi)
                obtain ⟨z1, z2⟩ := HN.out j hlj
                have i80 : i < 64 := by have := HR.out.2.2.2; have := HOK.out.2; omega
                obtain ⟨zz, hzz⟩ : ∃ zz, zz = 64 * i + 8 * j := ⟨_, rfl⟩
                obtain ⟨z8, hz8⟩ : ∃ z8, z8 = 8 * i + j := ⟨_, rfl⟩
                have ha1 : IntKind.i64.wrap (64 * (i : Int)) = 64 * (i : Int) := IntWalk.i64_in _ (by omega)
                have ha2 : IntKind.i64.wrap (8 * (j : Int)) = 8 * (j : Int) := IntWalk.i64_in _ (by omega)
                have ha3 : IntKind.i64.wrap (64 * (i : Int) + 8 * (j : Int)) = (zz : Int) := by rw [IntWalk.i64_in _ (by omega)]; omega
                have ha4 : IntKind.i64.wrap (8 * (i : Int)) = 8 * (i : Int) := IntWalk.i64_in _ (by omega)
                have ha5 : IntKind.i64.wrap (8 * (i : Int) + (j : Int)) = (z8 : Int) := by rw [IntWalk.i64_in _ (by omega)]; omega
                have ha6 : (z8 : Int) < wl := by have := HLEN.out.2; have := HR.out.2.2.2; omega
                have ha7 : (0 : Int) ≤ z8 := by omega
                rw [show (64 : Int) * i + 8 * j = (zz : Int) by omega] at z1 z2
                rw [← hz8] at z1
                have hw4 : IntKind.i64.wrap ((j : Int) + 1) = (j : Int) + 1 := IntWalk.i64_in _ (by omega)
                have j1 : (j : Int) < 8 := by omega
                have hz8l : z8 < M.W.length := by rw [← HLEN.out.1]; omega
                have u0 : ∀ U, Below w5.heap.size w5 U → U.cell? ⟨gw, z8, none⟩ = some (.int .u64 (M.W.getD z8 0)) := fun U hU => by
                  rw [(HG5.out.call hU).cell, EW_cells, List.getElem?_append_left (by rw [wcells_length]; exact hz8l), wcells_get, getD_in hz8l]; rfl
                obtain ⟨u, hu⟩ : ∃ u, u = M.W.getD z8 0 := ⟨_, rfl⟩
                rw [← hu] at z1 u0
                have HBI := Lib.hid hbi
                have HZ := Lib.hid (And.intro z1 (And.intro z2 u0))
                have HL := Lib.hid hlj
                clear hbi hj hlj z1 z2 hzz hz8 i80 hz8l u0 hu
                go_wp2_with fail
                refine hRm.mono ?_
                rintro e w7 ⟨rfl, hb7⟩
                have HB7 := Lib.hid (HBI.out.trans (hb7.mono HBI.out.size))
                have hL := load_any (HP5.out.call HB7.out).ram zz
                rw [HZ.out.1, HZ.out.2.1] at hL
                have u7 := HZ.out.2.2 _ HB7.out
                clear hRm hb7
                go_wp2_with fail
                refine hL.mono ?_
                rintro e w8 ⟨rfl, rfl⟩
                clear hL
                go_wp2_with fail
                go_roundw
                case rel => exact ⟨j + 1, HL.out, by go_num, HB7.out⟩
                case measure => simp [RowKit.intOf]; have := HL.out; omega
              · have HBI := Lib.hid hbi
                have j1 : ¬ (j : Int) < 8 := by omega
                clear hbi hj hlj
                go_wp2_with fail
                go_roundw
                case rel => exact ⟨i + 1, HR.out.2.2.2, by go_num, HB5.out.trans (HBI.out.mono HB5.out.size)⟩
                case measure => simp [RowKit.intOf]; have := HR.out.2.2.2; omega
      · have i1 : ¬ (i : Int) < (k : Int) := by omega
        have HBF := Lib.hid (HG0.out.trans ((H4.out.2.2.2.2.trans (hb.mono H4.out.2.2.2.2.size)).mono HG0.out.size))
        clear hb hpr hrr rsr rgr hi hlt
        go_wp2_with fail
        go_ret
        exact ⟨rfl, HBF.out⟩
end Go.Proofs.YtklhcgekagimkaaGreat
