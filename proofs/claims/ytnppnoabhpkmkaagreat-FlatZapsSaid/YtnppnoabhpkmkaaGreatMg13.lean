/- The program's spaces: maps of pages' words. -/
import Derived.Test.YtnppnoabhpkmkaaGreatMg09
import Derived.Test.YtnppnoabhpkmkaaGreatMg10
import Derived.Test.YtnppnoabhpkmkaaGreatMg12
import Derived.Lib.SlMapFilter
import Derived.Laws.IdiomRangeMap
import Derived.Deep.LoopGhost
import Derived.Shelf.Abstract
namespace Go.Proofs.YtnppnoabhpkmkaaGreat
open Go.RowKit
def z8 : Value := .agg #[.int .u64 0, .int .u64 0, .int .u64 0, .int .u64 0, .int .u64 0, .int .u64 0, .int .u64 0, .int .u64 0]
/-- A page's words, of those of a space or an object. -/
def g8 (W : Int → Int) (p : Int) : Value := .agg #[.int .u64 (W (p * 8)), .int .u64 (W (p * 8 + 1)), .int .u64 (W (p * 8 + 2)), .int .u64 (W (p * 8 + 3)), .int .u64 (W (p * 8 + 4)), .int .u64 (W (p * 8 + 5)), .int .u64 (W (p * 8 + 6)), .int .u64 (W (p * 8 + 7))]
theorem g8_congr {W W' : Int → Int} {p : Int} (h : ∀ i, p * 8 ≤ i → i < p * 8 + 8 → W' i = W i) : g8 W' p = g8 W p := by
  unfold g8
  rw [h (p * 8) (by omega) (by omega), h (p * 8 + 1) (by omega) (by omega), h (p * 8 + 2) (by omega) (by omega), h (p * 8 + 3) (by omega) (by omega), h (p * 8 + 4) (by omega) (by omega), h (p * 8 + 5) (by omega) (by omega), h (p * 8 + 6) (by omega) (by omega), h (p * 8 + 7) (by omega) (by omega)]
theorem g8_zero {W : Int → Int} {p : Int} (h : ∀ i, p * 8 ≤ i → i < p * 8 + 8 → W i = 0) : g8 W p = z8 := g8_congr (W := fun _ => 0) h
/-- The words of another place. -/
theorem g8_shift {W W' : Int → Int} {p q : Int} (h : ∀ k, 0 ≤ k → k < 8 → W' (p * 8 + k) = W (q * 8 + k)) : g8 W' p = g8 W q := by
  have e := h 0 (by omega) (by omega)
  rw [Int.add_zero, Int.add_zero] at e
  unfold g8
  rw [e, h 1 (by omega) (by omega), h 2 (by omega) (by omega), h 3 (by omega) (by omega), h 4 (by omega) (by omega), h 5 (by omega) (by omega), h 6 (by omega) (by omega), h 7 (by omega) (by omega)]
theorem zeroM (w : World) : (zeroValue 96).run Tryz.prog w = .ok z8 w := by kernel_rfl
theorem zeroN (w : World) : (zeroValue 76).run Tryz.prog w = .ok (.map none) w := by kernel_rfl
def TM : MapTy Tryz.prog := ⟨3, 76, 96, z8, by kernel_rfl, by kernel_rfl, zeroM⟩
def TN : MapTy Tryz.prog := ⟨3, 88, 76, .map none, by kernel_rfl, by kernel_rfl, zeroN⟩
theorem run_index8 (W : Int → Int) (p : Int) {k : Int} (h0 : 0 ≤ k) (h8 : k < 8) (w : World) : (Instr.index 96 (g8 W p) (.int .i64 k)).run Tryz.prog w = .ok (.int .u64 (W (p * 8 + k))) w := by
  have hu : Tryz.prog.underlying 96 = some (.array 8 23) := by kernel_rfl
  rcases (show k = 0 ∨ k = 1 ∨ k = 2 ∨ k = 3 ∨ k = 4 ∨ k = 5 ∨ k = 6 ∨ k = 7 by omega) with rfl | rfl | rfl | rfl | rfl | rfl | rfl | rfl <;> simp [Instr.index, g8, run_underlying hu, asIntOf, go_sem]
/-- What a map of pages' words says. -/
def Wds (M : Int → Option Value) (W : Int → Int) : Prop := ∀ p, FitM p → (M p ≠ none → 0 ≤ p ∧ p < 4096) ∧ (0 ≤ p → p < 4096 → (M p).getD z8 = g8 W p)
def MemAt (w : World) (b : Nat) (W : Int → Int) : Prop := ∃ M, TM.At w b 4096 M ∧ Wds M W
def pgsL : List Int := (List.range 4096).map Int.ofNat
theorem pgsL_mem {p : Int} (h0 : 0 ≤ p) (h1 : p < 4096) : p ∈ pgsL := List.mem_map.2 ⟨p.toNat, List.mem_range.2 (by omega), Int.toNat_of_nonneg h0⟩
theorem pgsL_len : pgsL.length = 4096 := by unfold pgsL; rw [List.length_map, List.length_range]
theorem fitM_page {p : Int} (h0 : 0 ≤ p) (h1 : p < 4096) : FitM p := by unfold FitM; omega
section
variable {w w' : World} {b n : Nat} {M : Int → Option Value} {W W' : Int → Int}
theorem Wds.eq (h : Wds M W) (e : ∀ i, 0 ≤ i → i < 32768 → W' i = W i) : Wds M W' := fun p hp => ⟨(h p hp).1, fun h0 h1 => by rw [(h p hp).2 h0 h1]; exact (g8_congr fun i _ _ => e i (by omega) (by omega)).symm⟩
theorem Wds.none : Wds (fun _ => Option.none) (fun _ => 0) := fun _ _ => ⟨fun h => absurd rfl h, fun _ _ => (g8_zero fun _ _ _ => rfl).symm⟩
theorem Wds.some (h : Wds M W) {p : Int} (hp : FitM p) {v : Value} (e : M p = some v) : 0 ≤ p ∧ p < 4096 ∧ v = g8 W p := by
  obtain ⟨h1, h2⟩ := h p hp
  have h3 := h1 (by rw [e]; exact Option.some_ne_none v)
  have h4 := h2 h3.1 h3.2
  rw [e] at h4
  exact ⟨h3.1, h3.2, h4⟩
/-- Some pages are forgotten. -/
theorem Wds.del (h : Wds M W) (d : Int → Bool) : Wds (fun p => if d p = true then Option.none else M p) (fun i => if d (i / 8) = true then 0 else W i) := fun p hp => by
  obtain ⟨h1, h2⟩ := h p hp
  dsimp only
  cases e : d p with
  | true =>
    refine ⟨fun h => absurd rfl h, fun _ _ => (g8_zero fun i h3 h4 => ?_).symm⟩
    rw [show i / 8 = p by omega, e]; rfl
  | false =>
    refine ⟨h1, fun h5 h6 => (h2 h5 h6).trans (g8_congr fun i h3 h4 => ?_).symm⟩
    rw [show i / 8 = p by omega, e]; rfl
/-- The words of one page are others. -/
theorem Wds.put (h : Wds M W) {p : Int} (h0 : 0 ≤ p) (h1 : p < 4096) (e : ∀ i, ¬ (p * 8 ≤ i ∧ i < p * 8 + 8) → W' i = W i) : Wds (updM M p (Option.some (g8 W' p))) W' := fun q hq => by
  obtain ⟨k1, k2⟩ := h q hq
  by_cases c : q = p
  · subst c
    rw [updM_same]
    exact ⟨fun _ => ⟨h0, h1⟩, fun _ _ => rfl⟩
  · rw [updM_other _ _ c]
    exact ⟨k1, fun h5 h6 => (k2 h5 h6).trans (g8_congr fun i h3 h4 => e i (by omega)).symm⟩
theorem MemAt.heap (h : MemAt w b W) (hk : w'.heap[b]? = w.heap[b]?) : MemAt w' b W := by
  obtain ⟨M, h1, h2⟩ := h
  exact ⟨M, h1.heap hk, h2⟩
theorem MemAt.lt (h : MemAt w b W) : b < w.heap.size := by obtain ⟨M, h1, _⟩ := h; exact h1.lt
theorem MemAt.call (h : MemAt w b W) (hb : Below w.heap.size w w') : MemAt w' b W := h.heap (hb.block b h.lt)
theorem MemAt.apart (h : MemAt w b W) {g : Nat} {t : TypeId} {vs : List Value} (r : Lrow w g t vs) : g ≠ b := by obtain ⟨M, h1, _⟩ := h; exact h1.apart r
theorem MemAt.eq (h : MemAt w b W) (e : ∀ i, 0 ≤ i → i < 32768 → W' i = W i) : MemAt w b W' := by
  obtain ⟨M, h1, h2⟩ := h
  exact ⟨M, h1, h2.eq e⟩
theorem MemAt.new (w : World) : MemAt (w.alloc (.map #[] 0)) w.heap.size (fun _ => 0) := ⟨_, (MapTy.new (T := TM) w).mono (Nat.zero_le _), Wds.none⟩
theorem Wds.small (h : Wds M W) (ha : TM.At w b n M) : TM.At w b 4096 M := by
  have := ha.small pgsL fun f hf hm => by have := (h f hf).1 hm; exact pgsL_mem this.1 this.2
  rw [pgsL_len] at this
  exact this
theorem MemAt.look (h : MemAt w b W) {p : Int} (h0 : 0 ≤ p) (h1 : p < 4096) : (Instr.lookup 76 (.map (some b)) (.int .i64 p) false).run Tryz.prog w = .ok (g8 W p) w := by
  obtain ⟨M, k1, k2⟩ := h
  have := k1.look (fitM_page h0 h1) false
  rw [if_neg (by decide)] at this
  exact this.trans (by rw [show (M p).getD TM.z = (M p).getD z8 from rfl, (k2 p (fitM_page h0 h1)).2 h0 h1])
theorem MemAt.put (h : MemAt w b W) {p : Int} (h0 : 0 ≤ p) (h1 : p < 4096) (e : ∀ i, ¬ (p * 8 ≤ i ∧ i < p * 8 + 8) → W' i = W i) : ∃ w', (Instr.mapUpdate 76 (.map (some b)) (.int .i64 p) (g8 W' p)).run Tryz.prog w = .ok () w' ∧ w.grownBy w' (some b) ∧ w'.heap.size = w.heap.size ∧ MemAt w' b W' := by
  obtain ⟨M, k1, k2⟩ := h
  obtain ⟨w', r1, r2, r3, r4⟩ := k1.put (by omega) (g8 W' p) (fitM_page h0 h1)
  have k3 := k2.put h0 h1 e
  exact ⟨w', r1, r2, r3, _, k3.small r4, k3⟩
end
end Go.Proofs.YtnppnoabhpkmkaaGreat
/- The program's spaces: maps.DeleteFunc of pages' words, and of objects. -/
namespace Go.Proofs.YtnppnoabhpkmkaaGreat
open Go.RowKit Go.Maps
theorem encM_inj {x y : Int} (e : Value.int .i64 x = .int .i64 y) : x = y := by injection e
/-- What is left is what the predicate does not name. -/
theorem Says.filt {D : DataW Value} {M : Int → Option Value} {P : Program} {T : MapTy P} {w : World} {b n : Nat} (hown : w.ownsMap P T.k heldM b n D) (hS : Says D M) (d : Int → Bool) : Says (Lib.deleteFuncD (fun l _ => d (intOf l)) D) (fun p => if d p = true then none else M p) := by
  obtain ⟨es, rfl, hap, hkeys⟩ := hown.entries T.law
  intro f hf
  have hK : WideAt.IsKeyLit (.int .i64 f) := trivial
  obtain ⟨h1, h2⟩ := hS f hf
  have hm : ∀ (p : Lit × DataW Value), p ∈ es.filter (fun p => !d (intOf p.1)) ↔ p ∈ es ∧ d (intOf p.1) = false := fun p => by rw [List.mem_filter]; simp
  have hh : Maps.has (Lib.deleteFuncD (fun l (_ : DataW Value) => d (intOf l)) (.map es)) (.int .i64 f) = (!d f && Maps.has (.map es) (.int .i64 f)) := by
    show (es.filter fun p => !d (intOf p.1)).any (fun p => p.1.sameKey (.int .i64 f)) = (!d f && es.any fun p => p.1.sameKey (.int .i64 f))
    rw [Bool.eq_iff_iff, Bool.and_eq_true, List.any_eq_true, List.any_eq_true]
    constructor
    · rintro ⟨p, hp, hs⟩
      obtain ⟨k1, k2⟩ := (hm p).1 hp
      rw [WideAt.sameKey_eq hs] at k2
      exact ⟨by simpa [intOf] using k2, p, k1, hs⟩
    · rintro ⟨k1, p, hp, hs⟩
      exact ⟨p, (hm p).2 ⟨hp, by rw [WideAt.sameKey_eq hs]; simpa [intOf] using k1⟩, hs⟩
  cases e : d f with
  | true =>
    rw [hh, e]
    exact ⟨by simp [e], fun v hv => by simp [e] at hv⟩
  | false =>
    rw [hh, e, h1]
    refine ⟨by simp [e], fun v hv zd => ?_⟩
    have hv : M f = some v := by simpa [e] using hv
    have h3 : Maps.has (.map es) (Lit.int .i64 f) = true := by rw [h1, hv]; rfl
    obtain ⟨p, hp, hs⟩ := List.any_eq_true.1 h3
    have e1 := WideAt.sameKey_eq hs
    have e2 : (DataW.map es).atKey (.int .i64 f) zd = p.2 := WideAt.atKey_mem zd hK hap (by rw [← e1]; exact hp)
    have e3 : (DataW.map (es.filter fun p => !d (intOf p.1))).atKey (.int .i64 f) zd = p.2 := WideAt.atKey_mem zd hK (hap.filter _) ((hm _).2 ⟨by rw [← e1]; exact hp, by simpa [intOf] using e⟩)
    show (DataW.map (es.filter fun p => !d (intOf p.1))).atKey _ _ = _
    rw [e3, ← e2]
    exact h2 v hv zd
/-- The entry that has come is one of the map's. -/
theorem came {D : DataW Value} {M : Int → Option Value} {P : Program} {T : MapTy P} {w : World} {b n : Nat} (hown : w.ownsMap P T.k heldM b n D) (hS : Says D M) {d : Int → Bool} {es0 : List (Lit × DataW Value)} (hD : D = .map es0) {left : Lit → Bool} {x : Int} {c : Value} (hx : FitM x) (hl : left (.int .i64 x) = true) (hat : ∀ zd, (Fk (fun l _ => d (intOf l)) es0 left).atKey (.int .i64 x) zd = .held c) : M x = some c := by
  subst hD
  obtain ⟨es, he, hap, hkeys⟩ := hown.entries T.law
  injection he with he
  subst he
  have hK : WideAt.IsKeyLit (.int .i64 x) := trivial
  have h1 := Go.Maps.has_true_of_atKey hat
  obtain ⟨p, hp, hs⟩ := List.any_eq_true.1 (show (es0.filter fun p => !d (intOf p.1) || left p.1).any (fun p => p.1.sameKey (.int .i64 x)) = true from h1)
  have hp' := (List.mem_filter.1 hp).1
  have e1 := WideAt.sameKey_eq hs
  have e2 := at_cameK hap hK hl hat p hp' e1
  obtain ⟨h3, h4⟩ := hS x hx
  have h5 : Maps.has (.map es0) (Lit.int .i64 x) = true := List.any_eq_true.2 ⟨p, hp', hs⟩
  rw [h5] at h3
  cases e : M x with
  | none => rw [e] at h3; cases h3
  | some v =>
    have h6 := h4 v e .nil
    rw [WideAt.atKey_mem .nil hK hap (show (Lit.int .i64 x, p.2) ∈ es0 by rw [← e1]; exact hp'), e2] at h6
    injection h6 with h6
    rw [h6]
section
variable {w w' : World} {b n : Nat} {M : Int → Option Value} {d : Int → Bool} {g : Nat} {cb : Array Value}
set_option maxRecDepth 100000 in
set_option maxHeartbeats 4000000 in
theorem deleteN (h : TN.At w b n M) (d : Int → Bool) (eg : ∀ args w, (callFunc g args).run Tryz.prog w = .ok (.enter g args) w)
    (hdel : ∀ W x v, w.grownBy W (some b) → FitM x → M x = some v → Calls Tryz.prog g (#[.int .i64 x, v] ++ cb) W fun e w' => e = .returned (.bool (d x)) ∧ W.grownBy w' none) :
    Calls Tryz.prog 94 #[.map (some b), .func (.func g) #[] cb] w fun e w' => e = .returned (.tuple #[]) ∧ TN.At w' b n (fun p => if d p = true then none else M p) ∧ w.grownBy w' (some b) := by
  obtain ⟨D, hown, hS⟩ := h
  obtain ⟨es0, hD, hap, hkeys⟩ := hown.entries TN.law
  have HD := Lib.hid hdel
  have HS := Lib.hid (hS.filt (T := TN) hown d)
  have HC := Lib.hid (fun left x c => came (T := TN) (d := d) hown hS hD (left := left) (x := x) (c := c))
  clear hdel hS
  subst hD
  go_enter Tryz.func94, Tryz.ntmps94
  go_wp2_with (at_range; refine wpList_range_own _ rfl _ 88 rfl 3 76 TN.law TN.ht heldM b n _ rfl hown ?_; intro w0 hrg0 hg0 hs0)
  go_frame
  go_loopw [8] (fun _ wr => ∃ (left : Lit → Bool) (cnt : Nat), wr.ranges Tryz.prog 3 heldM b w.heap.size n (Fk (fun l _ => d (intOf l)) es0 left) left cnt ∧ w.grownBy wr (some b))
    (fun _ wr => wr.rangeLeft b w.heap.size)
  case atStart => exact ⟨_, _, by rw [Fk_start hkeys]; exact hrg0, hg0.but _⟩
  case round =>
    obtain ⟨left, cnt, hrg, hgw⟩ := hrel
    go_wp2_with (at_next; refine wpList_next_ranges _ rfl _ rfl 3 TN.law heldM (fun x : Int => .int .i64 x) (fun v => v) (fun key kl hk => by obtain ⟨x, hx, _⟩ := Maps.keyOf_i64 TN.hk hk; exact ⟨x, hx⟩) (fun v y _ => ⟨v, rfl⟩) b w.heap.size n _ _ _ rfl hrg ?_ ?_)
    · intro _ hl0
      go_wp2
      go_end0
      exact ⟨rfl, ⟨_, by rw [← Fk_end hl0]; exact hrg.owns, HS.out⟩, hgw⟩
    · intro x c kl yd yp w1 cnt1 hkey hlx hv hat hrg1 hlt hg1 hs1 hen
      obtain ⟨z, exz, hz⟩ := Maps.keyOf_i64 TN.hk hkey
      obtain rfl : x = z := encM_inj exz
      unfold heldM at hv
      injection hv with hv
      injection hv with hv hv2
      subst hv
      have hx : FitM x := wf_fitM hz.2
      obtain rfl := hz.1
      have hM := HC.out left x c hx hlx hat
      have hgw1 := hgw.andThen hg1 (fun j hj => by cases hj; exact Or.inl (Nat.le_refl _))
      have hc := HD.out w1 x c hgw1 hx hM
      have hbl := hrg1.owns.lt
      have hrl := hrg1.lt
      cases hp : d x with
      | false =>
        rw [hp] at hc
        go_wp2_with (first
          | (go_at_fn g; refine hc.mono ?_; rintro e w2 ⟨rfl, hg2⟩)
          | go_in)
        have hrg2 := hrg1.kept hg2 (by simp) (by simp)
        go_roundw
        case rel => exact ⟨_, cnt1, by rw [← Fk_stays hap (TN.law.key hkey) hlx (by simpa [intOf] using hp) hat]; exact hrg2, hgw1.andThen hg2 (fun j hj => by cases hj)⟩
        case measure => rw [hrg2.left_eq, hrg.left_eq]; exact hlt
      | true =>
        rw [hp] at hc
        go_wp2_with (first
          | (go_at_fn g; refine hc.mono ?_; rintro e w2 ⟨rfl, hg2⟩; have hrg2 := hrg1.kept hg2 (by simp) (by simp))
          | (at_delete; refine wpList_delete_ranges _ rfl _ _ 88 3 rfl 76 TN.law TN.ht heldM b w.heap.size n _ _ _ rfl hrg2 _ _ rfl hkey ?_; intro w3 cnt3 hrg3 hle hturn; go_frame)
          | go_in)
        rw [strike_twice] at hrg3
        go_roundw
        case rel => exact ⟨_, cnt3, by rw [← Fk_struck hap (TN.law.key hkey) hlx (by simpa [intOf] using hp) hat]; exact hrg3, (hgw1.andThen hg2 (fun j hj => by cases hj)).andThen hturn.grown (fun j hj => by cases hj; exact Or.inr rfl)⟩
        case measure => rw [hrg3.left_eq, hrg.left_eq]; omega
set_option maxRecDepth 100000 in
set_option maxHeartbeats 4000000 in
theorem deleteM {W : Int → Int} (h : MemAt w b W) (d : Int → Bool) (eg : ∀ args w, (callFunc g args).run Tryz.prog w = .ok (.enter g args) w)
    (hdel : ∀ W' x, w.grownBy W' (some b) → 0 ≤ x → x < 4096 → Calls Tryz.prog g (#[.int .i64 x, g8 W x] ++ cb) W' fun e w' => e = .returned (.bool (d x)) ∧ W'.grownBy w' none) :
    Calls Tryz.prog 92 #[.map (some b), .func (.func g) #[] cb] w fun e w' => e = .returned (.tuple #[]) ∧ MemAt w' b (fun i => if d (i / 8) = true then 0 else W i) ∧ w.grownBy w' (some b) := by
  obtain ⟨M, ⟨D, hown, hS⟩, hWd⟩ := h
  have HWD := Lib.hid hWd
  clear hWd
  obtain ⟨n, hn⟩ : ∃ n : Nat, n = 4096 := ⟨_, rfl⟩
  rw [← hn] at hown
  have HNN := Lib.hid hn
  obtain ⟨es0, hD, hap, hkeys⟩ := hown.entries TM.law
  have HD := Lib.hid hdel
  have HS := Lib.hid (hS.filt (T := TM) hown d)
  have HC := Lib.hid (fun left x c => came (T := TM) (d := d) hown hS hD (left := left) (x := x) (c := c))
  clear hdel hS
  subst hD
  clear hn
  go_enter Tryz.func92, Tryz.ntmps92
  go_wp2_with (at_range; refine wpList_range_own _ rfl _ 76 rfl 3 96 TM.law TM.ht heldM b n _ rfl hown ?_; intro w0 hrg0 hg0 hs0)
  go_frame
  go_loopw [8] (fun _ wr => ∃ (left : Lit → Bool) (cnt : Nat), wr.ranges Tryz.prog 3 heldM b w.heap.size n (Fk (fun l _ => d (intOf l)) es0 left) left cnt ∧ w.grownBy wr (some b))
    (fun _ wr => wr.rangeLeft b w.heap.size)
  case atStart => exact ⟨_, _, by rw [Fk_start hkeys]; exact hrg0, hg0.but _⟩
  case round =>
    obtain ⟨left, cnt, hrg, hgw⟩ := hrel
    go_wp2_with (at_next; refine wpList_next_ranges _ rfl _ rfl 3 TM.law heldM (fun x : Int => .int .i64 x) (fun v => v) (fun key kl hk => by obtain ⟨x, hx, _⟩ := Maps.keyOf_i64 TM.hk hk; exact ⟨x, hx⟩) (fun v y _ => ⟨v, rfl⟩) b w.heap.size n _ _ _ rfl hrg ?_ ?_)
    · intro _ hl0
      go_wp2
      go_end0
      exact ⟨rfl, ⟨_, ⟨_, by rw [← HNN.out, ← Fk_end hl0]; exact hrg.owns, HS.out⟩, HWD.out.del d⟩, hgw⟩
    · intro x c kl yd yp w1 cnt1 hkey hlx hv hat hrg1 hlt hg1 hs1 hen
      obtain ⟨z, exz, hz⟩ := Maps.keyOf_i64 TM.hk hkey
      obtain rfl : x = z := encM_inj exz
      unfold heldM at hv
      injection hv with hv
      injection hv with hv hv2
      subst hv
      have hx : FitM x := wf_fitM hz.2
      obtain rfl := hz.1
      have hM := HC.out left x c hx hlx hat
      have hgw1 := hgw.andThen hg1 (fun j hj => by cases hj; exact Or.inl (Nat.le_refl _))
      obtain ⟨x0, x1, rfl⟩ := HWD.out.some hx hM
      obtain ⟨W2, hW2⟩ : ∃ W2, W2 = w1.alloc (.cells (g8 W x).cells 96) := ⟨_, rfl⟩
      have hg2 : w1.grownBy W2 none := by rw [hW2]; exact grown_alloc (World.grownBy.refl w1 none) _
      have hrg2 := hrg1.kept hg2 (by simp) (by simp)
      have hgw2 := hgw1.andThen hg2 (fun j hj => by cases hj)
      have hc := HD.out W2 x hgw2 x0 x1
      have hbl := hrg2.owns.lt
      have hrl := hrg2.lt
      have HAT := Lib.hid hat
      have HM := Lib.hid hM
      clear hat hM
      unfold g8 at hc hW2 hen
      change W2 = w1.alloc (.cells #[.int .u64 (W (x * 8)), .int .u64 (W (x * 8 + 1)), .int .u64 (W (x * 8 + 2)), .int .u64 (W (x * 8 + 3)), .int .u64 (W (x * 8 + 4)), .int .u64 (W (x * 8 + 5)), .int .u64 (W (x * 8 + 6)), .int .u64 (W (x * 8 + 7))] 96) at hW2
      unfold g8
      obtain ⟨q, hq⟩ : ∃ q, q = w1.heap.size := ⟨_, rfl⟩
      have r2 : Lrow W2 q 96 [.int .u64 (W (x * 8)), .int .u64 (W (x * 8 + 1)), .int .u64 (W (x * 8 + 2)), .int .u64 (W (x * 8 + 3)), .int .u64 (W (x * 8 + 4)), .int .u64 (W (x * 8 + 5)), .int .u64 (W (x * 8 + 6)), .int .u64 (W (x * 8 + 7))] := by rw [hW2, hq]; exact Lrow.new w1 _ [.int .u64 (W (x * 8)), .int .u64 (W (x * 8 + 1)), .int .u64 (W (x * 8 + 2)), .int .u64 (W (x * 8 + 3)), .int .u64 (W (x * 8 + 4)), .int .u64 (W (x * 8 + 5)), .int .u64 (W (x * 8 + 6)), .int .u64 (W (x * 8 + 7))]
      have c0 := r2.cell 0
      have c1 := r2.cell 1
      have c2 := r2.cell 2
      have c3 := r2.cell 3
      have c4 := r2.cell 4
      have c5 := r2.cell 5
      have c6 := r2.cell 6
      have c7 := r2.cell 7
      go_wp2_with fail

      rw [← hW2]
      cases hp : d x with
      | false =>
        rw [hp] at hc
        refine hc.mono ?_
        rintro e w3 ⟨rfl, hg3⟩
        have hrg3 := hrg2.kept hg3 (by simp) (by simp)
        go_wp2
        go_roundw
        case rel => exact ⟨_, cnt1, by rw [← Fk_stays hap (TM.law.key hkey) hlx (by simpa [intOf] using hp) HAT.out]; exact hrg3, hgw2.andThen hg3 (fun j hj => by cases hj)⟩
        case measure => rw [hrg3.left_eq, hrg.left_eq]; exact hlt
      | true =>
        rw [hp] at hc
        refine hc.mono ?_
        rintro e w3 ⟨rfl, hg3⟩
        have hrg3 := hrg2.kept hg3 (by simp) (by simp)
        go_wp2_with (first
          | (at_delete; refine wpList_delete_ranges _ rfl _ _ 76 3 rfl 96 TM.law TM.ht heldM b w.heap.size n _ _ _ rfl hrg3 _ _ rfl hkey ?_; intro w4 cnt3 hrg4 hle hturn; go_frame)
          | go_in)
        rw [strike_twice] at hrg4
        go_roundw
        case rel => exact ⟨_, cnt3, by rw [← Fk_struck hap (TM.law.key hkey) hlx (by simpa [intOf] using hp) HAT.out]; exact hrg4, (hgw2.andThen hg3 (fun j hj => by cases hj)).andThen hturn.grown (fun j hj => by cases hj; exact Or.inr rfl)⟩
        case measure => rw [hrg4.left_eq, hrg.left_eq]; omega
end
end Go.Proofs.YtnppnoabhpkmkaaGreat
