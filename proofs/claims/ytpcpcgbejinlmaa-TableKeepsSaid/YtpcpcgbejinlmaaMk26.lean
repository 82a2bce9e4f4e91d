/- Eight leaves that become one: the contract of Merge. -/
import Derived.Test.YtpcpcgbejinlmaaMk25
import Derived.Test.YtpcpcgbejinlmaaMk24
import Derived.Test.YtpcpcgbejinlmaaMk05
import Derived.Test.YtpcpcgbejinlmaaMk23
namespace Go.Proofs.Ytpcpcgbejinlmaa
open Go.RowKit
def mrE (ws : List Int) (r a : Int) : Nat → Nat → Int
  | 0, _ => 0
  | n + 1, i => if (fol ws r (a + (i : Int))).er = 0 then (if (fol ws r (a + (i : Int))).lv = 0 then mrE ws r a n (i + 1) else 6) else (fol ws r (a + (i : Int))).er
def enOf (x : Int) : En := ⟨unF x, unB x 0, unB x 1, unB x 7, unB x 9, unB x 5, unB x 6⟩
def mrG (ws : List Int) (r a : Int) : Nat → En := fun i => enOf (fol ws r (a + (i : Int))).x
def mrN (g : Nat → En) : En := ⟨(g 0).f, true, (g 0).w, true, false, anU g 8, anD g 8⟩
def meE (ws R : List Int) (r p : Int) : Int := if rtE R r = 0 then (if mrE ws r (dnI p 3) 8 0 = 0 then (if mgOk (mrG ws r (dnI p 3)) = true then 0 else 5) else mrE ws r (dnI p 3) 8 0) else rtE R r
def meW (ws : List Int) (r p : Int) : List Int := ptL ws ((fol ws r (dnI p 3 + 7)).ts.getD 2 0) (dg (dnI p 3 + 7) 1) (enC (mrN (mrG ws r (dnI p 3)))) (enV (mrN (mrG ws r (dnI p 3))))
section
variable {w : World} {s : Seat} {v : Value} {ws L R : List Int}
theorem loc_last {ad : Addr} {m n : Nat} {l : List Int} (h : Loc w s v (some ad) m l) (hn : n + 1 = m) : Loc w s v (some (ad.add n)) (m - n) [l.getD n 0] := by
  subst hn
  rw [show n + 1 - n = 1 by omega]
  obtain ⟨a, ea, ha, hc⟩ := h.ints.at_ (by omega)
  injection ea with ea; subst ea
  have hb : (ad.add n).block = ad.block := by unfold Addr.add; split <;> rfl
  refine ⟨⟨rfl, fun _ => ⟨_, rfl, by rw [hb]; exact ha, fun j hj => ?_⟩⟩, fun _ x e => ?_⟩
  · obtain rfl : j = 0 := by omega
    have e0 : (ad.add n).add 0 = ad.add n := by
      obtain ⟨x, hx⟩ : ∃ x, x = ad.add n := ⟨_, rfl⟩
      rw [← hx]; simp [Addr.add]
    rw [e0]; exact hc n (by omega)
  · injection e with e; subst e; rw [hb]; exact h.off (by omega) ad rfl
def Merged8 (w : World) (s : Seat) (v : Value) (ws L R : List Int) (r p : Int) (e : Ending) (w' : World) : Prop :=
  e = .returned (.int .i64 (meE ws R r p)) ∧ ∃ v', (meE ws R r p ≠ 0 → Tab w' s v' ws L R) ∧ (meE ws R r p = 0 → Tab w' s v' (meW ws r p) (L ++ [(fol ws r (dnI p 3 + 7)).ts.getD 3 0]) R) ∧ Mv s v w v' w'
theorem me_end {w' : World} {r p z : Int} (h0 : rtE R r = 0) (hz : (if mrE ws r (dnI p 3) 8 0 = 0 then (if mgOk (mrG ws r (dnI p 3)) = true then (0 : Int) else 5) else mrE ws r (dnI p 3) 8 0) = z) (hz0 : z ≠ 0) (hT : Tab w' s v ws L R) (hM : Below w.heap.size w w') : Merged8 w s v ws L R r p (.returned (.int .i64 z)) w' := by
  have e : meE ws R r p = z := by unfold meE; rw [if_pos h0]; exact hz
  unfold Merged8
  rw [e]
  exact ⟨rfl, v, fun _ => hT, fun e => absurd e hz0, Mv.of_below hM⟩
theorem me_fin {w' : World} {v' : Value} {r p : Int} (h0 : rtE R r = 0) (hz : mrE ws r (dnI p 3) 8 0 = 0) (hm : mgOk (mrG ws r (dnI p 3)) = true) (hT : Tab w' s v' (meW ws r p) (L ++ [(fol ws r (dnI p 3 + 7)).ts.getD 3 0]) R) (hM : Mv s v w v' w') : Merged8 w s v ws L R r p (.returned (.int .i64 0)) w' := by
  have e : meE ws R r p = 0 := by unfold meE; rw [if_pos h0, if_pos hz, if_pos hm]
  unfold Merged8
  rw [e]
  exact ⟨rfl, v', fun e => absurd rfl e, fun _ => hT, hM⟩
theorem mrE_ok {ws : List Int} {r a : Int} : ∀ (n i : Nat), mrE ws r a n i = 0 → ∀ k, i ≤ k → k < i + n → (fol ws r (a + (k : Int))).er = 0 ∧ (fol ws r (a + (k : Int))).lv = 0
  | 0, _, _, _, _, _ => by omega
  | n + 1, i, h, k, h1, h2 => by
    unfold mrE at h
    by_cases e : (fol ws r (a + (i : Int))).er = 0
    · rw [if_pos e] at h
      by_cases l : (fol ws r (a + (i : Int))).lv = 0
      · rw [if_pos l] at h
        by_cases ek : k = i
        · subst ek; exact ⟨e, l⟩
        · exact mrE_ok n (i + 1) h k (by omega) (by omega)
      · rw [if_neg l] at h; omega
    · rw [if_neg e] at h; exact absurd h e
theorem ints_other {w w' : World} {A : Option Addr} {n : Nat} {l : List Int} (h : IntsAt w w.heap.size A n l) (hs : w'.heap.size = w.heap.size) (hk : ∀ x, A = some x → w'.heap[x.block]? = w.heap[x.block]?) : IntsAt w' w'.heap.size A n l := by
  refine ⟨h.len, fun h0 => ?_⟩
  obtain ⟨a, rfl, ha, hc⟩ := h.at_ h0
  refine ⟨a, rfl, by rw [hs]; exact ha, fun j hj => ?_⟩
  rw [← hc j hj]
  have hb : (a.add j).block = a.block := by unfold Addr.add; split <;> rfl
  exact World.cell?_of_block (by rw [hb]; exact hk a rfl)
theorem below_11s {w W : World} {C q : Nat} (h : Below C w W) (hq : C ≤ q) {x0 x1 x2 x3 x4 x5 x6 x7 x8 x9 x10 : Value} : Below C w (((((((((((W.setCell ⟨q, 0, none⟩ x0).setCell ⟨q, 1, none⟩ x1).setCell ⟨q, 2, none⟩ x2).setCell ⟨q, 3, none⟩ x3).setCell ⟨q, 4, none⟩ x4).setCell ⟨q, 5, none⟩ x5).setCell ⟨q, 6, none⟩ x6).setCell ⟨q, 7, none⟩ x7).setCell ⟨q, 8, none⟩ x8).setCell ⟨q, 9, none⟩ x9).setCell ⟨q, 10, none⟩ x10) :=
  ((((((((((h.setCell (p := ⟨q, 0, none⟩) hq _).setCell (p := ⟨q, 1, none⟩) hq _).setCell (p := ⟨q, 2, none⟩) hq _).setCell (p := ⟨q, 3, none⟩) hq _).setCell (p := ⟨q, 4, none⟩) hq _).setCell (p := ⟨q, 5, none⟩) hq _).setCell (p := ⟨q, 6, none⟩) hq _).setCell (p := ⟨q, 7, none⟩) hq _).setCell (p := ⟨q, 8, none⟩) hq _).setCell (p := ⟨q, 9, none⟩) hq _).setCell (p := ⟨q, 10, none⟩) hq _
theorem list11 {α : Type} (V : List α) (h : V.length = 11) : ∃ x0 x1 x2 x3 x4 x5 x6 x7 x8 x9 x10, V = [x0, x1, x2, x3, x4, x5, x6, x7, x8, x9, x10] := by
  match V, h with
  | [x0, x1, x2, x3, x4, x5, x6, x7, x8, x9, x10], _ => exact ⟨x0, x1, x2, x3, x4, x5, x6, x7, x8, x9, x10, rfl⟩
set_option maxRecDepth 100000 in
set_option maxHeartbeats 4000000 in
theorem tmerge_any (h : Tab w s v ws L R) (hLl : L.length ≤ 1000) (r p : Int) (hr : Fits r) (hp : Fits p) : Calls Try.prog 11 #[.pointer (some ⟨s.x, 0, none⟩), .int .i64 r, .int .i64 p] w (Merged8 w s v ws L R r p) := by
  have hcr := checkRoot_any h r hr
  have H := Lib.hid h
  have HP := Lib.hid hp
  have HLL := Lib.hid hLl
  clear h hp hLl
  by_cases h0 : rtE R r = 0
  · rw [h0] at hcr
    obtain ⟨a, ha⟩ : ∃ a, a = dnI p 3 := ⟨_, rfl⟩
    have hab : -9223372036854775808 ≤ a ∧ a + 7 ≤ 9223372036854775807 := by
      have := HP.out
      unfold Fits at this
      rw [ha]; unfold dnI; rw [if_pos (by decide)]
      have e : (2 : Int) ^ (3 : Int).toNat = 8 := rfl
      rw [e]; omega
    have hdn := fun w1 => down_any (o := 3) p HP.out.1 HP.out.2 w1
    rw [← ha] at hdn
    have HA := Lib.hid ha
    have H0 := Lib.hid h0
    clear ha h0
    go_enter Try.func11, Try.ntmps11
    go_wp2_with fail
    refine hcr.mono ?_
    rintro e w1 ⟨rfl, hb1⟩
    have H1 := Lib.hid (H.out.call hb1)
    have B1 := Lib.hid hb1
    clear hcr hb1
    obtain ⟨q, hq⟩ : ∃ q, q = w1.heap.size := ⟨_, rfl⟩
    obtain ⟨q2, hq2⟩ : ∃ q2, q2 = q + 1 := ⟨_, rfl⟩
    obtain ⟨w0, hw0⟩ : ∃ w0, w0 = (w1.alloc (.cells #[.int .i64 0, .bool false, .bool false, .bool false, .bool false, .bool false, .bool false, .int .i64 0, .int .i64 0, .slice none 0 0, .slice none 0 0] 74)).alloc (.cells (encells (ens fun _ => En.zero)).toArray 79) := ⟨_, rfl⟩
    have hz : (w1.alloc (.cells #[.int .i64 0, .bool false, .bool false, .bool false, .bool false, .bool false, .bool false, .int .i64 0, .int .i64 0, .slice none 0 0, .slice none 0 0] 74)).alloc (.cells #[.int .i64 0, .bool false, .bool false, .bool false, .bool false, .bool false, .bool false, .int .i64 0, .bool false, .bool false, .bool false, .bool false, .bool false, .bool false, .int .i64 0, .bool false, .bool false, .bool false, .bool false, .bool false, .bool false, .int .i64 0, .bool false, .bool false, .bool false, .bool false, .bool false, .bool false, .int .i64 0, .bool false, .bool false, .bool false, .bool false, .bool false, .bool false, .int .i64 0, .bool false, .bool false, .bool false, .bool false, .bool false, .bool false, .int .i64 0, .bool false, .bool false, .bool false, .bool false, .bool false, .bool false, .int .i64 0, .bool false, .bool false, .bool false, .bool false, .bool false, .bool false] 79) = w0 := by rw [hw0]; rfl
    have r0 : Row w0 q 74 [.int .i64 0, .bool false, .bool false, .bool false, .bool false, .bool false, .bool false, .int .i64 0, .int .i64 0, .slice none 0 0, .slice none 0 0] := by rw [hw0, hq]; exact (Row.new w1 _ _).alloc _
    have e0 : Row8 w0 q2 (fun _ => En.zero) := by
      have := Row.new (w1.alloc (.cells #[.int .i64 0, .bool false, .bool false, .bool false, .bool false, .bool false, .bool false, .int .i64 0, .int .i64 0, .slice none 0 0, .slice none 0 0] 74)) 79 (encells (ens fun _ => En.zero))
      rw [hw0, hq2, hq]; unfold Row8; simpa using this
    have b0 : Below w1.heap.size w1 w0 := by rw [hw0]; exact ((Below.refl _ _).alloc (Nat.le_refl _) _).alloc (by simp) _
    have HZ := Lib.hid hz
    have HQ := Lib.hid hq
    have HQ2 := Lib.hid hq2
    have R0 := Lib.hid r0
    have E0 := Lib.hid e0
    have B0 := Lib.hid b0
    have hadd : ∀ i, (⟨q2, 0, none⟩ : Addr).add i = ⟨q2, i, none⟩ := fun i => add_zero_off q2 i
    have nqq : ¬ q = q2 := by omega
    have nqq2 : ¬ q2 = q := by omega
    clear hw0 hz r0 e0 b0 hq hq2
    go_upto_region 6 with (fail)
    rw [← HQ.out, ← HQ2.out, HZ.out]
    go_wp2_with fail
    refine (hdn _).mono ?_
    rintro e w' ⟨rfl, rfl⟩
    clear hdn
    go_wp2_with fail
    go_loopw [24] (fun i wx => ∃ (j : Nat) (V : List Value), j ≤ 8 ∧ i = .int .i64 j ∧ mrE ws r a 8 0 = mrE ws r a (8 - j) j ∧ V.length = 11 ∧ Row8 wx q2 (fun k => if k < j then mrG ws r a k else En.zero) ∧ Row wx q 74 V ∧
      (0 < j → ∃ A m c A' m' c', V[9]? = some (.slice A m c) ∧ V[10]? = some (.slice A' m' c') ∧ IntsAt wx wx.heap.size A m (fol ws r (a + ((j - 1 : Nat) : Int))).ts ∧ IntsAt wx wx.heap.size A' m' (dgL (a + ((j - 1 : Nat) : Int))) ∧ (∀ x, A = some x → q2 < x.block) ∧ (∀ x, A' = some x → q2 < x.block) ∧ m ≤ c) ∧ Below w1.heap.size w1 wx) (fun i _ => 8 - (intOf i).toNat)
    case atStart => exact ⟨0, _, by omega, rfl, rfl, by rfl, by simpa using E0.out, R0.out, fun h => absurd h (Nat.lt_irrefl 0), B0.out⟩
    case round =>
      obtain ⟨j, V, hj, rfl, hmr, hV, he8, hrow, hst, hb⟩ := hrel
      obtain ⟨V0, V1, V2, V3, V4, V5, V6, V7, V8, V9, V10, rfl⟩ := list11 V hV
      have hT := H1.out.call hb
      have hq2l := Row.lt he8
      have HT := Lib.hid hT
      have HB := Lib.hid hb
      have HE8 := Lib.hid he8
      have HROW := Lib.hid hrow
      have HST := Lib.hid hst
      have HMR := Lib.hid hmr
      by_cases hj8 : j < 8
      · obtain ⟨pj, hpj⟩ : ∃ pj, pj = a + (j : Int) := ⟨_, rfl⟩
        have hwp : IntKind.i64.wrap (a + (j : Int)) = pj := by rw [hpj]; exact IntWalk.i64_in _ (by omega)
        have hmj : mrE ws r a (8 - j) j = if (fol ws r pj).er = 0 then (if (fol ws r pj).lv = 0 then mrE ws r a (8 - (j + 1)) (j + 1) else 6) else (fol ws r pj).er := by
          rw [hpj, show 8 - j = 8 - (j + 1) + 1 by omega]; rfl
        have HMJ := Lib.hid hmj
        have HPJ := Lib.hid hpj
        have HQ2L := Lib.hid hq2l
        clear hT hq2l hb he8 hrow hst hmr hmj hpj hV
        by_cases her : (fol ws r pj).er = 0
        · have hfi := find_ok HT.out r pj her
          unfold Stand at hfi
          obtain ⟨rr, hrr⟩ : ∃ rr, rr = fol ws r pj := ⟨_, rfl⟩
          rw [← hrr] at hfi her
          have hlvV : lfV rr = (rr.lv : Int) := by simp [lfV, her]
          have hEn : (⟨lfF rr, lfB rr 0, lfB rr 1, lfB rr 7, lfB rr 9, lfB rr 5, lfB rr 6⟩ : En) = enOf rr.x := by simp [enOf, lfF, lfB, her]
          obtain ⟨x0, ex0⟩ : ∃ y, y = lfF rr := ⟨_, rfl⟩
          rw [← ex0] at hfi hEn
          clear ex0
          obtain ⟨z0, ez0⟩ : ∃ y, y = lfB rr 0 := ⟨_, rfl⟩
          rw [← ez0] at hfi hEn
          clear ez0
          obtain ⟨z1, ez1⟩ : ∃ y, y = lfB rr 1 := ⟨_, rfl⟩
          rw [← ez1] at hfi hEn
          clear ez1
          obtain ⟨z7, ez7⟩ : ∃ y, y = lfB rr 7 := ⟨_, rfl⟩
          rw [← ez7] at hfi hEn
          clear ez7
          obtain ⟨z9, ez9⟩ : ∃ y, y = lfB rr 9 := ⟨_, rfl⟩
          rw [← ez9] at hfi hEn
          clear ez9
          obtain ⟨z5, ez5⟩ : ∃ y, y = lfB rr 5 := ⟨_, rfl⟩
          rw [← ez5] at hfi hEn
          clear ez5
          obtain ⟨z6, ez6⟩ : ∃ y, y = lfB rr 6 := ⟨_, rfl⟩
          rw [← ez6] at hfi hEn
          clear ez6
          obtain ⟨zv, ezv⟩ : ∃ y, y = lfV rr := ⟨_, rfl⟩
          rw [← ezv] at hfi hlvV
          clear ezv
          obtain ⟨zp, ezp⟩ : ∃ y, y = lfP rr pj := ⟨_, rfl⟩
          rw [← ezp] at hfi
          clear ezp
          have HRR := Lib.hid hrr
          have HER := Lib.hid her
          have HLV := Lib.hid hlvV
          have HEN := Lib.hid hEn
          clear hrr her hlvV hEn
          go_wp2_with fail
          refine hfi.mono ?_
          rintro e w2 ⟨A, m, c, A', m', c', rfl, hi, hi', hb2, hn, hn', hcap⟩
          obtain ⟨wb, hwb⟩ : ∃ wb, wb = (((((((((((w2.setCell ⟨q, 0, none⟩ (.int .i64 x0)).setCell ⟨q, 1, none⟩ (.bool z0)).setCell ⟨q, 2, none⟩ (.bool z1)).setCell ⟨q, 3, none⟩ (.bool z7)).setCell ⟨q, 4, none⟩ (.bool z9)).setCell ⟨q, 5, none⟩ (.bool z5)).setCell ⟨q, 6, none⟩ (.bool z6)).setCell ⟨q, 7, none⟩ (.int .i64 zv)).setCell ⟨q, 8, none⟩ (.int .i64 zp)).setCell ⟨q, 9, none⟩ (.slice A m c)).setCell ⟨q, 10, none⟩ (.slice A' m' c')) := ⟨_, rfl⟩
          have hr2 := HROW.out.below hb2 HROW.out.lt
          have hrb : Row wb q 74 [.int .i64 x0, .bool z0, .bool z1, .bool z7, .bool z9, .bool z5, .bool z6, .int .i64 zv, .int .i64 zp, .slice A m c, .slice A' m' c'] := by
            rw [hwb]
            exact ((((((((((hr2.set_ 0 _).set_ 1 _).set_ 2 _).set_ 3 _).set_ 4 _).set_ 5 _).set_ 6 _).set_ 7 _).set_ 8 _).set_ 9 _).set_ 10 _
          have hwbk : ∀ k, k ≠ q → wb.heap[k]? = w2.heap[k]? := fun k hk => by
            rw [hwb]
            have st : ∀ (u : World) (i : Nat) (y : Value), (u.setCell ⟨q, i, none⟩ y).heap[k]? = u.heap[k]? := fun u i y => Below.heap_setCell u _ y k hk
            simp only [st]
          have hsz2 : wb.heap.size = w2.heap.size := by rw [hwb]; simp only [World.size_setCell]
          have hbb : Below w1.heap.size w1 wb := by rw [hwb]; exact below_11s (HB.out.trans (hb2.mono HB.out.size)) (by have := HQ.out; omega)
          have heb : Row8 wb q2 (fun k => if k < j then mrG ws r a k else En.zero) := by
            have := Row.below HE8.out hb2 (Row.lt HE8.out)
            exact (hwbk q2 nqq2).trans this
          have hA : ∀ x, A = some x → q2 < x.block := fun x e => Nat.lt_of_lt_of_le HQ2L.out (hn x e)
          have hA' : ∀ x, A' = some x → q2 < x.block := fun x e => Nat.lt_of_lt_of_le HQ2L.out (hn' x e)
          have HAA := Lib.hid (And.intro hA (And.intro hA' hcap))
          have HI := Lib.hid (And.intro hi (And.intro hi' (And.intro hwbk hsz2)))
          have HWB := Lib.hid hwb
          have HRB := Lib.hid hrb
          have HBB := Lib.hid hbb
          have HEB := Lib.hid heb
          obtain ⟨⟨d0, d1, d2, d3, d4, d5, d6, d7, d8, d9, d10⟩, df⟩ := hr2.eleven
          clear hfi hi hi' hb2 hn hn' hcap hwb hr2 hrb hwbk hsz2 hbb heb hA hA'
          go_upto_region 12 with (fail)
          rw [← HWB.out]
          clear d0 d1 d2 d3 d4 d5 d6 d7 d8 d9 d10 df
          obtain ⟨d0, d1, d2, d3, d4, d5, d6, d7, d8, d9, d10⟩ := HRB.out.eleven.1
          by_cases hlv : zv = 0
          · have HLVZ := Lib.hid hlv
            subst hlv
            have he1 := HEB.out
            have e0 : wb.cell? ⟨q2, j * 7, none⟩ = some (.int .i64 0) := by have := HEB.out.cell hj8 (show 0 < 7 by omega); simpa [encell, En.zero] using this
            have e1 : wb.cell? ⟨q2, j * 7 + 1, none⟩ = some (.bool false) := by have := HEB.out.cell hj8 (show 1 < 7 by omega); simpa [encell, En.zero] using this
            have e2 : wb.cell? ⟨q2, j * 7 + 2, none⟩ = some (.bool false) := by have := HEB.out.cell hj8 (show 2 < 7 by omega); simpa [encell, En.zero] using this
            have e3 : wb.cell? ⟨q2, j * 7 + 3, none⟩ = some (.bool false) := by have := HEB.out.cell hj8 (show 3 < 7 by omega); simpa [encell, En.zero] using this
            have e4 : wb.cell? ⟨q2, j * 7 + 4, none⟩ = some (.bool false) := by have := HEB.out.cell hj8 (show 4 < 7 by omega); simpa [encell, En.zero] using this
            have e5 : wb.cell? ⟨q2, j * 7 + 5, none⟩ = some (.bool false) := by have := HEB.out.cell hj8 (show 5 < 7 by omega); simpa [encell, En.zero] using this
            have e6 : wb.cell? ⟨q2, j * 7 + 6, none⟩ = some (.bool false) := by have := HEB.out.cell hj8 (show 6 < 7 by omega); simpa [encell, En.zero] using this
            have ef : ∀ o, wb.frozen? ⟨q2, o, none⟩ = false := fun o => Row.frozen HEB.out o
            obtain ⟨wc, hwc⟩ : ∃ wc, wc = (((((((wb.setCell ⟨q2, j * 7, none⟩ (.int .i64 x0)).setCell ⟨q2, j * 7 + 1, none⟩ (.bool z0)).setCell ⟨q2, j * 7 + 2, none⟩ (.bool z1)).setCell ⟨q2, j * 7 + 3, none⟩ (.bool z7)).setCell ⟨q2, j * 7 + 4, none⟩ (.bool z9)).setCell ⟨q2, j * 7 + 5, none⟩ (.bool z5)).setCell ⟨q2, j * 7 + 6, none⟩ (.bool z6)) := ⟨_, rfl⟩
            have hst := HEB.out.store hj8 ⟨x0, z0, z1, z7, z9, z5, z6⟩
            have ec : Row8 wc q2 (fun k => if k < j + 1 then mrG ws r a k else En.zero) := by
              have := hst.1
              unfold Row8 at this ⊢
              rw [hwc]
              rw [ens_congr (g' := upd (fun k => if k < j then mrG ws r a k else En.zero) j ⟨x0, z0, z1, z7, z9, z5, z6⟩) (fun k _ => ?_)]
              · exact this
              · simp only [upd]
                by_cases e1 : k = j
                · subst e1
                  have : mrG ws r a k = ⟨x0, z0, z1, z7, z9, z5, z6⟩ := by unfold mrG; rw [← HPJ.out, ← HRR.out]; exact HEN.out.symm
                  simp [this]
                · by_cases e2 : k < j
                  · simp [e1, e2, Nat.lt_succ_of_lt e2]
                  · simp [e1, e2, show ¬ k < j + 1 by omega]
            have gc : wb.grownBy wc (some q2) := by rw [hwc]; exact hst.2
            have hszc : wc.heap.size = wb.heap.size := by rw [hwc]; simp only [World.size_setCell]
            have hkc : ∀ k, k ≠ q2 → wc.heap[k]? = wb.heap[k]? := fun k hk => by
              rw [hwc]
              have st : ∀ (u : World) (i : Nat) (y : Value), (u.setCell ⟨q2, i, none⟩ y).heap[k]? = u.heap[k]? := fun u i y => Below.heap_setCell u _ y k hk
              simp only [st]
            have rc := HRB.out.grown gc (fun e => by injection e with e; exact nqq e)
            have bc := HBB.out.grown gc HBB.out.size (fun b e => by injection e with e; have := HQ.out; have := HQ2.out; omega)
            have ic : IntsAt wc wc.heap.size A m rr.ts := ints_other HI.out.1 (hszc.trans HI.out.2.2.2) (fun x e => (hkc _ (by have := HAA.out.1 x e; omega)).trans (HI.out.2.2.1 _ (by have := HAA.out.1 x e; have := HQ2.out; omega)))
            have ic' : IntsAt wc wc.heap.size A' m' (dgL pj) := ints_other HI.out.2.1 (hszc.trans HI.out.2.2.2) (fun x e => (hkc _ (by have := HAA.out.2.1 x e; omega)).trans (HI.out.2.2.1 _ (by have := HAA.out.2.1 x e; have := HQ2.out; omega)))
            have HIC := Lib.hid (And.intro ic ic')
            have HRC := Lib.hid rc
            have HBC := Lib.hid bc
            have HEC := Lib.hid ec
            have HWC := Lib.hid hwc
            have HMK : Hid (mrE ws r a 8 0 = mrE ws r a (8 - (j + 1)) (j + 1)) := by
              show _ = _
              rw [HMR.out, HMJ.out, ← HRR.out, if_pos HER.out, if_pos (by have := HLV.out; have := HLVZ.out; omega)]
            clear hst ec gc hszc hkc rc bc ic ic' hwc he1
            go_upto_region 17 with (fail)
            rw [← HWC.out]
            go_wp2_with fail
            go_roundw
            case rel => exact ⟨j + 1, _, by omega, by go_num, HMK.out, by rfl, HEC.out, HRC.out, fun _ => ⟨A, m, c, A', m', c', rfl, rfl, by rw [show j + 1 - 1 = j from rfl, ← HPJ.out, ← HRR.out]; exact HIC.out.1, by rw [show j + 1 - 1 = j from rfl, ← HPJ.out]; exact HIC.out.2, HAA.out.1, HAA.out.2.1, HAA.out.2.2⟩, HBC.out⟩
            case measure => simp [intOf]; omega
          · have hz : (zv != 0) = true := by simpa using hlv
            have hzz : (zv == 0) = false := by simpa using hlv
            have HNZ := Lib.hid hlv
            clear hlv
            go_wp2_with fail
            go_ret
            exact me_end H0.out (by
              have hne : ¬ rr.lv = 0 := by have := HLV.out; have := HNZ.out; omega
              have hz6 : mrE ws r a 8 0 = 6 := by rw [HMR.out, HMJ.out, ← HRR.out, if_pos HER.out, if_neg hne]
              rw [← HA.out, hz6]; rfl) (by omega) (H1.out.call HBB.out) (B1.out.trans (HBB.out.mono B1.out.size))
        · have hfi := find_bad HT.out r pj her
          obtain ⟨z, ez⟩ : ∃ z, z = (fol ws r pj).er := ⟨_, rfl⟩
          rw [← ez] at hfi her
          have hz : (z != 0) = true := by simpa using her
          have HNZ := Lib.hid her
          have HEZ := Lib.hid ez
          unfold zeroSt at hfi
          clear her ez
          go_wp2_with fail
          refine hfi.mono ?_
          rintro e w2 ⟨rfl, hb2⟩
          obtain ⟨⟨d0, d1, d2, d3, d4, d5, d6, d7, d8, d9, d10⟩, df⟩ := (HROW.out.below hb2 HROW.out.lt).eleven
          have HB2 := Lib.hid (HB.out.trans (hb2.mono HB.out.size))
          clear hfi hb2
          go_wp2_with fail
          go_ret
          have hb9 := below_11s HB2.out (show w1.heap.size ≤ q by have := HQ.out; omega) (x0 := .int .i64 0) (x1 := .bool false) (x2 := .bool false) (x3 := .bool false) (x4 := .bool false) (x5 := .bool false) (x6 := .bool false) (x7 := .int .i64 0) (x8 := .int .i64 0) (x9 := .slice none 0 0) (x10 := .slice none 0 0)
          exact me_end H0.out (by
              have hzz : mrE ws r a 8 0 = z := by rw [HMR.out, HMJ.out, ← HEZ.out, if_neg HNZ.out]
              rw [← HA.out, hzz, if_neg HNZ.out]) HNZ.out (H1.out.call hb9) (B1.out.trans (hb9.mono B1.out.size))
      · obtain rfl : j = 8 := by omega
        have hm0 : mrE ws r a 8 0 = 0 := by rw [hmr]; rfl
        have hrow8 : Row8 wr q2 (mrG ws r a) := by
          have := he8
          unfold Row8 at this ⊢
          rwa [ens_congr (g' := mrG ws r a) (fun k hk => by simp [hk])] at this
        obtain ⟨A, m, c, A', m', c', e9, e10, hi, hi', hn, hn', hcap⟩ := hst (by omega)
        injection e9 with e9
        injection e10 with e10
        subst e9 e10
        obtain ⟨her, hlv⟩ := mrE_ok 8 0 hm0 7 (by omega) (by omega)
        obtain ⟨hlv3, hln, hpg⟩ := fol_ok her
        rw [show ((8 - 1 : Nat) : Int) = 7 from rfl] at hi hi'
        rw [show ((7 : Nat) : Int) = 7 from rfl] at her hlv hlv3 hln hpg
        obtain ⟨G, eG⟩ : ∃ G, G = mrG ws r a := ⟨_, rfl⟩
        have hG0 : 0 ≤ (G 0).f ∧ (G 0).f < 1048576 := by rw [eG]; exact un_frame _
        rw [← eG] at hrow8
        have hmg := fun w5 => merged_any (w := w5) G hG0.1 hG0.2
        have hd4 : (dgL (a + 7)).length = 4 := by simp [dgL, hpg]
        have hm4 : m = 4 := by have := hi.len; omega
        have hm4' : m' = 4 := by have := hi'.len; omega
        have HM0 := Lib.hid hm0
        have HG := Lib.hid eG
        have HI := Lib.hid (And.intro hi (And.intro hi' (And.intro hn hn')))
        have HM4 := Lib.hid (And.intro hm4 (And.intro hm4' hcap))
        clear hT hq2l hb he8 hrow hst hmr hV hm0 eG hG0 hd4 hm4 hm4' hi hi' hn hn' hcap her hlv hlv3 hln hpg hj
        go_upto_region 18 with (fail)
        apply wp_region_lit
        refine wpList_load_row rfl _ _ rfl q2 rfl 79 (encells (ens G)).toArray (0, 0) _ hrow8 under8 rfl (by simp [info8, encells_length, ens_length]) ?_
        have R8 := Lib.hid hrow8
        clear hrow8
        go_wp2_with fail
        refine (hmg _).mono ?_
        rintro e w5 ⟨(⟨hk, rfl⟩ | ⟨hk, rfl⟩), hb5⟩
        · have HK := Lib.hid hk
          have HB5 := Lib.hid (HB.out.trans (hb5.mono HB.out.size))
          simp only [agg0]
          clear hb5 hk hmg
          go_wp2_with fail
          go_ret
          have b9 := below_new w5 28 [.int .i64 0, .bool false, .bool false, .bool false, .bool false, .bool false, .bool false]
          exact me_end H0.out (by rw [← HA.out, if_pos HM0.out, ← HG.out, HK.out]; simp) (by omega) (H1.out.call (HB5.out.trans (b9.mono HB5.out.size))) (B1.out.trans ((HB5.out.trans (b9.mono HB5.out.size)).mono B1.out.size))
        · obtain ⟨f0, ef0⟩ : ∃ y, y = (G 0).f := ⟨_, rfl⟩
          obtain ⟨y0, ey0⟩ : ∃ y, y = (G 0).w := ⟨_, rfl⟩
          obtain ⟨uu, euu⟩ : ∃ y, y = anU G 8 := ⟨_, rfl⟩
          obtain ⟨dd, edd⟩ : ∃ y, y = anD G 8 := ⟨_, rfl⟩
          rw [← ef0, ← ey0, ← euu, ← edd]
          obtain ⟨g, hg⟩ : ∃ g, g = w5.heap.size := ⟨_, rfl⟩
          obtain ⟨w6, hw6⟩ : ∃ w6, w6 = w5.alloc (.cells #[.int .i64 f0, .bool true, .bool y0, .bool true, .bool false, .bool uu, .bool dd] 28) := ⟨_, rfl⟩
          have b6 : Below wr.heap.size wr w6 := by rw [hw6]; exact hb5.alloc hb5.size _
          have r6 : Row w6 g 28 [.int .i64 f0, .bool true, .bool y0, .bool true, .bool false, .bool uu, .bool dd] := by rw [hw6, hg]; exact Row.new w5 _ _
          have q6 := HROW.out.below b6 HROW.out.lt
          have T6 : Tab w6 s v ws L R := HT.out.call b6
          have l6 : Loc w6 s v A m (fol ws r (a + 7)).ts := ⟨HI.out.1.call b6, fun _ x e hx => by have := HI.out.2.2.1 x e; have := H1.out.mine_lt hx; have := HQ.out; have := HQ2.out; omega⟩
          have l6' : Loc w6 s v A' m' (dgL (a + 7)) := ⟨HI.out.2.1.call b6, fun _ x e hx => by have := HI.out.2.2.2 x e; have := H1.out.mine_lt hx; have := HQ.out; have := HQ2.out; omega⟩
          obtain ⟨hm4, hm4', hcap⟩ := HM4.out
          obtain ⟨n, hn⟩ : ∃ n : Nat, n = 3 := ⟨_, rfl⟩
          obtain ⟨k, hk2⟩ : ∃ k : Nat, k = 2 := ⟨_, rfl⟩
          have hwm : IntKind.i64.wrap ((m : Int) - 1) = (n : Int) := by rw [IntWalk.i64_in _ (by omega)]; omega
          have hwk : IntKind.i64.wrap ((n : Int) - 1) = (k : Int) := by rw [IntWalk.i64_in _ (by omega)]; omega
          have hkm : (k : Int) < m := by omega
          have hkm' : (k : Int) < m' := by omega
          have hk9 : (k : Int) ≤ 4 := by omega
          have hn9 : (n : Int) ≤ m := by omega
          have hnc : (n : Int) ≤ c := by omega
          have hcn : ¬ c = n := by omega
          obtain ⟨ad, rfl, -, hc⟩ := l6.cell (j := k) (by omega)
          obtain ⟨ad', rfl, -, hc'⟩ := l6'.cell (j := k) (by omega)
          have hba : ∀ (x : Addr) (n : Nat), (x.add n).block = x.block := fun x n => by unfold Addr.add; split <;> rfl
          have hAb : (ad.add k).block ≠ s.b := by rw [hba]; exact fun e => l6.off (by omega) ad rfl (Or.inl e)
          have hAb' : (ad'.add k).block ≠ s.b := by rw [hba]; exact fun e => l6'.off (by omega) ad' rfl (Or.inl e)
          obtain ⟨t, et⟩ : ∃ t, t = (fol ws r (a + 7)).ts.getD k 0 := ⟨_, rfl⟩
          obtain ⟨i, ei⟩ : ∃ i, i = (dgL (a + 7)).getD k 0 := ⟨_, rfl⟩
          rw [← et] at hc
          rw [← ei] at hc'
          have hqb : q ≠ s.b := q6.apart T6.ram.row (by decide)
          have hgb : g ≠ s.b := r6.apart T6.ram.row (by decide)
          have hput := tput_any (w := w6.drew) (T6.call drew_b8) t i f0 true y0 true false uu dd
          obtain ⟨y9, y10⟩ : w6.drew.cell? ⟨q, 9, none⟩ = some (.slice (some ad) m c) ∧ w6.drew.cell? ⟨q, 10, none⟩ = some (.slice (some ad') m' c') := ⟨q6.cell 9, q6.cell 10⟩
          have l9 : w6.cell? ⟨q, 9, none⟩ = some (.slice (some ad) m c) := q6.cell 9
          obtain ⟨v0, v1, v2, v3, v4, v5, v6⟩ := r6.seven.1
          have hs4 : w6.drew.cell? ⟨q, 9, none⟩ = some (.slice (some ad) m c) ∧ w6.drew.cell? ⟨q, 10, none⟩ = some (.slice (some ad') m' c') ∧ w6.drew.cell? (ad.add k) = some (.int .i64 t) ∧ w6.drew.cell? (ad'.add k) = some (.int .i64 i) ∧ w6.drew.cell? ⟨g, 0, none⟩ = some (.int .i64 f0) ∧ w6.drew.cell? ⟨g, 1, none⟩ = some (.bool true) ∧ w6.drew.cell? ⟨g, 2, none⟩ = some (.bool y0) ∧ w6.drew.cell? ⟨g, 3, none⟩ = some (.bool true) ∧ w6.drew.cell? ⟨g, 4, none⟩ = some (.bool false) ∧ w6.drew.cell? ⟨g, 5, none⟩ = some (.bool uu) ∧ w6.drew.cell? ⟨g, 6, none⟩ = some (.bool dd) :=
            ⟨y9, y10, hc, hc', v0, v1, v2, v3, v4, v5, v6⟩
          have HK := Lib.hid hk
          have HE := Lib.hid (And.intro ef0 (And.intro ey0 (And.intro euu (And.intro edd (And.intro et ei)))))
          have HN := Lib.hid (And.intro hn hk2)
          have HMM := Lib.hid (And.intro hm4 hm4')
          have HW6 := Lib.hid hw6
          have HG6 := Lib.hid hg
          have HB6 := Lib.hid (HB.out.trans (b6.mono HB.out.size))
          have HL6 := Lib.hid l6
          have HQ6 := Lib.hid q6
          clear hk ef0 ey0 euu edd et ei hn hk2 hm4 hm4' hcap hw6 hg b6 r6 q6 T6 l6 l6' hc hc' hba y9 y10 v0 v1 v2 v3 v4 v5 v6 hb5 hmg
          go_upto_region 19 with (fail)
          rw [← HW6.out, ← HG6.out]
          go_upto_region 22 with (fail)
          go_region_held3 (fun z => z.cell? ⟨q, 9, none⟩ = some (.slice (some ad) m c) ∧ z.cell? ⟨q, 10, none⟩ = some (.slice (some ad') m' c') ∧ z.cell? (ad.add k) = some (.int .i64 t) ∧ z.cell? (ad'.add k) = some (.int .i64 i) ∧ z.cell? ⟨g, 0, none⟩ = some (.int .i64 f0) ∧ z.cell? ⟨g, 1, none⟩ = some (.bool true) ∧ z.cell? ⟨g, 2, none⟩ = some (.bool y0) ∧ z.cell? ⟨g, 3, none⟩ = some (.bool true) ∧ z.cell? ⟨g, 4, none⟩ = some (.bool false) ∧ z.cell? ⟨g, 5, none⟩ = some (.bool uu) ∧ z.cell? ⟨g, 6, none⟩ = some (.bool dd))
            (first | exact hs4 | exact keep11' hs4 g7 hqb hAb hAb' hgb) ((go_at_call 28; refine hput.mono ?_; rintro e w7 ⟨rfl, h7, g7⟩))
          have g67 : w6.grownBy w7 (some s.b) := ⟨g7.os, g7.tape, g7.output, g7.size, g7.block⟩
          have l7 := HL6.out.mv (Mv.turned g67 (Or.inl rfl))
          have c9 : w7.cell? ⟨q, 9, none⟩ = some (.slice (some ad) m c) := keepC l9 g67 hqb
          have H7 := Lib.hid h7
          have G7 := Lib.hid g67
          have L7 := Lib.hid l7
          clear h7 g7 g67 l7 hs4 hput l9
          have h31 : n + 1 = m := by have h1 := HN.out.1; have h2 := HMM.out.1; omega
          have hl1 := loc_last L7.out h31
          have hgv := give_any H7.out (c - n) hl1 (by have := HLL.out; simp; omega)
          clear h31 hl1
          go_wp2_with fail
          refine hgv.mono ?_
          rintro e w8 ⟨rfl, v8, h8, m8⟩
          have H8 := Lib.hid (And.intro h8 m8)
          clear h8 m8 hgv c9
          go_wp2_with fail
          go_ret
          have hk2 := HN.out.2
          have hn3 := HN.out.1
          subst hk2 hn3
          have hi : i = dg (a + 7) 1 := by
            obtain ⟨her, hlv⟩ := mrE_ok 8 0 HM0.out 7 (by omega) (by omega)
            rw [show ((7 : Nat) : Int) = 7 from rfl] at her
            obtain ⟨-, -, hpg⟩ := fol_ok her
            rw [HE.out.2.2.2.2.2]; exact slot_last hpg (show (1 : Nat) ≤ 3 by omega)
          refine me_fin H0.out (by rw [← HA.out]; exact HM0.out) (by rw [← HA.out, ← HG.out]; exact HK.out) ?_ ((Mv.of_below (B1.out.trans (HB6.out.mono B1.out.size))).trans ((Mv.turned G7.out (Or.inl rfl)).trans H8.out.2))
          have h9 := H8.out.1
          unfold meW mrN
          rw [← HA.out, ← HG.out, ← HE.out.1, ← HE.out.2.1, ← HE.out.2.2.1, ← HE.out.2.2.2.1, ← HE.out.2.2.2.2.1, ← hi]
          exact h9
  · have hme : meE ws R r p = rtE R r := if_neg h0
    unfold Merged8
    rw [hme]
    obtain ⟨z, ez⟩ : ∃ z, z = rtE R r := ⟨_, rfl⟩
    rw [← ez] at hcr h0 ⊢
    have hz : (z != 0) = true := by simpa using h0
    have HZ := Lib.hid h0
    clear h0 ez
    go_enter Try.func11, Try.ntmps11
    go_wp2_with fail
    refine hcr.mono ?_
    rintro e w1 ⟨rfl, hb1⟩
    have H1 := Lib.hid (H.out.call hb1)
    have B1 := Lib.hid hb1
    clear hcr hb1
    go_wp2_with fail
    go_ret
    exact ⟨rfl, v, fun _ => H1.out, fun e => absurd e HZ.out, Mv.of_below B1.out⟩
end
end Go.Proofs.Ytpcpcgbejinlmaa
/- Plain facts of package table: what Map, Set, Split and Merge make of two trees and a bag. -/
namespace Go.Proofs.Ytpcpcgbejinlmaa
open Go.RowKit
theorem fol_wk {ws : List Int} {r p : Int} (h : (fol ws r p).er ≠ 3) : fol ws r p = wk ws p 3 r ∧ 0 ≤ p ∧ p ≤ 4095 := by
  unfold fol at h ⊢
  split
  · rename_i hc; exact ⟨rfl, hc.2⟩
  · rename_i hc; rw [if_neg hc] at h; exact absurd rfl h
theorem nod_same {ws ws' : List Int} {p : Int} {v : Nat} : ∀ (l : Nat) (t : Int), SameOn ws ws' (tabs ws l t) → nod ws' p l t v = nod ws p l t v := by
  intro l
  induction l with
  | zero => intro t _; rfl
  | succ l ih =>
    intro t h
    obtain ⟨i, hi, hi8⟩ := dg_nat p (l + 1)
    have hF : FF ws' = FF ws := by unfold FF; rw [h.1]
    unfold nod
    rw [hi, h.2 t (tabs_head ws (l + 1) t) i hi8, hF]
    split
    · rfl
    · split
      · rename_i hs
        refine ih _ (h.sub fun u hu => mem_tabs.2 (Or.inr ⟨i, hi8, ?_⟩))
        simp only [subt, if_pos hs]
        exact hu
      · rfl
section
variable {ws ws' L L' R B : List Int} {p r q u y o f : Int} {i v : Nat}
theorem gz_all : ∀ (M ws : List Int), ws.length = 4096 → (∀ f ∈ M, 0 ≤ f ∧ f < 512) → (gz ws M).length = 4096 ∧ ∀ (t : Int) (k : Nat), k < 8 → wd (gz ws M) t (k : Int) = if t ∈ M then 0 else wd ws t (k : Int) := by
  intro M
  induction M with
  | nil => intro ws hl _; exact ⟨hl, fun t k _ => by simp [gz]⟩
  | cons f M ih =>
    intro ws hl hf
    obtain ⟨h0, h1⟩ := hf f List.mem_cons_self
    obtain ⟨a, b⟩ := ih (zeL ws f 1) (ze_len hl h0 h1) fun x hx => hf x (List.mem_cons_of_mem _ hx)
    have e : gz ws (f :: M) = gz (zeL ws f 1) M := rfl
    rw [e]
    refine ⟨a, fun t k hk => ?_⟩
    rw [b t k hk, ze_wd hl h0 h1 t k hk]
    by_cases c : t ∈ M
    · rw [if_pos c, if_pos (List.mem_cons_of_mem _ c)]
    · rw [if_neg c]
      by_cases d : t = f
      · rw [if_pos d, if_pos (by rw [d]; exact List.mem_cons_self)]
      · rw [if_neg d, if_neg]
        intro e
        rcases List.mem_cons.1 e with e | e
        · exact d e
        · exact c e
theorem chn_inv (hp : 0 ≤ p ∧ p ≤ 4095) : ∀ (M ws : List Int) (t : Int) (k v : Nat), Inv ws (M ++ B) r q → (∀ m ∈ M, ∀ i : Nat, i < 8 → wd ws m (i : Int) = 0) → nod ws p 3 r v = some t → v + k = 3 → say (FF ws) (v : Int) (wd ws t (dg p v)) = 1 → M.length ≤ v →
    Stp ws (M ++ B) (chn p M ws t k).1 B r q ∧ nod (chn p M ws t k).1 p 3 r (v - M.length) = some (chn p M ws t k).2 ∧ say (FF (chn p M ws t k).1) ((v - M.length : Nat) : Int) (wd (chn p M ws t k).1 (chn p M ws t k).2 (dg p (v - M.length))) = 1 := by
  intro M
  induction M with
  | nil => intro ws t k v h hz hn hvk hs hl; exact ⟨Stp.refl h, hn, hs⟩
  | cons m M ih =>
    intro ws t k v h hz hn hvk hs hl
    simp only [List.length_cons] at hl
    obtain ⟨v, rfl⟩ : ∃ x, v = x + 1 := ⟨v - 1, by omega⟩
    have hslot : (dgL p).getD k 0 = dg p (v + 1) := by
      rw [show k = 3 - (v + 1) by omega]; exact slot_last hp (by omega)
    obtain ⟨z1, z2⟩ := tabs_zero (hz m List.mem_cons_self) v
    have hmf := h.fr m (List.mem_append.2 (Or.inl List.mem_cons_self))
    obtain ⟨n1, n2, n3, n4, n5⟩ := h.parts
    have hu := (nod_mem 3 r _ t hn).2
    obtain ⟨k1, k2, k3⟩ := h.link hn (by rw [hs]; decide) (by omega) (L' := M ++ B) (List.Perm.refl _) z1 (z2 hmf.1 (by rw [h.ff]; exact hmf.2))
    have ec : chn p (m :: M) ws t k = chn p M (ptL ws t (dg p (v + 1)) 0 (wordI m true false false false false false)) m (k + 1) := by
      show chn p M (ptL ws t ((dgL p).getD k 0) 0 (lnk m)) m (k + 1) = _
      rw [hslot]; rfl
    have hne : ∀ x, x ∈ (m :: M) ++ B → x ≠ t := fun x hx e => (n4 x hx).1 (e ▸ hu)
    obtain ⟨a, b, c⟩ := ih _ m (k + 1) v k1.1 (fun x hx i hi => by
      rw [k3 x i hi (hne x (List.mem_append.2 (Or.inl (List.mem_cons_of_mem _ hx))))]
      exact hz x (List.mem_cons_of_mem _ hx) i hi) k2 (by omega) (by
      obtain ⟨i, hi, hi8⟩ := dg_nat p v
      rw [hi, k3 m i hi8 (hne m (List.mem_append.2 (Or.inl List.mem_cons_self))), hz m List.mem_cons_self i hi8, say_zero]) (by omega)
    rw [ec, List.length_cons, show v + 1 - (M.length + 1) = v - M.length by omega]
    exact ⟨k1.trans a, b, c⟩
theorem leaf_new {pr wr k u d : Bool} (h : lfE R r p o f pr wr (decide (0 < o)) k u d = 0) {lv : Nat} (hl : (lv : Int) * 3 = o) {F : Int} (hF : F = 512) : say F (lv : Int) (wordI f pr wr (decide (0 < o)) k u d) = 3 := by
  subst hF
  obtain ⟨h0, hc, hlf, hev, hfr⟩ := lfE_chk h
  obtain ⟨-, ho, -⟩ := plE_ok h0
  obtain ⟨s0, s1, s2, s3, s4, s5, s6, s7⟩ := word_says _ _ _ _ _ _ _ hc
  have hm : mayB f pr wr (decide (0 < o)) k u d = true := by
    unfold chkI at hc
    split at hc
    · omega
    split at hc
    · omega
    split at hc
    · assumption
    · omega
  unfold frE at hfr
  split at hfr
  · rename_i hf
    unfold leafy at hlf
    have hkp : k = true → pr = false ∧ o = 0 := fun e => by
      subst e
      cases hpr : pr with
      | true => rw [hpr] at hm; simp [mayB] at hm
      | false => rw [hpr] at hlf; simp at hlf; exact ⟨rfl, hlf⟩
    refine say_leaf_of s0 (fun e => ?_) (fun e => ?_) ?_ ?_ ?_ ?_
    · rw [s5] at e
      have := (hkp e).2; omega
    · rw [s4] at e
      simp at e; omega
    · rw [s1, s2, s3, s4, s5, s6, s7]
      cases pr with
      | true => simp [noB]
      | false =>
        cases k with
        | true => simp [noB]
        | false => simp at hlf
    · rw [s1, s4]
      have : od (lv : Int) (decide (0 < o)) = o := by
        unfold od
        rcases ho with rfl | rfl | rfl
        · simp
        · simp; omega
        · simp; omega
      rw [this]; exact hev
    · rw [s1, s4]
      have : od (lv : Int) (decide (0 < o)) = o := by
        unfold od
        rcases ho with rfl | rfl | rfl
        · simp
        · simp; omega
        · simp; omega
      rw [this]
      unfold szO at hf
      rcases ho with rfl | rfl | rfl
      · simp at hf ⊢; omega
      · simp at hf ⊢; omega
      · simp at hf ⊢; omega
    · rw [s4]
      rcases ho with rfl | rfl | rfl
      · exact Or.inl (by omega)
      · exact Or.inr rfl
      · exact Or.inr rfl
  · omega
theorem last_get {l : List Int} (h : 1 ≤ l.length) : l[l.length - 1]? = some (l.getD (l.length - 1) 0) := by
  rw [List.getD_eq_getElem?_getD, List.getElem?_eq_getElem (by omega)]; rfl
theorem set_inv {pr wr k uu d : Bool} (h : Inv ws L r q) (hE : setE ws R r p o f pr wr k uu d = 0) : Stp ws L (setL ws R r p o f pr wr k uu d) L r q := by
  unfold setL
  rw [if_pos hE]
  unfold setE at hE
  split at hE
  · rename_i hz
    unfold fjE at hE
    split at hE
    · rename_i he
      split at hE
      · rename_i hl
        obtain ⟨f1, f2, f3⟩ := fol_ok he
        obtain ⟨g1, g2⟩ := fol_wk (ws := ws) (r := r) (p := p) (by omega)
        have hts : (wk ws p 3 r).ts[(wk ws p 3 r).ts.length - 1]? = some (lastT (fol ws r p)) := by
          unfold lastT; rw [g1]; exact last_get (by rw [← g1]; have := (wk_fine ws p 3 r).head (by rw [← g1]; omega); obtain ⟨ts, e⟩ := this; rw [g1, e]; simp)
        obtain ⟨n1, n2⟩ := nod_ts 3 r (by rw [← g1]; omega) _ _ hts
        obtain ⟨-, e2⟩ := ts_end 3 r (by rw [← g1]; omega) _ hts
        obtain ⟨e3, e4, -⟩ := e2 (by rw [← g1]; exact he)
        have hlen : (fol ws r p).ts.length ≠ 0 := by
          intro e0; rw [g1] at e0; rw [List.getElem?_eq_none (by omega)] at hts; cases hts
        rw [← g1] at n2 e3 e4
        rw [show 3 - ((fol ws r p).ts.length - 1) = (fol ws r p).lv by omega] at n2
        refine h.turn n2 (by rw [e4]; decide) ?_
        rw [leaf_new hz hl h.ff]
        exact ⟨by decide, by decide⟩
      · omega
    · rename_i he; exact absurd hE he
  · rename_i hz; exact absurd hE hz
theorem map_inv {pr wr k uu d : Bool} (h : Inv ws L r q) (hE : mapE ws L R r p o f pr wr k uu d = 0) : Stp ws L (mapW ws L r p o f pr wr k uu d) (L.take (L.length - lck (fol ws r p) o)) r q := by
  unfold mapE at hE
  split at hE
  · rename_i hz
    split at hE
    · rename_i hw
      split at hE
      · rename_i hn
        obtain ⟨he, hle⟩ := wyE_ok hw
        obtain ⟨f1, f2, f3⟩ := fol_none he
        obtain ⟨g1, g2⟩ := fol_wk (ws := ws) (r := r) (p := p) (by omega)
        obtain ⟨-, ho, -⟩ := plE_ok (lfE_chk hz).1
        have htt := tto_of ho
        have hts : (wk ws p 3 r).ts[(wk ws p 3 r).ts.length - 1]? = some (lastT (fol ws r p)) := by
          unfold lastT; rw [g1]; exact last_get (by rw [← g1]; exact f1)
        obtain ⟨n1, n2⟩ := nod_ts 3 r (by rw [← g1]; omega) _ _ hts
        obtain ⟨e2, -⟩ := ts_end 3 r (by rw [← g1]; omega) _ hts
        have e3 := e2 (by rw [← g1]; exact he)
        rw [← g1] at n2 e3
        have hnn : (lck (fol ws r p) o : Int) = tto o - ((fol ws r p).ts.length : Int) := by unfold lck; omega
        unfold mapW mapC
        generalize lck (fol ws r p) o = n at hn hnn ⊢
        generalize (fol ws r p).ts.length = len at *
        generalize lastT (fol ws r p) = t at *
        -- the frames in hand
        have hML : (tk L n).length = n := tk_length hn
        have hback := tk_back L n
        generalize hM : tk L n = M at *
        generalize hB : L.take (L.length - n) = B at *
        have hperm : L.Perm (M ++ B) := by
          rw [← hback]
          exact ((List.reverse_perm M).append_left B).trans List.perm_append_comm
        have hML' : ∀ m ∈ M, m ∈ L := fun m hm => hperm.mem_iff.2 (List.mem_append.2 (Or.inl hm))
        obtain ⟨p1, p2, p3, p4, p5⟩ := h.parts
        obtain ⟨z1, z2⟩ := gz_all M ws h.len fun m hm => h.fr m (hML' m hm)
        have hSr : SameOn ws (gz ws M) (tabs ws 3 r) := ⟨by rw [z1, h.len], fun x hx i hi => by rw [z2 x i hi, if_neg fun e => (p4 x (hML' x e)).1 hx]⟩
        have hSq : SameOn ws (gz ws M) (tabs ws 3 q) := ⟨by rw [z1, h.len], fun x hx i hi => by rw [z2 x i hi, if_neg fun e => (p4 x (hML' x e)).2 hx]⟩
        obtain ⟨i1, i2⟩ := h.apart hSr hSq
        have s1 : Stp ws L (gz ws M) (M ++ B) r q := Stp.perm ⟨i1, by rw [i2], hSq⟩ hperm
        have n3 := nod_same (p := p) (v := 3 - (len - 1)) 3 r hSr
        rw [n2] at n3
        have hu := (nod_mem 3 r _ t n2).2
        obtain ⟨c1, c2, c3⟩ := chn_inv g2 M (gz ws M) t (len - 1) (3 - (len - 1)) s1.1 (fun m hm i hi => by rw [z2 m i hi, if_pos hm]) n3 (by omega) (by
          obtain ⟨i, hi, hi8⟩ := dg_nat p (3 - (len - 1))
          rw [hi, hSr.2 t hu i hi8, ← hi, show FF (gz ws M) = FF ws by unfold FF; rw [hSr.1], show 3 - (len - 1) = 3 + 1 - len by omega]
          exact e3) (by omega)
        have hlv : 3 - (len - 1) - M.length = (4 - tto o).toNat := by omega
        have hlo : ((3 - (len - 1) - M.length : Nat) : Int) * 3 = o := by
          rw [hlv]; unfold tto at htt ⊢; rcases ho with rfl | rfl | rfl <;> simp
        have hslot : (dgL p).getD ((tto o).toNat - 1) 0 = dg p (3 - (len - 1) - M.length) := by
          rw [show (tto o).toNat - 1 = 3 - (3 - (len - 1) - M.length) by omega]; exact slot_last g2 (by omega)
        rw [hslot]
        refine (s1.trans c1).trans (c1.1.turn c2 (by rw [c3]; decide) ?_)
        rw [leaf_new hz hlo c1.1.ff]
        exact ⟨by decide, by decide⟩
      · omega
    · rename_i hw; exact absurd hE hw
  · rename_i hz; exact absurd hE hz
end
end Go.Proofs.Ytpcpcgbejinlmaa
