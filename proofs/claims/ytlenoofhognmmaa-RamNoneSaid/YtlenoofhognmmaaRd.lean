/- The contracts of the reference of package ram: clearing and copying, by loops. -/
import Derived.Test.YtlenoofhognmmaaRc
import Derived.StillTailTactics
import Derived.Deep.RegionHeld3
import Derived.RegionTactic
import Derived.BigRegion
import Derived.IntWalk
namespace Go.Proofs.Ytlenoofhognmmaa
open Go.RowKit

section
variable {w : World} {a b n : Nat} {T : TypeId} {ws : List Int}
theorem thB_of {n : Nat} {f k : Int} (hk : 1 ≤ k) : thB n f k = decide (errF n f k = 0) := by
  unfold thB errF
  rw [Bool.eq_iff_iff]
  simp only [Bool.and_eq_true, decide_eq_true_eq]
  constructor
  · rintro ⟨⟨h1, h2⟩, h3⟩; rw [if_neg (by omega)]
  · intro h
    split at h
    · omega
    · omega
/-- A row that reads as words. -/
def Says (w : World) (g : Nat) (ws : List Int) : Prop := ∀ i, i < ws.length → w.cell? ⟨g, i, none⟩ = some (.int .u64 (ws.getD i 0))
theorem Says.far {w w' : World} {g : Nat} {ws : List Int} (h : Says w g ws) {row : Option Nat} (hg : w.grownBy w' row) (hlt : g < w.heap.size) (hr : some g ≠ row) : Says w' g ws := fun i hi =>
  (World.cell?_of_block (a := ⟨g, i, none⟩) (hg.block g hlt hr)).trans (h i hi)
theorem own_words {w2 : World} {base n : Nat} {t : TypeId} {v : Value} {ws : List Int} (h : w2.ownsRow base t 1 v (0 + n) ([] ++ wcells ws)) (hn : 0 < n) :
    ∃ g cap, v = .slice (some ⟨g, 0, none⟩) n cap ∧ base ≤ g ∧ g < w2.heap.size ∧ Says w2 g ws := by
  rw [Nat.zero_add, List.nil_append] at h
  have h' := h
  rcases h.2 with ⟨_, h0⟩ | ⟨g, cap, cur, rfl, hb, hg, _⟩
  · omega
  · refine ⟨g, cap, rfl, hb, (Array.getElem?_eq_some_iff.1 hg).1, fun i hi => ?_⟩
    have hl := h'.1
    rw [wcells_length] at hl
    rw [h'.cellAt i (by omega), wcells_get, List.getD_eq_getElem?_getD, List.getElem?_eq_getElem hi]; rfl
theorem part_snoc (ws : List Int) (o j k : Nat) (hj : j < k) (hk : o + k ≤ ws.length) : (ws.drop o).take (j + 1) = (ws.drop o).take j ++ [ws.getD (o + j) 0] := by
  rw [List.take_succ_eq_append_getElem (by rw [List.length_drop]; omega), List.getElem_drop, List.getD_eq_getElem?_getD, List.getElem?_eq_getElem (by omega)]; rfl
theorem rep_snoc (j : Nat) : List.replicate (j + 1) (0 : Int) = List.replicate j 0 ++ [0] := List.replicate_succ'
set_option maxHeartbeats 400000 in
theorem refZero_any (h : RamAt w a b T n ws) (f k : Int) (hf : f ≤ 9223372036854775807) :
    Calls Try.prog 23 #[.pointer (some ⟨a, 0, none⟩), .int .i64 f, .int .i64 k] w fun e w' => e = .returned (.int .i64 (errZ n f k)) ∧ RamAt w' a b T n (zeL ws f k) ∧ w.grownBy w' (some b) := by
  have hi := h.hi
  have hl := h.len
  by_cases hk : k < 1
  · have hs : Hid (zeL ws f k = ws) := by show _ = _; simp [zeL, errZ, hk]
    have he : Hid (2 = errZ n f k) := by show _ = _; simp [errZ, hk]
    clear hl
    go_enter Try.func23, Try.ntmps23
    go_wp2
    go_ret
    refine ⟨ret_int he.out, ?_, World.grownBy.refl _ _⟩
    rw [hs.out]; exact h
  · have hk1 : 1 ≤ k := by omega
    have hT : thB n f k = decide (errF n f k = 0) := thB_of hk1
    by_cases hF : errF n f k = 0
    · obtain ⟨h0, h1⟩ : 0 ≤ f ∧ k ≤ (n : Int) / 8 - f := by unfold errF at hF; split at hF <;> omega
      obtain ⟨f, rfl⟩ : ∃ x : Nat, f = x := ⟨f.toNat, by omega⟩
      obtain ⟨k, rfl⟩ : ∃ x : Nat, k = x := ⟨k.toNat, by omega⟩
      have hth : thB n f k = true := by rw [hT, hF]; rfl
      have hs : Hid (zeL ws f k = splice ws (f * 8) (List.replicate (k * 8) 0)) := by show _ = _; simp [zeL, errZ, hk, hl, hF]
      have he : Hid (0 = errZ n f k) := by show _ = _; simp [errZ, hk, hF]
      have hfk : (f + k) * 8 ≤ n := by omega
      have HL := Lib.hid hl
      clear hl hF hk h0 h1 hT
      go_enter Try.func23, Try.ntmps23
      go_wp2_with (go_at_call 29; refine (there_any h _ _ hf).mono ?_; rintro e w' ⟨rfl, rfl⟩)
      go_loopw [7] (fun i wr => ∃ p : Nat, f * 8 ≤ p ∧ p ≤ (f + k) * 8 ∧ i = .int .i64 p ∧ RamAt wr a b T n (splice ws (f * 8) (List.replicate (p - f * 8) 0)) ∧ w.grownBy wr (some b)) (fun i _ => (f + k) * 8 - (intOf i).toNat)
      case atStart => exact ⟨f * 8, Nat.le_refl _, by omega, by go_num, by simpa [splice_nil] using h, World.grownBy.refl _ _⟩
      case round =>
        obtain ⟨p, hp1, hp2, rfl, hR, hG⟩ := hrel
        by_cases hlt : p < (f + k) * 8
        · have hpn : p < n := by omega
          have hc := hR.field
          have hc2 := hR.word hpn
          obtain ⟨x, hx⟩ : ∃ x, x = (splice ws (f * 8) (List.replicate (p - f * 8) 0)).getD p 0 := ⟨_, rfl⟩
          rw [← hx] at hc2
          have hfr := hR.row.frozen p
          have hR2 : RamAt (wr.setCell ⟨b, p, none⟩ (.int .u64 0)) a b T n (splice ws (f * 8) (List.replicate (p + 1 - f * 8) 0)) := by
            refine hR.turned (grown_set _ _ _ _) ?_ (by rw [length_splice _ _ _ (by have := HL.out; simp; omega)]; exact HL.out) (h.words.splice_ (Words.zeros _) _)
            have h3 := hR.row.set_ p (.int .u64 0)
            rw [wcells_set] at h3
            have h4 := splice_snoc ws (f * 8) 0 (List.replicate (p - f * 8) 0) (by have := HL.out; simp; omega)
            rw [List.length_replicate, show f * 8 + (p - f * 8) = p by omega, ← rep_snoc, show p - f * 8 + 1 = p + 1 - f * 8 by omega] at h4
            rwa [h4] at h3
          have hG2 := grown_trans1 hG (grown_set wr b p (.int .u64 0))
          have HR2 := Lib.hid hR2
          have HG2 := Lib.hid hG2
          clear hx hR2 hG2
          go_wp2
          go_roundw
          case rel => exact ⟨p + 1, by omega, by omega, by go_num, HR2.out, HG2.out⟩
          case measure => simp [intOf]; omega
        · obtain rfl : p = (f + k) * 8 := by omega
          have HR := Lib.hid hR
          have HG := Lib.hid hG
          clear hR hG
          go_wp2
          go_ret
          refine ⟨ret_int he.out, ?_, HG.out⟩
          have := HR.out
          rw [show (f + k) * 8 - f * 8 = k * 8 by omega] at this
          rw [hs.out]; exact this
    · have hth : thB n f k = false := by rw [hT]; simpa using hF
      have hs : Hid (zeL ws f k = ws) := by show _ = _; simp [zeL, errZ, hk, hl, hF]
      have he : Hid (3 = errZ n f k) := by show _ = _; simp [errZ, hk, errF_3 hF]
      clear hl hF hk hT
      go_enter Try.func23, Try.ntmps23
      go_wp2_with (go_at_call 29; refine (there_any h _ _ hf).mono ?_; rintro e w' ⟨rfl, rfl⟩)
      go_ret
      refine ⟨ret_int he.out, ?_, World.grownBy.refl _ _⟩
      rw [hs.out]; exact h
set_option maxHeartbeats 400000 in
theorem refCopy_any (h : RamAt w a b T n ws) (t f k : Int) (ht : t ≤ 9223372036854775807) (hf : f ≤ 9223372036854775807) :
    Calls Try.prog 24 #[.pointer (some ⟨a, 0, none⟩), .int .i64 t, .int .i64 f, .int .i64 k] w fun e w' => e = .returned (.int .i64 (errC n t f k)) ∧ RamAt w' a b T n (cpL ws t f k) ∧ w.grownBy w' (some b) := by
  have hi := h.hi
  have hl := h.len
  by_cases hk : k < 1
  · have hs : Hid (cpL ws t f k = ws) := by show _ = _; simp [cpL, errC, hk]
    have he : Hid (2 = errC n t f k) := by show _ = _; simp [errC, hk]
    clear hl
    go_enter Try.func24, Try.ntmps24
    go_wp2
    go_ret
    refine ⟨ret_int he.out, ?_, World.grownBy.refl _ _⟩
    rw [hs.out]; exact h
  · have hk1 : 1 ≤ k := by omega
    have hTt : thB n t k = decide (errF n t k = 0) := thB_of hk1
    have hTf : thB n f k = decide (errF n f k = 0) := thB_of hk1
    by_cases hFt : errF n t k = 0
    · by_cases hF : errF n f k = 0
      · obtain ⟨u0, u1⟩ : 0 ≤ t ∧ k ≤ (n : Int) / 8 - t := by unfold errF at hFt; split at hFt <;> omega
        obtain ⟨h0, h1⟩ : 0 ≤ f ∧ k ≤ (n : Int) / 8 - f := by unfold errF at hF; split at hF <;> omega
        obtain ⟨t, rfl⟩ : ∃ x : Nat, t = x := ⟨t.toNat, by omega⟩
        obtain ⟨f, rfl⟩ : ∃ x : Nat, f = x := ⟨f.toNat, by omega⟩
        obtain ⟨k, rfl⟩ : ∃ x : Nat, k = x := ⟨k.toNat, by omega⟩
        have hth : thB n t k = true := by rw [hTt, hFt]; rfl
        have hth2 : thB n f k = true := by rw [hTf, hF]; rfl
        have hs : Hid (cpL ws t f k = splice ws (t * 8) ((ws.drop (f * 8)).take (k * 8))) := by show _ = _; simp [cpL, errC, hk, hl, hF, hFt]
        have he : Hid (0 = errC n t f k) := by show _ = _; simp [errC, hk, hF, hFt]
        have htk : (t + k) * 8 ≤ n := by omega
        have hfk : (f + k) * 8 ≤ n := by omega
        have HL := Lib.hid hl
        have h' := h.alloc (.cells #[] 32)
        have hc := h'.field
        have hsrc : ∀ j u, (wcells ws)[j]? = some u → (w.alloc (.cells #[] 32)).cell? ((⟨b, 0, none⟩ : Addr).add j) = some u := fun j u hu => by
          have ha : (⟨b, 0, none⟩ : Addr).add j = ⟨b, j, none⟩ := by unfold Addr.add; split <;> simp_all
          rw [ha, h'.row.cell, hu]
        obtain ⟨i0, hi0, hz0, hz1, hz2⟩ := info_parts info_u64
        have hla := h.top.lt
        have hlb := h.row.lt
        clear hl hF hk h0 h1 u0 u1 hTt hTf hFt
        go_enter Try.func24, Try.ntmps24
        go_wp2_with (first | (go_at_call 29; with_reducible refine (there_any h t _ ht).mono ?_; rintro e w' ⟨rfl, rfl⟩) | (go_at_call 29; with_reducible refine (there_any h f _ hf).mono ?_; rintro e w' ⟨rfl, rfl⟩) | (at_builtin; refine wpList_append_own_at _ rfl _ _ 39 rfl w.heap.size 32 i0 (.int .u64 0) 1 8 Try.underlying39 hi0 hz0 hz1 hz2 rfl (by decide) _ 0 [] rfl (World.ownsRow_lit w #[] 0 (Nat.le_refl _) (Nat.zero_le _) rfl) ⟨b, 0, none⟩ n n (wcells ws) rfl (by rw [wcells_length, Nat.mul_one]; exact HL.out) hsrc (words_one ws) (by unfold maxLen; omega) (by omega) (by simp) ?_; intro v' w2 hown hgr x1 x2; clear x1 x2))
        obtain ⟨g, cap, rfl, hg, hglt, hsay⟩ := own_words hown (by omega)
        have hgr' : (w.alloc (.cells #[] 32)).grownBy w2 (some w.heap.size) := hgr
        have hR0 := h'.grown hgr' (by intro e; injection e with e; omega) (by intro e; injection e with e; omega)
        have hG0 := grown_more (grown_alloc (World.grownBy.refl w (some b)) (.cells #[] 32)) hgr' (fun r hr => by right; injection hr with hr; omega)
        clear hown hgr hgr' h' hsrc hc
        clear hth hth2
        have HI : Hid (w.heap.size ≤ g) := hg
        clear i0 hi0 hz0 hz1 hz2 hg
        go_loopw [10] (fun i wr => ∃ j : Nat, j ≤ k * 8 ∧ i = .int .i64 j ∧ RamAt wr a b T n (splice ws (t * 8) ((ws.drop (f * 8)).take j)) ∧ Says wr g ws ∧ g < wr.heap.size ∧ w.grownBy wr (some b)) (fun i _ => k * 8 - (intOf i).toNat)
        case atStart => exact ⟨0, Nat.zero_le _, rfl, by simpa [splice_nil] using hR0, hsay, hglt, hG0⟩
        case round =>
          obtain ⟨j, hj, rfl, hR, hS, hgl, hG⟩ := hrel
          clear hR0 hsay hglt hG0
          by_cases hlt : j < k * 8
          · have hpn : t * 8 + j < n := by omega
            have hqn : f * 8 + j < n := by omega
            have hc := hR.field
            have hc2 := hR.word hpn
            have hc3 := hS (f * 8 + j) (by rw [HL.out]; exact hqn)
            obtain ⟨x, hx⟩ : ∃ x, x = (splice ws (t * 8) ((ws.drop (f * 8)).take j)).getD (t * 8 + j) 0 := ⟨_, rfl⟩
            rw [← hx] at hc2
            obtain ⟨y, hy⟩ : ∃ y, y = ws.getD (f * 8 + j) 0 := ⟨_, rfl⟩
            rw [← hy] at hc3
            have hfr := hR.row.frozen (t * 8 + j)
            have hlj : ((ws.drop (f * 8)).take j).length = j := by have := HL.out; simp; omega
            have hR2 : RamAt (wr.setCell ⟨b, t * 8 + j, none⟩ (.int .u64 y)) a b T n (splice ws (t * 8) ((ws.drop (f * 8)).take (j + 1))) := by
              refine hR.turned (grown_set _ _ _ _) ?_ (by rw [length_splice _ _ _ (by have := HL.out; simp; omega)]; exact HL.out) (h.words.splice_ (h.words.part _ _) _)
              have h3 := hR.row.set_ (t * 8 + j) (.int .u64 y)
              rw [wcells_set] at h3
              have h4 := splice_snoc ws (t * 8) y ((ws.drop (f * 8)).take j) (by have := HL.out; rw [hlj]; omega)
              rw [hlj, hy, ← part_snoc ws (f * 8) j (k * 8) hlt (by have := HL.out; omega), ← hy] at h4
              rwa [h4] at h3
            have hG2 := grown_trans1 hG (grown_set wr b (t * 8 + j) (.int .u64 y))
            have hS2 : Says (wr.setCell ⟨b, t * 8 + j, none⟩ (.int .u64 y)) g ws := hS.far (grown_set _ _ _ _) hgl (by intro e; injection e with e; have := HI.out; omega)
            have hgl2 : g < (wr.setCell ⟨b, t * 8 + j, none⟩ (.int .u64 y)).heap.size := by simpa [World.setCell] using hgl
            have HR2 : Hid (RamAt (wr.drew.setCell ⟨b, t * 8 + j, none⟩ (.int .u64 y)) a b T n (splice ws (t * 8) ((ws.drop (f * 8)).take (j + 1)))) := ⟨hR2.len, hR2.m8, hR2.lo, hR2.hi, hR2.words, hR2.top, hR2.row, hR2.ne⟩
            have HG2 : Hid (w.grownBy (wr.drew.setCell ⟨b, t * 8 + j, none⟩ (.int .u64 y)) (some b)) := ⟨hG2.os, hG2.tape, hG2.output, hG2.size, hG2.block⟩
            have HS2 : Hid (Says (wr.drew.setCell ⟨b, t * 8 + j, none⟩ (.int .u64 y)) g ws) := hS2
            have HL2 : Hid (g < (wr.drew.setCell ⟨b, t * 8 + j, none⟩ (.int .u64 y)).heap.size) := hgl2
            have hc2' : wr.drew.cell? ⟨b, t * 8 + j, none⟩ = some (.int .u64 x) := hc2
            have hfr' : wr.drew.frozen? ⟨b, t * 8 + j, none⟩ = false := hfr
            have e1 : (t : Int) * 8 + j < n := by omega
            have e2 : (f : Int) * 8 + j < n := by omega
            clear hx hy hR2 hG2 hlj hS2 hgl2
            go_wp2_with fail
            have n1 : 0 ≤ (t : Int) * 8 + j := by omega
            have n2 : 0 ≤ (f : Int) * 8 + j := by omega
            have t1 : ((t : Int) * 8 + j).toNat = t * 8 + j := by omega
            have t2 : ((f : Int) * 8 + j).toNat = f * 8 + j := by omega
            have s1 : IntKind.i64.wrap ((t : Int) * 8) = t * 8 := IntWalk.i64_in _ (by omega)
            have s2 : IntKind.i64.wrap ((t : Int) * 8 + j) = t * 8 + j := IntWalk.i64_in _ (by omega)
            have s3 : IntKind.i64.wrap ((f : Int) * 8) = f * 8 := IntWalk.i64_in _ (by omega)
            have s4 : IntKind.i64.wrap ((f : Int) * 8 + j) = f * 8 + j := IntWalk.i64_in _ (by omega)
            go_still_tail 16, (by kernel_rfl)
            clear s1 s2 s3 s4 n1 n2 t1 t2 hc2 hfr hc hc3 hR hG hS hgl
            change wpList _ _ _ _ _ wr.drew
            generalize wr.drew = w3 at hc2' hfr' HR2 HG2 HS2 HL2 ⊢
            go_wp2
            go_roundw
            case rel => exact ⟨j + 1, by omega, by go_num, HR2.out, HS2.out, HL2.out, HG2.out⟩
            case measure => simp [intOf]; omega
          · obtain rfl : j = k * 8 := by omega
            have HR := Lib.hid hR
            have HG := Lib.hid hG
            clear hR hG
            go_wp2
            go_ret
            refine ⟨ret_int he.out, ?_, HG.out⟩
            rw [hs.out]; exact HR.out
      · have hth : thB n t k = true := by rw [hTt, hFt]; rfl
        have hth2 : thB n f k = false := by rw [hTf]; simpa using hF
        have hs : Hid (cpL ws t f k = ws) := by show _ = _; simp [cpL, errC, hk, hl, hF, hFt]
        have he : Hid (3 = errC n t f k) := by show _ = _; simp [errC, hk, hFt, errF_3 hF]
        clear hl hF hk hTt hTf hFt
        go_enter Try.func24, Try.ntmps24
        go_wp2_with (first | (go_at_call 29; with_reducible refine (there_any h t _ ht).mono ?_; rintro e w' ⟨rfl, rfl⟩) | (go_at_call 29; with_reducible refine (there_any h f _ hf).mono ?_; rintro e w' ⟨rfl, rfl⟩))
        go_ret
        refine ⟨ret_int he.out, ?_, World.grownBy.refl _ _⟩
        rw [hs.out]; exact h
    · have hth : thB n t k = false := by rw [hTt]; simpa using hFt
      have hs : Hid (cpL ws t f k = ws) := by show _ = _; simp [cpL, errC, hk, hl, hFt]
      have he : Hid (3 = errC n t f k) := by show _ = _; simp [errC, hk, hFt]
      clear hl hk hTt hTf hFt
      go_enter Try.func24, Try.ntmps24
      go_wp2_with (go_at_call 29; refine (there_any h _ _ ht).mono ?_; rintro e w' ⟨rfl, rfl⟩)
      go_ret
      refine ⟨ret_int he.out, ?_, World.grownBy.refl _ _⟩
      rw [hs.out]; exact h
end
end Go.Proofs.Ytlenoofhognmmaa
