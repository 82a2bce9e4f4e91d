/- The walk of the law RamCopies: what is copied is as it was, even where both overlap; what is cleared is 0. -/
import Derived.Test.YtlenoofhognmmaaRk
import Derived.Test.YtlenoofhognmmaaRh
namespace Go.Proofs.Ytlenoofhognmmaa
open Go.RowKit

theorem errF_ok {n : Nat} {f k : Int} (h0 : 0 ≤ f) (h1 : k ≤ (n : Int) / 8 - f) : errF n f k = 0 := by
  unfold errF
  rw [if_neg (by omega)]
theorem errZ_ok {n : Nat} {f k : Int} (hk : 1 ≤ k) (h0 : 0 ≤ f) (h1 : k ≤ (n : Int) / 8 - f) : errZ n f k = 0 := by
  unfold errZ
  rw [if_neg (by omega), errF_ok h0 h1]
theorem errC_ok {n : Nat} {t f k : Int} (hk : 1 ≤ k) (t0 : 0 ≤ t) (t1 : k ≤ (n : Int) / 8 - t) (h0 : 0 ≤ f) (h1 : k ≤ (n : Int) / 8 - f) : errC n t f k = 0 := by
  unfold errC
  rw [if_neg (by omega), errF_ok t0 t1, if_pos rfl, errF_ok h0 h1]
theorem getD_splice_in (ws cs : List Int) (o i : Nat) (h : o + cs.length ≤ ws.length) (hi : i < cs.length) : (splice ws o cs).getD (o + i) 0 = cs.getD i 0 := by
  rw [List.getD_eq_getElem?_getD, List.getD_eq_getElem?_getD, splice_get _ _ _ h, if_neg (by omega), if_pos (by omega), show o + i - o = i by omega]
theorem getD_part (ws : List Int) (o k i : Nat) (hi : i < k) : ((ws.drop o).take k).getD i 0 = ws.getD (o + i) 0 := by
  rw [List.getD_eq_getElem?_getD, List.getD_eq_getElem?_getD, List.getElem?_take_of_lt hi, List.getElem?_drop]
theorem ldV_copied (ws : List Int) (t f k i : Nat) (hl : ws.length = 128) (ht : t + k ≤ 16) (hf : f + k ≤ 16) (hi : i < k * 8) :
    ldV (splice ws (t * 8) ((ws.drop (f * 8)).take (k * 8))) (64 * (t : Int) + 8 * (i : Int)) = ws.getD (8 * f + i) 0 := by
  have hcl : ((ws.drop (f * 8)).take (k * 8)).length = k * 8 := by simp; omega
  have hsl : (splice ws (t * 8) ((ws.drop (f * 8)).take (k * 8))).length = 128 := by rw [length_splice _ _ _ (by omega)]; exact hl
  unfold ldV
  rw [hsl, if_pos (errW_ok _ _ (by omega) (by omega) (by omega)), show (64 * (t : Int) + 8 * (i : Int)).toNat / 8 = t * 8 + i by omega, getD_splice_in _ _ _ _ (by omega) (by omega), getD_part _ _ _ _ hi, Nat.mul_comm 8]
theorem byV_cleared (ws : List Int) (t k i : Nat) (hl : ws.length = 128) (ht : t + k ≤ 16) (hi : i < k * 64) :
    byV (splice ws (t * 8) (List.replicate (k * 8) 0)) (64 * (t : Int) + (i : Int)) = 0 := by
  have hsl : (splice ws (t * 8) (List.replicate (k * 8) 0)).length = 128 := by rw [length_splice _ _ _ (by simp; omega)]; exact hl
  unfold byV
  rw [hsl, if_pos (errB_ok _ _ (by omega) (by omega)), show (64 * (t : Int) + (i : Int)).toNat / 8 = t * 8 + i / 8 by omega, getD_splice_in _ _ _ _ (by simp; omega) (by simp; omega)]
  have : (List.replicate (k * 8) (0 : Int)).getD (i / 8) 0 = 0 := by
    rw [List.getD_eq_getElem?_getD, List.getElem?_replicate]
    split <;> rfl
  rw [this]; simp

set_option maxRecDepth 100000 in
set_option maxHeartbeats 4000000 in
theorem copies_walk (ap : Option Addr) (n c : Nat) (T F M : Int) (W : World) (hacts : Acts W W.heap.size ap n) (hT0 : 0 ≤ T) (hT1 : T < 256) (hF0 : 0 ≤ F) (hF1 : F < 256) (hM0 : 0 ≤ M) (hM1 : M < 256) :
    Calls Try.prog 6 #[.agg #[.slice ap n c, .int .u8 T, .int .u8 F, .int .u8 M]] W fun e W' => e = .returned (.bool true) ∧ Below W.heap.size W W' := by
  obtain ⟨k6, hk⟩ : ∃ k6 : Nat, M % 16 + 1 = k6 := ⟨(M % 16 + 1).toNat, by omega⟩
  have hk1 : 1 ≤ k6 := by omega
  have hk2 : k6 ≤ 16 := by omega
  have ht' : 0 ≤ T % (17 - (k6 : Int)) ∧ T % (17 - (k6 : Int)) < 17 - (k6 : Int) := ⟨Int.emod_nonneg _ (by omega), Int.emod_lt_of_pos _ (by omega)⟩
  have hf' : 0 ≤ F % (17 - (k6 : Int)) ∧ F % (17 - (k6 : Int)) < 17 - (k6 : Int) := ⟨Int.emod_nonneg _ (by omega), Int.emod_lt_of_pos _ (by omega)⟩
  obtain ⟨t6, ht⟩ : ∃ t6 : Nat, T % (17 - (k6 : Int)) = t6 := ⟨(T % (17 - (k6 : Int))).toNat, by omega⟩
  obtain ⟨f6, hf⟩ : ∃ f6 : Nat, F % (17 - (k6 : Int)) = f6 := ⟨(F % (17 - (k6 : Int))).toNat, by omega⟩
  have hft : t6 + k6 ≤ 16 := by omega
  have hff : f6 + k6 ≤ 16 := by omega
  have HK := Lib.hid hk
  have HT := Lib.hid ht
  have HF := Lib.hid hf
  clear hk ht hf ht' hf'
  have r0 : Row (W.alloc (.cells #[.slice ap n c, .int .u8 T, .int .u8 F, .int .u8 M] 50)) W.heap.size 50 [.slice ap n c, .int .u8 T, .int .u8 F, .int .u8 M] := Row.new W _ _
  obtain ⟨c0, c1, c2, c3⟩ := r0.four
  have B0 := (Below.refl W.heap.size W).alloc (Nat.le_refl _) (.cells #[.slice ap n c, .int .u8 T, .int .u8 F, .int .u8 M] 50)
  clear r0
  go_enter Try.func6, Try.ntmps6
  go_wp2_with fail
  go_quiet (fail)
  have B1 := drewN_below B0 nq
  clear c0 c1 c2 c3 B0
  generalize (W.alloc (.cells #[.slice ap n c, .int .u8 T, .int .u8 F, .int .u8 M] 50)).drewN nq = w0 at *
  go_wp2_with fail
  refine (made_new16 _).mono ?_
  rintro e w1 ⟨ra, rb, rfl, h1, b1, l1⟩
  go_wp2_with fail
  refine (made_ref16 _).mono ?_
  rintro e w2 ⟨xa, xb, rfl, h2, b2, l2⟩
  have S2 := st_made B1 h1 b1 l1 h2 b2 l2
  have hm := S2.lo
  have HM := Lib.hid hm
  clear h1 b1 l1 h2 b2 l2 B1 hm
  go_wp2_with fail
  refine (awake_any _).mono ?_
  rintro e w3 ⟨rfl, b3⟩
  have S3 := S2.call b3
  clear b3 S2
  generalize w0.heap.size = m0 at *
  go_wp2_with fail
  go_loopw [11] (fun i wr => ∃ k : Nat, k ≤ n ∧ i = .int .i64 k ∧ ∃ ws, St W wr m0 ra rb xa xb 128 ws) (fun i _ => n - (intOf i).toNat)
  case atStart => exact ⟨0, by omega, rfl, _, S3⟩
  case round =>
    obtain ⟨k, hk, rfl, ws, S⟩ := hrel
    clear S3
    by_cases hboth : k < n ∧ k < 60
    · obtain ⟨hlt, h60⟩ := hboth
      obtain ⟨ad, rfl, K', A', B', N', V', ok', c0, c1, c2, c3, c4⟩ := acts_cells hacts S.bel hlt
      obtain ⟨-, ok1, -, ok2, -, ok4, ok5⟩ := ok'
      go_wp2_with fail
      refine (do_any S.r S.x S.ne K' A' B' N' V' ok1 ok2 ok4 ok5).mono ?_
      rintro e w' ⟨rfl, hr, hx, ho⟩
      have S' := S.step hr hx ho
      clear hr hx ho S c0 c1 c2 c3 c4
      go_wp2
      go_roundw
      case rel => exact ⟨k + 1, by omega, by go_num, _, S'⟩
      case measure => simp [intOf]; omega
    · have HW := Lib.hid S.x.len
      clear hacts
      by_cases hlt : k < n
      case' pos => have h60 : 60 ≤ k := by omega
      all_goals
        clear hboth
        go_wp2_with fail
        rw [HK.out]
        have hs : IntKind.i64.wrap (17 - (k6 : Int)) = 17 - (k6 : Int) := IntWalk.i64_in _ (by omega)
        have hs1 : T.tmod (17 - (k6 : Int)) = t6 := by rw [Int.tmod_eq_emod_of_nonneg hT0]; exact HT.out
        have hs2 : F.tmod (17 - (k6 : Int)) = f6 := by rw [Int.tmod_eq_emod_of_nonneg hF0]; exact HF.out
        have hs3 : (17 - (k6 : Int) == 0) = false := by simp; omega
        have hs4 : IntKind.i64.wrap (t6 : Int) = t6 := IntWalk.i64_in _ (by omega)
        have hs5 : IntKind.i64.wrap (f6 : Int) = f6 := IntWalk.i64_in _ (by omega)
        go_quiet (fail)
        have S4 := S.call (drewN_below (Below.refl _ _) nq)
        clear S hs hs1 hs2 hs3 hs4 hs5
        generalize wr.drewN nq = w4 at *
        go_wp2_with fail
        refine (copy_ok S4.r t6 f6 k6 (by omega) (by omega) (errC_ok (by omega) (by omega) (by omega) (by omega) (by omega))).mono ?_
        rintro e w5 ⟨rfl, h5, g5⟩
        have x5 := S4.x.grown g5 (by have := S4.x.top.apart S4.r.row (by decide); simpa using this) (by have := S4.ne; simp; omega)
        have B5 := below_grown S4.bel g5 S4.bel.size (Nat.le_trans S4.lo S4.hb)
        have hlb : W.heap.size ≤ rb := Nat.le_trans S4.lo S4.hb
        have HB := Lib.hid hlb
        have hc := x5.field
        obtain ⟨ws5, hws5⟩ : ∃ l, l = splice ws (t6 * 8) ((ws.drop (f6 * 8)).take (k6 * 8)) := ⟨_, rfl⟩
        have HV : Hid (∀ i : Nat, i < k6 * 8 → ldV ws5 (64 * (t6 : Int) + 8 * (i : Int)) = ws.getD (8 * f6 + i) 0) := fun i hi => by rw [hws5]; exact ldV_copied ws t6 f6 k6 i HW.out hft hff hi
        rw [← hws5] at h5
        clear g5 S4 hlb hws5
        go_wp2_with fail
        go_loop [15] (fun i => ∃ j : Nat, j ≤ k6 * 8 ∧ i = .int .i64 j) (fun i => k6 * 8 - (intOf i).toNat)
        case atStart => exact ⟨0, by omega, rfl⟩
        case round =>
          obtain ⟨j, hj, rfl⟩ := hrel
          by_cases hjl : j < k6 * 8
          · have e6 : Hid (errW 128 (64 * (t6 : Int) + 8 * (j : Int)) = 0) := errW_ok _ _ (by omega) (by omega) (by omega)
            have c6 := x5.word (i := 8 * f6 + j) (by omega)
            obtain ⟨y, hy⟩ : ∃ y, y = ws.getD (8 * f6 + j) 0 := ⟨_, rfl⟩
            rw [← hy] at c6
            have hq : (ldV ws5 (64 * (t6 : Int) + 8 * (j : Int)) != y) = false := by rw [HV.out j hjl, ← hy]; simp
            clear hy
            go_wp2_with (go_at_call 13; refine (load_ok h5 _ e6.out).mono ?_; rintro e w' ⟨rfl, rfl⟩)
            go_round
            case rel => exact ⟨j + 1, by omega, by go_num⟩
            case measure => simp [intOf]; omega
          · go_wp2_with fail
            refine (zero_ok h5 t6 k6 (by omega) (errZ_ok (by omega) (by omega) (by omega))).mono ?_
            rintro e w6 ⟨rfl, h6, g6⟩
            have B6 := below_grown B5 g6 B5.size HB.out
            have HL := Lib.hid h5.len
            obtain ⟨ws6, hws6⟩ : ∃ l, l = splice ws5 (t6 * 8) (List.replicate (k6 * 8) 0) := ⟨_, rfl⟩
            have HZ : Hid (∀ i : Nat, i < k6 * 64 → byV ws6 (64 * (t6 : Int) + (i : Int)) = 0) := fun i hi => by rw [hws6]; exact byV_cleared ws5 t6 k6 i HL.out hft hi
            rw [← hws6] at h6
            clear g6 B5 x5 h5 hc hws6
            go_wp2_with fail
            go_loop [18] (fun i => ∃ j : Nat, j ≤ k6 * 64 ∧ i = .int .i64 j) (fun i => k6 * 64 - (intOf i).toNat)
            case atStart => exact ⟨0, by omega, rfl⟩
            case round =>
              obtain ⟨i3, hi3, rfl⟩ := hrel
              by_cases hil : i3 < k6 * 64
              · have e7 : Hid (errB 128 (64 * (t6 : Int) + (i3 : Int)) = 0) := errB_ok _ _ (by omega) (by omega)
                go_wp2_with (go_at_call 15; refine (byte_ok h6 _ 0 e7.out (HZ.out i3 hil)).mono ?_; rintro e w' ⟨rfl, rfl⟩)
                go_round
                case rel => exact ⟨i3 + 1, by omega, by go_num⟩
                case measure => simp [intOf]; omega
              · go_wp2
                go_ret
                exact ⟨rfl, B6⟩
end Go.Proofs.Ytlenoofhognmmaa
