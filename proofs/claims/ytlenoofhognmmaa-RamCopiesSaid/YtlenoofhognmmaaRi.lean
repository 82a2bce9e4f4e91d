/- The walk of the law RamApart: what is done within some frames changes no other ones. -/
import Derived.Test.YtlenoofhognmmaaRn
namespace Go.Proofs.Ytlenoofhognmmaa
open Go.RowKit

theorem getD_splice_out (ws cs : List Int) (o i : Nat) (h : o + cs.length ≤ ws.length) (ho : i < o ∨ o + cs.length ≤ i) : (splice ws o cs).getD i 0 = ws.getD i 0 := by
  rw [List.getD_eq_getElem?_getD, List.getD_eq_getElem?_getD, splice_get _ _ _ h]
  rcases ho with ho | ho
  · rw [if_pos ho]
  · rw [if_neg (by omega), if_neg (by omega)]
theorem ldV_word (ws : List Int) (i : Nat) (h : i < ws.length) : ldV ws (8 * (i : Int)) = ws.getD i 0 := by
  unfold ldV
  rw [if_pos (errW_ok _ _ (by omega) (by omega) (by omega)), show (8 * (i : Int)).toNat / 8 = i by omega]
/-- Where two lists of words differ, a call within frames has been. -/
def Within (ws ws' : List Int) (f k : Int) : Prop := ∀ i : Nat, i < 128 → ldV ws' (8 * (i : Int)) ≠ ws.getD i 0 → f ≤ (i : Int) / 8 ∧ (i : Int) / 8 - f < k
theorem within_none (ws : List Int) (hl : ws.length = 128) (i : Nat) (hi : i < 128) : ldV ws (8 * (i : Int)) = ws.getD i 0 := ldV_word ws i (by omega)
theorem within_st (ws : List Int) (p : Nat) (v : Int) (hl : ws.length = 128) (he : errW 128 p = 0) : Within ws (stL ws p v) ((p : Int) / 64) 1 := by
  intro i hi hne
  rw [ldV_word _ _ (by rw [stL_length]; omega)] at hne
  have : i = p / 8 := by
    apply Classical.byContradiction
    intro hx
    apply hne
    unfold stL
    rw [hl, if_pos he, List.getD_eq_getElem?_getD, List.getD_eq_getElem?_getD, List.getElem?_set, if_neg (by omega)]
  omega
theorem within_sp (ws cs : List Int) (f k : Nat) (hl : ws.length = 128) (hc : cs.length = k * 8) (hf : f * 8 + k * 8 ≤ 128) : Within ws (splice ws (f * 8) cs) f k := by
  intro i hi hne
  rw [ldV_word _ _ (by rw [length_splice _ _ _ (by omega)]; omega)] at hne
  have : ¬ (i < f * 8 ∨ f * 8 + cs.length ≤ i) := fun hx => hne (getD_splice_out ws cs _ _ (by omega) hx)
  omega

section
variable {w : World} {a b n : Nat} {T : TypeId} {ws : List Int}
theorem zero_ok (h : RamAt w a b T n ws) (f k : Nat) (hf : (f : Int) ≤ 9223372036854775807) (he : errZ n f k = 0) :
    Calls Try.prog 20 #[.pointer (some ⟨a, 0, none⟩), .int .i64 f, .int .i64 k] w fun e w' => e = .returned (.int .i64 0) ∧ RamAt w' a b T n (splice ws (f * 8) (List.replicate (k * 8) 0)) ∧ w.grownBy w' (some b) := by
  have z := zero_any h f k hf
  have hl := h.len
  have e2 : zeL ws f k = splice ws (f * 8) (List.replicate (k * 8) 0) := by simp [zeL, hl, he]
  rwa [he, e2] at z
theorem copy_ok (h : RamAt w a b T n ws) (t f k : Nat) (ht : (t : Int) ≤ 9223372036854775807) (hf : (f : Int) ≤ 9223372036854775807) (he : errC n t f k = 0) :
    Calls Try.prog 21 #[.pointer (some ⟨a, 0, none⟩), .int .i64 t, .int .i64 f, .int .i64 k] w fun e w' => e = .returned (.int .i64 0) ∧ RamAt w' a b T n (splice ws (t * 8) ((ws.drop (f * 8)).take (k * 8))) ∧ w.grownBy w' (some b) := by
  have z := copy_any h t f k ht hf
  have hl := h.len
  have e2 : cpL ws t f k = splice ws (t * 8) ((ws.drop (f * 8)).take (k * 8)) := by simp [cpL, hl, he]
  rwa [he, e2] at z
end
theorem errZ_0 {n : Nat} {f k : Int} (h : errZ n f k = 0) : 1 ≤ k ∧ 0 ≤ f ∧ k ≤ (n : Int) / 8 - f := by
  unfold errZ errF at h
  split at h
  · omega
  · split at h
    · omega
    · omega
theorem errC_0 {n : Nat} {t f k : Int} (h : errC n t f k = 0) : 1 ≤ k ∧ (0 ≤ t ∧ k ≤ (n : Int) / 8 - t) ∧ 0 ≤ f ∧ k ≤ (n : Int) / 8 - f := by
  unfold errC at h
  split at h
  · omega
  · split at h
    · rename_i h1 h2
      unfold errF at h h2
      split at h
      · omega
      · split at h2
        · omega
        · omega
    · omega

set_option maxRecDepth 100000 in
set_option maxHeartbeats 4000000 in
theorem apart_walk (ap : Option Addr) (n c : Nat) (K A B N V : Int) (W : World) (hacts : Acts W W.heap.size ap n) (ok : IsAct (K, A, B, N, V)) :
    Calls Try.prog 5 #[.slice ap n c, .agg #[.int .i64 K, .int .i64 A, .int .i64 B, .int .i64 N, .int .u64 V]] W fun e W' => e = .returned (.bool true) ∧ Below W.heap.size W W' := by
  have r0 : Row (W.alloc (.cells #[.int .i64 K, .int .i64 A, .int .i64 B, .int .i64 N, .int .u64 V] 34)) W.heap.size 34 [.int .i64 K, .int .i64 A, .int .i64 B, .int .i64 N, .int .u64 V] := Row.new W _ _
  have B0 := (Below.refl W.heap.size W).alloc (Nat.le_refl _) (.cells #[.int .i64 K, .int .i64 A, .int .i64 B, .int .i64 N, .int .u64 V] 34)
  go_enter Try.func5, Try.ntmps5
  go_wp2_with fail
  refine (made_new16 _).mono ?_
  rintro e w1 ⟨ra, rb, rfl, h1, b1, l1⟩
  go_wp2_with fail
  refine (made_ref16 _).mono ?_
  rintro e w2 ⟨xa, xb, rfl, h2, b2, l2⟩
  have S2 := st_made B0 h1 b1 l1 h2 b2 l2
  have r2 := (r0.below b1 r0.lt).below b2 (r0.below b1 r0.lt).lt
  have hm : W.heap.size < (W.alloc (.cells #[.int .i64 K, .int .i64 A, .int .i64 B, .int .i64 N, .int .u64 V] 34)).heap.size := r0.lt
  have HM := Lib.hid hm
  clear h1 b1 l1 h2 b2 l2 B0 r0 hm
  go_wp2_with fail
  refine (awake_any _).mono ?_
  rintro e w3 ⟨rfl, b3⟩
  have S3 := S2.call b3
  have r3 := r2.below b3 r2.lt
  clear b3 S2 r2
  generalize (W.alloc (.cells #[.int .i64 K, .int .i64 A, .int .i64 B, .int .i64 N, .int .u64 V] 34)).heap.size = m0 at *
  go_wp2_with fail
  go_loopw [9] (fun i wr => ∃ k : Nat, k ≤ n ∧ i = .int .i64 k ∧ Row wr W.heap.size 34 [.int .i64 K, .int .i64 A, .int .i64 B, .int .i64 N, .int .u64 V] ∧ ∃ ws, St W wr m0 ra rb xa xb 128 ws) (fun i _ => n - (intOf i).toNat)
  case atStart => exact ⟨0, by omega, rfl, r3, _, S3⟩
  case round =>
    obtain ⟨k, hk, rfl, rr, ws, S⟩ := hrel
    clear S3 r3
    by_cases hboth : k < n ∧ k < 60
    · obtain ⟨hlt, h60⟩ := hboth
      obtain ⟨ad, rfl, hab, hat⟩ := hacts (by omega)
      obtain ⟨K', A', B', N', V', ok', at'⟩ := hat k hlt
      have at2 : ActAt wr (ad.add (k * 5)) K' A' B' N' V' := by
        have hp : (ad.add (k * 5)).block < W.heap.size := by rw [block_add]; exact hab
        exact ⟨(S.bel.cell hp).trans at'.c0, (S.bel.cell (p := ⟨_, _, none⟩) hp).trans at'.c1, (S.bel.cell (p := ⟨_, _, none⟩) hp).trans at'.c2, (S.bel.cell (p := ⟨_, _, none⟩) hp).trans at'.c3, (S.bel.cell (p := ⟨_, _, none⟩) hp).trans at'.c4⟩
      obtain ⟨c0, c1, c2, c3, c4⟩ := at2
      obtain ⟨-, ok1, -, ok2, -, ok4, ok5⟩ := ok'
      clear at' hat hab
      go_wp2_with fail
      refine (do_any S.r S.x S.ne K' A' B' N' V' ok1 ok2 ok4 ok5).mono ?_
      rintro e w' ⟨rfl, hr, hx, ho⟩
      have S' := S.step hr hx ho
      have rr' := Row.step S HM.out rr ho
      clear hr hx ho S rr c0 c1 c2 c3 c4
      go_wp2
      go_roundw
      case rel => exact ⟨k + 1, by omega, by go_num, rr', _, S'⟩
      case measure => simp [intOf]; omega
    · have HW := Lib.hid S.x.len
      have xx := S.x.alloc (.cells #[] 32)
      have hc := xx.field
      have hsrc : ∀ j u, (wcells ws)[j]? = some u → (wr.alloc (.cells #[] 32)).cell? ((⟨xb, 0, none⟩ : Addr).add j) = some u := fun j u hu => by
        have ha : (⟨xb, 0, none⟩ : Addr).add j = ⟨xb, j, none⟩ := by unfold Addr.add; split <;> simp_all
        rw [ha, xx.row.cell, hu]
      obtain ⟨i0, hi0, hz0, hz1, hz2⟩ := info_parts info_u64
      clear xx hacts
      by_cases hlt : k < n
      case' pos => have h60 : 60 ≤ k := by omega
      all_goals
        clear hboth
        go_wp2_with (at_builtin; refine wpList_append_own_at _ rfl _ _ 39 rfl wr.heap.size 32 i0 (.int .u64 0) 1 8 Try.underlying39 hi0 hz0 hz1 hz2 rfl (by decide) _ 0 [] rfl (World.ownsRow_lit wr #[] 0 (Nat.le_refl _) (Nat.zero_le _) rfl) ⟨xb, 0, none⟩ 128 128 (wcells ws) rfl (by rw [wcells_length, Nat.mul_one]; exact HW.out) hsrc (words_one ws) (by unfold maxLen; omega) (by omega) (by simp) ?_; intro v' w4 hown hgr x1 x2; clear x1 x2)
        obtain ⟨g, cap, rfl, hg, hglt, hsay⟩ := own_words hown (by omega)
        have hgr' : (wr.alloc (.cells #[] 32)).grownBy w4 (some wr.heap.size) := hgr
        have hb4 : Below wr.heap.size wr w4 := ((Below.refl _ _).alloc (Nat.le_refl _) _).grown hgr' (by simp) (fun r hr => by injection hr with hr; omega)
        have S4 := S.call hb4
        have r4 := rr.below hb4 rr.lt
        have hm4 : m0 ≤ wr.heap.size := Nat.le_of_lt (Nat.lt_of_le_of_lt S.hb S.r.row.lt)
        have hrb : rb < g := Nat.lt_of_lt_of_le S.r.row.lt hg
        have HG := Lib.hid hrb
        obtain ⟨q0, q1, q2, q3, q4⟩ := r4.five
        clear hown hgr hgr' hsrc hc hi0 hz0 hz1 hz2 hb4 S rr hg hrb hm4
        go_wp2_with fail
        go_quiet (fail)
        have S5 := S4.call (drewN_below (Below.refl _ _) nq)
        have r5 : Row (w4.drewN nq) W.heap.size 34 [.int .i64 K, .int .i64 A, .int .i64 B, .int .i64 N, .int .u64 V] := r4
        have y5 : Says (w4.drewN nq) g ws := hsay
        have hg5 : g < (w4.drewN nq).heap.size := hglt
        clear q0 q1 q2 q3 q4 S4 r4 hsay hglt
        generalize w4.drewN nq = w5 at *
        obtain ⟨q0, q1, q2, q3, q4⟩ := r5.five
        by_cases hK : K = 0 ∨ K = 1
        · rcases hK with rfl | rfl
          all_goals
            by_cases he : errW 128 A = 0
            · obtain ⟨p, rfl⟩ : ∃ p : Nat, A = p := ⟨A.toNat, by unfold errW at he; split at he <;> omega⟩
              have hp1 : (p : Int) < 1024 := by unfold errW at he; split at he <;> omega
              have hF := within_st ws p V HW.out he
              obtain ⟨ws6, hws6⟩ : ∃ l, l = stL ws p V := ⟨_, rfl⟩
              rw [← hws6] at hF
              have HF := Lib.hid hF
              have HS := Lib.hid hws6
              have HE := Lib.hid he
              clear hF hws6 he
              go_wp2_with fail
              refine (store_ok S5.r p V ok.2.2.2.2.2.1 ok.2.2.2.2.2.2 HE.out).mono ?_
              rintro e w6 ⟨rfl, h6, g6⟩
              rw [← HS.out] at h6
              have r6 := r5.grown g6 (by intro e; injection e with e; have := HM.out; have := S5.hb; omega)
              have y6 := y5.far g6 hg5 (by intro e; injection e with e; have := S5.r.row.lt; have := HG.out; omega)
              have B6 := below_grown S5.bel g6 S5.bel.size (Nat.le_trans S5.lo S5.hb)
              have HL := Lib.hid h6.len
              clear g6 r5 y5 S5 q0 q1 q2 q3 q4
              obtain ⟨q0, q1, q2, q3, q4⟩ := r6.five
              clear r6
              go_wp2_with fail
              clear q0 q1 q2 q3 q4
              go_loop [14] (fun i => ∃ j : Nat, j ≤ 128 ∧ i = .int .i64 j) (fun i => 128 - (intOf i).toNat)
              case atStart => exact ⟨0, by omega, rfl⟩
              case round =>
                obtain ⟨j, hj, rfl⟩ := hrel
                by_cases hjl : j < 128
                · have c6 := y6 j (by rw [HW.out]; exact hjl)
                  have e6 : Hid (errW 128 (8 * (j : Int)) = 0) := errW_ok _ _ (by omega) (by omega) (by omega)
                  obtain ⟨y, hy⟩ : ∃ y, y = ws.getD j 0 := ⟨_, rfl⟩
                  have HY := Lib.hid hy
                  rw [← hy] at c6
                  clear hy
                  by_cases hq : ldV ws6 (8 * (j : Int)) = y
                  · have hq1 : (ldV ws6 (8 * (j : Int)) != y) = false := by simpa using hq
                    clear hq
                    go_wp2_with (go_at_call 13; refine (load_ok h6 _ e6.out).mono ?_; rintro e w' ⟨rfl, rfl⟩)
                    go_round
                    case rel => exact ⟨j + 1, by omega, by go_num⟩
                    case measure => simp [intOf]; omega
                  · have hq1 : (ldV ws6 (8 * (j : Int)) != y) = true := by simpa using hq
                    have hin := HF.out j hjl (by rw [← HY.out]; exact hq)
                    obtain ⟨hi1, hi2⟩ := hin
                    clear hq
                    go_wp2_with (go_at_call 13; refine (load_ok h6 _ e6.out).mono ?_; rintro e w' ⟨rfl, rfl⟩)
                    go_round
                    case rel => exact ⟨j + 1, by omega, by go_num⟩
                    case measure => simp [intOf]; omega
                · go_wp2
                  go_ret
                  exact ⟨rfl, B6⟩
            · have hs : stL ws A V = ws := by simp [stL, HW.out, he]
              have hF := within_none ws HW.out
              obtain ⟨ws6, hws6⟩ : ∃ l, l = ws := ⟨_, rfl⟩
              have HF : Hid (∀ i : Nat, i < 128 → ldV ws6 (8 * (i : Int)) = ws.getD i 0) := by rw [hws6]; exact hF
              have HS : Hid (stL ws A V = ws6) := by rw [hws6]; exact hs
              clear hF hws6 he hs
              go_wp2_with fail
              refine (store_any S5.r A V ok.2.2.2.2.2.1 ok.2.2.2.2.2.2).mono ?_
              rintro e w6 ⟨rfl, h6, g6⟩
              rw [HS.out] at h6
              have r6 := r5.grown g6 (by intro e; injection e with e; have := HM.out; have := S5.hb; omega)
              have y6 := y5.far g6 hg5 (by intro e; injection e with e; have := S5.r.row.lt; have := HG.out; omega)
              have B6 := below_grown S5.bel g6 S5.bel.size (Nat.le_trans S5.lo S5.hb)
              have HL := Lib.hid h6.len
              clear g6 r5 y5 S5 q0 q1 q2 q3 q4
              obtain ⟨q0, q1, q2, q3, q4⟩ := r6.five
              clear r6
              go_wp2_with fail
              clear q0 q1 q2 q3 q4
              go_loop [14] (fun i => ∃ j : Nat, j ≤ 128 ∧ i = .int .i64 j) (fun i => 128 - (intOf i).toNat)
              case atStart => exact ⟨0, by omega, rfl⟩
              case round =>
                obtain ⟨j, hj, rfl⟩ := hrel
                by_cases hjl : j < 128
                · have c6 := y6 j (by rw [HW.out]; exact hjl)
                  have e6 : Hid (errW 128 (8 * (j : Int)) = 0) := errW_ok _ _ (by omega) (by omega) (by omega)
                  obtain ⟨y, hy⟩ : ∃ y, y = ws.getD j 0 := ⟨_, rfl⟩
                  have HY := Lib.hid hy
                  rw [← hy] at c6
                  clear hy
                  have hq : (ldV ws6 (8 * (j : Int)) != y) = false := by rw [HF.out j hjl, ← HY.out]; simp
                  go_wp2_with (go_at_call 13; refine (load_ok h6 _ e6.out).mono ?_; rintro e w' ⟨rfl, rfl⟩)
                  go_round
                  case rel => exact ⟨j + 1, by omega, by go_num⟩
                  case measure => simp [intOf]; omega
                · go_wp2
                  go_ret
                  exact ⟨rfl, B6⟩
        · have k0 : (K == 0) = false := by simp; omega
          have k1 : (K == 1) = false := by simp; omega
          by_cases hK2 : K = 2
          · subst hK2
            clear hK k0 k1
            by_cases he : errZ 128 A N = 0
            · obtain ⟨b1, b2, b3⟩ := errZ_0 he
              obtain ⟨f, rfl⟩ : ∃ f : Nat, A = f := ⟨A.toNat, by omega⟩
              obtain ⟨k6, rfl⟩ : ∃ k : Nat, N = k := ⟨N.toNat, by omega⟩
              have hf1 : (f : Int) ≤ 16 := by omega
              have hf2 : (k6 : Int) ≤ 16 := by omega
              have hF := within_sp ws (List.replicate (k6 * 8) 0) f k6 HW.out (by simp) (by omega)
              obtain ⟨ws6, hws6⟩ : ∃ l, l = splice ws (f * 8) (List.replicate (k6 * 8) 0) := ⟨_, rfl⟩
              rw [← hws6] at hF
              have HF := Lib.hid hF
              have HS := Lib.hid hws6
              have HE := Lib.hid he
              clear hF hws6 he
              go_wp2_with fail
              refine (zero_ok S5.r f k6 ok.2.1 HE.out).mono ?_
              rintro e w6 ⟨rfl, h6, g6⟩
              rw [← HS.out] at h6
              have r6 := r5.grown g6 (by intro e; injection e with e; have := HM.out; have := S5.hb; omega)
              have y6 := y5.far g6 hg5 (by intro e; injection e with e; have := S5.r.row.lt; have := HG.out; omega)
              have B6 := below_grown S5.bel g6 S5.bel.size (Nat.le_trans S5.lo S5.hb)
              have HL := Lib.hid h6.len
              clear g6 r5 y5 S5 q0 q1 q2 q3 q4
              obtain ⟨q0, q1, q2, q3, q4⟩ := r6.five
              clear r6
              go_wp2_with fail
              clear q0 q1 q2 q3 q4
              go_loop [14] (fun i => ∃ j : Nat, j ≤ 128 ∧ i = .int .i64 j) (fun i => 128 - (intOf i).toNat)
              case atStart => exact ⟨0, by omega, rfl⟩
              case round =>
                obtain ⟨j, hj, rfl⟩ := hrel
                by_cases hjl : j < 128
                · have c6 := y6 j (by rw [HW.out]; exact hjl)
                  have e6 : Hid (errW 128 (8 * (j : Int)) = 0) := errW_ok _ _ (by omega) (by omega) (by omega)
                  obtain ⟨y, hy⟩ : ∃ y, y = ws.getD j 0 := ⟨_, rfl⟩
                  have HY := Lib.hid hy
                  rw [← hy] at c6
                  clear hy
                  by_cases hq : ldV ws6 (8 * (j : Int)) = y
                  · have hq1 : (ldV ws6 (8 * (j : Int)) != y) = false := by simpa using hq
                    clear hq
                    go_wp2_with (go_at_call 13; refine (load_ok h6 _ e6.out).mono ?_; rintro e w' ⟨rfl, rfl⟩)
                    go_round
                    case rel => exact ⟨j + 1, by omega, by go_num⟩
                    case measure => simp [intOf]; omega
                  · have hq1 : (ldV ws6 (8 * (j : Int)) != y) = true := by simpa using hq
                    have hin := HF.out j hjl (by rw [← HY.out]; exact hq)
                    obtain ⟨hi1, hi2⟩ := hin
                    clear hq
                    go_wp2_with (go_at_call 13; refine (load_ok h6 _ e6.out).mono ?_; rintro e w' ⟨rfl, rfl⟩)
                    go_round
                    case rel => exact ⟨j + 1, by omega, by go_num⟩
                    case measure => simp [intOf]; omega
                · go_wp2
                  go_ret
                  exact ⟨rfl, B6⟩
            · have hs : zeL ws A N = ws := by simp [zeL, HW.out, he]
              have hF := within_none ws HW.out
              obtain ⟨ws6, hws6⟩ : ∃ l, l = ws := ⟨_, rfl⟩
              have HF : Hid (∀ i : Nat, i < 128 → ldV ws6 (8 * (i : Int)) = ws.getD i 0) := by rw [hws6]; exact hF
              have HS : Hid (zeL ws A N = ws6) := by rw [hws6]; exact hs
              clear hF hws6 he hs
              go_wp2_with fail
              refine (zero_any S5.r A N ok.2.1).mono ?_
              rintro e w6 ⟨rfl, h6, g6⟩
              rw [HS.out] at h6
              have r6 := r5.grown g6 (by intro e; injection e with e; have := HM.out; have := S5.hb; omega)
              have y6 := y5.far g6 hg5 (by intro e; injection e with e; have := S5.r.row.lt; have := HG.out; omega)
              have B6 := below_grown S5.bel g6 S5.bel.size (Nat.le_trans S5.lo S5.hb)
              have HL := Lib.hid h6.len
              clear g6 r5 y5 S5 q0 q1 q2 q3 q4
              obtain ⟨q0, q1, q2, q3, q4⟩ := r6.five
              clear r6
              go_wp2_with fail
              clear q0 q1 q2 q3 q4
              go_loop [14] (fun i => ∃ j : Nat, j ≤ 128 ∧ i = .int .i64 j) (fun i => 128 - (intOf i).toNat)
              case atStart => exact ⟨0, by omega, rfl⟩
              case round =>
                obtain ⟨j, hj, rfl⟩ := hrel
                by_cases hjl : j < 128
                · have c6 := y6 j (by rw [HW.out]; exact hjl)
                  have e6 : Hid (errW 128 (8 * (j : Int)) = 0) := errW_ok _ _ (by omega) (by omega) (by omega)
                  obtain ⟨y, hy⟩ : ∃ y, y = ws.getD j 0 := ⟨_, rfl⟩
                  have HY := Lib.hid hy
                  rw [← hy] at c6
                  clear hy
                  have hq : (ldV ws6 (8 * (j : Int)) != y) = false := by rw [HF.out j hjl, ← HY.out]; simp
                  go_wp2_with (go_at_call 13; refine (load_ok h6 _ e6.out).mono ?_; rintro e w' ⟨rfl, rfl⟩)
                  go_round
                  case rel => exact ⟨j + 1, by omega, by go_num⟩
                  case measure => simp [intOf]; omega
                · go_wp2
                  go_ret
                  exact ⟨rfl, B6⟩
          · have k2 : (K == 2) = false := by simpa using hK2
            clear hK hK2
            by_cases he : errC 128 A B N = 0
            · obtain ⟨b1, ⟨b2, b3⟩, b4, b5⟩ := errC_0 he
              obtain ⟨t, rfl⟩ : ∃ f : Nat, A = f := ⟨A.toNat, by omega⟩
              obtain ⟨f, rfl⟩ : ∃ f : Nat, B = f := ⟨B.toNat, by omega⟩
              obtain ⟨k6, rfl⟩ : ∃ k : Nat, N = k := ⟨N.toNat, by omega⟩
              have hf1 : (t : Int) ≤ 16 := by omega
              have hf2 : (k6 : Int) ≤ 16 := by omega
              have hF := within_sp ws ((ws.drop (f * 8)).take (k6 * 8)) t k6 HW.out (by have := HW.out; simp; omega) (by omega)
              obtain ⟨ws6, hws6⟩ : ∃ l, l = splice ws (t * 8) ((ws.drop (f * 8)).take (k6 * 8)) := ⟨_, rfl⟩
              rw [← hws6] at hF
              have HF := Lib.hid hF
              have HS := Lib.hid hws6
              have HE := Lib.hid he
              clear hF hws6 he
              go_wp2_with fail
              refine (copy_ok S5.r t f k6 ok.2.1 ok.2.2.2.1 HE.out).mono ?_
              rintro e w6 ⟨rfl, h6, g6⟩
              rw [← HS.out] at h6
              have r6 := r5.grown g6 (by intro e; injection e with e; have := HM.out; have := S5.hb; omega)
              have y6 := y5.far g6 hg5 (by intro e; injection e with e; have := S5.r.row.lt; have := HG.out; omega)
              have B6 := below_grown S5.bel g6 S5.bel.size (Nat.le_trans S5.lo S5.hb)
              have HL := Lib.hid h6.len
              clear g6 r5 y5 S5 q0 q1 q2 q3 q4
              obtain ⟨q0, q1, q2, q3, q4⟩ := r6.five
              clear r6
              go_wp2_with fail
              clear q0 q1 q2 q3 q4
              go_loop [14] (fun i => ∃ j : Nat, j ≤ 128 ∧ i = .int .i64 j) (fun i => 128 - (intOf i).toNat)
              case atStart => exact ⟨0, by omega, rfl⟩
              case round =>
                obtain ⟨j, hj, rfl⟩ := hrel
                by_cases hjl : j < 128
                · have c6 := y6 j (by rw [HW.out]; exact hjl)
                  have e6 : Hid (errW 128 (8 * (j : Int)) = 0) := errW_ok _ _ (by omega) (by omega) (by omega)
                  obtain ⟨y, hy⟩ : ∃ y, y = ws.getD j 0 := ⟨_, rfl⟩
                  have HY := Lib.hid hy
                  rw [← hy] at c6
                  clear hy
                  by_cases hq : ldV ws6 (8 * (j : Int)) = y
                  · have hq1 : (ldV ws6 (8 * (j : Int)) != y) = false := by simpa using hq
                    clear hq
                    go_wp2_with (go_at_call 13; refine (load_ok h6 _ e6.out).mono ?_; rintro e w' ⟨rfl, rfl⟩)
                    go_round
                    case rel => exact ⟨j + 1, by omega, by go_num⟩
                    case measure => simp [intOf]; omega
                  · have hq1 : (ldV ws6 (8 * (j : Int)) != y) = true := by simpa using hq
                    have hin := HF.out j hjl (by rw [← HY.out]; exact hq)
                    obtain ⟨hi1, hi2⟩ := hin
                    clear hq
                    go_wp2_with (go_at_call 13; refine (load_ok h6 _ e6.out).mono ?_; rintro e w' ⟨rfl, rfl⟩)
                    go_round
                    case rel => exact ⟨j + 1, by omega, by go_num⟩
                    case measure => simp [intOf]; omega
                · go_wp2
                  go_ret
                  exact ⟨rfl, B6⟩
            · have hs : cpL ws A B N = ws := by simp [cpL, HW.out, he]
              have hF := within_none ws HW.out
              obtain ⟨ws6, hws6⟩ : ∃ l, l = ws := ⟨_, rfl⟩
              have HF : Hid (∀ i : Nat, i < 128 → ldV ws6 (8 * (i : Int)) = ws.getD i 0) := by rw [hws6]; exact hF
              have HS : Hid (cpL ws A B N = ws6) := by rw [hws6]; exact hs
              clear hF hws6 he hs
              go_wp2_with fail
              refine (copy_any S5.r A B N ok.2.1 ok.2.2.2.1).mono ?_
              rintro e w6 ⟨rfl, h6, g6⟩
              rw [HS.out] at h6
              have r6 := r5.grown g6 (by intro e; injection e with e; have := HM.out; have := S5.hb; omega)
              have y6 := y5.far g6 hg5 (by intro e; injection e with e; have := S5.r.row.lt; have := HG.out; omega)
              have B6 := below_grown S5.bel g6 S5.bel.size (Nat.le_trans S5.lo S5.hb)
              have HL := Lib.hid h6.len
              clear g6 r5 y5 S5 q0 q1 q2 q3 q4
              obtain ⟨q0, q1, q2, q3, q4⟩ := r6.five
              clear r6
              go_wp2_with fail
              clear q0 q1 q2 q3 q4
              go_loop [14] (fun i => ∃ j : Nat, j ≤ 128 ∧ i = .int .i64 j) (fun i => 128 - (intOf i).toNat)
              case atStart => exact ⟨0, by omega, rfl⟩
              case round =>
                obtain ⟨j, hj, rfl⟩ := hrel
                by_cases hjl : j < 128
                · have c6 := y6 j (by rw [HW.out]; exact hjl)
                  have e6 : Hid (errW 128 (8 * (j : Int)) = 0) := errW_ok _ _ (by omega) (by omega) (by omega)
                  obtain ⟨y, hy⟩ : ∃ y, y = ws.getD j 0 := ⟨_, rfl⟩
                  have HY := Lib.hid hy
                  rw [← hy] at c6
                  clear hy
                  have hq : (ldV ws6 (8 * (j : Int)) != y) = false := by rw [HF.out j hjl, ← HY.out]; simp
                  go_wp2_with (go_at_call 13; refine (load_ok h6 _ e6.out).mono ?_; rintro e w' ⟨rfl, rfl⟩)
                  go_round
                  case rel => exact ⟨j + 1, by omega, by go_num⟩
                  case measure => simp [intOf]; omega
                · go_wp2
                  go_ret
                  exact ⟨rfl, B6⟩
end Go.Proofs.Ytlenoofhognmmaa
