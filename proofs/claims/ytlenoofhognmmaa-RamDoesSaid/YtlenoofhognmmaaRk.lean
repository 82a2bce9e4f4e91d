/- The walk of the law RamDoes: every call of a memory is answered as the document says. -/
import Derived.Test.YtlenoofhognmmaaRi
namespace Go.Proofs.Ytlenoofhognmmaa
open Go.RowKit

theorem acts_cells {W w : World} {ap : Option Addr} {n k : Nat} (h : Acts W W.heap.size ap n) (hb : Below W.heap.size W w) (hk : k < n) :
    ∃ ad, ap = some ad ∧ ∃ K A B N V : Int, IsAct (K, A, B, N, V) ∧ ActAt w (ad.add (k * 5)) K A B N V := by
  obtain ⟨ad, e, _, hat⟩ := (h.below hb) (by omega)
  obtain ⟨K, A, B, N, V, ok, g⟩ := hat k hk
  exact ⟨ad, e, K, A, B, N, V, ok, g⟩

set_option maxRecDepth 100000 in
set_option maxHeartbeats 1000000 in
theorem does_bad (f i : Int) (ap : Option Addr) (n c : Nat) (W : World) (hf : f < 8 ∨ 1024 < f) :
    Calls Try.prog 3 #[.int .i64 f, .slice ap n c, .int .i64 i] W fun e W' => e = .returned (.bool true) ∧ Below W.heap.size W W' := by
  have HF := Lib.hid hf
  clear hf
  go_enter Try.func3, Try.ntmps3
  go_wp2_with (first | (go_at_call 9; refine (new_bad f _ HF.out).mono ?_; rintro e w' ⟨rfl, rfl⟩) | (go_at_call 10; refine (refNew_bad f _ HF.out).mono ?_; rintro e w' ⟨rfl, rfl⟩) | (go_at_call 11; refine (awake_any _).mono ?_; rintro e w1 ⟨rfl, hb⟩))
  go_ret
  exact ⟨rfl, hb⟩

set_option maxRecDepth 100000 in
set_option maxHeartbeats 4000000 in
theorem does_ok (F : Nat) (i : Int) (ap : Option Addr) (n c : Nat) (W : World) (h8 : 8 ≤ F) (h1024 : F ≤ 1024) (hacts : Acts W W.heap.size ap n) :
    Calls Try.prog 3 #[.int .i64 F, .slice ap n c, .int .i64 i] W fun e W' => e = .returned (.bool true) ∧ Below W.heap.size W W' := by
  go_enter Try.func3, Try.ntmps3
  go_wp2_with fail
  refine (made_new F _ h8 h1024).mono ?_
  rintro e w1 ⟨ra, rb, rfl, h1, b1, l1⟩
  go_wp2_with fail
  refine (made_ref F _ h8 h1024).mono ?_
  rintro e w2 ⟨xa, xb, rfl, h2, b2, l2⟩
  have S2 := st_made (Below.refl _ W) h1 b1 l1 h2 b2 l2
  clear h1 b1 l1 h2 b2 l2
  go_wp2_with fail
  refine (awake_any _).mono ?_
  rintro e w3 ⟨rfl, b3⟩
  have S3 := S2.call b3
  clear b3 S2
  obtain ⟨m, hm⟩ : ∃ m, m = F * 8 := ⟨_, rfl⟩
  rw [← hm] at S3
  have hm1 : m ≤ 8192 := by omega
  clear hm h8 h1024
  go_wp2_with fail
  go_loopw [11] (fun i wr => ∃ k : Nat, k ≤ n ∧ i = .int .i64 k ∧ ∃ ws, St W wr W.heap.size ra rb xa xb m ws) (fun i _ => n - (intOf i).toNat)
  case atStart => exact ⟨0, by omega, rfl, _, S3⟩
  case round =>
    obtain ⟨k, hk, rfl, ws, S⟩ := hrel
    clear S3
    by_cases hboth : k < n ∧ k < 60
    · obtain ⟨hlt, h60⟩ := hboth
      obtain ⟨ad, rfl, K', A', B', N', V', ok', c0, c1, c2, c3, c4⟩ := acts_cells hacts S.bel hlt
      obtain ⟨-, ok1, -, ok2, -, ok4, ok5⟩ := ok'
      go_wp2_with fail
      refine (do_any S.r S.x S.ne K' A' B' N' V' ok1 ok2 ok4 ok5).mono ?_
      rintro e w' ⟨rfl, hr, hx, ho⟩
      have hbl : Below W.heap.size wr w' := Only.below (Below.refl _ wr) ho S.bel.size S.hb S.hd
      have d1 : w'.cell? ⟨(ad.add (k * 5)).block, (ad.add (k * 5)).off + 1, none⟩ = some (.int .i64 A') := by
        obtain ⟨ad', e', hab, _⟩ := hacts (by omega)
        injection e' with e'
        subst e'
        exact (hbl.cell (p := ⟨_, _, none⟩) (by show (ad.add (k * 5)).block < _; rw [block_add]; exact hab)).trans c1
      have S' := S.step hr hx ho
      clear hr hx ho S c0 c1 c2 c3 c4 hbl
      go_wp2_with (first | (go_at_call 13; refine (load_any S'.r A').mono ?_; rintro e w4 ⟨rfl, rfl⟩) | (go_at_call 14; refine (refLoad_any S'.x A').mono ?_; rintro e w4 ⟨rfl, rfl⟩) | (go_at_call 15; refine (byte_any S'.r i).mono ?_; rintro e w4 ⟨rfl, rfl⟩) | (go_at_call 16; refine (refByte_any S'.x i).mono ?_; rintro e w4 ⟨rfl, rfl⟩))
      go_roundw
      case rel => exact ⟨k + 1, by omega, by go_num, _, S'⟩
      case measure => simp [intOf]; omega
    · have HW := Lib.hid S.x.len
      have hc := S.x.field
      clear hacts
      by_cases hlt : k < n
      case' pos => have h60 : 60 ≤ k := by omega
      all_goals
        clear hboth
        go_wp2_with fail
        go_loop [20] (fun i => ∃ j : Nat, j ≤ m ∧ i = .int .i64 j) (fun i => m - (intOf i).toNat)
        case atStart => exact ⟨0, by omega, rfl⟩
        case round =>
          obtain ⟨j, hj, rfl⟩ := hrel
          by_cases hjl : j < m
          · have e6 : Hid (errW m (8 * (j : Int)) = 0) := errW_ok _ _ (by omega) (by omega) (by omega)
            have c6 := S.x.word hjl
            obtain ⟨y, hy⟩ : ∃ y, y = ws.getD j 0 := ⟨_, rfl⟩
            rw [← hy] at c6
            have hq : (ldV ws (8 * (j : Int)) != y) = false := by rw [ldV_word ws j (by rw [HW.out]; exact hjl), ← hy]; simp
            clear hy
            go_wp2_with (go_at_call 13; refine (load_ok S.r _ e6.out).mono ?_; rintro e w' ⟨rfl, rfl⟩)
            go_round
            case rel => exact ⟨j + 1, by omega, by go_num⟩
            case measure => simp [intOf]; omega
          · go_wp2_with (first | (go_at_call 17; refine (frames_any S.r).mono ?_; rintro e w' ⟨rfl, rfl⟩) | (go_at_call 18; refine (refFrames_any S.x).mono ?_; rintro e w' ⟨rfl, rfl⟩))
            go_ret
            exact ⟨rfl, S.bel⟩
theorem does_walk (f i : Int) (ap : Option Addr) (n c : Nat) (W : World) (hacts : Acts W W.heap.size ap n) :
    Calls Try.prog 3 #[.int .i64 f, .slice ap n c, .int .i64 i] W fun e W' => e = .returned (.bool true) ∧ Below W.heap.size W W' := by
  by_cases hf : f < 8 ∨ 1024 < f
  · exact does_bad f i ap n c W hf
  · obtain ⟨F, rfl⟩ : ∃ F : Nat, f = F := ⟨f.toNat, by omega⟩
    exact does_ok F i ap n c W (by omega) (by omega) hacts
end Go.Proofs.Ytlenoofhognmmaa
