/- The reference of stretches: Room, walked. -/
import Derived.Test.YtekfkglielmfaaaTrM
namespace Go.Proofs.Ytekfkglielmfaaa
open Go.RowKit
/-- Does a page do? -/
def fits (T : Nat → Bool) (low m : Int) (sz q : Nat) : Prop := low ≤ q ∧ q % sz = 0 ∧ m ≤ (rn T q : Nat)
theorem no_more {P : Nat → Prop} {q : Nat} (h : ∀ j : Nat, 1 ≤ j → j < q → ¬ P j) (hq : ¬ P q) : ∀ j : Nat, 1 ≤ j → j < q + 1 → ¬ P j := fun j h1 h2 => by
  by_cases e : j = q
  · rw [e]; exact hq
  · exact h j h1 (by omega)
section
variable {w w' : World} {B x : Nat} {v v' : Value} {L L' : List (Nat × Nat)} {f t : Int}
theorem rroom_no {low n o : Int} (hc : n < 1 ∨ o < 0 ∨ 8 < o) : Calls Try.prog 20 #[.pointer (some ⟨x, 0, none⟩), .int .i64 low, .int .i64 n, .int .i64 o] w fun e w' => e = .returned (.tuple #[.int .i64 0, .int .i64 2]) ∧ w' = w := by
  by_cases c1 : n < 1
  · go_enter Try.func20, Try.ntmps20
    go_wp2_with fail
    go_ret2
    exact ⟨rfl, rfl⟩
  · by_cases c2 : o < 0
    · clear hc
      go_enter Try.func20, Try.ntmps20
      go_wp2_with fail
      go_ret2
      exact ⟨rfl, rfl⟩
    · have c3 : o > 8 := by omega
      clear hc
      go_enter Try.func20, Try.ntmps20
      go_wp2_with fail
      go_ret2
      exact ⟨rfl, rfl⟩
set_option maxHeartbeats 4000000 in
set_option maxRecDepth 100000 in
theorem rroom_yes (h : RtT B w x v L) (hl : L.length ≤ 1000) (hk : OkS L) (low : Int) {n : Int} {o : Nat} (hn : 1 ≤ n) (ho : o ≤ 8) : Calls Try.prog 20 #[.pointer (some ⟨x, 0, none⟩), .int .i64 low, .int .i64 n, .int .i64 o] w fun e w' => Below w.heap.size w w' ∧
    ((∃ q : Nat, e = .returned (.tuple #[.int .i64 q, .int .i64 0]) ∧ 1 ≤ q ∧ q < 4096 ∧ fits (tkS L) low n (2 ^ o) q ∧ ∀ j : Nat, 1 ≤ j → j < q → ¬ fits (tkS L) low n (2 ^ o) j) ∨
     (e = .returned (.tuple #[.int .i64 0, .int .i64 13]) ∧ ∀ j : Nat, 1 ≤ j → j < 4096 → ¬ fits (tkS L) low n (2 ^ o) j)) := by
  have hT := rtaken h hl hk
  obtain ⟨T, hTT⟩ : ∃ T, T = tkS L := ⟨_, rfl⟩
  rw [← hTT] at hT ⊢
  clear h hTT hk
  have o1 : ¬ (o : Int) < 0 := by omega
  have o2 : ¬ (o : Int) > 8 := by omega
  have n1 : ¬ n < 1 := by omega
  go_enter Try.func20, Try.ntmps20
  go_wp2_with fail
  refine hT.mono ?_
  rintro e w1 ⟨g, rfl, hg, hrow, hb⟩
  have HT := Lib.hid (And.intro hrow (And.intro hb hg))
  clear hT hrow hb hg
  go_wp2_with fail
  go_loopw [11, 12] (fun s i wr => ∃ k : Nat, k ≤ o ∧ i = .int .i64 k ∧ s = .int .i64 (2 ^ k : Nat) ∧ wr = w1) (fun _ i _ => o - (RowKit.intOf i).toNat)
  case atStart => exact ⟨0, by omega, rfl, rfl, rfl⟩
  case round =>
    obtain ⟨k, hk, rfl, rfl, rfl⟩ := hrel
    by_cases hlt : k < o
    · have k1 : (k : Int) < o := by omega
      have hp := Nat.pow_le_pow_right (by omega : 0 < 2) (show k ≤ 8 by omega)
      have hpe : 2 ^ (k + 1) = 2 ^ k * 2 := Nat.pow_succ 2 k
      have HJ := Lib.hid (And.intro hlt hpe)
      obtain ⟨s, hs⟩ : ∃ s, s = 2 ^ k := ⟨_, rfl⟩
      rw [← hs] at hp hpe HJ ⊢
      have hw3 : IntKind.i64.wrap ((k : Int) + 1) = (k : Int) + 1 := IntWalk.i64_in _ (by omega)
      have hw4 : IntKind.i64.wrap ((s : Int) * 2) = (s : Int) * 2 := IntWalk.i64_in _ (by omega)
      clear hp hpe hs hlt hk
      go_wp2_with fail
      go_roundw
      case rel => exact ⟨k + 1, HJ.out.1, by go_num, by rw [HJ.out.2]; go_num, trivial⟩
      case measure => simp [RowKit.intOf]; have := HJ.out; omega
    · obtain rfl : k = o := by omega
      have k1 : ¬ (k : Int) < k := by omega
      have hp := Nat.pow_le_pow_right (by omega : 0 < 2) ho
      have hp0 := Nat.two_pow_pos k
      obtain ⟨s, hs⟩ : ∃ s, s = 2 ^ k := ⟨_, rfl⟩
      rw [← hs] at hp hp0 ⊢
      obtain ⟨W1, hmk, hr, hb1⟩ := row_mi 4097 (by decide) wr
      rw [← rwI_zero, fR_new T] at hr
      rw [show ((4097 : Nat) : Int) = 4097 from rfl] at hmk
      obtain ⟨u, hu⟩ : ∃ u, u = wr.heap.size := ⟨_, rfl⟩
      rw [← hu] at hmk hr
      have hrT : Lrow W1 g 4 (rwB T) := HT.out.1.call hb1
      have HU : Hid (g < u ∧ w.heap.size ≤ wr.heap.size ∧ Below w.heap.size w W1) := ⟨by rw [hu]; exact HT.out.1.lt, HT.out.2.1.size, HT.out.2.1.trans (hb1.mono HT.out.2.1.size)⟩
      have HR := Lib.hid (And.intro hr hrT)
      have HE := Lib.hid (And.intro hs (And.intro hp0 hp))
      clear hs hr hrT hb1 hu hk hlt
      go_wp2_with fail
      clear hmk
      go_loopw [14] (fun p WX => ∃ k : Nat, k ≤ 4096 ∧ p = .int .i64 ((k : Int) - 1) ∧ Lrow WX u 3 (rwI (fR T k)) ∧ Lrow WX g 4 (rwB T) ∧ Below w.heap.size w WX) (fun p _ => ((RowKit.intOf p) + 1).toNat)
      case atStart => exact ⟨4096, Nat.le_refl _, rfl, HR.out.1, HR.out.2, HU.out.2.2⟩
      case round =>
        clear HR
        obtain ⟨q, hq, rfl, hru, hrg, hbx⟩ := hrel
        cases q with
        | zero =>
          have HN := Lib.hid (And.intro hru hbx)
          clear hru hrg hbx hq
          rw [show ((0 : Nat) : Int) - 1 = -1 from rfl]
          go_wp2_with fail
          go_loopw [15] (fun p WX => ∃ q : Nat, 1 ≤ q ∧ q ≤ 4096 ∧ p = .int .i64 q ∧ WX = wr ∧ ∀ j : Nat, 1 ≤ j → j < q → ¬ fits T low n s j) (fun p _ => 4096 - (RowKit.intOf p).toNat)
          case atStart => exact ⟨1, Nat.le_refl _, by omega, rfl, rfl, fun j h1 h2 => by omega⟩
          case round =>
            obtain ⟨q, h1, hq, rfl, rfl, hno⟩ := hrel
            by_cases hlt : q < 4096
            · have q0 : (0 : Int) ≤ q := by omega
              have q1 : (q : Int) < 4096 := by omega
              have hw5 : IntKind.i64.wrap ((q : Int) + 1) = (q : Int) + 1 := IntWalk.i64_in _ (by omega)
              have e1 : wr.cell? ⟨u, q, none⟩ = some (.int .i64 (rn T q : Nat)) := (HN.out.1.cell q).trans ((rwI_get (by omega)).trans (by unfold fR; rw [if_pos (Nat.zero_le _)]))
              have sn : ¬ (s : Int) = 0 := by have := HE.out.2.1; omega
              have hmod : (q : Int).tmod (s : Int) = ((q % s : Nat) : Int) := by rw [Int.tmod_eq_emod_of_nonneg q0]; simp
              have HQ := Lib.hid (And.intro h1 (And.intro hlt hno))
              by_cases c1 : low ≤ q
              · have d1 : (q : Int) ≥ low := c1
                by_cases c2 : q % s = 0
                · have d2 : ((q % s : Nat) : Int) = 0 := by omega
                  rw [d2] at hmod
                  by_cases c3 : n ≤ (rn T q : Nat)
                  · have d3 : ((rn T q : Nat) : Int) ≥ n := c3
                    have HF : Hid (fits T low n s q) := ⟨c1, c2, c3⟩
                    clear h1 hq hno hlt c1 c2 d2 c3
                    go_wp2_with fail
                    go_ret2
                    rw [← HE.out.1]
                    exact ⟨HN.out.2, Or.inl ⟨q, rfl, HQ.out.1, HQ.out.2.1, HF.out, HQ.out.2.2⟩⟩
                  · have d3 : ¬ ((rn T q : Nat) : Int) ≥ n := c3
                    have HF : Hid (¬ fits T low n s q) := fun f => c3 f.2.2
                    clear h1 hq hno hlt c1 c2 d2 c3
                    go_wp2_with fail
                    go_roundw
                    case rel => exact ⟨q + 1, by omega, HQ.out.2.1, by go_num, trivial, no_more HQ.out.2.2 HF.out⟩
                    case measure => simp [RowKit.intOf]; have := HQ.out; omega
                · have d2 : ¬ ((q % s : Nat) : Int) = 0 := by omega
                  have HF : Hid (¬ fits T low n s q) := fun f => c2 f.2.1
                  generalize q % s = r at hmod d2
                  clear h1 hq hno hlt c1 c2
                  go_wp2_with fail
                  go_roundw
                  case rel => exact ⟨q + 1, by omega, HQ.out.2.1, by go_num, trivial, no_more HQ.out.2.2 HF.out⟩
                  case measure => simp [RowKit.intOf]; have := HQ.out; omega
              · have d1 : ¬ (q : Int) ≥ low := c1
                have HF : Hid (¬ fits T low n s q) := fun f => c1 f.1
                clear h1 hq hno hlt c1
                go_wp2_with fail
                go_roundw
                case rel => exact ⟨q + 1, by omega, HQ.out.2.1, by go_num, trivial, no_more HQ.out.2.2 HF.out⟩
                case measure => simp [RowKit.intOf]; have := HQ.out; omega
            · obtain rfl : q = 4096 := by omega
              have HQ := Lib.hid hno
              clear h1 hq hno hlt
              go_wp2_with fail
              go_ret2
              rw [← HE.out.1]
              exact ⟨HN.out.2, Or.inr ⟨rfl, HQ.out⟩⟩
        | succ q =>
          have e0 : wr.cell? ⟨g, q, none⟩ = some (.bool (T q)) := (hrg.cell q).trans (rwB_get (by omega))
          have hq1 : ((q + 1 : Nat) : Int) - 1 = (q : Int) := by omega
          rw [hq1]
          have q0 : (0 : Int) ≤ q := by omega
          have q1 : (q : Int) < 4096 := by omega
          have hw5 : IntKind.i64.wrap ((q : Int) - 1) = (q : Int) - 1 := IntWalk.i64_in _ (by omega)
          have HQ := Lib.hid hq
          cases hc : T q
          · rw [hc] at e0
            have e1 : wr.cell? ⟨u, q + 1, none⟩ = some (.int .i64 (rn T (q + 1) : Nat)) := (hru.cell (q + 1)).trans ((rwI_get (by omega)).trans (by unfold fR; rw [if_pos (Nat.le_refl _)]))
            have e2 : wr.cell? ⟨u, q, none⟩ = some (.int .i64 (fR T (q + 1) q : Nat)) := (hru.cell q).trans (rwI_get (by omega))
            have f0 := hru.frozen q
            have hrl : rn T (q + 1) ≤ 4096 := by have := rnd_le T (4096 - (q + 1)); unfold rn; omega
            have hw6 : IntKind.i64.wrap ((q : Int) + 1) = (q : Int) + 1 := IntWalk.i64_in _ (by omega)
            have hw7 : IntKind.i64.wrap ((rn T (q + 1) : Nat) + 1 : Int) = ((rn T (q + 1) + 1 : Nat) : Int) := by rw [IntWalk.i64_in _ (by omega)]; omega
            have HN : Hid (Lrow (wr.setCell ⟨u, q, none⟩ (.int .i64 (rn T (q + 1) + 1 : Nat))) u 3 (rwI (fR T q)) ∧ Lrow (wr.setCell ⟨u, q, none⟩ (.int .i64 (rn T (q + 1) + 1 : Nat))) g 4 (rwB T) ∧ Below w.heap.size w (wr.setCell ⟨u, q, none⟩ (.int .i64 (rn T (q + 1) + 1 : Nat)))) := by
              refine ⟨?_, hrg.far (p := ⟨u, q, none⟩) (show g ≠ u by have := HU.out.1; omega) _, hbx.setCell (p := ⟨u, q, none⟩) (show w.heap.size ≤ u by have := HU.out.1; have := HT.out.2.2; omega) _⟩
              have := hru.set_ q (.int .i64 (rn T (q + 1) + 1 : Nat))
              rw [fR_no (by omega) hc] at this
              exact this
            generalize rn T (q + 1) = z at e1 hw7 HN hrl
            clear hru hrg hbx hq hc hq1
            go_wp2_with fail
            go_roundw
            case rel => exact ⟨q, by have := HQ.out; omega, rfl, HN.out.1, HN.out.2.1, HN.out.2.2⟩
            case measure => simp [RowKit.intOf] <;> omega
          · rw [hc] at e0
            rw [fR_yes (by omega) hc] at hru
            have HN := Lib.hid (And.intro hru (And.intro hrg hbx))
            clear hru hrg hbx hq hc hq1
            go_wp2_with fail
            go_roundw
            case rel => exact ⟨q, by have := HQ.out; omega, rfl, HN.out.1, HN.out.2.1, HN.out.2.2⟩
            case measure => simp [RowKit.intOf] <;> omega
theorem rroom (h : RtT B w x v L) (hl : L.length ≤ 1000) (hk : OkS L) (low n o : Int) : Calls Try.prog 20 #[.pointer (some ⟨x, 0, none⟩), .int .i64 low, .int .i64 n, .int .i64 o] w fun e w' => ∃ p er : Int, e = .returned (.tuple #[.int .i64 p, .int .i64 er]) ∧ RoomIs L low n o p er ∧ Below w.heap.size w w' := by
  by_cases hc : n < 1 ∨ o < 0 ∨ 8 < o
  · refine (rroom_no hc).mono ?_
    rintro e w' ⟨rfl, rfl⟩
    exact ⟨0, 2, rfl, Or.inl ⟨hc, rfl, rfl⟩, Below.refl _ _⟩
  · obtain ⟨k, rfl⟩ : ∃ k : Nat, o = k := ⟨o.toNat, by omega⟩
    obtain ⟨m, rfl⟩ : ∃ m : Nat, n = m := ⟨n.toNat, by omega⟩
    have h0 : tkS L 4096 = true := tkS_iff.2 (Or.inl (Or.inr (Nat.le_refl _)))
    have hf : ∀ q : Nat, q < 4096 → (fits (tkS L) low m (2 ^ k) q ↔ low ≤ q ∧ q % 2 ^ k = 0 ∧ RmS L q m) := fun q hq => by
      unfold fits RmS
      rw [← rn_iff h0 (show q ≤ 4096 by omega)]
      constructor
      · rintro ⟨a1, a2, a3⟩; exact ⟨a1, a2, by omega⟩
      · rintro ⟨a1, a2, a3⟩; exact ⟨a1, a2, by omega⟩
    have hm : ∀ j : Nat, 4096 ≤ j → ¬ RmS L j m := fun j hj hr => by
      have := hr 0 (by omega)
      rw [show j + 0 = j by omega, tkS_iff.2 (Or.inl (Or.inr hj))] at this
      cases this
    refine (rroom_yes h hl hk low (n := (m : Int)) (o := k) (by omega) (by omega)).mono ?_
    rintro e w' ⟨hb, ⟨q, rfl, h1, h2, h3, h4⟩ | ⟨rfl, h4⟩⟩
    · have g := (hf q h2).1 h3
      refine ⟨q, 0, rfl, Or.inr ⟨hc, Or.inl ⟨q, rfl, rfl, h1, g.1, g.2.1, g.2.2, fun j j1 j2 j3 j4 j5 => h4 j j1 j3 ((hf j (by omega)).2 ⟨j2, j4, j5⟩)⟩⟩, hb⟩
    · refine ⟨0, 13, rfl, Or.inr ⟨hc, Or.inr ⟨rfl, rfl, fun j j1 j2 j4 j5 => ?_⟩⟩, hb⟩
      by_cases hj : j < 4096
      · exact h4 j j1 hj ((hf j hj).2 ⟨j2, j4, j5⟩)
      · exact hm j (by omega) j5
end
end Go.Proofs.Ytekfkglielmfaaa
