/- The program's reservations: Held. -/
import Derived.Test.YtfalmjibpkkjaaaC2
namespace Go.Proofs.Ytfalmjibpkkjaaa
open Go.RowKit
section
variable {w w' : World} {B : Nat} {T : ObT} {S S' : Rs} {n : Nat} {s p f : Int}
theorem hd_take {L : List Rv} {j : Nat} (hj : j < L.length) : hdV (L.take (j + 1)) = hdV (L.take j) + ((opn L[j]).length : Int) := by
  unfold hdV
  rw [List.take_succ_eq_append_getElem hj, List.map_append, List.sum_append]
  simp
theorem hd_le (L : List Rv) : 0 ≤ hdV L ∧ hdV L ≤ 8 * L.length := by
  unfold hdV
  induction L with
  | nil => exact ⟨Int.le_refl _, Int.le_refl _⟩
  | cons x r ih =>
    rw [List.map_cons, List.sum_cons, List.length_cons]
    have := opN_len x.n x.f
    have : (opn x).length ≤ 8 := this
    omega
theorem pop_op : ∀ n, n < 256 → (((List.range 8).filter fun i => !n.testBit i).length : Int) = (8 : Int) - (Lib.onesCount n : Int) := by decide +kernel
theorem pop_le : ∀ n, n < 256 → Lib.onesCount n ≤ 8 := by decide +kernel
theorem opN_pop {nn : Nat} (h : nn < 256) (f : Int) : ((opN nn f).length : Int) = 8 - (Lib.onesCount nn : Int) := by
  unfold opN
  rw [List.length_map]
  exact pop_op nn h
theorem opn_pop {x : Rv} (h : x.n < 256) : ((opn x).length : Int) = 8 - (Lib.onesCount x.n : Int) := by
  unfold opn
  exact opN_pop h x.f
theorem pop_r {nn : Nat} (h : nn < 256) (w : World) : Calls Try.prog 27 #[.int .u8 (nn : Int)] w fun e w' => e = .returned (.int .i64 ((Lib.onesCount nn : Nat) : Int)) ∧ w' = w := by
  have h1 := Try.bits_OnesCount8 (nn : Int) w (Int.natCast_nonneg _) (by omega)
  have e : ((nn : Int)).toNat = nn := Int.toNat_natCast nn
  generalize (nn : Int).toNat = k at h1 e
  subst e
  with_reducible exact h1
theorem pop_all {x : Rv} (h : x.n < 256) : ∃ pc : Nat, pc ≤ 8 ∧ ((opn x).length : Int) = 8 - (pc : Int) ∧ ∀ w, Calls Try.prog 27 #[.int .u8 (x.n : Nat)] w fun e w' => e = .returned (.int .i64 (pc : Int)) ∧ w' = w :=
  ⟨Lib.onesCount x.n, pop_le _ h, opn_pop h, fun w => pop_r h w⟩
set_option maxRecDepth 100000 in
set_option maxHeartbeats 4000000 in
theorem held_all (h : ObAt B w T S) (hb : Bnd n S) (hn : n ≤ 900) : Calls Try.prog 11 #[.pointer (some ⟨T.s, 0, none⟩)] w fun e w' => e = .returned (.int .i64 (hdV S.L)) ∧ Below w.heap.size w w' := by
  have hk := all_r h hb hn
  obtain ⟨m, hm⟩ : ∃ m, m = S.L.length := ⟨_, rfl⟩
  have m9 : (m : Int) ≤ 900 := by have := hb.ln; omega
  unfold ToldR at hk
  rw [← hm] at hk
  have HH := Lib.hid (And.intro hb hm)
  clear h hb hn hm
  go_enter Try.func11, Try.ntmps11
  go_wp2_with (go_at_call 10; (with_reducible refine hk.mono ?_); rintro e w1 ⟨A1, c1, rfl, ho1, hb1⟩)
  have HK := Lib.hid (And.intro ho1 hb1)
  clear ho1 hb1 hk
  go_wp2_with fail
  go_loopw [3, 9] (fun l i wr => ∃ j : Nat, j ≤ m ∧ i = .int .i64 j ∧ l = .int .i64 (hdV (S.L.take j)) ∧ Below w1.heap.size w1 wr) (fun _ i _ => m - (RowKit.intOf i).toNat)
  case atStart => exact ⟨0, Nat.zero_le _, rfl, rfl, Below.refl _ _⟩
  case round =>
    obtain ⟨j, hj, rfl, rfl, hb⟩ := hrel
    have HB := Lib.hid hb
    by_cases hlt : j < m
    · have hjl : j < S.L.length := by rw [← HH.out.2]; exact hlt
      obtain ⟨gk, e, -, -, -, hat⟩ := (HK.out.1.call hb).some_ (by omega)
      subst e
      have hat := hat j hjl
      have d0 : wr.cell? ⟨gk, j * 4, none⟩ = some (.int .i64 S.L[j].s) := hat 0 (by decide)
      have d1 : wr.cell? ⟨gk, j * 4 + 1, none⟩ = some (.int .i64 S.L[j].p) := hat 1 (by decide)
      have d2 : wr.cell? ⟨gk, j * 4 + 2, none⟩ = some (.int .i64 S.L[j].f) := hat 2 (by decide)
      have d3 : wr.cell? ⟨gk, j * 4 + 3, none⟩ = some (.int .u8 (S.L[j].n : Nat)) := hat 3 (by decide)
      have HT := Lib.hid (hd_take hjl)
      have ok := HH.out.1.ok _ (List.getElem_mem hjl)
      obtain ⟨pc, hp8, hlen, hpc⟩ := pop_all ok.nl
      rw [hlen] at HT
      have hle := hd_le (S.L.take j)
      have htl : (S.L.take j).length ≤ j := by rw [List.length_take]; omega
      obtain ⟨z, hz⟩ : ∃ z, z = hdV (S.L.take j) := ⟨_, rfl⟩
      rw [← hz] at HT hle ⊢
      have e1 : IntKind.i64.wrap (8 - (pc : Int)) = 8 - (pc : Int) := IntWalk.i64_in _ (by omega)
      have e2 : IntKind.i64.wrap (z + (8 - (pc : Int))) = z + (8 - (pc : Int)) := IntWalk.i64_in _ (by omega)
      have j1 : (j : Int) < m := by omega
      have j0 : (0 : Int) ≤ j := by omega
      generalize S.L[j].s = ys at *
      generalize S.L[j].p = yp at *
      generalize S.L[j].f = yf at *
      generalize (S.L[j].n : Int) = yn at *
      have HBA : Hid (∀ o, Below w1.heap.size w1 (wr.alloc o)) := fun o => hb.trans ((below_new wr o).mono hb.size)
      clear hat hp8 hz hlen hb hjl ok hle htl
      go_wp2_with (go_at_call 27; (with_reducible refine (hpc _).mono ?_); rintro e w2 ⟨rfl, rfl⟩)
      go_roundw
      case rel => exact ⟨j + 1, by omega, by go_num, by rw [HT.out], HBA.out _⟩
      case measure => simp [RowKit.intOf]; omega
    · obtain rfl : j = m := by omega
      have HE : Hid (S.L.take j = S.L) := List.take_of_length_le (by rw [← HH.out.2]; exact Nat.le_refl _)
      clear hb
      go_wp2_with fail
      go_ret
      exact ⟨ret_int (by rw [HE.out]), HK.out.2.trans (HB.out.mono HK.out.2.size)⟩
end
end Go.Proofs.Ytfalmjibpkkjaaa
