/- Reservations: ResvOne, walked. -/
import Derived.Test.YtfalmjibpkkjaaaL3
import Derived.Test.YtfalmjibpkkjaaaL4
import Derived.BigQuiet
namespace Go.Proofs.Ytfalmjibpkkjaaa
open Go.RowKit
/-- What is told of two of them. -/
theorem two_apart {S : Rs} {n : Nat} (h : Bnd n S) {r j : Nat} (hr : r < S.L.length) (hj : j < S.L.length) (hrj : r < j) : S.L[j].f ≠ S.L[r].f ∧ (S.L[j].s = S.L[r].s → S.L[j].p ≠ S.L[r].p) := by
  have h1 := List.pairwise_iff_getElem.1 h.fr r j hr hj hrj
  have h2 := List.pairwise_iff_getElem.1 h.up r j hr hj hrj
  unfold upR at h2
  exact ⟨fun e => h1 e.symm, fun e => by omega⟩
/-- Of the first so many pages those that are not filled. -/
theorem opK_len_succ (nn : Nat) (f : Int) (k : Nat) : (opK nn f (k + 1)).length = if nn.testBit k = true then (opK nn f k).length else (opK nn f k).length + 1 := by
  rw [opK_succ]
  split
  · rfl
  · rw [List.length_append]; rfl
theorem bit_shr : ∀ n : Fin 256, ∀ j : Fin 8, (bits .and .u8 (((n.1 : Nat) : Int) / 2 ^ j.1) 1 == 1) = n.1.testBit j.1 := by decide +kernel
set_option maxHeartbeats 4000000 in
set_option maxRecDepth 100000 in
theorem one_walk (A : Option Addr) (n c : Nat) (w : World) (hA : Acs w w.heap.size A n) :
    Calls Try.prog 3 #[.slice A n c] w fun e w' => e = .returned (.bool true) ∧ Below w.heap.size w w' := by
  obtain ⟨M, hM, hls⟩ := hA.list
  have hm := made_any A n c w.heap.size M w hM hls (Nat.le_refl _)
  have hbd := mdE_bnd M (lsa_ok hls)
  generalize mdE M = S at hm hbd
  have HBD := Lib.hid hbd
  clear hA hM hls hbd
  go_enter Try.func3, Try.ntmps3
  go_wp2_with fail
  refine hm.mono ?_
  rintro e w1 ⟨s, x, rfl, hst, hb1⟩
  have HS1 := Lib.hid hst
  have HB1 := Lib.hid hb1
  have hak := awake_any w1
  clear hm hst hb1
  go_wp2_with fail
  refine hak.mono ?_
  rintro e w2 ⟨rfl, hb2⟩
  have HS2 := Lib.hid (HS1.out.call hb2)
  have HB2 := Lib.hid (HB1.out.trans (hb2.mono HB1.out.size))
  clear hak hb2 HS1 HB1
  obtain ⟨T, v, Kx, t0, h1, h2, h3⟩ := HS2.out
  have hal := all_r h1 HBD.out (by decide)
  obtain ⟨m, hm⟩ : ∃ m, m = S.L.length := ⟨_, rfl⟩
  unfold ToldR at hal
  rw [← hm, t0] at hal
  have m60 : (m : Int) ≤ 60 := by have := HBD.out.ln; omega
  have H1 := Lib.hid (And.intro h1 t0)
  have HM := Lib.hid hm
  clear h1 h2 h3 t0 hm
  go_wp2_with fail
  refine hal.mono ?_
  rintro e w3 ⟨A1, c1, rfl, ho, hb3⟩
  have HO := Lib.hid ho
  have HB3 := Lib.hid (HB2.out.trans (hb3.mono HB2.out.size))
  have H3 : Hid (ObAt w.heap.size w3 T S ∧ T.s = s) := ⟨H1.out.1.call hb3, H1.out.2⟩
  clear hal ho hb3 H1
  go_wp2_with fail
  go_loopw [7, 8] (fun nv i wr => ∃ j q : Nat, j ≤ m ∧ i = .int .i64 j ∧ nv = .int .i64 (hdV (S.L.take j)) ∧ wr = w3.drewN q) (fun _ i _ => m - (RowKit.intOf i).toNat)
  case atStart => exact ⟨0, 0, Nat.zero_le _, rfl, rfl, rfl⟩
  case round =>
    obtain ⟨j, q, hj, rfl, rfl, hwr⟩ := hrel
    by_cases hlt : j < m
    · have hjl : j < S.L.length := by rw [← HM.out]; exact hlt
      have HW := Lib.hid hwr
      obtain ⟨g, e, -, -, -, hat0⟩ := HO.out.some_ (by omega)
      subst e
      have hat : ∀ k, ∀ i (hi : i < S.L.length), ER.At (w3.drewN k) g (i * 4) S.L[i] := fun k i hi => hat0 i hi
      have HAT := Lib.hid hat
      have ok := HBD.out.ok _ (List.getElem_mem hjl)
      have HT := Lib.hid (hd_take hjl)
      have hle := hd_le (S.L.take j)
      have htl : (S.L.take j).length ≤ j := by rw [List.length_take]; omega
      obtain ⟨z, hz⟩ : ∃ z, z = hdV (S.L.take j) := ⟨_, rfl⟩
      rw [← hz] at HT hle ⊢
      have z0 : 0 ≤ z := hle.1
      have z1 : z ≤ 480 := by omega
      have HAP : Hid (∀ r (hr : r < S.L.length), r < j → S.L[j].f ≠ S.L[r].f ∧ (S.L[j].s = S.L[r].s → S.L[j].p ≠ S.L[r].p)) := fun r hr h => two_apart HBD.out hr hjl h
      have hcell := fun k => HAT.out k j hjl
      obtain ⟨y, hy⟩ : ∃ y, y = S.L[j] := ⟨_, rfl⟩
      rw [← hy] at HT HAP ok
      simp only [← hy] at hcell
      obtain ⟨xs, xp, xf, xn, xt⟩ := y
      have hb4 := Lib.hid ok
      obtain ⟨pp, hpp⟩ : ∃ k : Nat, xp = k := ⟨xp.toNat, by have := ok.p0; dsimp only at this; omega⟩
      obtain ⟨ff, hff⟩ : ∃ k : Nat, xf = k := ⟨xf.toNat, by have := ok.f0; dsimp only at this; omega⟩
      subst hpp hff
      have d0 : ∀ k, (w3.drewN k).cell? ⟨g, j * 4, none⟩ = some (.int .i64 xs) := fun k => hcell k 0 (by decide)
      have d1 : ∀ k, (w3.drewN k).cell? ⟨g, j * 4 + 1, none⟩ = some (.int .i64 pp) := fun k => hcell k 1 (by decide)
      have d2 : ∀ k, (w3.drewN k).cell? ⟨g, j * 4 + 2, none⟩ = some (.int .i64 ff) := fun k => hcell k 2 (by decide)
      have d3 : ∀ k, (w3.drewN k).cell? ⟨g, j * 4 + 3, none⟩ = some (.int .u8 (xn : Nat)) := fun k => hcell k 3 (by decide)
      have HD := Lib.hid (And.intro d0 (And.intro d1 (And.intro d2 d3)))
      have j1 : (j : Int) < m := by omega
      have j0 : (0 : Int) ≤ j := by omega
      have j0n : ¬ (j : Int) < 0 := by omega
      have p8 : (pp : Int) % 8 = 0 := ok.p8
      have f8 : (ff : Int) % 8 = 0 := ok.f8
      clear hwr hat0 hat hz hle htl hy ok hcell d0 d1 d2 d3 hjl
      go_wp2_with fail
      go_loopw [9] (fun i wv => ∃ r p : Nat, r ≤ j ∧ i = .int .i64 r ∧ wv = w3.drewN p) (fun i _ => j - (RowKit.intOf i).toNat)
      case atStart => exact ⟨0, q, Nat.zero_le _, rfl, HW.out⟩
      case round =>
        obtain ⟨r, p, hr, rfl, hwv⟩ := hrel
        have HV := Lib.hid hwv
        by_cases hrl : r < j
        · have hrs : r < S.L.length := by have := HM.out; omega
          have hcr := HAT.out p r hrs
          obtain ⟨a1, a2⟩ := HAP.out r hrs hrl
          obtain ⟨y, hy⟩ : ∃ y, y = S.L[r] := ⟨_, rfl⟩
          rw [← hy] at hcr a1 a2
          obtain ⟨ys, yp, yf, yn, yt⟩ := y
          dsimp only at a1 a2
          have q0 : (w3.drewN p).cell? ⟨g, r * 4, none⟩ = some (.int .i64 ys) := hcr 0 (by decide)
          have q1 : (w3.drewN p).cell? ⟨g, r * 4 + 1, none⟩ = some (.int .i64 yp) := hcr 1 (by decide)
          have q2 : (w3.drewN p).cell? ⟨g, r * 4 + 2, none⟩ = some (.int .i64 yf) := hcr 2 (by decide)
          have d0 := HD.out.1 p
          have d1 := HD.out.2.1 p
          have d2 := HD.out.2.2.1 p
          rw [← hwv] at q0 q1 q2 d0 d1 d2
          have r1 : (r : Int) < j := by omega
          have r1m : (r : Int) < m := by omega
          have r0 : (0 : Int) ≤ r := by omega
          have r0n : ¬ (r : Int) < 0 := by omega
          have b1 : (((ff : Int)) == yf) = false := by simpa using a1
          have b1' : (decide ((ff : Int) = yf)) = false := decide_eq_false a1
          by_cases hs : xs = ys
          · have b2 : ((xs : Int) == ys) = true := by simpa using hs
            have a3 := a2 hs
            have b3 : (((pp : Int)) == yp) = false := by simpa using a3
            clear hwv hcr hy a2 p8 f8 hrs
            subst hs
            go_wp2_with fail
            go_quiet (fail)
            go_wp2_with fail
            go_roundw
            case rel => exact ⟨r + 1, _, by omega, by go_num, by rw [HV.out]; exact World.drewN_drewN _ _ _⟩
            case measure => simp [RowKit.intOf]; omega
          · have b2 : ((xs : Int) == ys) = false := by simpa using hs
            clear hwv hcr hy a2 p8 f8 hrs
            go_wp2_with fail
            go_quiet (fail)
            go_wp2_with fail
            go_roundw
            case rel => exact ⟨r + 1, _, by omega, by go_num, by rw [HV.out]; exact World.drewN_drewN _ _ _⟩
            case measure => simp [RowKit.intOf]; omega
        · have hd1 : ¬ (r : Int) < j := by omega
          have d1 := HD.out.2.1 p
          have d2 := HD.out.2.2.1 p
          rw [← hwv] at d1 d2
          have e1 : (((pp : Int) % 8) == 0) = true := by simpa using p8
          have e2 : (((ff : Int) % 8) == 0) = true := by simpa using f8
          have hz8 : IntKind.i64.wrap (z + 8) = z + 8 := IntWalk.i64_in _ (by omega)
          clear hwv HAP HAT
          go_wp2_with fail
          go_loopw [7, 10] (fun nv i wv => ∃ r : Nat, r ≤ 8 ∧ i = .int .i64 r ∧ nv = .int .i64 (z + 8 - r + (opK xn ff r).length) ∧ wv = w3.drewN p) (fun _ i _ => 8 - (RowKit.intOf i).toNat)
          case atStart => exact ⟨0, Nat.zero_le _, rfl, by show Value.int .i64 (z + 8) = Value.int .i64 (z + 8 - 0 + 0); congr 1; omega, HV.out⟩
          case round =>
            obtain ⟨r, hr, rfl, rfl, hwu⟩ := hrel
            have HU := Lib.hid hwu
            by_cases hrl : r < 8
            · have d3 := HD.out.2.2.2 p
              rw [← hwu] at d3
              have hbit := bit_shr ⟨xn, hb4.out.nl⟩ ⟨r, hrl⟩
              dsimp only at hbit
              have HS := Lib.hid (opK_len_succ xn ff r)
              have hln := opK_len xn ff r
              obtain ⟨ln, hl⟩ : ∃ ln, ln = (opK xn ff r).length := ⟨_, rfl⟩
              rw [← hl] at HS hln ⊢
              have r1 : (r : Int) < 8 := by omega
              have r0 : (0 : Int) ≤ r := by omega
              have r0n : ¬ (r : Int) < 0 := by omega
              have hw1 : IntKind.i64.wrap (z + 8 - (r : Int) + (ln : Int) - 1) = z + 8 - (r : Int) + (ln : Int) - 1 := IntWalk.i64_in _ (by omega)
              clear hwu hl
              by_cases cb : xn.testBit r = true
              · rw [cb] at hbit
                have HE : Hid ((opK xn ff (r + 1)).length = ln) := by show _ = _; rw [HS.out, if_pos cb]
                clear cb
                go_wp2_with fail
                go_roundw
                case rel => exact ⟨r + 1, by omega, by go_num, by rw [HE.out]; exact congrArg (Value.int .i64) (by omega), HU.out⟩
                case measure => simp [RowKit.intOf]; omega
              · have cb' : xn.testBit r = false := by simpa using cb
                rw [cb'] at hbit
                have HE : Hid ((opK xn ff (r + 1)).length = ln + 1) := by show _ = _; rw [HS.out, if_neg cb]
                clear cb cb'
                go_wp2_with fail
                go_roundw
                case rel => exact ⟨r + 1, by omega, by go_num, by rw [HE.out]; exact congrArg (Value.int .i64) (by omega), HU.out⟩
                case measure => simp [RowKit.intOf]; omega
            · obtain rfl : r = 8 := by omega
              have HE : Hid (z + 8 - ((8 : Nat) : Int) + ((opK xn ff 8).length : Int) = hdV (S.L.take (j + 1))) := by
                show _ = _
                rw [HT.out]
                show z + 8 - 8 + _ = z + ((opN xn ff).length : Int)
                rw [← opK_all]
                omega
              obtain ⟨nn, hnn⟩ : ∃ nn, nn = z + 8 - ((8 : Nat) : Int) + ((opK xn ff 8).length : Int) := ⟨_, rfl⟩
              rw [← hnn] at HE ⊢
              clear hwu hnn
              go_wp2_with fail
              go_roundw
              case rel => exact ⟨j + 1, p, by omega, by go_num, by rw [HE.out], HU.out⟩
              case measure => simp [RowKit.intOf]; omega
    · obtain rfl : j = m := by omega
      have HE : Hid (S.L.take j = S.L) := List.take_of_length_le (by rw [← HM.out]; exact Nat.le_refl _)
      have hhe := held_all (H3.out.1.drewN q) HBD.out (by decide)
      rw [H3.out.2, ← hwr] at hhe
      have HB4 : Hid (Below w.heap.size w wr) := by rw [hwr]; exact below_dN HB3.out q
      rw [HE.out]
      generalize hdV S.L = hd at hhe ⊢
      clear hwr
      go_wp2_with fail
      refine hhe.mono ?_
      rintro e w5 ⟨rfl, hb5⟩
      have HB5 := Lib.hid (HB4.out.trans (hb5.mono HB4.out.size))
      clear hhe hb5
      go_wp2_with fail
      go_ret
      exact ⟨ret_bool (by simp), HB5.out⟩
end Go.Proofs.Ytfalmjibpkkjaaa
