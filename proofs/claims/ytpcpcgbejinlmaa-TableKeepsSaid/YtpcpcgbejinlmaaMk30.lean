/- The reference of package table: the tables below a root, and how many there are. -/
import Derived.Test.YtpcpcgbejinlmaaMk29
import Derived.Deep.RegionHeld3
import Derived.Deep.CutBlock
namespace Go.Proofs.Ytpcpcgbejinlmaa
open Go.RowKit
def kcells : List (Int × Int) → List Value
  | [] => []
  | x :: r => .int .i64 x.1 :: .int .i64 x.2 :: kcells r
theorem kcells_append (L M : List (Int × Int)) : kcells (L ++ M) = kcells L ++ kcells M := by
  induction L with
  | nil => rfl
  | cons m r ih => simp only [kcells, List.cons_append, ih]
theorem kcells_at : ∀ (L : List (Int × Int)) (j : Nat) (hj : j < L.length), (kcells L)[j * 2]? = some (.int .i64 L[j].1) ∧ (kcells L)[j * 2 + 1]? = some (.int .i64 L[j].2)
  | [], _, hj => absurd hj (Nat.not_lt_zero _)
  | m :: r, 0, _ => ⟨rfl, rfl⟩
  | m :: r, j + 1, hj => by
    have := kcells_at r j (by simpa using hj)
    simpa [kcells, Nat.add_mul] using this
def Bs (w : World) (C : Nat) (v : Value) (K : List (Int × Int)) : Prop := w.ownsRow C 149 2 v K.length (kcells K)
theorem info_block : (Try.prog.info? 149).map (fun i => (i.zero, i.size, i.bytes)) = some (some (.agg #[.int .i64 0, .int .i64 0]), 2, 16) := by kernel_rfl
section
variable {w w' : World} {C : Nat} {v : Value} {K : List (Int × Int)}
theorem Bs.form (h : Bs w C v K) : ∃ A c, v = .slice A K.length c := own_form h
theorem Bs.call (h : Bs w C v K) (hb : Below w.heap.size w w') : Bs w' C v K := own_call h hb
theorem Bs.at_ {A : Option Addr} {c : Nat} (h : Bs w C (.slice A K.length c) K) (j : Nat) (hj : j < K.length) : ∃ a, A = some a ∧ w.cell? (a.add (j * 2)) = some (.int .i64 K[j].1) ∧ w.cell? ⟨(a.add (j * 2)).block, (a.add (j * 2)).off + 1, none⟩ = some (.int .i64 K[j].2) := by
  obtain ⟨g, rfl⟩ : ∃ g, A = some ⟨g, 0, none⟩ := by
    rcases h.2 with ⟨_, h2⟩ | ⟨g, cap, cur, h1, _⟩
    · omega
    · injection h1 with h1; exact ⟨g, h1⟩
  have k0 : w.cell? ⟨g, j * 2, none⟩ = _ := (h.cellAt (j * 2) (by omega)).trans (kcells_at K j hj).1
  have k1 : w.cell? ⟨g, j * 2 + 1, none⟩ = _ := (h.cellAt (j * 2 + 1) (by omega)).trans (kcells_at K j hj).2
  refine ⟨_, rfl, ?_⟩
  rw [add_zero_off]
  exact ⟨k0, k1⟩
theorem Bs.app2 (h : Bs w C v K) (hC : C ≤ w.heap.size) (hL : K.length ≤ 100000) (x y : Int) : ∃ A c w3,
    (Builtin.append_ #[146, 146] 146 #[v, .slice (some ⟨w.heap.size, 0, none⟩) 1 1]).run Try.prog (w.alloc (.cells #[.int .i64 x, .int .i64 y] 149)) = .ok (.slice A (K.length + 1) c) w3 ∧
    Bs w3 C (.slice A (K.length + 1) c) (K ++ [(x, y)]) ∧ Below C w w3 := by
  obtain ⟨i0, hi0, hz0, hz1, hz2⟩ := info_parts info_block
  have ho : (w.alloc (.cells #[.int .i64 x, .int .i64 y] 149)).ownsRow C _ 2 v K.length (kcells K) := World.ownsRow.alloc h (.cells #[.int .i64 x, .int .i64 y] 149)
  have hnew : ∀ (i : Nat) (u : Value), [Value.int .i64 x, Value.int .i64 y][i]? = some u → (w.alloc (.cells #[.int .i64 x, .int .i64 y] 149)).cell? ((⟨w.heap.size, 0, none⟩ : Addr).add i) = some u := fun i u hu => by
    rw [add_zero_off, (Row.new w _ [Value.int .i64 x, Value.int .i64 y]).cell]; exact hu
  have hone : ∀ u ∈ [Value.int .i64 x, Value.int .i64 y], u.oneCell' = true := by
    intro u hu; simp at hu; rcases hu with rfl | rfl <;> rfl
  obtain ⟨v1, W1, r1, o1, g1, -, t1⟩ := run_append_own_at (P := Try.prog) (w := w.alloc (.cells #[.int .i64 x, .int .i64 y] 149)) C 146 146 149 i0 _ 2 16 Try.underlying146 hi0 hz0 hz1 hz2 rfl (by decide) v K.length _ ho ⟨w.heap.size, 0, none⟩ 1 1 [.int .i64 x, .int .i64 y] rfl hnew hone (by unfold maxLen; omega) (by omega) (by simp; omega)
  obtain ⟨A, c, hv⟩ := own_form o1
  subst hv
  refine ⟨A, c, W1, r1, ?_, ?_⟩
  · unfold Bs
    rw [List.length_append, kcells_append]
    exact o1
  · have : w.grownBy (w.alloc (.cells #[.int .i64 x, .int .i64 y] 149)) v.ownBlock := ⟨rfl, rfl, rfl, by simp, fun i hi _ => Below.heap_alloc w _ i hi⟩
    exact (Below.refl C w).grown (this.trans g1) hC fun k e => (World.ownsRow.lt h k e).1
end
theorem sizeL_at (l : Nat) (hl : l ≤ 3) (z : Int) (hz : z = l) (w : World) : Calls Try.prog 95 #[.int .i64 z] w fun e w' => e = .returned (.int .i64 (szL l)) ∧ w = w' := by
  subst hz
  exact sizeL_any l hl w
section
variable {w : World} {C : Nat} {A : Option Addr} {c : Nat} {L : List Mp}
set_option maxRecDepth 100000 in
set_option maxHeartbeats 4000000 in
theorem prefixes_any (h : Ms w C (.slice A L.length c) L) (hok : ∀ m ∈ L, MK m) (hL : L.length ≤ 5001) : Calls Try.prog 90 #[.slice A L.length c] w fun e w' => ∃ A' n' c', e = .returned (.slice A' n' c') ∧ n' ≤ 3 * L.length ∧ Below w.heap.size w w' := by
  obtain ⟨N, hN⟩ : ∃ N, N = L.length := ⟨_, rfl⟩
  have HN := Lib.hid hN
  have HM := Lib.hid h
  have HO := Lib.hid hok
  rw [← hN] at hL ⊢
  clear h hok hN
  go_enter Try.func90, Try.ntmps90
  go_wp2
  go_loopw [3, 4] (fun out i wr => ∃ (j : Nat) (K : List (Int × Int)), j ≤ N ∧ i = .int .i64 j ∧ Bs wr w.heap.size out K ∧ K.length ≤ 3 * j ∧ Below w.heap.size w wr) (fun _ i _ => N - (intOf i).toNat)
  case atStart => exact ⟨0, [], Nat.zero_le _, rfl, World.ownsRow_nil _ _ _ _, Nat.le_refl _, Below.refl _ _⟩
  case round =>
    obtain ⟨j, K0, hj, rfl, hk0, hkl0, hb0⟩ := hrel
    by_cases hlt : j < N
    · have hjL : j < L.length := by rw [← HN.out]; exact hlt
      obtain ⟨a, ea, al, -, at'⟩ := HM.out.at_ j hjL
      subst ea
      have HAB := Lib.hid (show (a.add (j * 9)).block < w.heap.size by rw [add_block]; exact al)
      obtain ⟨m, em⟩ : ∃ m, m = L[j] := ⟨_, rfl⟩
      have hmo := HO.out m (by rw [em]; exact List.getElem_mem _)
      rw [← em] at at'
      have AT := Lib.hid at'
      obtain ⟨pg, hpg⟩ : ∃ pg : Nat, m.g = pg := ⟨m.g.toNat, by have := hmo.g0; omega⟩
      have hpg1 : pg ≤ 4095 := by have := hmo.g1; omega
      have HPG := Lib.hid hpg
      clear at' em hmo al hpg
      go_wp2_with fail
      go_loopw [3, 5] (fun out t wi => ∃ (r : Nat) (K : List (Int × Int)), r ≤ 3 ∧ t = .int .i64 ((r : Int) - 1) ∧ Bs wi w.heap.size out K ∧ K.length + r ≤ 3 * j + 3 ∧ Below w.heap.size w wi) (fun _ t _ => (intOf t + 1).toNat)
      case atStart => exact ⟨3, K0, Nat.le_refl _, rfl, hk0, by omega, hb0⟩
      case round =>
        obtain ⟨r, K, hr3, rfl, hk, hkl, hb⟩ := hrel
        clear hk0 hkl0 hb0
        cases r with
        | zero =>
          have HK := Lib.hid hk
          have HB := Lib.hid hb
          clear hk hb
          go_wp2_with fail
          go_roundw
          case rel => exact ⟨j + 1, K, by omega, by go_num, HK.out, by omega, HB.out⟩
          case measure => simp [intOf]; omega
        | succ lv =>
          have e1 : (((lv + 1 : Nat) : Int) - 1) = (lv : Int) := by omega
          rw [e1]
          have hlv : lv ≤ 2 := by omega
          have m0 := (hb.cell HAB.out).trans AT.out.c0
          have m1 := (hb.cell (p := ⟨_, _, none⟩) HAB.out).trans AT.out.c1
          rw [HPG.out] at m0
          obtain ⟨Ak, ck, rfl⟩ := hk.form
          obtain ⟨n, hn⟩ : ∃ n, n = K.length := ⟨_, rfl⟩
          have HNK := Lib.hid hn
          rw [← hn] at hkl ⊢
          have hn5 : n ≤ 20000 := by omega
          have HK := Lib.hid hk
          have HB := Lib.hid hb
          clear hk hb e1 hn
          cases hd : decide (szO m.o < szL (lv + 1))
          · go_wp2_with (first | (go_at_call 79; refine (size8_any _ _).mono ?_; rintro e w' ⟨rfl, rfl⟩) | (go_at_call 95; refine (sizeL_at (lv + 1) (by omega) _ (by omega) _).mono ?_; rintro e w' ⟨rfl, rfl⟩))
            go_roundw
            case rel => exact ⟨j + 1, K, by omega, by go_num, by rw [HNK.out]; exact HK.out, by have := HNK.out; omega, HB.out⟩
            case measure => simp [intOf]; omega
          · go_wp2_with (first | (go_at_call 79; refine (size8_any _ _).mono ?_; rintro e w' ⟨rfl, rfl⟩) | (go_at_call 95; refine (sizeL_at (lv + 1) (by omega) _ (by omega) _).mono ?_; rintro e w' ⟨rfl, rfl⟩))
            go_cut [6] from 31 to 48 (fun s6 wx => s6 = .pointer (some ⟨wr.heap.size, 0, none⟩) ∧ ∃ bp : Int, wx = (wr.alloc (.cells #[.int .i64 bp, .int .i64 lv] 149)).drew)
            case first =>
              obtain ⟨sz, hsz⟩ : ∃ sz, sz = szL (lv + 1) := ⟨_, rfl⟩
              obtain ⟨sz0, sz1⟩ : 1 ≤ sz ∧ sz ≤ 512 := by rw [hsz]; exact szL_pos _
              have HSZ := Lib.hid hsz
              have hs : wr.drew.cell? (a.add (j * 9)) = some (.int .i64 pg) := m0
              have hs2 : ∀ x : Value, ∀ y : Value, (wr.alloc (.cells #[x, y] 149)).drew.cell? (a.add (j * 9)) = some (.int .i64 pg) := fun x y =>
                (((Below.refl wr.heap.size wr).alloc (Nat.le_refl _) (.cells #[x, y] 149)).drew.cell (Nat.lt_of_lt_of_le HAB.out HB.out.size)).trans hs
              have HB2 : Hid (0 ≤ (pg : Int) - (pg : Int) % sz ∧ (pg : Int) - (pg : Int) % sz ≤ 4095) := by
                have := Int.emod_nonneg (pg : Int) (show sz ≠ 0 by omega)
                have h1 := Int.mul_ediv_add_emod (pg : Int) sz
                have h2 : 0 ≤ sz * ((pg : Int) / sz) := Int.mul_nonneg (by omega) (Int.ediv_nonneg (by omega) (by omega))
                constructor <;> omega
              have hw1 : IntKind.i64.wrap ((lv : Int) + 1) = (lv : Int) + 1 := IntWalk.i64_in _ (by omega)
              have hmod : (pg : Int).tmod sz = (pg : Int) % sz := Int.tmod_eq_emod_of_nonneg (by omega)
              have hsub : IntKind.i64.wrap ((pg : Int) - (pg : Int) % sz) = (pg : Int) - (pg : Int) % sz := IntWalk.i64_in _ (by have := HB2.out; omega)
              have hne : ¬ sz = 0 := by omega
              have hq : ∀ W : World, Calls Try.prog 95 #[.int .i64 ((lv : Int) + 1)] W fun e w' => e = .returned (.int .i64 sz) ∧ W = w' := fun W => by rw [hsz]; exact sizeL_at (lv + 1) (by omega) _ (by omega) W
              clear hsz m0 m1
              go_region_held3 (fun v => v.cell? (a.add (j * 9)) = some (.int .i64 pg)) (first | exact hs | exact hs2 _ _) ((go_at_call 95; refine (hq _).mono ?_; rintro e w2 ⟨rfl, rfl⟩))
              all_goals
                go_wp2_with fail
                go_meet
                exact ⟨rfl, _, rfl⟩
            case rest =>
              obtain ⟨rfl, bp, rfl⟩ := hcut
              obtain ⟨q, hq3⟩ : ∃ q, q = wr.heap.size := ⟨_, rfl⟩
              obtain ⟨w3, hw3⟩ : ∃ w3, w3 = (wr.alloc (.cells #[.int .i64 bp, .int .i64 lv] 149)).drew := ⟨_, rfl⟩
              rw [← hw3, ← hq3]
              have r3 : Row w3 q 149 [.int .i64 bp, .int .i64 lv] := by rw [hw3, hq3]; exact Row.new wr _ [.int .i64 bp, .int .i64 lv]
              have k3 : Below wr.heap.size wr w3 := by rw [hw3]; exact ((Below.refl _ _).alloc (Nat.le_refl _) _).drew
              have HR3 := Lib.hid r3
              have HK3 := Lib.hid (HK.out.call k3)
              have HB3 := Lib.hid (HB.out.trans (k3.mono HB.out.size))
              clear hq3 hw3 r3 k3 m0 m1 HK HB hd
              go_wp2_with fail
              go_loopw [7, 8] (fun mt t wx => ∃ (i : Nat) (b : Bool) (nd : Nat), i ≤ n ∧ t = .int .i64 i ∧ mt = .bool b ∧ wx = w3.drewN nd) (fun _ t _ => n - (intOf t).toNat)
              case atStart => exact ⟨0, false, 0, Nat.zero_le _, rfl, rfl, rfl⟩
              case round =>
                obtain ⟨i, b, nd, hi, rfl, rfl, rfl⟩ := hrel
                have c0 : (w3.drewN nd).cell? ⟨q, 0, none⟩ = some (.int .i64 bp) := HR3.out.cell 0
                have c1 : (w3.drewN nd).cell? ⟨q, 1, none⟩ = some (.int .i64 lv) := HR3.out.cell 1
                obtain ⟨w4, hw4⟩ : ∃ w4, w4 = w3.drewN nd := ⟨_, rfl⟩
                by_cases hin : i < n
                · have HK4 : Bs (w3.drewN nd) w.heap.size (.slice Ak n ck) K := by rw [HNK.out]; exact HK3.out
                  obtain ⟨ka, rfl, k0, k1⟩ := (HNK.out ▸ HK4 : Bs (w3.drewN nd) w.heap.size (.slice Ak K.length ck) K).at_ i (by rw [← HNK.out]; exact hin)
                  obtain ⟨z0, ez0⟩ : ∃ z, z = (K[i]'(by rw [← HNK.out]; exact hin)).1 := ⟨_, rfl⟩
                  obtain ⟨z1, ez1⟩ : ∃ z, z = (K[i]'(by rw [← HNK.out]; exact hin)).2 := ⟨_, rfl⟩
                  rw [← ez0] at k0
                  rw [← ez1] at k1
                  rw [← hw4] at c0 c1 k0 k1 ⊢
                  have HW4 := Lib.hid hw4
                  clear hw4 HK4 ez0 ez1
                  cases b
                  · by_cases e0 : z0 = bp
                    · by_cases e1 : z1 = lv
                      · subst e0 e1
                        go_wp2_with fail
                        go_quiet (fail)
                        go_wp2_with fail
                        go_roundw
                        case rel => exact ⟨i + 1, true, nd + nq, by omega, by go_num, rfl, by rw [HW4.out, drewN_add]⟩
                        case measure => simp [intOf]; omega
                      · go_wp2_with fail
                        go_quiet (fail)
                        go_wp2_with fail
                        go_roundw
                        case rel => exact ⟨i + 1, false, nd + nq, by omega, by go_num, rfl, by rw [HW4.out, drewN_add]⟩
                        case measure => simp [intOf]; omega
                    · go_wp2_with fail
                      go_quiet (fail)
                      go_wp2_with fail
                      go_roundw
                      case rel => exact ⟨i + 1, false, nd + nq, by omega, by go_num, rfl, by rw [HW4.out, drewN_add]⟩
                      case measure => simp [intOf]; omega
                  · go_wp2_with fail
                    go_quiet (fail)
                    go_wp2_with fail
                    go_roundw
                    case rel => exact ⟨i + 1, true, nd + nq, by omega, by go_num, rfl, by rw [HW4.out, drewN_add]⟩
                    case measure => simp [intOf]; omega
                · have HB4 : Below w.heap.size w w4 := hw4 ▸ drewN_b HB3.out nd
                  have HK4 : Bs w4 w.heap.size (.slice Ak n ck) K := by rw [hw4, HNK.out]; exact HK3.out
                  rw [← hw4] at c0 c1 ⊢
                  clear hw4
                  cases b
                  · obtain ⟨A5, c5, W5, r5, o5, b5⟩ := (HNK.out ▸ HK4 : Bs w4 w.heap.size (.slice Ak K.length ck) K).app2 HB4.size (by rw [← HNK.out]; omega) bp lv
                    rw [← HNK.out] at r5 o5
                    have O5 := Lib.hid o5
                    have B5 := Lib.hid (HB4.trans b5)
                    clear o5 b5 HK4 HB4
                    go_wp2_with (at_builtin; refine wpList_append_run rfl _ _ 146 rfl (.slice Ak n ck) (.slice (some ⟨w4.heap.size, 0, none⟩) 1 1) rfl rfl r5 ?_)
                    go_roundw
                    case rel => exact ⟨lv, K ++ [(bp, (lv : Int))], by omega, rfl, O5.out, by have := HNK.out; simp; omega, B5.out⟩
                    case measure => simp [intOf]
                  · have HK5 := Lib.hid HK4
                    have HB5 := Lib.hid HB4
                    clear HK4 HB4
                    go_wp2_with fail
                    go_roundw
                    case rel => exact ⟨lv, K, by omega, rfl, HK5.out, by have := HNK.out; omega, HB5.out⟩
                    case measure => simp [intOf]
    · obtain rfl : j = N := by omega
      obtain ⟨Ak, ck, rfl⟩ := hk0.form
      have HB := Lib.hid hb0
      have HKL := Lib.hid hkl0
      clear hk0 hb0 hkl0
      go_wp2_with fail
      go_ret
      exact ⟨_, _, _, rfl, HKL.out, HB.out⟩
end
end Go.Proofs.Ytpcpcgbejinlmaa
