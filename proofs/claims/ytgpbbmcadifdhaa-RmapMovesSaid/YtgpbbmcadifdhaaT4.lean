/- Both behind some calls; the reference alone. -/
import Derived.Test.YtgpbbmcadifdhaaT3
namespace Go.Proofs.Ytgpbbmcadifdhaa
open Go.RowKit
/-- Both sides as the laws see them. -/
def Going (B s xa : Nat) (L : List On) (w0 w : World) : Prop := ∃ T xv, T.s = s ∧ St B w T xa xv L ∧ Below B w0 w
/-- What the laws' calls make. -/
def mdE (M : List Ac) : List On := mdL (M.take 80)
theorem mdL_next (M : List Ac) {j : Nat} (h : j < M.length) : mdL (M.take (j + 1)) = doL (mdL (M.take j)) M[j] := by
  rw [List.take_succ_eq_append_getElem h, mdL_snoc]
theorem Rx.new (w : World) {B : Nat} (hB : B ≤ w.heap.size) : Rx B (w.alloc (.cells #[.slice none 0 0] 65)) w.heap.size (.slice none 0 0) [] :=
  ⟨Lrow.new w _ _, Enc.Own.nil _ _, hB, by simp; omega⟩
theorem Rx.downX {B xa : Nat} {w w' : World} {v : Value} {L : List On} (h : Rx B w xa v L) (hf : Foot (fun k => k = xa) w w') : Below B w w' := hf.below h.lw (fun b hb => by rw [hb]; exact h.lo)
theorem lsa_ok {w : World} {b : Nat} {A : Option Addr} {M : List Ac} (h : Lsa w b A M) : ∀ l ∈ M, IsAc l := fun l hl => by
  obtain ⟨i, hi, rfl⟩ := List.getElem_of_mem hl
  obtain ⟨a, _, hc⟩ := h (by omega)
  exact (hc i hi).1
theorem mdt_good {M : List Ac} (h : ∀ l ∈ M, IsAc l) (j : Nat) : Good (mdL (M.take j)) ∧ (mdL (M.take j)).length ≤ j := by
  have := mdL_good (M := M.take j) fun l hl => h l (List.mem_of_mem_take hl)
  refine ⟨this.1, Nat.le_trans this.2 ?_⟩
  rw [List.length_take]; omega
set_option maxHeartbeats 4000000 in
set_option maxRecDepth 100000 in
theorem made_any (A : Option Addr) (n c b : Nat) (M : List Ac) (w : World) (hM : M.length = n) (hA : Lsa w b A M) (hb : b ≤ w.heap.size) :
    Calls Try.prog 15 #[.slice A n c] w fun e w' => ∃ s xa, e = .returned (.tuple #[.pointer (some ⟨s, 0, none⟩), .pointer (some ⟨xa, 0, none⟩), .bool true]) ∧ Going w.heap.size s xa (mdE M) w w' := by
  have hnew := new_any w
  have HA := Lib.hid hA
  have HB := Lib.hid hb
  have HM := Lib.hid hM
  have HOK := Lib.hid (lsa_ok hA)
  clear hA hb hM
  go_enter Try.func15, Try.ntmps15
  go_wp2_with fail
  refine hnew.mono ?_
  rintro e w1 ⟨T1, rfl, hT, hb1⟩
  obtain ⟨s, hs⟩ : ∃ s, s = T1.s := ⟨_, rfl⟩
  rw [← hs]
  obtain ⟨xa, hxa⟩ : ∃ xa, xa = w1.heap.size := ⟨_, rfl⟩
  obtain ⟨W2, hW2⟩ : ∃ W2, W2 = w1.alloc (.cells #[.slice none 0 0] 65) := ⟨_, rfl⟩
  have HG : Hid (Going w.heap.size s xa (mdL (M.take 0)) w W2) := ⟨T1, .slice none 0 0, hs.symm, ⟨by rw [hW2]; exact hT.call (below_new w1 _), by rw [hW2, hxa]; exact Rx.new w1 hb1.size⟩, by rw [hW2]; exact hb1.alloc hb1.size _⟩
  have HW := Lib.hid (And.intro hW2 hxa)
  clear hnew hT hb1 hW2 hxa hs
  go_upto_region 2 with (fail)
  rw [← HW.out.1, ← HW.out.2]
  go_wp2_with fail
  go_loopw [7] (fun i wr => ∃ j : Nat, j ≤ n ∧ j ≤ 80 ∧ i = .int .i64 j ∧ Going w.heap.size s xa (mdL (M.take j)) w wr) (fun i _ => n - (RowKit.intOf i).toNat)
  case atStart => exact ⟨0, by omega, by omega, rfl, HG.out⟩
  case round =>
    obtain ⟨j, hj, hj80, rfl, T, xv, hs, hst, hb⟩ := hrel
    have HST := Lib.hid hst
    have HBL := Lib.hid hb
    have HS := Lib.hid hs
    clear HG hst hs
    by_cases hboth : j < n ∧ j < 80
    · obtain ⟨hlt, hlim⟩ := hboth
      have hjM : j < M.length := by have := HM.out; omega
      obtain ⟨ad, rfl, hc⟩ := (HA.out.below (Below.mono hb HB.out)) (by omega)
      obtain ⟨ok, hab, hat⟩ := hc j hjM
      have hdo := do_any HST.out (by have := (mdt_good HOK.out j).2; omega) ok
      have HNX := Lib.hid (mdL_next M hjM)
      rw [HS.out] at hdo
      obtain ⟨l, hl⟩ : ∃ l, l = M[j] := ⟨_, rfl⟩
      rw [← hl] at hat hdo
      have HLL := Lib.hid hl
      have c0 := hat.c0
      have c1 := hat.c1
      have c2 := hat.c2
      have c3 := hat.c3
      have c4 := hat.c4
      have hjl : (j : Int) < n := by omega
      have hjm : (j : Int) < 80 := by omega
      have hj0 : (0 : Int) ≤ j := by omega
      clear hat hb hab ok hc hl
      obtain ⟨K, F, To, S, P⟩ := l
      dsimp only at c0 c1 c2 c3 c4 hdo
      go_wp2_with fail
      refine hdo.mono ?_
      rintro e w3 ⟨rfl, T3, xv3, hs3, hst3, hb3⟩
      have HZ : Hid (Going w.heap.size s xa (mdL (M.take (j + 1))) w w3) := ⟨T3, xv3, hs3, by rw [HNX.out, ← HLL.out]; exact hst3, HBL.out.trans hb3⟩
      clear hdo hst3 hb3 hs3
      go_wp2_with fail
      go_roundw
      case rel => exact ⟨j + 1, by omega, by omega, by go_num, HZ.out⟩
      case measure => simp [RowKit.intOf]; omega
    · have HE : Hid (mdL (M.take j) = mdE M) := by
        show _ = _
        unfold mdE
        rcases (show j = 80 ∨ (j = n ∧ n ≤ 80) by omega) with rfl | ⟨rfl, h⟩
        · rfl
        · rw [List.take_of_length_le (by have := HM.out; omega), List.take_of_length_le (by have := HM.out; omega)]
      by_cases hlt : j < n
      case' pos => have hlim : ¬ (j : Int) < 80 := by omega
      all_goals
        clear hboth hb
        go_wp2_with fail
        go_ret3
        exact ⟨s, xa, rfl, T, xv, HS.out, by rw [← HE.out]; exact HST.out, HBL.out⟩
def MadeX (M : List Ac) (w : World) (e : Ending) (w' : World) : Prop := ∃ xa xv, e = .returned (.pointer (some ⟨xa, 0, none⟩)) ∧ Rx w.heap.size w' xa xv (mdE M) ∧ Below w.heap.size w w'
set_option maxHeartbeats 8000000 in
set_option maxRecDepth 100000 in
theorem made2_any (A : Option Addr) (n c b : Nat) (M : List Ac) (w : World) (hM : M.length = n) (hA : Lsa w b A M) (hb : b ≤ w.heap.size) :
    Calls Try.prog 21 #[.slice A n c] w (MadeX M w) := by
  obtain ⟨xa, hxa⟩ : ∃ xa, xa = w.heap.size := ⟨_, rfl⟩
  obtain ⟨W2, hW2⟩ : ∃ W2, W2 = w.alloc (.cells #[.slice none 0 0] 65) := ⟨_, rfl⟩
  have HG : Hid (∃ xv, Rx w.heap.size W2 xa xv (mdL (M.take 0)) ∧ Below w.heap.size w W2) := ⟨.slice none 0 0, by rw [hW2, hxa]; exact Rx.new w (Nat.le_refl _), by rw [hW2]; exact below_new _ _⟩
  have HW := Lib.hid (And.intro hW2 hxa)
  have HA := Lib.hid hA
  have HB := Lib.hid hb
  have HM := Lib.hid hM
  have HOK := Lib.hid (lsa_ok hA)
  clear hA hb hM hW2 hxa
  go_enter Try.func21, Try.ntmps21
  go_upto_region 2 with (fail)
  rw [← HW.out.1, ← HW.out.2]
  go_wp2_with fail
  go_loopw [4] (fun i wr => ∃ j : Nat, j ≤ n ∧ j ≤ 80 ∧ i = .int .i64 j ∧ ∃ xv, Rx w.heap.size wr xa xv (mdL (M.take j)) ∧ Below w.heap.size w wr) (fun i _ => n - (RowKit.intOf i).toNat)
  case atStart => exact ⟨0, by omega, by omega, rfl, HG.out⟩
  case round =>
    obtain ⟨j, hj, hj80, rfl, xv, hr, hb⟩ := hrel
    have HR := Lib.hid (hr.drewN 1)
    have HR0 := Lib.hid hr
    have HBR := Lib.hid hb
    clear HG hr
    by_cases hboth : j < n ∧ j < 80
    · obtain ⟨hlt, hlim⟩ := hboth
      have hjM : j < M.length := by have := HM.out; omega
      obtain ⟨ad, rfl, hc⟩ := HA.out (by omega)
      obtain ⟨ok, hab, hat⟩ := hc j hjM
      have HNX := Lib.hid (mdL_next M hjM)
      have hgl := mdt_good HOK.out j
      have hLl : (mdL (M.take j)).length ≤ 200 := by have := hgl.2; omega
      obtain ⟨l, hl⟩ : ∃ l, l = M[j] := ⟨_, rfl⟩
      rw [← hl] at hat HNX
      have HAT : Hid (∀ w', Below w.heap.size w w' → AcAt w' (ad.add (j * 5)) l) := fun w' hb' => hat.below (hb'.mono HB.out) hab
      have HGL := Lib.hid hgl.1
      have c0 := (HAT.out wr hb).c0
      have hjl : (j : Int) < n := by omega
      have hjm : (j : Int) < 80 := by omega
      have hj0 : (0 : Int) ≤ j := by omega
      have HA2 := Lib.hid (@do_add (mdL (M.take j)) l)
      have HD2 := Lib.hid (@do_del (mdL (M.take j)) l)
      have HM2 := Lib.hid (@do_mov (mdL (M.take j)) l)
      clear hat hb hab ok hc hl hgl
      obtain ⟨K, F, To, S, P⟩ := l
      dsimp only at c0 HA2 HD2 HM2
      by_cases h3 : K = 0 ∨ K = 1 ∨ K = 2
      · have HL := Lib.hid (HA2.out h3)
        clear HA2 HD2 HM2
        rcases h3 with rfl | rfl | rfl
        all_goals
          go_wp2_with fail
          have hs : wr.drew.cell? ⟨(ad.add (j * 5)).block, (ad.add (j * 5)).off + 1, none⟩ = some (.int .i64 F) ∧ wr.drew.cell? ⟨(ad.add (j * 5)).block, (ad.add (j * 5)).off + 3, none⟩ = some (.int .i64 S) ∧ wr.drew.cell? ⟨(ad.add (j * 5)).block, (ad.add (j * 5)).off + 4, none⟩ = some (.int .i64 P) := ⟨(HAT.out wr.drew (below_dN HBR.out 1)).c1, (HAT.out wr.drew (below_dN HBR.out 1)).c3, (HAT.out wr.drew (below_dN HBR.out 1)).c4⟩
          go_region_held3 (fun v => v.cell? ⟨(ad.add (j * 5)).block, (ad.add (j * 5)).off + 1, none⟩ = some (.int .i64 F) ∧ v.cell? ⟨(ad.add (j * 5)).block, (ad.add (j * 5)).off + 3, none⟩ = some (.int .i64 S) ∧ v.cell? ⟨(ad.add (j * 5)).block, (ad.add (j * 5)).off + 4, none⟩ = some (.int .i64 P))
            (first | exact hs | exact hs2)
            (first | (go_at_call 30; refine (xadd_any HR.out HGL.out.up hLl _ _ _).mono ?_; rintro e w2 ⟨rfl, xv2, hr2, hf2, -⟩; have hb2 := HR.out.downX hf2; have hs2 : w2.cell? ⟨(ad.add (j * 5)).block, (ad.add (j * 5)).off + 1, none⟩ = some (.int .i64 F) ∧ w2.cell? ⟨(ad.add (j * 5)).block, (ad.add (j * 5)).off + 3, none⟩ = some (.int .i64 S) ∧ w2.cell? ⟨(ad.add (j * 5)).block, (ad.add (j * 5)).off + 4, none⟩ = some (.int .i64 P) := ⟨(HAT.out w2 (Below.trans (below_dN HBR.out 1) hb2)).c1, (HAT.out w2 (Below.trans (below_dN HBR.out 1) hb2)).c3, (HAT.out w2 (Below.trans (below_dN HBR.out 1) hb2)).c4⟩))
          all_goals
            have HE : Hid (∃ xv', Rx w.heap.size w2 xa xv' (mdL (M.take (j + 1))) ∧ Below w.heap.size w w2) := ⟨xv2, by rw [HNX.out, HL.out]; exact hr2, Below.trans (below_dN HBR.out 1) hb2⟩
            clear hr2 hf2 hb2
            go_wp2_with fail
            go_roundw
            case rel => exact ⟨j + 1, by omega, by omega, by go_num, HE.out⟩
            case measure => simp [RowKit.intOf]; omega
      · have k0 : (K == 0) = false := by simpa using (by omega : ¬ K = 0)
        have k1 : (K == 1) = false := by simpa using (by omega : ¬ K = 1)
        have k2 : (K == 2) = false := by simpa using (by omega : ¬ K = 2)
        by_cases h4 : K = 3
        · have HL := Lib.hid (HD2.out h4)
          clear k0 k1 k2 h3 HA2 HD2 HM2
          subst h4
          go_wp2_with fail
          have hs : wr.drew.cell? ⟨(ad.add (j * 5)).block, (ad.add (j * 5)).off + 1, none⟩ = some (.int .i64 F) ∧ wr.drew.cell? ⟨(ad.add (j * 5)).block, (ad.add (j * 5)).off + 3, none⟩ = some (.int .i64 S) ∧ wr.drew.cell? ⟨(ad.add (j * 5)).block, (ad.add (j * 5)).off + 4, none⟩ = some (.int .i64 P) := ⟨(HAT.out wr.drew (below_dN HBR.out 1)).c1, (HAT.out wr.drew (below_dN HBR.out 1)).c3, (HAT.out wr.drew (below_dN HBR.out 1)).c4⟩
          go_region_held3 (fun v => v.cell? ⟨(ad.add (j * 5)).block, (ad.add (j * 5)).off + 1, none⟩ = some (.int .i64 F) ∧ v.cell? ⟨(ad.add (j * 5)).block, (ad.add (j * 5)).off + 3, none⟩ = some (.int .i64 S) ∧ v.cell? ⟨(ad.add (j * 5)).block, (ad.add (j * 5)).off + 4, none⟩ = some (.int .i64 P))
            (first | exact hs | exact hs2)
            (first | (go_at_call 31; refine (xdel_any HR.out HGL.out.up hLl _ _ _).mono ?_; rintro e w2 ⟨rfl, xv2, hr2, hf2, -⟩; have hb2 := HR.out.downX hf2; have hs2 : w2.cell? ⟨(ad.add (j * 5)).block, (ad.add (j * 5)).off + 1, none⟩ = some (.int .i64 F) ∧ w2.cell? ⟨(ad.add (j * 5)).block, (ad.add (j * 5)).off + 3, none⟩ = some (.int .i64 S) ∧ w2.cell? ⟨(ad.add (j * 5)).block, (ad.add (j * 5)).off + 4, none⟩ = some (.int .i64 P) := ⟨(HAT.out w2 (Below.trans (below_dN HBR.out 1) hb2)).c1, (HAT.out w2 (Below.trans (below_dN HBR.out 1) hb2)).c3, (HAT.out w2 (Below.trans (below_dN HBR.out 1) hb2)).c4⟩))
          all_goals
            have HE : Hid (∃ xv', Rx w.heap.size w2 xa xv' (mdL (M.take (j + 1))) ∧ Below w.heap.size w w2) := ⟨xv2, by rw [HNX.out, HL.out]; exact hr2, Below.trans (below_dN HBR.out 1) hb2⟩
            clear hr2 hf2 hb2
            go_wp2_with fail
            go_roundw
            case rel => exact ⟨j + 1, by omega, by omega, by go_num, HE.out⟩
            case measure => simp [RowKit.intOf]; omega
        · have k3 : (K == 3) = false := by simpa using h4
          have HL := Lib.hid (HM2.out h3 h4)
          clear h3 h4 HA2 HD2 HM2
          go_wp2_with fail
          have hs : wr.drew.cell? ⟨(ad.add (j * 5)).block, (ad.add (j * 5)).off + 1, none⟩ = some (.int .i64 F) ∧ wr.drew.cell? ⟨(ad.add (j * 5)).block, (ad.add (j * 5)).off + 2, none⟩ = some (.int .i64 To) := ⟨(HAT.out wr.drew (below_dN HBR.out 1)).c1, (HAT.out wr.drew (below_dN HBR.out 1)).c2⟩
          go_region_held3 (fun v => v.cell? ⟨(ad.add (j * 5)).block, (ad.add (j * 5)).off + 1, none⟩ = some (.int .i64 F) ∧ v.cell? ⟨(ad.add (j * 5)).block, (ad.add (j * 5)).off + 2, none⟩ = some (.int .i64 To))
            (first | exact hs | exact hs2)
            (first | (go_at_call 32; refine (xmove_any HR.out HGL.out hLl _ _).mono ?_; rintro e w2 ⟨rfl, xv2, hr2, hf2, -⟩; have hb2 := HR.out.downX hf2; have hs2 : w2.cell? ⟨(ad.add (j * 5)).block, (ad.add (j * 5)).off + 1, none⟩ = some (.int .i64 F) ∧ w2.cell? ⟨(ad.add (j * 5)).block, (ad.add (j * 5)).off + 2, none⟩ = some (.int .i64 To) := ⟨(HAT.out w2 (Below.trans (below_dN HBR.out 1) hb2)).c1, (HAT.out w2 (Below.trans (below_dN HBR.out 1) hb2)).c2⟩))
          all_goals
            have HE : Hid (∃ xv', Rx w.heap.size w2 xa xv' (mdL (M.take (j + 1))) ∧ Below w.heap.size w w2) := ⟨xv2, by rw [HNX.out, HL.out]; exact hr2, Below.trans (below_dN HBR.out 1) hb2⟩
            clear hr2 hf2 hb2
            go_wp2_with fail
            go_roundw
            case rel => exact ⟨j + 1, by omega, by omega, by go_num, HE.out⟩
            case measure => simp [RowKit.intOf]; omega
    · have HE : Hid (mdL (M.take j) = mdE M) := by
        show _ = _
        unfold mdE
        rcases (show j = 80 ∨ (j = n ∧ n ≤ 80) by omega) with rfl | ⟨rfl, h⟩
        · rfl
        · rw [List.take_of_length_le (by have := HM.out; omega), List.take_of_length_le (by have := HM.out; omega)]
      by_cases hlt : j < n
      case' pos => have hlim : ¬ (j : Int) < 80 := by omega
      all_goals
        clear hboth hb
        go_wp2_with fail
        go_ret
        exact ⟨xa, xv, rfl, by rw [← HE.out]; exact HR0.out, HBR.out⟩
end Go.Proofs.Ytgpbbmcadifdhaa
