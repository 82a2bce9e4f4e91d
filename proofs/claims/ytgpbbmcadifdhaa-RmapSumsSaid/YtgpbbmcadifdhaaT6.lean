/- RmapSums, walked. -/
import Derived.Test.YtgpbbmcadifdhaaT7
namespace Go.Proofs.Ytgpbbmcadifdhaa
open Go.RowKit
def nthO : List Oper → Nat → Option Oper
  | [], _ => none
  | o :: _, 0 => some o
  | _ :: r, i + 1 => nthO r i
theorem nthO_eq : ∀ (l : List Oper) (i : Nat), nthO l i = l[i]?
  | [], _ => rfl
  | _ :: _, 0 => rfl
  | _ :: r, i + 1 => (nthO_eq r i).trans (by rw [List.getElem?_cons_succ])
theorem at_lit {l : List Oper} {i : Nat} {o : Oper} (h : nthO l i = some o) : l.toArray[i]? = some o := by
  rw [List.getElem?_toArray, ← nthO_eq]
  exact h
theorem RmIs.low {B : Nat} {w : World} {T : Rm} {L : List On} (h : RmIs B w T L) : B ≤ w.heap.size := Nat.le_of_lt (Nat.lt_of_le_of_lt h.los (h.lt _ (Or.inl rfl)))
theorem add_len0 {L : List On} {f : Int} {s : It} (h : adE L f s = 0) : (adL L f s).length = L.length + 1 := by
  have hn : (f, s) ∉ L := fun k => by
    unfold adE at h
    rw [if_pos k] at h
    split at h <;> cases h
  unfold adL; rw [if_pos h, ins_len hn]
theorem add_len1 {L : List On} {f : Int} {s : It} (h : ¬ adE L f s = 0) : (adL L f s).length = L.length := by unfold adL; rw [if_neg h]
theorem del_len0 {L : List On} (hu : Srt L) {f : Int} {s : It} (h : deE L f s = 0) : (deL L f s).length = L.length - 1 ∧ 0 < L.length := by
  have hm : (f, s) ∈ L := Classical.byContradiction fun k => by unfold deE at h; rw [if_neg k] at h; cases h
  have := del_len hu hm
  omega
theorem del_len1 {L : List On} {f : Int} {s : It} (h : ¬ deE L f s = 0) : (deL L f s).length = L.length := by
  rw [del_none]
  intro k
  exact h (if_pos k)
/-- What stands between two calls. -/
def SumAt (B s : Nat) (L : List On) (w0 w : World) : Prop := ∃ T, T.s = s ∧ RmIs B w T L ∧ Below B w0 w
theorem SumAt.count {B s : Nat} {L : List On} {w0 w : World} (h : SumAt B s L w0 w) {f : Int} (hf : Fits f) : Calls Try.prog 13 #[.pointer (some ⟨s, 0, none⟩), .int .i64 f] w fun e w' => e = .returned (.int .i64 (sps L f).length) ∧ w = w' := by
  obtain ⟨T, hs, h1, _⟩ := h
  rw [← hs]; exact count_any h1 hf
theorem SumAt.spots {B s : Nat} {L : List On} {w0 w : World} (h : SumAt B s L w0 w) (hL : L.length ≤ 200) {f : Int} (hf : Fits f) : Calls Try.prog 14 #[.pointer (some ⟨s, 0, none⟩), .int .i64 f] w fun e w' => ∃ A c, e = .returned (.slice A (sps L f).length c) ∧ Below w.heap.size w w' := by
  obtain ⟨T, hs, h1, _⟩ := h
  rw [← hs]
  refine (spots_any h1 hL hf).mono ?_
  rintro e w' ⟨A, c, rfl, _, h2⟩
  exact ⟨A, c, rfl, h2⟩
theorem SumAt.frames {B s : Nat} {L : List On} {w0 w : World} (h : SumAt B s L w0 w) (hL : L.length ≤ 200) : Calls Try.prog 12 #[.pointer (some ⟨s, 0, none⟩)] w fun e w' => ∃ A c, e = .returned (.slice A (frs L).length c) ∧ EI.Ls w' A (frs L) ∧ Below w.heap.size w w' := by
  obtain ⟨T, hs, h1, _⟩ := h
  rw [← hs]
  refine (frames_any h1 hL).mono ?_
  rintro e w' ⟨A, c, rfl, h2, h3⟩
  exact ⟨A, c, rfl, h2.ls, h3⟩
theorem SumAt.call {B s : Nat} {L : List On} {w0 w w' : World} (h : SumAt B s L w0 w) (hb : Below w.heap.size w w') : SumAt B s L w0 w' := by
  obtain ⟨T, hs, h1, h2⟩ := h
  exact ⟨T, hs, h1.call hb, h2.trans (hb.mono h1.low)⟩
theorem SumAt.low {B s : Nat} {L : List On} {w0 w : World} (h : SumAt B s L w0 w) : B ≤ w.heap.size := by obtain ⟨T, _, h1, _⟩ := h; exact h1.low
theorem SumAt.below {B s : Nat} {L : List On} {w0 w : World} (h : SumAt B s L w0 w) : Below B w0 w := by obtain ⟨T, _, _, h1⟩ := h; exact h1
/-- The sum of some frames' spots is at most all. -/
theorem sumF_take (L : List On) (F : List Int) (i : Nat) : 0 ≤ sumF L (F.take i) ∧ sumF L (F.take i) ≤ sumF L F := by
  have h0 : ∀ G, 0 ≤ sumF L G := fun G => by
    induction G with
    | nil => exact Int.le_refl _
    | cons f r ih => simp only [sumF]; omega
  have h1 : ∀ G H, sumF L (G ++ H) = sumF L G + sumF L H := fun G H => by
    induction G with
    | nil => simp [sumF]
    | cons f r ih => simp only [List.cons_append, sumF, ih]; omega
  refine ⟨h0 _, ?_⟩
  have := h1 (F.take i) (F.drop i)
  rw [List.take_append_drop] at this
  have := h0 (F.drop i)
  omega
set_option maxHeartbeats 8000000 in
set_option maxRecDepth 100000 in
theorem sums_walk (A : Option Addr) (n c : Nat) (w : World) (hA : Acs w w.heap.size A n) :
    Calls Try.prog 3 #[.slice A n c] w fun e w' => e = .returned (.bool true) ∧ Below w.heap.size w w' := by
  obtain ⟨M, hM, hls, hg, hl80⟩ := law_start hA
  have hnew := new_any w
  have HOK := Lib.hid (lsa_ok hls)
  have HLS := Lib.hid hls
  have HM := Lib.hid hM
  have HG := Lib.hid hg
  have HL80 := Lib.hid hl80
  clear hA hM hls hg hl80
  go_enter Try.func3, Try.ntmps3
  go_wp2_with fail
  refine hnew.mono ?_
  rintro e w1 ⟨T1, rfl, hT1, hb1⟩
  obtain ⟨s, hs⟩ : ∃ s, s = T1.s := ⟨_, rfl⟩
  rw [← hs]
  have HT1 : Hid (SumAt w.heap.size s [] w w1) := ⟨T1, hs.symm, hT1, hb1⟩
  clear hnew hT1 hb1 hs
  go_wp2_with fail
  refine (awake_any _).mono ?_
  rintro e w2 ⟨rfl, hb2⟩
  have HT2 : Hid (SumAt w.heap.size s (mdL (M.take 0)) w w2) := HT1.out.call hb2
  clear HT1 hb2
  go_wp2_with fail
  go_loopw [4, 5] (fun nv i wr => ∃ j : Nat, j ≤ n ∧ j ≤ 80 ∧ i = .int .i64 j ∧ nv = .int .i64 (mdL (M.take j)).length ∧ SumAt w.heap.size s (mdL (M.take j)) w wr) (fun _ i _ => n - (RowKit.intOf i).toNat)
  case atStart => exact ⟨0, by omega, by omega, rfl, rfl, HT2.out⟩
  case round =>
    obtain ⟨j, hj, hj80, rfl, rfl, T, hs, hr, hb⟩ := hrel
    have HSA : Hid (SumAt w.heap.size s (mdL (M.take j)) w wr) := ⟨T, hs, hr, hb⟩
    have HR := Lib.hid (hr.drewN 1)
    have HBR := Lib.hid hb
    have HTS := Lib.hid hs
    clear HT2 hr hs
    by_cases hboth : j < n ∧ j < 80
    · obtain ⟨hlt, hlim⟩ := hboth
      have hjM : j < M.length := by have := HM.out; omega
      obtain ⟨ad, rfl, hc⟩ := HLS.out (by omega)
      obtain ⟨ok, hab, hat⟩ := hc j hjM
      have HNX := Lib.hid (mdL_next M hjM)
      have hgl := mdt_good HOK.out j
      have hLl : (mdL (M.take j)).length ≤ 200 := by have := hgl.2; omega
      obtain ⟨l, hl⟩ : ∃ l, l = M[j] := ⟨_, rfl⟩
      rw [← hl] at hat HNX ok
      have HAT : Hid (∀ w', Below w.heap.size w w' → AcAt w' (ad.add (j * 5)) l) := fun w' hb' => hat.below hb' hab
      have HGL := Lib.hid hgl.1
      have c0 := (HAT.out wr hb).c0
      have hjl : (j : Int) < n := by omega
      have hjm : (j : Int) < 80 := by omega
      have hj0 : (0 : Int) ≤ j := by omega
      have HA2 := Lib.hid (@do_add (mdL (M.take j)) l)
      have HD2 := Lib.hid (@do_del (mdL (M.take j)) l)
      have HM2 := Lib.hid (@do_mov (mdL (M.take j)) l)
      obtain ⟨m, hm⟩ : ∃ m, m = (mdL (M.take j)).length := ⟨_, rfl⟩
      have hm80 : (m : Int) ≤ 80 := by have := hgl.2; omega
      have HMM := Lib.hid hm
      have hff := ok.f
      have hft := ok.t
      have hfs := ok.s
      rw [← hm]
      clear hat hb hab ok hc hl hgl hm
      obtain ⟨K, F, To, S, P⟩ := l
      dsimp only at c0 HA2 HD2 HM2 hff hft hfs
      by_cases h3 : K = 0 ∨ K = 1 ∨ K = 2
      · have HL := Lib.hid (HA2.out h3)
        clear HA2 HD2 HM2
        obtain ⟨er, her⟩ : ∃ er, er = adE (mdL (M.take j)) F (S, P) := ⟨_, rfl⟩
        have HER := Lib.hid her
        clear her
        by_cases he : er = 0
        · subst he
          rcases h3 with rfl | rfl | rfl
          all_goals
            have hcal := add_any (f := F) (x := S) (y := P) HR.out HR.out.low hLl hfs
            rw [HTS.out, ← HER.out] at hcal
            go_wp2_with fail
            have hs : wr.drew.cell? ⟨(ad.add (j * 5)).block, (ad.add (j * 5)).off + 1, none⟩ = some (.int .i64 F) ∧ wr.drew.cell? ⟨(ad.add (j * 5)).block, (ad.add (j * 5)).off + 3, none⟩ = some (.int .i64 S) ∧ wr.drew.cell? ⟨(ad.add (j * 5)).block, (ad.add (j * 5)).off + 4, none⟩ = some (.int .i64 P) := ⟨(HAT.out wr.drew (below_dN HBR.out 1)).c1, (HAT.out wr.drew (below_dN HBR.out 1)).c3, (HAT.out wr.drew (below_dN HBR.out 1)).c4⟩
            go_region_held3 (fun v => v.cell? ⟨(ad.add (j * 5)).block, (ad.add (j * 5)).off + 1, none⟩ = some (.int .i64 F) ∧ v.cell? ⟨(ad.add (j * 5)).block, (ad.add (j * 5)).off + 3, none⟩ = some (.int .i64 S) ∧ v.cell? ⟨(ad.add (j * 5)).block, (ad.add (j * 5)).off + 4, none⟩ = some (.int .i64 P))
              (first | exact hs | exact hs2)
              (first | (go_at_call 9; refine hcal.mono ?_; rintro e w2 ⟨rfl, T2, hc⟩; have hb2 := hc.down HR.out HR.out.low; have hs2 : w2.cell? ⟨(ad.add (j * 5)).block, (ad.add (j * 5)).off + 1, none⟩ = some (.int .i64 F) ∧ w2.cell? ⟨(ad.add (j * 5)).block, (ad.add (j * 5)).off + 3, none⟩ = some (.int .i64 S) ∧ w2.cell? ⟨(ad.add (j * 5)).block, (ad.add (j * 5)).off + 4, none⟩ = some (.int .i64 P) := ⟨(HAT.out w2 (Below.trans (below_dN HBR.out 1) hb2)).c1, (HAT.out w2 (Below.trans (below_dN HBR.out 1) hb2)).c3, (HAT.out w2 (Below.trans (below_dN HBR.out 1) hb2)).c4⟩))
            all_goals
              have HE : Hid (∃ T', T'.s = s ∧ RmIs w.heap.size w2 T' (mdL (M.take (j + 1))) ∧ Below w.heap.size w w2) := ⟨T2, hc.s.trans HTS.out, by rw [HNX.out, HL.out]; exact hc.is, Below.trans (below_dN HBR.out 1) hb2⟩
              have HNV : Hid ((mdL (M.take (j + 1))).length = m + 1) := by
                show _ = _
                rw [HNX.out, HL.out]
                exact (add_len0 HER.out.symm).trans (by rw [HMM.out])
              clear hc hb2 hcal
              go_wp2_with fail
              go_roundw
              case rel => exact ⟨j + 1, by omega, by omega, by go_num, by rw [HNV.out]; go_num, HE.out⟩
              case measure => simp [RowKit.intOf]; omega
        · have he1 : (er == 0) = false := by simpa using he
          have HEE := Lib.hid he
          clear he
          rcases h3 with rfl | rfl | rfl
          all_goals
            have hcal := add_any (f := F) (x := S) (y := P) HR.out HR.out.low hLl hfs
            rw [HTS.out, ← HER.out] at hcal
            go_wp2_with fail
            have hs : wr.drew.cell? ⟨(ad.add (j * 5)).block, (ad.add (j * 5)).off + 1, none⟩ = some (.int .i64 F) ∧ wr.drew.cell? ⟨(ad.add (j * 5)).block, (ad.add (j * 5)).off + 3, none⟩ = some (.int .i64 S) ∧ wr.drew.cell? ⟨(ad.add (j * 5)).block, (ad.add (j * 5)).off + 4, none⟩ = some (.int .i64 P) := ⟨(HAT.out wr.drew (below_dN HBR.out 1)).c1, (HAT.out wr.drew (below_dN HBR.out 1)).c3, (HAT.out wr.drew (below_dN HBR.out 1)).c4⟩
            go_region_held3 (fun v => v.cell? ⟨(ad.add (j * 5)).block, (ad.add (j * 5)).off + 1, none⟩ = some (.int .i64 F) ∧ v.cell? ⟨(ad.add (j * 5)).block, (ad.add (j * 5)).off + 3, none⟩ = some (.int .i64 S) ∧ v.cell? ⟨(ad.add (j * 5)).block, (ad.add (j * 5)).off + 4, none⟩ = some (.int .i64 P))
              (first | exact hs | exact hs2)
              (first | (go_at_call 9; refine hcal.mono ?_; rintro e w2 ⟨rfl, T2, hc⟩; have hb2 := hc.down HR.out HR.out.low; have hs2 : w2.cell? ⟨(ad.add (j * 5)).block, (ad.add (j * 5)).off + 1, none⟩ = some (.int .i64 F) ∧ w2.cell? ⟨(ad.add (j * 5)).block, (ad.add (j * 5)).off + 3, none⟩ = some (.int .i64 S) ∧ w2.cell? ⟨(ad.add (j * 5)).block, (ad.add (j * 5)).off + 4, none⟩ = some (.int .i64 P) := ⟨(HAT.out w2 (Below.trans (below_dN HBR.out 1) hb2)).c1, (HAT.out w2 (Below.trans (below_dN HBR.out 1) hb2)).c3, (HAT.out w2 (Below.trans (below_dN HBR.out 1) hb2)).c4⟩))
            all_goals
              have HE : Hid (∃ T', T'.s = s ∧ RmIs w.heap.size w2 T' (mdL (M.take (j + 1))) ∧ Below w.heap.size w w2) := ⟨T2, hc.s.trans HTS.out, by rw [HNX.out, HL.out]; exact hc.is, Below.trans (below_dN HBR.out 1) hb2⟩
              have HNV : Hid ((mdL (M.take (j + 1))).length = m) := by
                show _ = _
                rw [HNX.out, HL.out]
                exact (add_len1 (by rw [← HER.out]; exact HEE.out)).trans HMM.out.symm
              clear hc hb2 hcal
              go_wp2_with fail
              go_roundw
              case rel => exact ⟨j + 1, by omega, by omega, by go_num, by rw [HNV.out], HE.out⟩
              case measure => simp [RowKit.intOf]; omega
      · have k0 : (K == 0) = false := by simpa using (by omega : ¬ K = 0)
        have k1 : (K == 1) = false := by simpa using (by omega : ¬ K = 1)
        have k2 : (K == 2) = false := by simpa using (by omega : ¬ K = 2)
        by_cases h4 : K = 3
        · have HL := Lib.hid (HD2.out h4)
          clear k0 k1 k2 h3 HA2 HD2 HM2
          subst h4
          obtain ⟨er, her⟩ : ∃ er, er = deE (mdL (M.take j)) F (S, P) := ⟨_, rfl⟩
          have HER := Lib.hid her
          clear her
          by_cases he : er = 0
          · subst he
            have hm1 : (1 : Int) ≤ m := by have := (del_len0 HGL.out.up HER.out.symm).2; have := HMM.out; omega
            obtain ⟨m1, hm1'⟩ : ∃ m1, m1 = m - 1 := ⟨_, rfl⟩
            have HM1 : Hid ((m : Int) - 1 = (m1 : Int)) := by show _ = _; omega
            have HM1' := Lib.hid hm1'
            clear hm1'
            have hcal := del_any (x := S) (y := P) HR.out hLl hff
            rw [HTS.out, ← HER.out] at hcal
            go_wp2_with fail
            have hs : wr.drew.cell? ⟨(ad.add (j * 5)).block, (ad.add (j * 5)).off + 1, none⟩ = some (.int .i64 F) ∧ wr.drew.cell? ⟨(ad.add (j * 5)).block, (ad.add (j * 5)).off + 3, none⟩ = some (.int .i64 S) ∧ wr.drew.cell? ⟨(ad.add (j * 5)).block, (ad.add (j * 5)).off + 4, none⟩ = some (.int .i64 P) := ⟨(HAT.out wr.drew (below_dN HBR.out 1)).c1, (HAT.out wr.drew (below_dN HBR.out 1)).c3, (HAT.out wr.drew (below_dN HBR.out 1)).c4⟩
            go_region_held3 (fun v => v.cell? ⟨(ad.add (j * 5)).block, (ad.add (j * 5)).off + 1, none⟩ = some (.int .i64 F) ∧ v.cell? ⟨(ad.add (j * 5)).block, (ad.add (j * 5)).off + 3, none⟩ = some (.int .i64 S) ∧ v.cell? ⟨(ad.add (j * 5)).block, (ad.add (j * 5)).off + 4, none⟩ = some (.int .i64 P))
              (first | exact hs | exact hs2)
              (first | (go_at_call 10; refine hcal.mono ?_; rintro e w2 ⟨rfl, T2, hc⟩; have hb2 := hc.down HR.out HR.out.low; have hs2 : w2.cell? ⟨(ad.add (j * 5)).block, (ad.add (j * 5)).off + 1, none⟩ = some (.int .i64 F) ∧ w2.cell? ⟨(ad.add (j * 5)).block, (ad.add (j * 5)).off + 3, none⟩ = some (.int .i64 S) ∧ w2.cell? ⟨(ad.add (j * 5)).block, (ad.add (j * 5)).off + 4, none⟩ = some (.int .i64 P) := ⟨(HAT.out w2 (Below.trans (below_dN HBR.out 1) hb2)).c1, (HAT.out w2 (Below.trans (below_dN HBR.out 1) hb2)).c3, (HAT.out w2 (Below.trans (below_dN HBR.out 1) hb2)).c4⟩))
            all_goals
              have HE : Hid (∃ T', T'.s = s ∧ RmIs w.heap.size w2 T' (mdL (M.take (j + 1))) ∧ Below w.heap.size w w2) := ⟨T2, hc.s.trans HTS.out, by rw [HNX.out, HL.out]; exact hc.is, Below.trans (below_dN HBR.out 1) hb2⟩
              have HNV : Hid ((mdL (M.take (j + 1))).length = m1) := by
                show _ = _
                rw [HNX.out, HL.out]
                exact (del_len0 HGL.out.up HER.out.symm).1.trans (by rw [HM1'.out, HMM.out])
              clear hc hb2 hcal
              go_wp2_with fail
              go_roundw
              case rel => exact ⟨j + 1, by omega, by omega, by go_num, by rw [HNV.out]; exact congrArg (Value.int .i64) HM1.out, HE.out⟩
              case measure => simp [RowKit.intOf]; omega
          · have he1 : (er == 0) = false := by simpa using he
            have HEE := Lib.hid he
            clear he
            have hcal := del_any (x := S) (y := P) HR.out hLl hff
            rw [HTS.out, ← HER.out] at hcal
            go_wp2_with fail
            have hs : wr.drew.cell? ⟨(ad.add (j * 5)).block, (ad.add (j * 5)).off + 1, none⟩ = some (.int .i64 F) ∧ wr.drew.cell? ⟨(ad.add (j * 5)).block, (ad.add (j * 5)).off + 3, none⟩ = some (.int .i64 S) ∧ wr.drew.cell? ⟨(ad.add (j * 5)).block, (ad.add (j * 5)).off + 4, none⟩ = some (.int .i64 P) := ⟨(HAT.out wr.drew (below_dN HBR.out 1)).c1, (HAT.out wr.drew (below_dN HBR.out 1)).c3, (HAT.out wr.drew (below_dN HBR.out 1)).c4⟩
            go_region_held3 (fun v => v.cell? ⟨(ad.add (j * 5)).block, (ad.add (j * 5)).off + 1, none⟩ = some (.int .i64 F) ∧ v.cell? ⟨(ad.add (j * 5)).block, (ad.add (j * 5)).off + 3, none⟩ = some (.int .i64 S) ∧ v.cell? ⟨(ad.add (j * 5)).block, (ad.add (j * 5)).off + 4, none⟩ = some (.int .i64 P))
              (first | exact hs | exact hs2)
              (first | (go_at_call 10; refine hcal.mono ?_; rintro e w2 ⟨rfl, T2, hc⟩; have hb2 := hc.down HR.out HR.out.low; have hs2 : w2.cell? ⟨(ad.add (j * 5)).block, (ad.add (j * 5)).off + 1, none⟩ = some (.int .i64 F) ∧ w2.cell? ⟨(ad.add (j * 5)).block, (ad.add (j * 5)).off + 3, none⟩ = some (.int .i64 S) ∧ w2.cell? ⟨(ad.add (j * 5)).block, (ad.add (j * 5)).off + 4, none⟩ = some (.int .i64 P) := ⟨(HAT.out w2 (Below.trans (below_dN HBR.out 1) hb2)).c1, (HAT.out w2 (Below.trans (below_dN HBR.out 1) hb2)).c3, (HAT.out w2 (Below.trans (below_dN HBR.out 1) hb2)).c4⟩))
            all_goals
              have HE : Hid (∃ T', T'.s = s ∧ RmIs w.heap.size w2 T' (mdL (M.take (j + 1))) ∧ Below w.heap.size w w2) := ⟨T2, hc.s.trans HTS.out, by rw [HNX.out, HL.out]; exact hc.is, Below.trans (below_dN HBR.out 1) hb2⟩
              have HNV : Hid ((mdL (M.take (j + 1))).length = m) := by
                show _ = _
                rw [HNX.out, HL.out]
                exact (del_len1 (by rw [← HER.out]; exact HEE.out)).trans HMM.out.symm
              clear hc hb2 hcal
              go_wp2_with fail
              go_roundw
              case rel => exact ⟨j + 1, by omega, by omega, by go_num, by rw [HNV.out], HE.out⟩
              case measure => simp [RowKit.intOf]; omega
        · have k3 : (K == 3) = false := by simpa using h4
          have HL := Lib.hid (HM2.out h3 h4)
          clear h3 h4 HA2 HD2 HM2
          obtain ⟨er, her⟩ : ∃ er, er = moE (mdL (M.take j)) F To := ⟨_, rfl⟩
          have HER := Lib.hid her
          clear her
          have hcal := mov_any HR.out hLl hff hft
          rw [HTS.out, ← HER.out] at hcal
          go_wp2_with fail
          have hs : wr.drew.cell? ⟨(ad.add (j * 5)).block, (ad.add (j * 5)).off + 1, none⟩ = some (.int .i64 F) ∧ wr.drew.cell? ⟨(ad.add (j * 5)).block, (ad.add (j * 5)).off + 2, none⟩ = some (.int .i64 To) := ⟨(HAT.out wr.drew (below_dN HBR.out 1)).c1, (HAT.out wr.drew (below_dN HBR.out 1)).c2⟩
          go_region_held3 (fun v => v.cell? ⟨(ad.add (j * 5)).block, (ad.add (j * 5)).off + 1, none⟩ = some (.int .i64 F) ∧ v.cell? ⟨(ad.add (j * 5)).block, (ad.add (j * 5)).off + 2, none⟩ = some (.int .i64 To))
            (first | exact hs | exact hs2)
            (first | (go_at_call 11; refine hcal.mono ?_; rintro e w2 ⟨rfl, T2, hc⟩; have hb2 := hc.down HR.out HR.out.low; have hs2 : w2.cell? ⟨(ad.add (j * 5)).block, (ad.add (j * 5)).off + 1, none⟩ = some (.int .i64 F) ∧ w2.cell? ⟨(ad.add (j * 5)).block, (ad.add (j * 5)).off + 2, none⟩ = some (.int .i64 To) := ⟨(HAT.out w2 (Below.trans (below_dN HBR.out 1) hb2)).c1, (HAT.out w2 (Below.trans (below_dN HBR.out 1) hb2)).c2⟩))
          all_goals
            have HE : Hid (∃ T', T'.s = s ∧ RmIs w.heap.size w2 T' (mdL (M.take (j + 1))) ∧ Below w.heap.size w w2) := ⟨T2, hc.s.trans HTS.out, by rw [HNX.out, HL.out]; exact hc.is, Below.trans (below_dN HBR.out 1) hb2⟩
            have HNV : Hid ((mdL (M.take (j + 1))).length = m) := by
              show _ = _
              rw [HNX.out, HL.out]
              exact (HGL.out.move F To).2.trans HMM.out.symm
            clear hc hb2 hcal
            go_wp2_with fail
            go_roundw
            case rel => exact ⟨j + 1, by omega, by omega, by go_num, by rw [HNV.out], HE.out⟩
            case measure => simp [RowKit.intOf]; omega
    · have HE : Hid (mdL (M.take j) = mdE M) := by
        show _ = _
        unfold mdE
        rcases (show j = 80 ∨ (j = n ∧ n ≤ 80) by omega) with rfl | ⟨rfl, h⟩
        · rfl
        · rw [List.take_of_length_le (by have := HM.out; omega), List.take_of_length_le (by have := HM.out; omega)]
      obtain ⟨L, hL⟩ : ∃ L, L = mdE M := ⟨_, rfl⟩
      have hSL : SumAt w.heap.size s L w wr := by rw [hL, ← HE.out]; exact HSA.out
      rw [HE.out, ← hL]
      have HGL : Hid (Good L) := by show Good L; rw [hL]; exact HG.out
      have hl80 : L.length ≤ 80 := by rw [hL]; exact HL80.out
      have HS0 := Lib.hid hSL
      obtain ⟨m, hm⟩ : ∃ m, m = L.length := ⟨_, rfl⟩
      rw [← hm]
      have HMM := Lib.hid hm
      have hm80 : (m : Int) ≤ 80 := by omega
      have HL200 : Hid (L.length ≤ 200) := by show _ ≤ _; omega
      obtain ⟨nf, hnf⟩ : ∃ nf, nf = (frs L).length := ⟨_, rfl⟩
      have hfr := fun {w1 : World} (h : SumAt w.heap.size s L w w1) => h.frames HL200.out
      rw [← hnf] at hfr
      have HNF := Lib.hid hnf
      have hnf80 : (nf : Int) ≤ 80 := by have := frs_len L; omega
      clear hSL hL hl80 hm hnf
      by_cases hlt : j < n
      case' pos => have hlim : ¬ (j : Int) < 80 := by omega
      all_goals
        clear hboth hb
        go_wp2_with fail
        refine (hfr HS0.out).mono ?_
        rintro e w3 ⟨A3, c3, rfl, hls3, hb3⟩
        have HS3 := Lib.hid (HS0.out.call hb3)
        have HF3 := Lib.hid hls3
        clear hls3 hb3 hfr
        go_wp2_with fail
        go_loopw [7, 8] (fun sm q wr => ∃ i : Nat, i ≤ nf ∧ q = .int .i64 i ∧ sm = .int .i64 (sumF L ((frs L).take i)) ∧ SumAt w.heap.size s L w wr ∧ EI.Ls wr A3 (frs L)) (fun _ q _ => nf - (RowKit.intOf q).toNat)
        case atStart => exact ⟨0, Nat.zero_le _, rfl, rfl, HS3.out, HF3.out⟩
        case round =>
          obtain ⟨i, hi, rfl, rfl, hsw, hfl⟩ := hrel
          have HSW := Lib.hid hsw
          have HFL := Lib.hid hfl
          clear hsw
          by_cases hin : i < nf
          · have hil : i < (frs L).length := by have := HNF.out; omega
            obtain ⟨g, rfl, hgl, hat⟩ := hfl (by omega)
            obtain ⟨fi, hfi⟩ : ∃ fi, fi = (frs L)[i] := ⟨_, rfl⟩
            have hmem : sps L fi ≠ [] := by
              rw [hfi]; exact (mem_frs HGL.out.up).1 (List.getElem_mem _)
            have hff : Fits fi := okF_fits (has_frame HGL.out hmem)
            obtain ⟨sv, hsv⟩ : ∃ sv, sv = sumF L ((frs L).take i) := ⟨_, rfl⟩
            obtain ⟨k, hk⟩ : ∃ k, k = (sps L fi).length := ⟨_, rfl⟩
            have hk1 : 1 ≤ k := by
              rcases Nat.eq_zero_or_pos k with h | h
              · exact absurd (List.eq_nil_of_length_eq_zero (hk.symm.trans h)) hmem
              · exact h
            have hk80 : (k : Int) ≤ 80 := by have := sps_len L fi; have := HMM.out; omega
            have hk1' : ¬ (k : Int) < 1 := by omega
            have hk0 : ¬ k = 0 := by omega
            have hk0b : decide (k = 0) = false := by simpa using hk0
            have hk0c : decide ((k : Int) < 1) = false := by simp only [decide_eq_false_iff_not]; omega
            have hk0d : (k == 0) = false := by simpa using hk0
            have hsb := sumF_take L (frs L) i
            rw [← hsv, sum_frs HGL.out.up] at hsb
            have hsv0 : 0 ≤ sv := hsb.1
            have hsv80 : sv ≤ 80 := by have := hsb.2; have := HMM.out; omega
            have HSN : Hid (sumF L ((frs L).take (i + 1)) = sv + (k : Int)) := by
              show _ = _
              rw [List.take_succ_eq_append_getElem hil, sumF_snoc, ← hfi, ← hsv, ← hk]
            have HC : Hid (∀ w', Below wr.heap.size wr w' → w'.cell? ⟨g, i, none⟩ = some (.int .i64 fi)) := fun w' hb' => by
              have := ((hat i hil).heap (w' := w') (hb'.block g hgl)) 0 (by decide)
              rw [show i * EI.sz + 0 = i by show i * 1 + 0 = i; omega, ← hfi] at this
              exact this
            have HC1 : Hid (∀ i1 : Nat, i = i1 + 1 → (∀ w', Below wr.heap.size wr w' → w'.cell? ⟨g, i1, none⟩ = some (.int .i64 ((frs L).getD i1 0))) ∧ (frs L).getD i1 0 < fi) := fun i1 hi1 => by
              subst hi1
              have hil1 : i1 < (frs L).length := by omega
              have e : (frs L).getD i1 0 = (frs L)[i1] := by rw [List.getD_eq_getElem?_getD, List.getElem?_eq_getElem hil1]; rfl
              rw [e]
              refine ⟨fun w' hb' => ?_, ?_⟩
              · have := ((hat i1 hil1).heap (w' := w') (hb'.block g hgl)) 0 (by decide)
                rw [show i1 * EI.sz + 0 = i1 by show i1 * 1 + 0 = i1; omega] at this
                exact this
              · rw [hfi]
                exact (List.pairwise_iff_getElem.1 (frs_up HGL.out.up)) i1 (i1 + 1) hil1 hil (by omega)
            have iN : (i : Int) < nf := by omega
            have i0 : (0 : Int) ≤ i := by omega
            have hct := HSW.out.count hff
            have hsp := (HSW.out.call (below_dN (Below.refl _ _) 1)).spots HL200.out hff
            rw [← hk] at hct hsp
            rw [← hsv]
            have hc0 := HC.out wr (Below.refl _ _)
            have hs := HC.out wr.drew (below_dN (Below.refl _ _) 1)
            clear hfl hgl hat hfi hmem hff hsv hk hsb
            go_wp2_with fail
            refine hct.mono ?_
            rintro e w5 ⟨rfl, rfl⟩
            go_wp2_with fail
            by_cases hi0 : i = 0
            · have hd0 : decide ((0 : Int) < i) = false := by simp only [decide_eq_false_iff_not]; omega
              have hd1 : ¬ (0 : Int) < i := by omega
              have hd2 : decide (0 < i) = false := by simp only [decide_eq_false_iff_not]; omega
              have hd3 : ¬ 0 < i := by omega
              clear hi0 HC1 hct hc0
              refine wp_region_noPanic ?_
              refine wp_region_held_drew (S := fun v => v.cell? ⟨g, i, none⟩ = some (.int .i64 fi)) (by kernel_rfl) ?_ (fun hHeld => ?_)
              focus (exact hs)
              refine wpAnyH_take (i := 0) (oi := _) (v := ?_) (at_lit rfl) (by kernel_rfl) (by kernel_rfl) (by kernel_rfl) (fun _ _ _ h => h) (Or.inl ⟨by rfl, ?_⟩) (by assumption) ?_
              rotate_left
              focus ((intro w5 hSw; (try dsimp only at hSw); go_simp; (try with_reducible rfl)); done)
              (try simp only [Act.put, List.setIfInBounds_toArray, List.set_cons_zero, List.set_cons_succ])
              refine wpAnyH_take (i := 1) (oi := _) (v := ?_) (at_lit rfl) (by kernel_rfl) (by kernel_rfl) (by kernel_rfl) (fun _ _ _ h => h) (Or.inl ⟨by rfl, ?_⟩) (by assumption) ?_
              rotate_left
              focus ((intro w5 hSw; (try dsimp only at hSw); go_simp; (try with_reducible rfl)); done)
              (try simp only [Act.put, List.setIfInBounds_toArray, List.set_cons_zero, List.set_cons_succ])
              refine wpAnyH_take (i := 2) (oi := _) (v := ?_) (at_lit rfl) (by kernel_rfl) (by kernel_rfl) (by kernel_rfl) (fun _ _ _ h => h) (Or.inl ⟨by rfl, ?_⟩) (by assumption) ?_
              rotate_left
              focus ((intro w5 hSw; (try dsimp only at hSw); go_simp; (try with_reducible rfl)); done)
              (try simp only [Act.put, List.setIfInBounds_toArray, List.set_cons_zero, List.set_cons_succ])
              refine wpAnyH_take (i := 3) (oi := _) (v := ?_) (at_lit rfl) (by kernel_rfl) (by kernel_rfl) (by kernel_rfl) (fun _ _ _ h => h) (Or.inl ⟨by rfl, ?_⟩) (by assumption) ?_
              rotate_left
              focus ((intro w5 hSw; (try dsimp only at hSw); go_simp; (try with_reducible rfl)); done)
              (try simp only [Act.put, List.setIfInBounds_toArray, List.set_cons_zero, List.set_cons_succ])
              refine wpAnyH_take (i := 4) (oi := _) (v := ?_) (at_lit rfl) (by kernel_rfl) (by kernel_rfl) (by kernel_rfl) (fun _ _ _ h => h) (Or.inl ⟨by rfl, ?_⟩) (by assumption) ?_
              rotate_left
              focus ((intro w5 hSw; (try dsimp only at hSw); go_simp; (try with_reducible rfl)); done)
              (try simp only [Act.put, List.setIfInBounds_toArray, List.set_cons_zero, List.set_cons_succ])
              refine wpAnyH_take (i := 5) (oi := _) (v := ?_) (at_lit rfl) (by kernel_rfl) (by kernel_rfl) (by kernel_rfl) (fun _ _ _ h => h) (Or.inl ⟨by rfl, ?_⟩) (by assumption) ?_
              rotate_left
              focus ((intro w5 hSw; (try dsimp only at hSw); go_simp; (try with_reducible rfl)); done)
              (try simp only [Act.put, List.setIfInBounds_toArray, List.set_cons_zero, List.set_cons_succ])
              refine wpAnyH_take (i := 6) (oi := _) (v := ?_) (at_lit rfl) (by kernel_rfl) (by kernel_rfl) (by kernel_rfl) (fun _ _ _ h => h) (Or.inl ⟨by rfl, ?_⟩) (by assumption) ?_
              rotate_left
              focus ((intro w5 hSw; (try dsimp only at hSw); go_simp; (try with_reducible rfl)); done)
              (try simp only [Act.put, List.setIfInBounds_toArray, List.set_cons_zero, List.set_cons_succ])
              refine wpAnyH_take (i := 7) (oi := _) (v := ?_) (at_lit rfl) (by kernel_rfl) (by kernel_rfl) (by kernel_rfl) (fun _ _ _ h => h) (Or.inl ⟨by rfl, ?_⟩) (by assumption) ?_
              rotate_left
              focus ((intro w5 hSw; (try dsimp only at hSw); go_simp; (try with_reducible rfl)); done)
              (try simp only [Act.put, List.setIfInBounds_toArray, List.set_cons_zero, List.set_cons_succ])
              refine wpAnyH_take (i := 8) (oi := _) (v := ?_) (at_lit rfl) (by kernel_rfl) (by kernel_rfl) (by kernel_rfl) (fun _ _ _ h => h) (Or.inl ⟨by rfl, ?_⟩) (by assumption) ?_
              rotate_left
              focus ((intro w5 hSw; (try dsimp only at hSw); go_simp; (try with_reducible rfl)); done)
              (try simp only [Act.put, List.setIfInBounds_toArray, List.set_cons_zero, List.set_cons_succ])
              refine wpAnyH_ready (rs := [9]) (by kernel_rfl) (by simp) ?_
              refine AllReadyH.cons (o := _) (at_lit rfl) (fun K hK => ?_) ?_
              · go_simp
                go_at_call 14
                refine hsp.mono ?_
                rintro e w6 ⟨A6, c6, rfl, hb6⟩
                have HS6 := Lib.hid (HSW.out.call (Below.trans (below_dN (Below.refl _ _) 1) hb6))
                have HB6 : Hid (Below wr.heap.size wr w6) := Below.trans (below_dN (Below.refl _ _) 1) hb6
                have hs6 := HC.out w6 HB6.out
                go_wp2_with fail
                refine hK.out _ _ ?_ (fun hHeld => ?_)
                focus ((try dsimp only); exact hs6)
                clear hK K hb6 hs6
                (try simp only [Act.put, List.setIfInBounds_toArray, List.set_cons_zero, List.set_cons_succ])
                refine wpAnyH_take (i := 10) (oi := _) (v := ?_) (at_lit rfl) (by kernel_rfl) (by kernel_rfl) (by kernel_rfl) (fun _ _ _ h => h) (Or.inl ⟨by rfl, ?_⟩) (by assumption) ?_
                rotate_left
                focus ((intro w5 hSw; (try dsimp only at hSw); go_simp; (try with_reducible rfl)); done)
                (try simp only [Act.put, List.setIfInBounds_toArray, List.set_cons_zero, List.set_cons_succ])
                refine wpAnyH_take (i := 11) (oi := _) (v := ?_) (at_lit rfl) (by kernel_rfl) (by kernel_rfl) (by kernel_rfl) (fun _ _ _ h => h) (Or.inl ⟨by rfl, ?_⟩) (by assumption) ?_
                rotate_left
                focus ((intro w5 hSw; (try dsimp only at hSw); go_simp; (try with_reducible rfl)); done)
                (try simp only [Act.put, List.setIfInBounds_toArray, List.set_cons_zero, List.set_cons_succ])
                refine wpAnyH_take (i := 12) (oi := _) (v := ?_) (at_lit rfl) (by kernel_rfl) (by kernel_rfl) (by kernel_rfl) (fun _ _ _ h => h) (Or.inl ⟨by rfl, ?_⟩) (by assumption) ?_
                rotate_left
                focus ((intro w5 hSw; (try dsimp only at hSw); go_simp; (try with_reducible rfl)); done)
                (try simp only [Act.put, List.setIfInBounds_toArray, List.set_cons_zero, List.set_cons_succ])
                refine wpAnyH_take (i := 13) (oi := _) (v := ?_) (at_lit rfl) (by kernel_rfl) (by kernel_rfl) (by kernel_rfl) (fun _ _ _ h => h) (Or.inl ⟨by rfl, ?_⟩) (by assumption) ?_
                rotate_left
                focus ((intro w5 hSw; (try dsimp only at hSw); go_simp; (try with_reducible rfl)); done)
                (try simp only [Act.put, List.setIfInBounds_toArray, List.set_cons_zero, List.set_cons_succ])
                refine wpAnyH_take (i := 14) (oi := _) (v := ?_) (at_lit rfl) (by kernel_rfl) (by kernel_rfl) (by kernel_rfl) (fun _ _ _ h => h) (Or.inl ⟨by rfl, ?_⟩) (by assumption) ?_
                rotate_left
                focus ((intro w5 hSw; (try dsimp only at hSw); go_simp; (try with_reducible rfl)); done)
                (try simp only [Act.put, List.setIfInBounds_toArray, List.set_cons_zero, List.set_cons_succ])
                refine wpAnyH_take (i := 15) (oi := _) (v := ?_) (at_lit rfl) (by kernel_rfl) (by kernel_rfl) (by kernel_rfl) (fun _ _ _ h => h) (Or.inl ⟨by rfl, ?_⟩) (by assumption) ?_
                rotate_left
                focus ((intro w5 hSw; (try dsimp only at hSw); go_simp; (try with_reducible rfl)); done)
                (try simp only [Act.put, List.setIfInBounds_toArray, List.set_cons_zero, List.set_cons_succ])
                refine wpAnyH_take (i := 16) (oi := _) (v := ?_) (at_lit rfl) (by kernel_rfl) (by kernel_rfl) (by kernel_rfl) (fun _ _ _ h => h) (Or.inl ⟨by rfl, ?_⟩) (by assumption) ?_
                rotate_left
                focus ((intro w5 hSw; (try dsimp only at hSw); go_simp; (try with_reducible rfl)); done)
                (try simp only [Act.put, List.setIfInBounds_toArray, List.set_cons_zero, List.set_cons_succ])
                refine wpAnyH_take (i := 17) (oi := _) (v := undef) (at_lit rfl) (by kernel_rfl) (by kernel_rfl) (by kernel_rfl) (fun _ _ _ h => h) (Or.inr ⟨by rfl, rfl⟩) (by assumption) ?_
                (try simp only [Act.put, List.setIfInBounds_toArray, List.set_cons_zero, List.set_cons_succ])
                refine wpAnyH_take (i := 18) (oi := _) (v := undef) (at_lit rfl) (by kernel_rfl) (by kernel_rfl) (by kernel_rfl) (fun _ _ _ h => h) (Or.inr ⟨by rfl, rfl⟩) (by assumption) ?_
                (try simp only [Act.put, List.setIfInBounds_toArray, List.set_cons_zero, List.set_cons_succ])
                refine wpAnyH_take (i := 19) (oi := _) (v := undef) (at_lit rfl) (by kernel_rfl) (by kernel_rfl) (by kernel_rfl) (fun _ _ _ h => h) (Or.inr ⟨by rfl, rfl⟩) (by assumption) ?_
                (try simp only [Act.put, List.setIfInBounds_toArray, List.set_cons_zero, List.set_cons_succ])
                refine wpAnyH_take (i := 20) (oi := _) (v := undef) (at_lit rfl) (by kernel_rfl) (by kernel_rfl) (by kernel_rfl) (fun _ _ _ h => h) (Or.inr ⟨by rfl, rfl⟩) (by assumption) ?_
                (try simp only [Act.put, List.setIfInBounds_toArray, List.set_cons_zero, List.set_cons_succ])
                refine wpAnyH_take (i := 21) (oi := _) (v := undef) (at_lit rfl) (by kernel_rfl) (by kernel_rfl) (by kernel_rfl) (fun _ _ _ h => h) (Or.inr ⟨by rfl, rfl⟩) (by assumption) ?_
                (try simp only [Act.put, List.setIfInBounds_toArray, List.set_cons_zero, List.set_cons_succ])
                refine wpAnyH_take (i := 22) (oi := _) (v := undef) (at_lit rfl) (by kernel_rfl) (by kernel_rfl) (by kernel_rfl) (fun _ _ _ h => h) (Or.inr ⟨by rfl, rfl⟩) (by assumption) ?_
                (try simp only [Act.put, List.setIfInBounds_toArray, List.set_cons_zero, List.set_cons_succ])
                refine wpAnyH_take (i := 23) (oi := _) (v := undef) (at_lit rfl) (by kernel_rfl) (by kernel_rfl) (by kernel_rfl) (fun _ _ _ h => h) (Or.inr ⟨by rfl, rfl⟩) (by assumption) ?_
                (try simp only [Act.put, List.setIfInBounds_toArray, List.set_cons_zero, List.set_cons_succ])
                refine wpAnyH_take (i := 24) (oi := _) (v := undef) (at_lit rfl) (by kernel_rfl) (by kernel_rfl) (by kernel_rfl) (fun _ _ _ h => h) (Or.inr ⟨by rfl, rfl⟩) (by assumption) ?_
                (try simp only [Act.put, List.setIfInBounds_toArray, List.set_cons_zero, List.set_cons_succ])
                refine wpAnyH_take (i := 25) (oi := _) (v := undef) (at_lit rfl) (by kernel_rfl) (by kernel_rfl) (by kernel_rfl) (fun _ _ _ h => h) (Or.inr ⟨by rfl, rfl⟩) (by assumption) ?_
                (try simp only [Act.put, List.setIfInBounds_toArray, List.set_cons_zero, List.set_cons_succ])
                refine wpAnyH_take (i := 26) (oi := _) (v := undef) (at_lit rfl) (by kernel_rfl) (by kernel_rfl) (by kernel_rfl) (fun _ _ _ h => h) (Or.inr ⟨by rfl, rfl⟩) (by assumption) ?_
                (try simp only [Act.put, List.setIfInBounds_toArray, List.set_cons_zero, List.set_cons_succ])
                refine wpAnyH_take (i := 27) (oi := _) (v := ?_) (at_lit rfl) (by kernel_rfl) (by kernel_rfl) (by kernel_rfl) (fun _ _ _ h => h) (Or.inl ⟨by rfl, ?_⟩) (by assumption) ?_
                rotate_left
                focus ((intro w5 hSw; (try dsimp only at hSw); go_simp; (try with_reducible rfl)); done)
                (try simp only [Act.put, List.setIfInBounds_toArray, List.set_cons_zero, List.set_cons_succ])
                refine wpAnyH_take (i := 28) (oi := _) (v := ?_) (at_lit rfl) (by kernel_rfl) (by kernel_rfl) (by kernel_rfl) (fun _ _ _ h => h) (Or.inl ⟨by rfl, ?_⟩) (by assumption) ?_
                rotate_left
                focus ((intro w5 hSw; (try dsimp only at hSw); go_simp; (try with_reducible rfl)); done)
                (try simp only [Act.put, List.setIfInBounds_toArray, List.set_cons_zero, List.set_cons_succ])
                refine wpAnyH_done (by kernel_rfl) ?_ _
                refine NoPanic.normal ?_
                go_wp2_with fail
                go_roundw
                case rel => exact ⟨i + 1, by omega, by go_num, by rw [HSN.out], HS6.out, HFL.out.call HB6.out⟩
                case measure => simp [RowKit.intOf]; omega
              exact AllReadyH.nil
            · obtain ⟨i1, hi1⟩ : ∃ i1 : Nat, i = i1 + 1 := ⟨i - 1, by omega⟩
              obtain ⟨q1, q2⟩ := HC1.out i1 hi1
              obtain ⟨fp, hfp⟩ : ∃ fp, fp = (frs L).getD i1 0 := ⟨_, rfl⟩
              rw [← hfp] at q1 q2
              have HC2 := Lib.hid q1
              have hd0 : (0 : Int) < i := by omega
              have hd2 : 0 < i := by omega
              have hw1 : IntKind.i64.wrap ((i : Int) - 1) = (i1 : Int) := by rw [IntKind.wrap_i64]; omega
              have hi10 : (0 : Int) ≤ i1 := by omega
              have hi1N : (i1 : Int) < nf := by omega
              have hle : ¬ fi ≤ fp := by omega
              have hsa : wr.drew.cell? ⟨g, i, none⟩ = some (.int .i64 fi) ∧ wr.drew.cell? ⟨g, i1, none⟩ = some (.int .i64 fp) := ⟨hs, HC2.out wr.drew (below_dN (Below.refl _ _) 1)⟩
              clear hi0 HC1 hct hc0 hi1 q1 hfp hs
              go_region_held3 (fun v => v.cell? ⟨g, i, none⟩ = some (.int .i64 fi) ∧ v.cell? ⟨g, i1, none⟩ = some (.int .i64 fp))
                (first | exact hsa | exact hsb)
                (first | (go_at_call 14; refine hsp.mono ?_; rintro e w6 ⟨A6, c6, rfl, hb6⟩; have hB6 : Below wr.heap.size wr w6 := Below.trans (below_dN (Below.refl _ _) 1) hb6; have hsb : w6.cell? ⟨g, i, none⟩ = some (.int .i64 fi) ∧ w6.cell? ⟨g, i1, none⟩ = some (.int .i64 fp) := ⟨HC.out w6 hB6, HC2.out w6 hB6⟩))
              all_goals
                have HB6 := Lib.hid hB6
                have HS6 := Lib.hid (HSW.out.call hB6)
                clear hb6 hB6 hsb
                go_wp2_with fail
                go_roundw
                case rel => exact ⟨i + 1, by omega, by go_num, by rw [HSN.out], HS6.out, HFL.out.call HB6.out⟩
                case measure => simp [RowKit.intOf]; omega
          · obtain rfl : i = nf := by omega
            have HEND : Hid (sumF L ((frs L).take i) = (m : Int)) := by
              show _ = _
              rw [HNF.out, List.take_length, sum_frs HGL.out.up, HMM.out]
            rw [HEND.out]
            go_wp2_with fail
            go_ret
            exact ⟨ret_bool (by simp), HSW.out.below⟩
end Go.Proofs.Ytgpbbmcadifdhaa
