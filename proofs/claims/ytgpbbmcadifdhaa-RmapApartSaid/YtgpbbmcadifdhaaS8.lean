/- The reference's Add, walked. -/
import Derived.Test.YtgpbbmcadifdhaaS7
namespace Go.Proofs.Ytgpbbmcadifdhaa
open Go.RowKit
section
variable {w w' : World} {B xa : Nat} {v : Value} {L : List On}
set_option maxRecDepth 100000 in
set_option maxHeartbeats 8000000 in
theorem xadd_in (h : Rx B w xa v L) (hu : Srt L) (hL : L.length ≤ 200) {f x y : Int} (hn : okF f ∧ okS (x, y)) : Calls Try.prog 30 #[.pointer (some ⟨xa, 0, none⟩), .int .i64 f, .agg #[.int .i64 x, .int .i64 y]] w (DidX B w xa v (adL L f (x, y)) (adE L f (x, y))) := by
  obtain ⟨A, c, rfl⟩ := h.own.form
  obtain ⟨hf0, hf1⟩ : 0 ≤ f ∧ f ≤ 1023 := hn.1
  obtain ⟨hx0, hy0, hy1⟩ : 0 ≤ x ∧ 0 ≤ y ∧ y ≤ 4095 := hn.2
  obtain ⟨N, hN⟩ : ∃ N, N = L.length := ⟨_, rfl⟩
  obtain ⟨W, hW⟩ : ∃ W, W = (w.alloc (.cells #[.int .i64 x, .int .i64 y] 27)).alloc (.cells #[.int .i64 f, .int .i64 x, .int .i64 y] 67) := ⟨_, rfl⟩
  obtain ⟨b, hb⟩ : ∃ b, b = w.heap.size + 1 := ⟨_, rfl⟩
  have hrow : Lrow W b 67 [.int .i64 f, .int .i64 x, .int .i64 y] := by
    rw [hW, hb]
    have := Lrow.new (w.alloc (.cells #[.int .i64 x, .int .i64 y] 27)) 67 [.int .i64 f, .int .i64 x, .int .i64 y]
    simpa using this
  have hWB : Below w.heap.size w W := by rw [hW]; exact ((Below.refl _ _).alloc (Nat.le_refl _) _).alloc (by simp) _
  have hxl := h.top.lt
  have hc0 : W.cell? ⟨xa, 0, none⟩ = some (.slice A N c) := by rw [hN]; exact (h.top.call hWB).cell 0
  have HH := Lib.hid h
  have HU := Lib.hid hu
  have HN := Lib.hid hN
  have HW := Lib.hid (And.intro hW hb)
  have HB := Lib.hid hrow
  have HWB := Lib.hid hWB
  have HOK := Lib.hid hn
  have n200 : (N : Int) ≤ 200 := by omega
  clear h hu hN hW hb hrow hWB hn
  go_enter Try.func30, Try.ntmps30
  go_wp2
  rw [← HW.out.1, ← HW.out.2]
  go_loopw [8, 9, 10] (fun r d i wr => ∃ (j : Nat) (q : Bool) (R : List On), j ≤ N ∧ i = .int .i64 j ∧ d = .bool q ∧ EOn.Own W.heap.size wr r R ∧ Ins L (f, x, y) j q R ∧ Below W.heap.size W wr) (fun _ _ i _ => N - (RowKit.intOf i).toNat)
  case atStart => exact ⟨0, false, [], Nat.zero_le _, rfl, rfl, Enc.Own.nil (E := EOn) _ W, Ins.start _ _, Below.refl _ _⟩
  case round =>
    obtain ⟨j, q, R, hj, rfl, rfl, hcs, hins, hb⟩ := hrel
    obtain ⟨Ar, cr, rfl⟩ := hcs.form
    have hxl2 : xa < W.heap.size := Nat.lt_of_lt_of_le hxl HWB.out.size
    by_cases hlt : j < N
    · have hjl : j < L.length := by have := HN.out; omega
      obtain ⟨g, rfl, -, hgl, -, hat⟩ := HH.out.own.some_ (by omega)
      obtain ⟨z, ez⟩ : ∃ z, z = L[j] := ⟨_, rfl⟩
      have hat := hat j hjl
      rw [← ez] at hat
      obtain ⟨zf, zs, zp⟩ := z
      have HF : Hid (∀ w', Below W.heap.size W w' → w'.cell? ⟨xa, 0, none⟩ = some (.slice (some ⟨g, 0, none⟩) N c) ∧ w'.cell? ⟨b, 0, none⟩ = some (.int .i64 f) ∧ w'.cell? ⟨b, 1, none⟩ = some (.int .i64 x) ∧ w'.cell? ⟨b, 2, none⟩ = some (.int .i64 y) ∧ w'.cell? ⟨g, j * 3, none⟩ = some (.int .i64 zf) ∧ w'.cell? ⟨g, j * 3 + 1, none⟩ = some (.int .i64 zs) ∧ w'.cell? ⟨g, j * 3 + 2, none⟩ = some (.int .i64 zp)) := fun w' hb' => by
        have hr := HB.out.call hb'
        obtain ⟨e0, e1, e2⟩ := on_at (hat.heap (w' := w') ((HWB.out.trans (hb'.mono HWB.out.size)).block g hgl))
        exact ⟨(hb'.cell (p := ⟨xa, 0, none⟩) hxl2).trans hc0, hr.cell 0, hr.cell 1, hr.cell 2, e0, e1, e2⟩
      have hRl : R.length ≤ N + 1 := by
        have := HN.out
        cases q
        · have := hins.len' (by omega); omega
        · have := hins.len (by omega); omega
      obtain ⟨k0, k1, k2, k3, k4, k5, k6⟩ := HF.out wr hb
      have HEZ := Lib.hid ez
      have HJ := Lib.hid hjl
      have HCS := Lib.hid hcs
      have HINS := Lib.hid hins
      have HBW := Lib.hid hb
      have HRL : Hid (R.length ≤ 1000) := by show R.length ≤ 1000; omega
      have jN : (j : Int) < N := by omega
      have j0 : (0 : Int) ≤ j := by omega
      obtain ⟨m, hm⟩ : ∃ m, m = R.length := ⟨_, rfl⟩
      rw [← hm]
      have HCM : Hid (EOn.Own W.heap.size wr (.slice Ar m cr) R) := by rw [hm]; exact hcs
      clear hat ez hcs hins hb hRl hm hj hgl
      by_cases hxy : (⟨zf, zs, zp⟩ : On) = ⟨f, x, y⟩
      · have HEND : Hid (∀ w', Below W.heap.size W w' → DidX B w xa (.slice (some ⟨g, 0, none⟩) N c) (adL L f (x, y)) (adE L f (x, y)) (.returned (.int .i64 7)) w') := fun w' hb' => by
          have hm : (f, x, y) ∈ L := by rw [← hxy, HEZ.out]; exact List.getElem_mem _
          rw [(adE_exist HOK.out hm).1, (adE_exist HOK.out hm).2]
          have hb2 := HWB.out.trans (hb'.mono HWB.out.size)
          have := HN.out
          exact ⟨rfl, _, by rw [HN.out]; exact HH.out.call hb2, Foot.of_below hb2, Or.inl rfl⟩
        injection hxy with h1 h2
        injection h2 with h2 h3
        subst h1 h2 h3
        go_wp2_with fail
        go_quiet (fail)
        go_wp2_with fail
        go_ret
        rw [← HN.out]
        exact HEND.out _ (below_dN HBW.out _)
      · have HNE : Hid (L[j]'HJ.out ≠ (f, x, y)) := by
          show _ ≠ _
          rw [← HEZ.out]; exact hxy
        have hxy2 := on_ne hxy
        clear hxy
        rcases hxy2 with h1 | ⟨h1, h2⟩ | ⟨h1, h2, h3⟩
        all_goals
          go_wp2_with fail
          go_quiet (fail)
          obtain ⟨wa, hwa⟩ : ∃ wa, wa = wr.drewN nq := ⟨_, rfl⟩
          rw [← hwa]
          have HBA : Hid (Below W.heap.size W wa) := by
            rw [hwa]; exact below_dN HBW.out _
          have HCA : Hid (EOn.Own W.heap.size wa (.slice Ar m cr) R) := by
            rw [hwa]; exact HCM.out.drewN _
          clear hwa k0 k1 k2 k3 k4 k5 k6 h1
          (try clear h2)
          (try clear h3)
          obtain ⟨k0, k1, k2, k3, k4, k5, k6⟩ := HF.out wa HBA.out
          cases q
          · obtain ⟨t, ht⟩ : ∃ t, t = oltB (f, x, y) (zf, zs, zp) := ⟨_, rfl⟩
            have HT := Lib.hid ht
            have hless := fun w => less_any f x y zf zs zp w
            rw [← ht] at hless
            clear ht
            have hs : (fun w' => w'.cell? ⟨xa, 0, none⟩ = some (.slice (some ⟨g, 0, none⟩) N c) ∧ w'.cell? ⟨b, 0, none⟩ = some (.int .i64 f) ∧ w'.cell? ⟨b, 1, none⟩ = some (.int .i64 x) ∧ w'.cell? ⟨b, 2, none⟩ = some (.int .i64 y) ∧ w'.cell? ⟨g, j * 3, none⟩ = some (.int .i64 zf) ∧ w'.cell? ⟨g, j * 3 + 1, none⟩ = some (.int .i64 zs) ∧ w'.cell? ⟨g, j * 3 + 2, none⟩ = some (.int .i64 zp)) wa.drew := HF.out wa.drew (below_dN HBA.out 1)
            have hkp : ∀ w1, Below wa.heap.size wa.drew w1 → (fun w' => w'.cell? ⟨xa, 0, none⟩ = some (.slice (some ⟨g, 0, none⟩) N c) ∧ w'.cell? ⟨b, 0, none⟩ = some (.int .i64 f) ∧ w'.cell? ⟨b, 1, none⟩ = some (.int .i64 x) ∧ w'.cell? ⟨b, 2, none⟩ = some (.int .i64 y) ∧ w'.cell? ⟨g, j * 3, none⟩ = some (.int .i64 zf) ∧ w'.cell? ⟨g, j * 3 + 1, none⟩ = some (.int .i64 zs) ∧ w'.cell? ⟨g, j * 3 + 2, none⟩ = some (.int .i64 zp)) w1 := fun w1 h1 => HF.out w1 ((below_dN HBA.out 1).trans (h1.mono HBA.out.size))
            cases t
            · go_wp2_with fail
              go_region_held3 (fun w' => w'.cell? ⟨xa, 0, none⟩ = some (.slice (some ⟨g, 0, none⟩) N c) ∧ w'.cell? ⟨b, 0, none⟩ = some (.int .i64 f) ∧ w'.cell? ⟨b, 1, none⟩ = some (.int .i64 x) ∧ w'.cell? ⟨b, 2, none⟩ = some (.int .i64 y) ∧ w'.cell? ⟨g, j * 3, none⟩ = some (.int .i64 zf) ∧ w'.cell? ⟨g, j * 3 + 1, none⟩ = some (.int .i64 zs) ∧ w'.cell? ⟨g, j * 3 + 2, none⟩ = some (.int .i64 zp))
                (first | exact hs | exact hkp _ hb1)
                (first | (go_at_call 40; refine (hless _).mono ?_; rintro e w1 ⟨rfl, hb1⟩))
              all_goals
                have HB1 : Hid (Below W.heap.size W w1) := (below_dN HBA.out 1).trans (hb1.mono HBA.out.size)
                have HC1 : Hid (EOn.Own W.heap.size w1 (.slice Ar m cr) R) := HCA.out.call (Below.trans (below_dN (Below.refl _ _) 1) hb1)
                obtain ⟨A5, c5, W5, r5, o5, hb5⟩ := app_on HC1.out HB1.out (by have := HRL.out; omega) zf zs zp
                obtain ⟨l0, l1, l2, l3, l4, l5, l6⟩ := HF.out w1 HB1.out
                have HO5 := Lib.hid o5
                have HB5 := Lib.hid hb5
                have HI5 : Hid (Ins L (f, x, y) (j + 1) false (R ++ [(zf, zs, zp)])) := by
                  rw [HEZ.out]; exact HINS.out.go HJ.out HNE.out (by rw [← HEZ.out]; exact HT.out.symm)
                clear o5 hb5 hb1 k0 k1 k2 k3 k4 k5 k6
                go_wp2_with (at_builtin; refine wpList_append_run rfl _ _ 63 rfl _ _ rfl rfl r5 ?_)
                go_roundw
                case rel => exact ⟨j + 1, false, _, by omega, by go_num, rfl, HO5.out, HI5.out, HB5.out⟩
                case measure => simp [RowKit.intOf]; omega
            · go_wp2_with fail
              go_region_held3 (fun w' => w'.cell? ⟨xa, 0, none⟩ = some (.slice (some ⟨g, 0, none⟩) N c) ∧ w'.cell? ⟨b, 0, none⟩ = some (.int .i64 f) ∧ w'.cell? ⟨b, 1, none⟩ = some (.int .i64 x) ∧ w'.cell? ⟨b, 2, none⟩ = some (.int .i64 y) ∧ w'.cell? ⟨g, j * 3, none⟩ = some (.int .i64 zf) ∧ w'.cell? ⟨g, j * 3 + 1, none⟩ = some (.int .i64 zs) ∧ w'.cell? ⟨g, j * 3 + 2, none⟩ = some (.int .i64 zp))
                (first | exact hs | exact hkp _ hb1)
                (first | (go_at_call 40; refine (hless _).mono ?_; rintro e w1 ⟨rfl, hb1⟩))
              all_goals
                have HB1 : Hid (Below W.heap.size W w1) := (below_dN HBA.out 1).trans (hb1.mono HBA.out.size)
                have HC1 : Hid (EOn.Own W.heap.size w1 (.slice Ar m cr) R) := HCA.out.call (Below.trans (below_dN (Below.refl _ _) 1) hb1)
                obtain ⟨A4, c4, W4, r4, o4, hb4⟩ := app_on HC1.out HB1.out (by have := HRL.out; omega) f x y
                obtain ⟨A5, c5, W5, r5, o5, hb5⟩ := app_on o4 hb4 (by rw [List.length_append]; have := HRL.out; simp only [List.length_cons, List.length_nil]; omega) zf zs zp
                obtain ⟨l0, l1, l2, l3, l4, l5, l6⟩ := HF.out w1 HB1.out
                obtain ⟨q0, q1, q2, q3, q4, q5, q6⟩ := HF.out W4 hb4
                have HO5 := Lib.hid o5
                have HB5 := Lib.hid hb5
                have HI5 : Hid (Ins L (f, x, y) (j + 1) true ((R ++ [(f, x, y)]) ++ [(zf, zs, zp)])) := by
                  rw [HEZ.out]; exact HINS.out.put HJ.out HNE.out (by rw [← HEZ.out]; exact HT.out.symm)
                clear o5 hb5 hb1 o4 hb4 k0 k1 k2 k3 k4 k5 k6
                go_wp2_with (first | (at_builtin; refine wpList_append_run rfl _ _ 63 rfl _ _ rfl rfl r4 ?_) | (at_builtin; refine wpList_append_run rfl _ _ 63 rfl _ _ rfl rfl r5 ?_))
                go_roundw
                case rel => exact ⟨j + 1, true, _, by omega, by go_num, rfl, HO5.out, HI5.out, HB5.out⟩
                case measure => simp [RowKit.intOf]; omega
          · go_wp2_with fail
            go_quiet (fail)
            obtain ⟨w1, hw1⟩ : ∃ w1, w1 = wa.drewN nq := ⟨_, rfl⟩
            rw [← hw1]
            have HB1 : Hid (Below W.heap.size W w1) := by rw [hw1]; exact below_dN HBA.out _
            have HC1 : Hid (EOn.Own W.heap.size w1 (.slice Ar m cr) R) := by rw [hw1]; exact HCA.out.drewN _
            obtain ⟨A5, c5, W5, r5, o5, hb5⟩ := app_on HC1.out HB1.out (by have := HRL.out; omega) zf zs zp
            obtain ⟨l0, l1, l2, l3, l4, l5, l6⟩ := HF.out w1 HB1.out
            have HO5 := Lib.hid o5
            have HB5 := Lib.hid hb5
            have HI5 : Hid (Ins L (f, x, y) (j + 1) true (R ++ [(zf, zs, zp)])) := by
              rw [HEZ.out]; exact HINS.out.more HU.out HJ.out HNE.out
            clear o5 hb5 hw1 k0 k1 k2 k3 k4 k5 k6
            go_wp2_with (at_builtin; refine wpList_append_run rfl _ _ 63 rfl _ _ rfl rfl r5 ?_)
            go_roundw
            case rel => exact ⟨j + 1, true, _, by omega, by go_num, rfl, HO5.out, HI5.out, HB5.out⟩
            case measure => simp [RowKit.intOf]; omega
    · obtain rfl : j = N := by omega
      obtain ⟨m, hm⟩ : ∃ m, m = R.length := ⟨_, rfl⟩
      have hcw : wr.cell? ⟨xa, 0, none⟩ = some (.slice A j c) := (hb.cell (p := ⟨xa, 0, none⟩) hxl2).trans hc0
      have hr := HB.out.call hb
      have b0 := hr.cell 0
      have b1 := hr.cell 1
      have b2 := hr.cell 2
      have HM := Lib.hid hm
      have hRl : R.length ≤ 1000 := by
        have := HN.out
        cases q
        · have := hins.len' (by omega); omega
        · have := hins.len (by omega); omega
      have hcm : EOn.Own W.heap.size wr (.slice Ar m cr) R := by rw [hm]; exact hcs
      rw [← hm]
      cases q
      · have hin : Ins L (f, x, y) L.length false R := by rw [← HN.out]; exact hins
        obtain ⟨hni, hre⟩ := hin.endNo
        obtain ⟨A5, c5, W5, r5, o5, hb5⟩ := app_on hcm hb (by omega) f x y
        rw [hre] at o5
        have hb6 := HWB.out.trans (hb5.mono HWB.out.size)
        have HEND : Hid (DidX B w xa (.slice A L.length c) (adL L f (x, y)) (adE L f (x, y)) (.returned (.int .i64 0)) (W5.setCell ⟨xa, 0, none⟩ (.slice A5 (m + 1) c5))) := by
          rw [(adE_ok HOK.out hni).1, (adE_ok HOK.out hni).2]
          exact HH.out.set hb6 (r := 0) (o5.base HWB.out.size)
        have hfr := (HH.out.top.call hb6).frozen 0
        have hx5 := (HH.out.top.call hb6).cell 0
        clear hcs hins hb hin hni hre o5 hb5 hb6 hcm hRl hr hm
        go_wp2_with (at_builtin; refine wpList_append_run rfl _ _ 63 rfl _ _ rfl rfl r5 ?_)
        go_ret
        exact HEND.out
      · have hin : Ins L (f, x, y) L.length true R := by rw [← HN.out]; exact hins
        obtain ⟨hni, hre⟩ := hin.endYes
        have hb6 := HWB.out.trans (hb.mono HWB.out.size)
        have HEND : Hid (DidX B w xa (.slice A L.length c) (adL L f (x, y)) (adE L f (x, y)) (.returned (.int .i64 0)) (wr.setCell ⟨xa, 0, none⟩ (.slice Ar m cr))) := by
          rw [(adE_ok HOK.out hni).1, (adE_ok HOK.out hni).2]
          exact HH.out.set hb6 (r := 0) (by rw [← hre]; exact hcm.base HWB.out.size)
        have hfr := (HH.out.top.call hb6).frozen 0
        have hx5 := (HH.out.top.call hb6).cell 0
        clear hcs hins hb hin hni hre hb6 hcm hRl hr hm
        go_wp2
        go_ret
        exact HEND.out
end
end Go.Proofs.Ytgpbbmcadifdhaa
