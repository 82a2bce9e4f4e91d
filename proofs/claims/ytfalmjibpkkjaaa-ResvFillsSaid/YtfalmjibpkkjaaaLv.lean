/- Reservations: ResvFills, walked. -/
import Derived.Test.YtfalmjibpkkjaaaLu
import Derived.Test.YtfalmjibpkkjaaaL4
import Derived.Test.YtfalmjibpkkjaaaL0
namespace Go.Proofs.Ytfalmjibpkkjaaa
open Go.RowKit
/-- Of the first so many pages those that are not filled. -/
theorem opK_len_succ (nn : Nat) (f : Int) (k : Nat) : (opK nn f (k + 1)).length = if nn.testBit k = true then (opK nn f k).length else (opK nn f k).length + 1 := by
  rw [opK_succ]
  split
  · rfl
  · rw [List.length_append]; rfl
/-- Within the law: one reservation of the program's, and the marks that the law keeps. -/
structure FSt (B : Nat) (w wr : World) (s b : Nat) (sp a f : Int) (nn mm : Nat) (t : Int) (T : ObT) : Prop where
  ts : T.s = s
  ob : ObAt B wr T (oneS sp a f nn t)
  ap : ∀ k, MineO T (oneS sp a f nn t).L k → k = b → False
  row : Lrow wr b 4 (bitsV mm)
  hb : B ≤ b
  bl : Below B w wr
section
variable {B : Nat} {w wr w' : World} {s b nn mm n2 : Nat} {sp a f t t2 : Int} {T : ObT}
theorem FSt.did (h : FSt B w wr s b sp a f nn mm t T) (d : DidM B wr T (oneS sp a f nn t) (oneS sp a f n2 t2) w') : ∃ T2, FSt B w w' s b sp a f n2 mm t2 T2 := by
  have hd := h.ob.down d
  have hr := d.choose_spec.2.2.1.row h.row (fun e => h.ap b e rfl)
  obtain ⟨T2, t2, o2, -, f2⟩ := d
  refine ⟨T2, t2.trans h.ts, o2, fun k hk e => ?_, hr, h.hb, h.bl.trans hd⟩
  rcases f2 k hk with c | c
  · exact h.ap k c e
  · have := h.row.lt; omega
theorem FSt.store (h : FSt B w wr s b sp a f nn mm t T) {kk : Nat} {v : Bool} (e : bitsV n2 = (bitsV mm).set kk (.bool v)) : FSt B w (wr.setCell ⟨b, kk, none⟩ (.bool v)) s b sp a f nn n2 t T where
  ts := h.ts
  ob := h.ob.keep fun k hk => Below.heap_setCell _ _ _ k (fun e => h.ap k hk e)
  ap := h.ap
  row := by rw [e]; exact h.row.set_ kk (.bool v)
  hb := h.hb
  bl := h.bl.setCell h.hb _
end
set_option maxHeartbeats 4000000 in
set_option maxRecDepth 100000 in
theorem fills_walk (A : Option Addr) (n c : Nat) {sp fr : Int} (w : World) (s0 : 0 ≤ sp) (s1 : sp < 256) (r0 : 0 ≤ fr) (r1 : fr < 256) (hA : Bytes w w.heap.size A n) :
    Calls Try.prog 4 #[.int .u8 sp, .int .u8 fr, .slice A n c] w fun e w' => e = .returned (.bool true) ∧ Below w.heap.size w w' := by
  obtain ⟨ss, rfl⟩ : ∃ k : Nat, sp = k := ⟨sp.toNat, by omega⟩
  obtain ⟨k0, rfl⟩ : ∃ k : Nat, fr = k := ⟨fr.toNat, by omega⟩
  have hnew := new_r w
  have E0 : wrap64 (k0 : Int) = k0 := IntWalk.wrap64_in _ (by omega)
  have Es : wrap64 (ss : Int) = ss := IntWalk.wrap64_in _ (by omega)
  have es : IntKind.i64.wrap (ss : Int) = ss := IntWalk.i64_in _ (by omega)
  have Et : (k0 : Int).tmod 100 = (k0 : Int) % 100 := Int.tmod_eq_emod_of_nonneg (by omega)
  obtain ⟨a, ha⟩ : ∃ a, a = 8 * ((k0 : Int) % 100 + 1) := ⟨_, rfl⟩
  obtain ⟨f, hf⟩ : ∃ f, f = 8 * ((k0 : Int) % 100) := ⟨_, rfl⟩
  have HOK : Hid (FOk ss a f) := ⟨by omega, by omega, by omega, by omega, by omega, by omega, by omega, by omega⟩
  have E1 : Hid (wrap64 (8 * wrap64 ((wrap64 (k0 : Int)).tmod 100 + 1)) = a) := by
    show _ = _
    rw [E0, Et, IntWalk.wrap64_in ((k0 : Int) % 100 + 1) (by omega), IntWalk.wrap64_in _ (by omega)]; exact ha.symm
  have E2 : Hid (wrap64 (8 * (wrap64 (k0 : Int)).tmod 100) = f) := by
    show _ = _
    rw [E0, Et, IntWalk.wrap64_in _ (by omega)]; exact hf.symm
  have HA99 : Hid (0 ≤ a ∧ a ≤ 800 ∧ 0 ≤ f ∧ f ≤ 792) := ⟨by omega, by omega, by omega, by omega⟩
  have HA := Lib.hid hA
  clear hA s0 s1 r0 r1 ha hf E0 Et
  go_enter Try.func4, Try.ntmps4
  go_wp2_with fail
  refine hnew.mono ?_
  rintro e w1 ⟨s, X1, rfl, ⟨T, rfl, -, h1⟩, hb1⟩
  have H1 := Lib.hid h1
  have HB1 := Lib.hid hb1
  have hak := awake_any w1
  clear hnew h1 hb1
  go_wp2_with fail
  refine hak.mono ?_
  rintro e w2 ⟨rfl, hb2⟩
  have HB2 := Lib.hid (HB1.out.trans (hb2.mono HB1.out.size))
  have h2 := H1.out.call hb2
  have FS : Fits (ss : Int) := ⟨by have := HOK.out.s0; omega, by have := HOK.out.s1; omega⟩
  have FA : Fits a := ⟨by have := HOK.out.a0; omega, by have := HOK.out.a1; omega⟩
  have FF : Fits f := ⟨by have := HOK.out.f0; omega, by have := HOK.out.f1; omega⟩
  have hmk := make_r h2 Bnd.nil (by decide) FS FA FF
  rw [HOK.out.make.1, HOK.out.make.2] at hmk
  have H2 := Lib.hid h2
  have HFS := Lib.hid FS
  clear hak hb2 h2 FS FA FF
  go_upto_region 5 with fail
  rw [E1.out, E2.out]
  go_wp2_with fail
  refine hmk.mono ?_
  rintro e w3 ⟨rfl, hd⟩
  have HB3 := Lib.hid (HB2.out.trans (H2.out.down hd))
  obtain ⟨T3, t3, h3, -, f3⟩ := hd
  have hnb := make8 w3
  obtain ⟨b, hb⟩ : ∃ b, b = w3.heap.size := ⟨_, rfl⟩
  obtain ⟨W4, hW4⟩ : ∃ W4, W4 = w3.alloc (.cells #[.bool false, .bool false, .bool false, .bool false, .bool false, .bool false, .bool false, .bool false] 4) := ⟨_, rfl⟩
  rw [← hb, ← hW4] at hnb
  have g4 : Below w3.heap.size w3 W4 := by rw [hW4]; exact below_new _ _
  have H4 : Hid (∃ T', FSt w.heap.size w W4 T.s b ss a f 0 0 1 T') := by
    refine ⟨T3, t3, ObAt.call h3 g4, fun k hk e => ?_, ?_, ?_, HB3.out.trans (g4.mono HB3.out.size)⟩
    · have := h3.lt k hk; omega
    · rw [hW4, hb]; exact Lrow.new w3 _ (bitsV 0)
    · rw [hb]; exact HB3.out.size
  have HW4 := Lib.hid (And.intro hW4 hb)
  clear hmk t3 h3 f3 hW4 hb g4
  generalize T.s = s at H4 ⊢
  go_wp2_with fail
  go_loopw [11] (fun i wr => ∃ (j nn : Nat) (t : Int) (T' : ObT), j ≤ n ∧ j ≤ 40 ∧ i = .int .i64 j ∧ nn < 256 ∧ 0 ≤ t ∧ t ≤ 1 + j ∧ FSt w.heap.size w wr s b ss a f nn nn t T') (fun i _ => n - (RowKit.intOf i).toNat)
  case atStart =>
    obtain ⟨T', h⟩ := H4.out
    exact ⟨0, 0, 1, T', Nat.zero_le _, Nat.zero_le _, rfl, by decide, by decide, by decide, h⟩
  case round =>
    clear H4 HB3 HB2 HB1 H1 H2 HW4
    obtain ⟨j, nn, t, T', hj, hj40, rfl, hnn, t0, t1, hst⟩ := hrel
    by_cases hboth : j < n ∧ j < 40
    · obtain ⟨hlt, hlim⟩ := hboth
      obtain ⟨ad, rfl, hab, hc⟩ := (HA.out.below hst.bl) (by omega)
      obtain ⟨x, hx, hcell⟩ := hc j hlt
      have hjl : (j : Int) < n := by omega
      have hjm : (j : Int) < 40 := by omega
      have hj0 : (0 : Int) ≤ j := by omega
      have HST := Lib.hid hst
      obtain ⟨kk, hkk⟩ : ∃ kk : Nat, ((x : Int) % 8) = (kk : Int) := ⟨x % 8, by omega⟩
      have hk8 : kk < 8 := by omega
      have hw1 : IntKind.i64.wrap (a + (kk : Int)) = a + (kk : Int) := IntWalk.i64_in _ (by have := HA99.out; omega)
      have hw2 : IntKind.i64.wrap (f + (kk : Int)) = f + (kk : Int) := IntWalk.i64_in _ (by have := HA99.out; omega)
      have k1 : (kk : Int) < 8 := by omega
      have k0' : (0 : Int) ≤ kk := by omega
      have k0n : ¬ (kk : Int) < 0 := by omega
      have FP : Fits (a + (kk : Int)) := by unfold Fits; have := HA99.out; omega
      have HFP := Lib.hid FP
      have HT := Lib.hid (And.intro t0 (show t ≤ 41 by omega))
      have HJ := Lib.hid (And.intro t1 (And.intro hlt (And.intro hlim hj)))
      have HN := Lib.hid hnn
      have hfi := fill_r hst.ob (HOK.out.bnd hnn t0 (by omega)) (by decide) HFS.out FP
      rw [hst.ts] at hfi
      clear hst hc hab hx FP t0 t1 hj hj40
      go_upto_region 12 with fail
      rw [hkk]
      clear hkk hcell
      by_cases cb : nn.testBit kk = true
      · rw [(HOK.out.fill1 hk8 cb).1, (HOK.out.fill1 hk8 cb).2.1, (HOK.out.fill1 hk8 cb).2.2] at hfi
        have HC := Lib.hid (And.intro cb hk8)
        clear cb hk8
        go_wp2_with fail
        refine hfi.mono ?_
        rintro e w5 ⟨rfl, hd⟩
        obtain ⟨T5, h5⟩ := HST.out.did hd
        have c0 : w5.cell? ⟨b, kk, none⟩ = some (.bool true) := (h5.row.cell kk).trans (by rw [bitsV_get HN.out HC.out.2, HC.out.1])
        have hcl := clear_r h5.ob (HOK.out.bnd HN.out HT.out.1 (by have := HT.out.2; omega)) (by decide) HFS.out HFP.out
        rw [h5.ts, (HOK.out.clear1 HC.out.2 HC.out.1).1, (HOK.out.clear1 HC.out.2 HC.out.1).2] at hcl
        have H5 := Lib.hid h5
        clear hfi hd h5
        go_wp2_with fail
        refine hcl.mono ?_
        rintro e w6 ⟨rfl, hd⟩
        obtain ⟨T6, h6⟩ := H5.out.did hd
        have hcb : ¬ (setB nn kk false).testBit kk = true := by rw [testBit_set HN.out HC.out.2 HC.out.2, if_pos rfl]; decide
        have hcl := clear_r h6.ob (HOK.out.bnd (setB_lt HN.out HC.out.2 false) (by have := HT.out.1; omega) (by have := HT.out.2; omega)) (by decide) HFS.out HFP.out
        rw [h6.ts, (HOK.out.clear0 HC.out.2 hcb).1, (HOK.out.clear0 HC.out.2 hcb).2] at hcl
        have H6 := Lib.hid h6
        clear hd h6 hcb c0
        go_wp2_with fail
        refine hcl.mono ?_
        rintro e w7 ⟨rfl, hd⟩
        obtain ⟨T7, h7⟩ := H6.out.did hd
        have c0 : w7.cell? ⟨b, kk, none⟩ = some (.bool true) := (h7.row.cell kk).trans (by rw [bitsV_get HN.out HC.out.2, HC.out.1])
        have y0 := h7.row.frozen kk
        have H7 := Lib.hid h7
        clear hd h7 hcl
        go_wp2_with fail
        go_roundw
        case rel => exact ⟨j + 1, setB nn kk false, t + 1, T7, by have := HJ.out.2.1; omega, by have := HJ.out.2.2.1; omega, by go_num, setB_lt HN.out HC.out.2 false, by have := HT.out.1; omega, by have := HJ.out.1; omega, H7.out.store (set_bitsV HN.out HC.out.2 false)⟩
        case measure => simp [RowKit.intOf]; omega
      · have cb' : nn.testBit kk = false := by simpa using cb
        rw [(HOK.out.fill0 hk8 cb).1, (HOK.out.fill0 hk8 cb).2.1, (HOK.out.fill0 hk8 cb).2.2] at hfi
        have HC := Lib.hid (And.intro cb' hk8)
        clear cb cb' hk8
        go_wp2_with fail
        refine hfi.mono ?_
        rintro e w5 ⟨rfl, hd⟩
        obtain ⟨T5, h5⟩ := HST.out.did hd
        have c0 : w5.cell? ⟨b, kk, none⟩ = some (.bool false) := (h5.row.cell kk).trans (by rw [bitsV_get HN.out HC.out.2, HC.out.1])
        have y0 := h5.row.frozen kk
        have H5 := Lib.hid h5
        clear hfi hd h5
        go_wp2_with fail
        go_roundw
        case rel => exact ⟨j + 1, setB nn kk true, t + 1, T5, by have := HJ.out.2.1; omega, by have := HJ.out.2.2.1; omega, by go_num, setB_lt HN.out HC.out.2 true, by have := HT.out.1; omega, by have := HJ.out.1; omega, H5.out.store (set_bitsV HN.out HC.out.2 true)⟩
        case measure => simp [RowKit.intOf]; omega
    · have hw3 : IntKind.i64.wrap (a + 3) = a + 3 := IntWalk.i64_in _ (by have := HA99.out; omega)
      have FP : Fits (a + 3) := by unfold Fits; have := HA99.out; omega
      have HT := Lib.hid (And.intro t0 (show t ≤ 41 by omega))
      have hbk := break_r hst.ob (HOK.out.bnd hnn t0 (by omega)) HFS.out FP
      have hb3 := HOK.out.brk (kk := 3) (nn := nn) (t := t) (by decide)
      rw [show a + ((3 : Nat) : Int) = a + 3 from rfl] at hb3
      obtain ⟨ln, hln⟩ : ∃ ln, ln = (opK nn f 8).length := ⟨_, rfl⟩
      rw [hst.ts, hb3.1, hb3.2.1, hb3.2.2, ← opK_all, ← hln] at hbk
      have HST := Lib.hid hst
      have HL := Lib.hid hln
      have HN := Lib.hid hnn
      have HBN : Hid (Bnd 60 ⟨[], t⟩) := by
        have := (HOK.out.bnd (nn := nn) hnn t0 (show t ≤ 60 by omega)).brk ss (a + 3)
        rw [hb3.2.2] at this
        exact this
      clear hst FP hb3 hln t0 t1 hnn
      by_cases hlt : j < n
      case' pos => have hlim : ¬ (j : Int) < 40 := by omega
      all_goals
        clear hboth hj40
        go_wp2_with fail
        refine hbk.mono ?_
        rintro e w5 ⟨A5, c5, rfl, -, hd⟩
        have hrow := hd.choose_spec.2.2.1.row HST.out.row (fun e => HST.out.ap b e rfl)
        have HB5 : Hid (Below w.heap.size w w5) := HST.out.bl.trans (HST.out.ob.down hd)
        obtain ⟨T5, t5, o5, -, -⟩ := hd
        have H5 := Lib.hid (And.intro (t5.trans HST.out.ts) (And.intro o5 hrow))
        clear hbk hrow t5 o5
        go_wp2_with fail
        go_loopw [17, 18] (fun nv i wv => ∃ r : Nat, r ≤ 8 ∧ i = .int .i64 r ∧ nv = .int .i64 (opK nn f r).length ∧ w5 = wv) (fun _ i _ => 8 - (RowKit.intOf i).toNat)
        case atStart => exact ⟨0, Nat.zero_le _, rfl, rfl, rfl⟩
        case round =>
          obtain ⟨r, hr, rfl, rfl, rfl⟩ := hrel
          by_cases hrl : r < 8
          · have c0 := (H5.out.2.2.cell r).trans (bitsV_get HN.out hrl)
            have HS := Lib.hid (opK_len_succ nn f r)
            have hle := opK_len nn f r
            obtain ⟨l8, hl⟩ : ∃ l8, l8 = (opK nn f r).length := ⟨_, rfl⟩
            rw [← hl] at HS hle ⊢
            have r1 : (r : Int) < 8 := by omega
            have r0 : (0 : Int) ≤ r := by omega
            have r0n : ¬ (r : Int) < 0 := by omega
            have hwl : IntKind.i64.wrap ((l8 : Int) + 1) = (l8 : Int) + 1 := IntWalk.i64_in _ (by omega)
            clear hl
            by_cases cb : nn.testBit r = true
            · have HE : Hid ((opK nn f (r + 1)).length = l8) := by show _ = _; rw [HS.out, if_pos cb]
              rw [cb] at c0
              clear cb
              go_wp2_with fail
              go_roundw
              case rel => exact ⟨r + 1, by omega, by go_num, by rw [HE.out], trivial⟩
              case measure => simp [RowKit.intOf]; omega
            · have HE : Hid ((opK nn f (r + 1)).length = l8 + 1) := by show _ = _; rw [HS.out, if_neg cb]
              have cb' : nn.testBit r = false := by simpa using cb
              rw [cb'] at c0
              clear cb cb'
              go_wp2_with fail
              go_roundw
              case rel => exact ⟨r + 1, by omega, by go_num, by rw [HE.out]; rfl, trivial⟩
              case measure => simp [RowKit.intOf]; omega
          · obtain rfl : r = 8 := by omega
            rw [← HL.out]
            have hal := all_r H5.out.2.1 HBN.out (by decide)
            unfold ToldR at hal
            rw [H5.out.1, show ([] : List Rv).length = 0 from rfl] at hal
            go_wp2_with fail
            refine hal.mono ?_
            rintro e w6 ⟨A6, c6, rfl, -, hb6⟩
            have HB6 := Lib.hid (HB5.out.trans (hb6.mono HB5.out.size))
            clear hal hb6
            go_wp2_with fail
            go_ret
            exact ⟨ret_bool (by simp), HB6.out⟩
end Go.Proofs.Ytfalmjibpkkjaaa
