/- Reservations: what must come at any rate. -/
import Derived.Test.YtfalmjibpkkjaaaL1
namespace Go.Proofs.Ytfalmjibpkkjaaa
open Go.RowKit
def aw1 : Rs := ⟨[⟨0, 8, 16, 0, 1⟩], 1⟩
def aw2 : Rs := ⟨[⟨0, 8, 16, 2, 2⟩], 2⟩
theorem awE1 : mkE ⟨[], 0⟩ 0 8 16 = 0 := by kernel_rfl
theorem awS1 : mkS ⟨[], 0⟩ 0 8 16 = aw1 := by kernel_rfl
theorem awV2 : fiV aw1 0 9 = 17 := by kernel_rfl
theorem awE2 : fiE aw1 0 9 = 0 := by kernel_rfl
theorem awS2 : fiS aw1 0 9 = aw2 := by kernel_rfl
theorem awH2 : hdV aw2.L = 7 := by kernel_rfl
theorem awV3 : brV aw2 0 8 = [16, 18, 19, 20, 21, 22, 23] := by kernel_rfl
theorem awE3 : brE aw2 0 8 = 0 := by kernel_rfl
theorem awS3 : brS aw2 0 8 = ⟨[], 2⟩ := by kernel_rfl
set_option maxRecDepth 100000 in
set_option maxHeartbeats 2000000 in
theorem awake_any (w : World) : Calls Try.prog 9 #[] w fun e w' => e = .returned (.bool true) ∧ Below w.heap.size w w' := by
  have hnew := new_r w
  have B0 : Bnd 0 ⟨[], 0⟩ := Bnd.nil
  have B1 : Bnd 1 aw1 := by rw [← awS1]; exact B0.make 0 8 16 (by decide)
  have B2 : Bnd 2 aw2 := by rw [← awS2]; exact B1.fill 0 9
  have B3 : Bnd 2 ⟨[], 2⟩ := by rw [← awS3]; exact B2.brk 0 8
  have f0 : Fits 0 := by unfold Fits; omega
  have f8 : Fits 8 := by unfold Fits; omega
  have f9 : Fits 9 := by unfold Fits; omega
  have f16 : Fits 16 := by unfold Fits; omega
  have HBN := Lib.hid (And.intro B0 (And.intro B1 (And.intro B2 B3)))
  have HF := Lib.hid (And.intro f0 (And.intro f8 (And.intro f9 f16)))
  clear B0 B1 B2 B3 f0 f8 f9 f16
  go_enter Try.func9, Try.ntmps9
  go_wp2_with fail
  refine hnew.mono ?_
  rintro e w1 ⟨s, X1, rfl, ⟨T, rfl, -, h1⟩, hb1⟩
  have hmk := make_r h1 HBN.out.1 (by decide) HF.out.1 HF.out.2.1 HF.out.2.2.2
  rw [awE1, awS1] at hmk
  have HB1 := Lib.hid hb1
  have H1 := Lib.hid h1
  clear hnew hb1 h1
  go_wp2_with fail
  refine hmk.mono ?_
  rintro e w2 ⟨rfl, hd⟩
  have HB2 := Lib.hid (HB1.out.trans (H1.out.down hd))
  obtain ⟨T2, t2, h2, -, -⟩ := hd
  have hfi := fill_r h2 HBN.out.2.1 (by decide) HF.out.1 HF.out.2.2.1
  rw [awV2, awE2, awS2, t2] at hfi
  have H2 := Lib.hid (And.intro t2 h2)
  clear hmk h2 t2
  go_wp2_with fail
  refine hfi.mono ?_
  rintro e w3 ⟨rfl, hd⟩
  have HB3 := Lib.hid (HB2.out.trans (H2.out.2.down hd))
  obtain ⟨T3, t3, h3, -, -⟩ := hd
  have hhe := held_all h3 HBN.out.2.2.1 (by decide)
  rw [awH2, t3, H2.out.1] at hhe
  have H3 := Lib.hid (And.intro (t3.trans H2.out.1) h3)
  clear hfi h3 t3
  go_wp2_with fail
  refine hhe.mono ?_
  rintro e w4 ⟨rfl, hb4⟩
  have h4 := H3.out.2.call hb4
  have hbr := break_r h4 HBN.out.2.2.1 HF.out.1 HF.out.2.1
  rw [awV3, awE3, awS3, H3.out.1] at hbr
  have HB4 := Lib.hid (HB3.out.trans (hb4.mono H3.out.2.lw))
  have H4 := Lib.hid h4
  clear hhe h4 hb4
  go_wp2_with fail
  refine hbr.mono ?_
  rintro e w5 ⟨A, c, rfl, ho, hd⟩
  have HB5 := Lib.hid (HB4.out.trans (H4.out.down hd))
  obtain ⟨T5, t5, h5, -, -⟩ := hd
  obtain ⟨g, hg, -, -, -, hat⟩ := ho.some_ (by decide)
  subst hg
  have c0 : w5.cell? ⟨g, 0, none⟩ = some (.int .i64 16) := hat 0 (by decide) 0 (by decide)
  have hhe := held_all h5 HBN.out.2.2.2 (by decide)
  rw [t5, H3.out.1, show hdV ([] : List Rv) = 0 from rfl] at hhe
  have H5 := Lib.hid h5
  clear hbr h5 t5 ho hat
  go_wp2_with fail
  refine hhe.mono ?_
  rintro e w6 ⟨rfl, hb6⟩
  have HB6 := Lib.hid (HB5.out.trans (hb6.mono H5.out.lw))
  clear hhe hb6
  go_wp2_with fail
  go_ret
  exact ⟨rfl, HB6.out⟩
end Go.Proofs.Ytfalmjibpkkjaaa
