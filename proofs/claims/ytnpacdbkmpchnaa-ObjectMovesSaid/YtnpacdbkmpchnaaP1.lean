/- Objects: what must come at any rate. -/
import Derived.Test.YtnpacdbkmpchnaaP0
namespace Go.Proofs.Ytnpacdbkmpchnaa
open Go.RowKit
theorem frs9 : frs [⟨0, 3, 9⟩] 0 = [9] := by
  have hg : Good [1] [⟨0, 3, 9⟩] := ((Good.nil.make).set 0 3 9)
  refine (frs_is hg (R := [9]) (by simp) fun f => ?_).symm
  simp only [List.mem_singleton]
  constructor
  · rintro rfl; exact ⟨_, rfl, rfl, rfl⟩
  · rintro ⟨x, rfl, _, rfl⟩; rfl
set_option maxRecDepth 100000 in
set_option maxHeartbeats 2000000 in
theorem awake_any (I : ObI) (w : World) : Calls Try.prog 9 #[] w fun e w' => e = .returned (.bool true) ∧ Below w.heap.size w w' := by
  have hnew := I.new w
  have B0 : Bnd 200 [] [] := Bnd.nil.mono (by decide)
  have B1 : Bnd 200 [1] [] := (Bnd.nil.make).mono (by decide)
  have B2 : Bnd 200 [1] [⟨0, 3, 9⟩] := ((Bnd.nil.make).set 0 3 9).mono (by decide)
  have B3 : Bnd 200 [2] [⟨0, 3, 9⟩] := (((Bnd.nil.make).set 0 3 9).hold 0).mono (by decide)
  have B5 : Bnd 200 [0] [] := ((((Bnd.nil.make).set 0 3 9).drop 0)).mono (by decide)
  have f0 : Fits 0 := by unfold Fits; omega
  have f3 : Fits 3 := by unfold Fits; omega
  have f9 : Fits 9 := by unfold Fits; omega
  have HBN := Lib.hid (And.intro B0 (And.intro B1 (And.intro B2 (And.intro B3 B5))))
  clear B0 B1 B2 B3 B5
  go_enter Try.func9, Try.ntmps9
  go_wp2_with fail
  refine hnew.mono ?_
  rintro e w1 ⟨s, X1, rfl, h1, hb1⟩
  have hmk := I.make h1 HBN.out.1
  rw [show mkH ([] : List Int) = [1] from rfl, show (([] : List Int).length : Int) = 0 from rfl] at hmk
  have HB1 := Lib.hid hb1
  have H1 := Lib.hid h1
  clear hnew hb1 h1
  go_wp2_with fail
  refine hmk.mono ?_
  rintro e w2 ⟨rfl, hd⟩
  have HB2 := Lib.hid (HB1.out.trans (I.down H1.out hd))
  obtain ⟨X2, h2, -, -⟩ := hd
  have hst := I.set h2 HBN.out.2.1 0 3 9 f0 f3 f9
  rw [show seE [1] [] 0 3 9 = 0 by decide, show seL [1] [] 0 3 9 = [⟨0, 3, 9⟩] by decide] at hst
  have H2 := Lib.hid h2
  clear hmk h2
  go_wp2_with fail
  refine hst.mono ?_
  rintro e w3 ⟨rfl, hd⟩
  have HB3 := Lib.hid (HB2.out.trans (I.down H2.out hd))
  obtain ⟨X3, h3, -, -⟩ := hd
  have hho := I.hold h3 HBN.out.2.2.1 0 f0
  rw [show hoE [1] 0 = 0 by decide, show hoH [1] 0 = [2] by decide] at hho
  have H3 := Lib.hid h3
  clear hst h3
  go_wp2_with fail
  refine hho.mono ?_
  rintro e w4 ⟨rfl, hd⟩
  have HB4 := Lib.hid (HB3.out.trans (I.down H3.out hd))
  obtain ⟨X4, h4, -, -⟩ := hd
  have hdr := I.drop h4 HBN.out.2.2.2.1 0 f0
  rw [show hoE [2] 0 = 0 by decide, show drH [2] 0 = [1] by decide, show drL [2] [⟨0, 3, 9⟩] 0 = [⟨0, 3, 9⟩] by decide, show drT [2] [⟨0, 3, 9⟩] 0 = [] from rfl] at hdr
  have H4 := Lib.hid h4
  clear hho h4
  go_wp2_with fail
  refine hdr.mono ?_
  rintro e w5 ⟨A5, c5, rfl, -, hd⟩
  have HB5 := Lib.hid (HB4.out.trans (I.down H4.out hd))
  obtain ⟨X5, h5, -, -⟩ := hd
  have hdr := I.drop h5 HBN.out.2.2.1 0 f0
  rw [show hoE [1] 0 = 0 by decide, show drH [1] 0 = [0] by decide, show drL [1] [⟨0, 3, 9⟩] 0 = [] by decide, show drT [1] [⟨0, 3, 9⟩] 0 = [9] from frs9] at hdr
  have H5 := Lib.hid h5
  clear h5
  go_wp2_with fail
  refine hdr.mono ?_
  rintro e w6 ⟨A6, c6, rfl, ho6, hd⟩
  have HB6 := Lib.hid (HB5.out.trans (I.down H5.out hd))
  obtain ⟨X6, h6, -, -⟩ := hd
  have hbn := below_new w6 (.cells #[.int .i64 9] 3)
  have HBN6 := Lib.hid (HB6.out.trans (hbn.mono HB6.out.size))
  have hm : EI.Ls (w6.alloc (.cells #[.int .i64 9] 3)) (some ⟨w6.heap.size, 0, none⟩) [9] := fun _ => ⟨w6.heap.size, rfl, by simp, fun j hj i hi => by
    have hj0 : j = 0 := by simpa using hj
    have hi0 : i = 0 := by change i < 1 at hi; omega
    subst hj0 hi0
    exact (Lrow.new w6 3 [.int .i64 9]).cell 0⟩
  have hnm := numbers_yes (c := c6) (c' := 1) (n := 1) (m := 1) ((ho6.call hbn).ls) hm rfl rfl (by decide)
  have H6 := Lib.hid (I.call h6 hbn)
  clear hdr ho6 hbn hm h6
  go_wp2_with fail
  refine hnm.mono ?_
  rintro e w7 ⟨rfl, hb7⟩
  have HB7 := Lib.hid (HBN6.out.trans (hb7.mono HBN6.out.size))
  have hln := I.len (I.call H6.out hb7) HBN.out.2.2.2.2
  rw [show lenI [0] = 0 by decide] at hln
  clear hnm hb7
  go_wp2_with fail
  refine hln.mono ?_
  rintro e w8 ⟨rfl, hb8⟩
  have HB8 := Lib.hid (HB7.out.trans (hb8.mono HB7.out.size))
  clear hln hb8
  go_wp2_with fail
  go_ret
  exact ⟨rfl, HB8.out⟩
end Go.Proofs.Ytnpacdbkmpchnaa
