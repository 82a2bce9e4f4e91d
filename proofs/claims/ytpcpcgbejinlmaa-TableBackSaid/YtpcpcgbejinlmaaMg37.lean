/- All tables of a root are given back: the contract of Drop. -/
import Derived.Test.YtpcpcgbejinlmaaMg29
import Derived.Test.YtpcpcgbejinlmaaMg36
import Derived.Test.YtpcpcgbejinlmaaMg27
import Derived.Test.YtpcpcgbejinlmaaMg28
namespace Go.Proofs.Ytpcpcgbejinlmaa
open Go.RowKit
section
variable {w : World} {s : Seat} {v : Value} {ws L R : List Int}
theorem drop_not (h : Tab w s v ws L R) (r : Int) (hr : Fits r) (hin : r ∉ R) : Calls Try.prog 12 #[.pointer (some ⟨s.x, 0, none⟩), .int .i64 r] w fun e w' => e = .returned (.int .i64 3) ∧ Below w.heap.size w w' := by
  have hcr := checkRoot_any h r hr
  rw [show rtE R r = 3 from if_neg hin] at hcr
  clear h
  go_enter Try.func12, Try.ntmps12
  go_wp2_with fail
  refine hcr.mono ?_
  rintro e w1 ⟨rfl, hb⟩
  have HB := Lib.hid hb
  clear hcr hb
  go_wp2_with fail
  go_ret
  exact ⟨rfl, HB.out⟩
set_option maxHeartbeats 2000000 in
theorem tdrop_any (h : Tab w s v ws L R) (hLl : L.length ≤ 900) (r : Int) (hr : Fits r) (hin : r ∈ R) (hg : Good ws 3 r) : Calls Try.prog 12 #[.pointer (some ⟨s.x, 0, none⟩), .int .i64 r] w fun e w' => e = .returned (.int .i64 0) ∧ ∃ v', Tab w' s v' ws (L ++ (tabs ws 3 r).reverse) (R.erase r) ∧ Mv s v w v' w' := by
  have hcr := checkRoot_any h r hr
  rw [show rtE R r = 0 from if_pos hin] at hcr
  have hlen := h.ram.len
  have HL : Hid (L.length ≤ 900 ∧ (tabs ws 3 r).length ≤ 1023) := ⟨hLl, by have := tabs_len ws 3 r; omega⟩
  have H0 := Lib.hid h
  obtain ⟨l, hl⟩ : ∃ l, l = tabs ws 3 r := ⟨_, rfl⟩
  rw [← hl] at HL ⊢
  have HIL := Lib.hid hl
  clear h hLl hl
  go_enter Try.func12, Try.ntmps12
  go_wp2_with fail
  refine hcr.mono ?_
  rintro e w1 ⟨rfl, hb1⟩
  have h1 := H0.out.call hb1
  have H1 := Lib.hid (And.intro h1 hb1)
  have htb := tabs_any h1 r hr (fun _ => hg) hlen
  have eT : thT ws R r = tabs ws 3 r := if_pos hin
  rw [eT] at htb
  rw [← HIL.out] at htb
  obtain ⟨n, hn⟩ : ∃ n, n = l.length := ⟨_, rfl⟩
  rw [← hn] at htb
  have HN := Lib.hid hn
  have HIN := Lib.hid hin
  clear hcr hb1 h1 eT hn hlen hg hin
  go_wp2_with fail
  refine htb.mono ?_
  rintro e w2 ⟨A, c, rfl, ho, hb2⟩
  have h2 := H1.out.1.call hb2
  have hlo : Loc w2 s v A n l := by
    have ho' := ho
    rw [HN.out] at ho'
    have := ints_of_own ho'
    rw [← HN.out] at this
    exact Loc.new H1.out.1 this fun x e => (ho.lt x.block (by rw [e]; rfl)).1
  obtain ⟨w3, hd, hg3, hs3⟩ := h2.set.drop hr HIN.out 0
  have m3 : Mv s v w2 v w3 := Mv.turned hg3 (Or.inr (Or.inr (Or.inl rfl)))
  have h3 := h2.setTurned hs3 hg3
  have hgv := give_any h3 c (hlo.mv m3) (by have := HL.out; omega)
  have HM := Lib.hid ((Mv.of_below (s := s) (v := v) (H1.out.2.trans (hb2.mono H1.out.2.size))).trans m3)
  obtain ⟨c0, c1, c2⟩ := h2.cells
  clear htb ho hb2 h2 hlo hg3 hs3 m3 h3 c0 c1
  go_wp2_with fail
  refine hgv.mono ?_
  rintro e w4 ⟨rfl, v4, h4, m4⟩
  have H4 := Lib.hid (And.intro h4 m4)
  clear hgv h4 m4
  go_wp2_with fail
  go_ret
  exact ⟨rfl, v4, H4.out.1, HM.out.trans H4.out.2⟩
end
end Go.Proofs.Ytpcpcgbejinlmaa
/- What nil tables answer; a root that there is not. -/
namespace Go.Proofs.Ytpcpcgbejinlmaa
open Go.RowKit
section
variable {w : World} {s : Seat} {v : Value} {ws L R : List Int}
end
end Go.Proofs.Ytpcpcgbejinlmaa
