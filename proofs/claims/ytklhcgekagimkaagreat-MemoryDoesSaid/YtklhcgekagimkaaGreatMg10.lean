/- The contracts of around, join, halves and carve. -/
import Derived.Test.YtklhcgekagimkaaGreatMg09
namespace Go.Proofs.YtklhcgekagimkaaGreat
variable {Xc : Nat → Prop}
open Go.RowKit

section
variable {w : World} {B a n : Nat} {L : Nat → List Nat}
theorem has_at (h : BudAt Xc B w a n L) {k : Nat} (hk : k ≤ 8) (hu : Up (L k)) (hl : (L k).length ≤ 4096) (x : Int) :
    Calls Tryz.prog 120 #[.pointer (some ⟨a, 0, none⟩), .agg #[.int .i64 x, .int .i64 k]] w fun e w' => e = .returned (.bool (memX x (L k))) ∧ Below w.heap.size w w' := by
  obtain ⟨p, c, h⟩ := h; exact has_any h hk hu hl x
theorem drop_at (h : BudAt Xc B w a n L) {k x : Nat} (hk : k ≤ 8) (hu : Up (L k)) (hl : (L k).length ≤ 4096) (hx : x ∈ L k) :
    Calls Tryz.prog 122 #[.pointer (some ⟨a, 0, none⟩), .agg #[.int .i64 x, .int .i64 k]] w fun e w' => e = .returned (.tuple #[]) ∧ Turn Xc B w w' ∧ BudAt Xc B w' a n (upd L k (remL x (L k))) := by
  obtain ⟨p, c, h⟩ := h; exact drop_any h hk hu hl hx
theorem put_at (h : BudAt Xc B w a n L) {k x : Nat} (hk : k ≤ 8) (hu : Up (L k)) (hl : (L k).length ≤ 4096) :
    Calls Tryz.prog 124 #[.pointer (some ⟨a, 0, none⟩), .agg #[.int .i64 x, .int .i64 k]] w fun e w' => e = .returned (.tuple #[]) ∧ Turn Xc B w w' ∧ BudAt Xc B w' a n (upd L k (insL x (L k))) := by
  obtain ⟨p, c, h⟩ := h; exact put_any h hk hu hl
/-- All lists rise, and are not too long. -/
def Fine (L : Nat → List Nat) : Prop := ∀ k, k ≤ 8 → Up (L k) ∧ (L k).length ≤ 4096
theorem Good.fine {F : List Bool} {L : Nat → List Nat} (h : Good F L) (hn : F.length ≤ 1024) : Fine L := fun k hk => ⟨h.rise k hk, by have := h.len hk; omega⟩

/-- The first free block, from order k on, that f lies in. -/
def Around (L : Nat → List Nat) (f : Int) (k : Nat) (w : World) (e : Ending) (w' : World) : Prop :=
  Below w.heap.size w w' ∧ ((∃ j : Nat, k ≤ j ∧ j ≤ 8 ∧ memX (dnZ f j) (L j) = true ∧ e = .returned (.tuple #[.agg #[.int .i64 (dnZ f j), .int .i64 j], .bool true])) ∨
    ((∀ j : Nat, k ≤ j → j ≤ 8 → memX (dnZ f j) (L j) = false) ∧ e = .returned (.tuple #[.agg #[.int .i64 0, .int .i64 0], .bool false])))
theorem around_any (h : BudAt Xc B w a n L) (hF : Fine L) (f : Int) {k : Nat} (hk : k ≤ 8) (hl : -9223372036854775808 ≤ f) (hh : f ≤ 9223372036854775807) :
    Calls Tryz.prog 106 #[.pointer (some ⟨a, 0, none⟩), .agg #[.int .i64 f, .int .i64 k]] w (Around L f k w) := by
  have HL := Lib.hid h
  clear h
  go_enter Tryz.func106, Tryz.ntmps106
  go_wp2_with fail
  go_loopw [6] (fun s wr => ∃ i : Nat, k ≤ i ∧ i ≤ 9 ∧ s = .int .i64 i ∧ (∀ j : Nat, k ≤ j → j < i → memX (dnZ f j) (L j) = false) ∧ Lrow wr w.heap.size 92 [.int .i64 f, .int .i64 k] ∧ Lrow wr (w.heap.size + 1) 92 [.int .i64 0, .int .i64 0] ∧ Below w.heap.size w wr) (fun s _ => 9 - (intOf s).toNat)
  case atStart => exact ⟨k, Nat.le_refl _, by omega, rfl, fun j h1 h2 => by omega, (Lrow.new w _ _).alloc _, by have := Lrow.new (w.alloc (.cells #[.int .i64 f, .int .i64 k] 92)) 92 [.int .i64 0, .int .i64 0]; rw [World.size_alloc] at this; exact this, ((Below.refl _ _).alloc (Nat.le_refl _) _).alloc (by simp) _⟩
  case round =>
    obtain ⟨i, hi1, hi2, rfl, hq, hb0, hb1, hbel⟩ := hrel
    by_cases hlt : i ≤ 8
    · have hc := hb0.cell 0
      have hD := down_any f i hlt hl hh
      have hX := HL.out.call hbel
      have hwr : w.heap.size ≤ wr.heap.size := hbel.size
      have HM : Hid (∀ W, BudAt Xc B W a n L → Calls Tryz.prog 120 #[.pointer (some ⟨a, 0, none⟩), .agg #[.int .i64 (dnZ f i), .int .i64 i]] W fun e w' => e = .returned (.bool (memX (dnZ f i) (L i))) ∧ Below W.heap.size W w') := fun W h => has_at h hlt (hF i hlt).1 (hF i hlt).2 (dnZ f i)
      have HX := Lib.hid hX
      have HQ := Lib.hid hq
      have H0 := Lib.hid hb0
      have H1 := Lib.hid hb1
      have HB := Lib.hid hbel
      clear hX hq hb0 hb1 hbel hF
      cases hm : memX (dnZ f i) (L i) with
      | true =>
        have HME := Lib.hid hm
        rw [hm] at HM
        clear hm
        go_wp2_with (first | (go_at_call 123; refine (hD _).mono ?_; rintro e w' ⟨rfl, rfl⟩) | (go_at_call 120; refine (HM.out _ (HX.out.alloc _)).mono ?_; rintro e w2 ⟨rfl, hb2⟩; have HB2 := Lib.hid hb2; have h1 := (H1.out.alloc _).call hb2; have c10 := h1.cell 0; have c11 := h1.cell 1; have f10 := h1.frozen 0; have f11 := h1.frozen 1; have hn := (Lrow.new wr _ _).call hb2; have n0 := hn.cell 0; have n1 := hn.cell 1; have HH1 := Lib.hid h1; clear h1 hn hb2))
        exact bodyPost_ret (v := .tuple #[.agg #[.int .i64 (dnZ f i), .int .i64 i], .bool true]) (by simp [results, Tryz.results106, go_sem, *]) rfl ⟨((((HB.out.alloc hwr _).trans (HB2.out.mono (by simp; omega))).setCell (by simp) _).setCell (by simp) _), Or.inl ⟨i, hi1, hlt, HME.out, rfl⟩⟩
      | false =>
        have HME := Lib.hid hm
        rw [hm] at HM
        clear hm
        go_wp2_with (first | (go_at_call 123; refine (hD _).mono ?_; rintro e w' ⟨rfl, rfl⟩) | (go_at_call 120; refine (HM.out _ (HX.out.alloc _)).mono ?_; rintro e w2 ⟨rfl, hb2⟩; have HB2 := Lib.hid hb2; clear hb2))
        go_roundw
        case rel => exact ⟨i + 1, by omega, by omega, by go_num, fun j h1 h2 => by
            rcases Nat.lt_or_ge j i with g | g
            · exact HQ.out j h1 g
            · obtain rfl : j = i := by omega
              exact HME.out, (H0.out.alloc _).call HB2.out, (H1.out.alloc _).call HB2.out, (HB.out.alloc hwr _).trans (HB2.out.mono (by simp; omega))⟩
        case measure => simp [intOf]; omega
    · have c10 := hb1.cell 0
      have c11 := hb1.cell 1
      have f10 := hb1.frozen 0
      have f11 := hb1.frozen 1
      have h9 : i = 9 := by omega
      have HQ := Lib.hid hq
      have H1 := Lib.hid hb1
      have HB := Lib.hid hbel
      have h8 : ¬ (i : Int) ≤ 8 := by omega
      clear hq hb0 hb1 hbel hF hlt
      go_wp2
      exact bodyPost_ret (v := .tuple #[.agg #[.int .i64 0, .int .i64 0], .bool false]) (by simp [results, Tryz.results106, go_sem, *]) rfl ⟨((HB.out.setCell (by simp) _).setCell (by simp) _), Or.inr ⟨fun j h1 h2 => HQ.out j h1 (by omega), rfl⟩⟩
/-- The lists have become those of the frames G. -/
def Become (Xc : Nat → Prop) (B a n : Nat) (G : List Bool) (w : World) (e : Ending) (w' : World) : Prop := e = .returned (.tuple #[]) ∧ Turn Xc B w w' ∧ ∃ L', BudAt Xc B w' a n L' ∧ Good G L'
theorem join_any {F G : List Bool} (h : BudAt Xc B w a n L) (hG : Good F L) (hn : G.length ≤ 1024) {x k : Nat} (hj : Join G F x k) :
    Calls Tryz.prog 99 #[.pointer (some ⟨a, 0, none⟩), .agg #[.int .i64 x, .int .i64 k]] w (Become Xc B a n G w) := by
  have HS := Lib.hid (show ∃ F' L' y j, y = x ∧ j = k ∧ Join G F' y j ∧ Good F' L' ∧ BudAt Xc B (w.alloc (.cells #[.int .i64 x, .int .i64 k] 92)) a n L' from ⟨F, L, x, k, rfl, rfl, hj, hG, h.alloc _⟩)
  have hlo := h.lo
  have hal := h.lt
  clear h hG hj
  go_enter Tryz.func99, Tryz.ntmps99
  go_wp2_with fail
  go_loopg [4] 9 (fun g s4 wr => ∃ (F' : List Bool) (L' : Nat → List Nat) (y j : Nat), 8 - j < g ∧ Join G F' y j ∧ Good F' L' ∧ BudAt Xc B wr a n L' ∧ Lrow wr w.heap.size 92 [.int .i64 y, .int .i64 j] ∧ Turn Xc B w wr)
  case atStart =>
    obtain ⟨F', L', y, j, rfl, rfl, h1, h2, h3⟩ := HS.out
    exact ⟨F', L', _, _, by omega, h1, h2, h3, Lrow.new w _ _, (Turn.refl B w).alloc hlo _⟩
  case round =>
    obtain ⟨F', L', y, j, hg, hJ, hG, hX, hb, hT⟩ := hrel
    have hlen : F'.length = G.length := by rw [← hJ.eq, setR_length]
    have hfine := hG.fine (by omega)
    have hj8 := hJ.k8
    have hy : y ≤ 1024 := by have := hJ.fit; have := two_pos j; omega
    have hy2 : y ≤ 4611686018427387904 := by omega
    have c0 := hb.cell 0
    have c1 := hb.cell 1
    have hlo' := hX.lo
    have HB := Lib.hid hb
    have HT := Lib.hid hT
    have HX := Lib.hid hX
    have HN := Lib.hid hlen
    clear hb hT hX hlen
    by_cases hlt : j < 8
    · have hmem := hJ.mem hG
      have hsl : sib y j ≤ 1024 + 256 := by
        have := Nat.pow_le_pow_right (by omega : 0 < 2) hj8
        have := Nat.sub_le y (2 ^ j)
        unfold sib; split <;> omega
      by_cases hs : sib y j ∈ L' j
      · have HM := Lib.hid (show memX (sib y j : Nat) (L' j) = true by rw [memX_nat]; simp [hs])
        have hF := hmem.1 hs
        have HJ := Lib.hid (hJ.next hlt hF)
        have HG := Lib.hid (hG.drop hj8 hs)
        have HSM := Lib.hid hs
        have hdn := down_any y (j + 1) (by omega) (by omega) (by omega)
        have hpar : dnZ y (j + 1) = (par y j : Nat) := by rw [dnZ_nat]; rfl
        rw [hpar] at hdn
        have HF := Lib.hid hfine
        clear hmem hs hF hJ hG hfine hpar
        go_wp2_with fail
        refine (beside_any hj8 hy2 _).mono ?_
        rintro e w1 ⟨rfl, hb1⟩
        have HX1 := Lib.hid (HX.out.call hb1)
        have HB1 := Lib.hid (HB.out.call hb1)
        have HT1 := Lib.hid (HT.out.trans (Turn.of_below hb1 hlo'))
        clear hb1
        go_wp2_with fail
        refine (has_at HX1.out hj8 (HF.out j hj8).1 (HF.out j hj8).2 _).mono ?_
        rintro e w2 ⟨rfl, hb2⟩
        have hm := HM.out
        have HX2 := Lib.hid (HX1.out.call hb2)
        have hB2 := HB1.out.call hb2
        have HT2 := Lib.hid (HT1.out.trans (Turn.of_below hb2 HX1.out.lo))
        have c0' := hB2.cell 0
        have c1' := hB2.cell 1
        have HB2 := Lib.hid hB2
        clear hb2 hB2 c0 c1
        go_wp2_with fail
        refine (beside_any hj8 hy2 _).mono ?_
        rintro e w3 ⟨rfl, hb3⟩
        have HX3 := Lib.hid (HX2.out.call hb3)
        have HB3 := Lib.hid (HB2.out.call hb3)
        have HT3 := Lib.hid (HT2.out.trans (Turn.of_below hb3 HX2.out.lo))
        clear hb3 c0' c1' hm
        go_wp2_with fail
        refine (drop_at HX3.out hj8 (HF.out j hj8).1 (HF.out j hj8).2 HSM.out).mono ?_
        rintro e w4 ⟨rfl, ht4, hx4⟩
        have HX4 := Lib.hid hx4
        have hB4 := ht4.row _ _ _ HB3.out (by decide) (by decide)
        have HT4 := Lib.hid (HT3.out.trans ht4)
        have c0' := hB4.cell 0
        have c1' := hB4.cell 1
        have f0' := hB4.frozen 0
        have f1' := hB4.frozen 1
        have HB4 := Lib.hid hB4
        clear hx4 ht4 hB4
        go_wp2_with fail
        refine (hdn _).mono ?_
        rintro e w5 ⟨rfl, rfl⟩
        go_wp2
        go_roundg (8 - (j + 1) + 1)
        case measure => omega
        case rel =>
          refine ⟨_, _, par y j, j + 1, by omega, HJ.out, HG.out, ?_, ?_, ?_⟩
          · exact (HX4.out.setFar HB4.out (by decide) (by decide) _ _).setFar (HB4.out.set_ _ _) (by decide) (by decide) _ _
          · exact (HB4.out.set_ 1 _).set_ 0 _
          · exact (HT4.out.setNew (Nat.le_refl _) hlo _ _).setNew (Nat.le_refl _) hlo _ _
      · have HM := Lib.hid (show memX (sib y j : Nat) (L' j) = false by rw [memX_nat]; simp [hs])
        have HG := Lib.hid (hJ.last hG (fun _ hf => hs (hmem.2 hf)))
        have HF := Lib.hid hfine
        clear hmem hs hJ hG hfine
        go_wp2_with fail
        refine (beside_any hj8 hy2 _).mono ?_
        rintro e w1 ⟨rfl, hb1⟩
        have HX1 := Lib.hid (HX.out.call hb1)
        have HB1 := Lib.hid (HB.out.call hb1)
        have HT1 := Lib.hid (HT.out.trans (Turn.of_below hb1 hlo'))
        clear hb1
        go_wp2_with fail
        refine (has_at HX1.out hj8 (HF.out j hj8).1 (HF.out j hj8).2 _).mono ?_
        rintro e w2 ⟨rfl, hb2⟩
        have hm := HM.out
        have HX2 := Lib.hid (HX1.out.call hb2)
        have hB2 := HB1.out.call hb2
        have HT2 := Lib.hid (HT1.out.trans (Turn.of_below hb2 HX1.out.lo))
        have c0' := hB2.cell 0
        have c1' := hB2.cell 1
        have HB2 := Lib.hid hB2
        clear hb2 hB2 c0 c1
        go_wp2_with fail
        refine (put_at HX2.out hj8 (HF.out j hj8).1 (HF.out j hj8).2).mono ?_
        rintro e w3 ⟨rfl, ht3, hx3⟩
        have HX3 := Lib.hid hx3
        have HT3 := Lib.hid (HT2.out.trans ht3)
        clear ht3 hx3 hm
        go_wp2
        go_end0
        exact ⟨rfl, HT3.out, _, HX3.out, HG.out.2⟩
    · have hj' : ¬ (j : Int) < 8 := by omega
      have HG := Lib.hid (hJ.last hG (fun h8 => absurd h8 hlt))
      have HF := Lib.hid hfine
      clear hJ hG hfine
      go_wp2_with fail
      refine (put_at HX.out hj8 (HF.out j hj8).1 (HF.out j hj8).2).mono ?_
      rintro e w1 ⟨rfl, ht1, hx1⟩
      have HX1 := Lib.hid hx1
      have HT1 := Lib.hid (HT.out.trans ht1)
      clear ht1 hx1
      go_wp2
      go_end0
      exact ⟨rfl, HT1.out, _, HX1.out, HG.out.2⟩
theorem halves_any (x k : Int) (W : World) : Calls Tryz.prog 131 #[.pointer (some ⟨a, 0, none⟩), .agg #[.int .i64 x, .int .i64 k]] W fun e W' =>
    e = .returned (.func (.func 146) #[] #[.pointer (some ⟨W.heap.size, 0, none⟩), .pointer (some ⟨W.heap.size + 1, 0, none⟩)]) ∧ (W.alloc (.cells #[.pointer (some ⟨a, 0, none⟩)] 111)).alloc (.cells #[.int .i64 x, .int .i64 k] 92) = W' := by
  go_enter Tryz.func131, Tryz.ntmps131
  go_wp2
  go_ret
  exact ⟨rfl, rfl⟩
theorem half_any (h : BudAt Xc B w a n L) (hF : Fine L) {g g2 x k i : Nat} (hi : i ≤ 8) (hx : x ≤ 1024) (r1 : Lrow w g 111 [.pointer (some ⟨a, 0, none⟩)]) (r2 : Lrow w g2 92 [.int .i64 x, .int .i64 k]) :
    Calls Tryz.prog 146 #[.int .i64 i, .pointer (some ⟨g, 0, none⟩), .pointer (some ⟨g2, 0, none⟩)] w fun e w' => e = .returned (.tuple #[]) ∧ Turn Xc B w w' ∧ BudAt Xc B w' a n (upd L i (insL (sib (dn x i) i) (L i))) := by
  have hD := down_any x i hi (by omega) (by omega)
  rw [dnZ_nat] at hD
  have hdx : dn x i ≤ 4611686018427387904 := by have := dn_le x i; omega
  have HX := Lib.hid h.drew
  have HF := Lib.hid hF
  have hT : Turn Xc B w w.drew := (Turn.refl B w).drew
  have hs : w.drew.cell? ⟨g, 0, none⟩ = some (.pointer (some ⟨a, 0, none⟩)) ∧ w.drew.cell? ⟨g2, 0, none⟩ = some (.int .i64 x) := ⟨r1.cell 0, r2.cell 0⟩
  have R1 := Lib.hid (r1.drewN 1)
  have R2 := Lib.hid (r2.drewN 1)
  clear h hF r1 r2
  go_enter Tryz.func146, Tryz.ntmps146
  go_wp2_with fail
  go_region_held3 (fun v => v.cell? ⟨g, 0, none⟩ = some (.pointer (some ⟨a, 0, none⟩)) ∧ v.cell? ⟨g2, 0, none⟩ = some (.int .i64 x)) (first | exact hs | exact ⟨q1.cell 0, q2.cell 0⟩ | exact ⟨s1.cell 0, s2.cell 0⟩)
    (first | (go_at_call 123; refine (hD _).mono ?_; rintro e w' ⟨rfl, rfl⟩) | (go_at_call 121; refine (beside_any hi hdx _).mono ?_; rintro e w1 ⟨rfl, hb1⟩; have q1 := R1.out.call hb1; have q2 := R2.out.call hb1; have hX1 := HX.out.call hb1; have hT1 := hT.trans (Turn.of_below hb1 HX.out.lo)) | (go_at_call 124; refine (put_at hX1 hi (HF.out i hi).1 (HF.out i hi).2).mono ?_; rintro e w2 ⟨rfl, ht2, hx2⟩; have s1 := ht2.row _ _ _ q1 (by decide) (by decide); have s2 := ht2.row _ _ _ q2 (by decide) (by decide)))
  go_wp2
  go_end0
  exact ⟨rfl, hT1.trans ht2, hx2⟩
theorem carve_any {F : List Bool} (h : BudAt Xc B w a n L) (hG : Good F L) (hn : F.length ≤ 1024) {x k b j : Nat} (hP : Part F x k b j) (hb : b ∈ L j) :
    Calls Tryz.prog 116 #[.pointer (some ⟨a, 0, none⟩), .agg #[.int .i64 b, .int .i64 j], .agg #[.int .i64 x, .int .i64 k]] w (Become Xc B a n (setR F x (2 ^ k) false) w) := by
  have hlo := h.lo
  have hfine := hG.fine hn
  have hj8 := hP.j8
  have hkj := hP.kj
  have hx : x ≤ 1024 := by have := hP.inn; have := hP.fit; have := two_pos k; omega
  have h0 : BudAt Xc B ((w.alloc (.cells #[.int .i64 b, .int .i64 j] 92)).alloc (.cells #[.int .i64 x, .int .i64 k] 92)) a n L := (h.alloc _).alloc _
  have r1 : Lrow ((w.alloc (.cells #[.int .i64 b, .int .i64 j] 92)).alloc (.cells #[.int .i64 x, .int .i64 k] 92)) w.heap.size 92 [.int .i64 b, .int .i64 j] := (Lrow.new w _ _).alloc _
  have r2 : Lrow ((w.alloc (.cells #[.int .i64 b, .int .i64 j] 92)).alloc (.cells #[.int .i64 x, .int .i64 k] 92)) (w.heap.size + 1) 92 [.int .i64 x, .int .i64 k] := by
    have := Lrow.new (w.alloc (.cells #[.int .i64 b, .int .i64 j] 92)) 92 [.int .i64 x, .int .i64 k]
    rw [World.size_alloc] at this; exact this
  have hT0 : Turn Xc B w ((w.alloc (.cells #[.int .i64 b, .int .i64 j] 92)).alloc (.cells #[.int .i64 x, .int .i64 k] 92)) := ((Turn.refl B w).alloc hlo _).alloc (by simp; omega) _
  have HX := Lib.hid h0
  have R1 := Lib.hid r1
  have R2 := Lib.hid r2
  have HT := Lib.hid hT0
  have HF := Lib.hid hfine
  have HG := Lib.hid (by rw [cvF_start hP]; exact hG.drop hj8 hb : Good (cvF F x k b j k) (upd L j (remL b (L j))))
  have HL : Hid (∀ i, (cvF F x k b j i).length ≤ 1024) := fun i => by rw [cvF_length]; exact hn
  have HP := Lib.hid hP
  have HB := Lib.hid hb
  clear h hG hfine h0 r1 r2 hT0 hP hb hn
  go_enter Tryz.func116, Tryz.ntmps116
  go_wp2_with fail
  refine (drop_at HX.out hj8 (HF.out j hj8).1 (HF.out j hj8).2 HB.out).mono ?_
  rintro e w1 ⟨rfl, ht1, hx1⟩
  have hr1 := ht1.row _ _ _ R1.out (by decide) (by decide)
  have hr2 := ht1.row _ _ _ R2.out (by decide) (by decide)
  have c10 := hr1.cell 0
  have c11 := hr1.cell 1
  have c20 := hr2.cell 0
  have c21 := hr2.cell 1
  have HX1 := Lib.hid hx1
  have HT1 := Lib.hid (HT.out.trans ht1)
  have Q1 := Lib.hid hr1
  have Q2 := Lib.hid hr2
  clear hx1 ht1 hr1 hr2 HX R1 R2 HT HF HB
  go_wp2_with fail
  refine (halves_any (a := a) x k _).mono ?_
  rintro e w2 ⟨rfl, hw2⟩
  have hX2 := (HX1.out.alloc (.cells #[.pointer (some ⟨a, 0, none⟩)] 111)).alloc (.cells #[.int .i64 x, .int .i64 k] 92)
  have hQ1 := (Q1.out.alloc (.cells #[.pointer (some ⟨a, 0, none⟩)] 111)).alloc (.cells #[.int .i64 x, .int .i64 k] 92)
  have hQ2 := (Q2.out.alloc (.cells #[.pointer (some ⟨a, 0, none⟩)] 111)).alloc (.cells #[.int .i64 x, .int .i64 k] 92)
  have hT2 := (HT1.out.alloc HX1.out.lo (.cells #[.pointer (some ⟨a, 0, none⟩)] 111)).alloc (by have := HX1.out.lo; simp; omega) (.cells #[.int .i64 x, .int .i64 k] 92)
  have hg1 := (Lrow.new w1 111 [.pointer (some ⟨a, 0, none⟩)]).alloc (.cells #[.int .i64 x, .int .i64 k] 92)
  have hg2 : Lrow ((w1.alloc (.cells #[.pointer (some ⟨a, 0, none⟩)] 111)).alloc (.cells #[.int .i64 x, .int .i64 k] 92)) (w1.heap.size + 1) 92 [.int .i64 x, .int .i64 k] := by
    have := Lrow.new (w1.alloc (.cells #[.pointer (some ⟨a, 0, none⟩)] 111)) 92 [.int .i64 x, .int .i64 k]
    rw [World.size_alloc] at this; exact this
  have HX2 : Hid (BudAt Xc B w2 a n (upd L j (remL b (L j)))) := by rw [← hw2]; exact hX2
  have P1 : Hid (Lrow w2 w.heap.size 92 [.int .i64 b, .int .i64 j]) := by rw [← hw2]; exact hQ1
  have P2 : Hid (Lrow w2 (w.heap.size + 1) 92 [.int .i64 x, .int .i64 k]) := by rw [← hw2]; exact hQ2
  have HT2 : Hid (Turn Xc B w w2) := by rw [← hw2]; exact hT2
  have G1 : Hid (Lrow w2 w1.heap.size 111 [.pointer (some ⟨a, 0, none⟩)]) := by rw [← hw2]; exact hg1
  have G2 : Hid (Lrow w2 (w1.heap.size + 1) 92 [.int .i64 x, .int .i64 k]) := by rw [← hw2]; exact hg2
  clear hw2 hX2 hQ1 hQ2 hT2 hg1 hg2 c10 c11 c20 c21 HX1 HT1 Q1 Q2
  generalize w1.heap.size = g at G1 G2 ⊢
  have c20 := P2.out.cell 0
  have c21 := P2.out.cell 1
  go_wp2_with fail
  clear c20 c21
  go_loopw [7] (fun s wr => ∃ (i : Nat) (L' : Nat → List Nat), k ≤ i ∧ i ≤ j ∧ s = .int .i64 i ∧ Good (cvF F x k b j i) L' ∧ BudAt Xc B wr a n L' ∧ Lrow wr w.heap.size 92 [.int .i64 b, .int .i64 j] ∧ Lrow wr g 111 [.pointer (some ⟨a, 0, none⟩)] ∧ Lrow wr (g + 1) 92 [.int .i64 x, .int .i64 k] ∧ Turn Xc B w wr) (fun s _ => j - (intOf s).toNat)
  case atStart => exact ⟨k, _, Nat.le_refl _, hkj, rfl, HG.out, HX2.out, P1.out, G1.out, G2.out, HT2.out⟩
  case round =>
    obtain ⟨i, L', hi1, hi2, rfl, hG, hX, hb0, hg1, hg2, hT⟩ := hrel
    have c10 := hb0.cell 0
    have c11 := hb0.cell 1
    have HXr := Lib.hid hX
    have HGr := Lib.hid hG
    have HB0 := Lib.hid hb0
    have HG1 := Lib.hid hg1
    have HG2 := Lib.hid hg2
    have HTr := Lib.hid hT
    clear hX hG hb0 hg1 hg2 hT
    by_cases hlt : i < j
    · go_wp2_with fail
      refine (half_any HXr.out (HGr.out.fine (HL.out i)) (by omega : i ≤ 8) hx HG1.out HG2.out).mono ?_
      rintro e w3 ⟨rfl, ht3, hx3⟩
      have HX3 := Lib.hid hx3
      have T3 := Lib.hid ht3
      clear hx3 ht3
      go_wp2
      go_roundw
      case rel => exact ⟨i + 1, _, by omega, by omega, by go_num, (cvF_good HP.out hi1 hlt HGr.out).2, HX3.out, T3.out.row _ _ _ HB0.out (by decide) (by decide), T3.out.row _ _ _ HG1.out (by decide) (by decide), T3.out.row _ _ _ HG2.out (by decide) (by decide), HTr.out.trans T3.out⟩
      case measure => simp [intOf]; omega
    · obtain rfl : i = j := by omega
      have HE := Lib.hid (cvF_end HP.out)
      go_wp2
      go_end0
      exact ⟨rfl, HTr.out, _, HXr.out, by rw [← HE.out]; exact HGr.out⟩
end
end Go.Proofs.YtklhcgekagimkaaGreat
