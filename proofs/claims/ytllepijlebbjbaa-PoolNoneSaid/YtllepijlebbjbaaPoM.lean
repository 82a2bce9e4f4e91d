/- Pools: what must come at any rate. -/
import Derived.Test.YtllepijlebbjbaaPoJ
namespace Go.Proofs.Ytllepijlebbjbaa
open Go.RowKit
theorem up_ext : ∀ {L M : List Nat}, L.Pairwise (· < ·) → M.Pairwise (· < ·) → (∀ i, i ∈ L ↔ i ∈ M) → L = M
  | [], [], _, _, _ => rfl
  | [], m :: M, _, _, h => by have := (h m).2 List.mem_cons_self; cases this
  | l :: L, [], _, _, h => by have := (h l).1 List.mem_cons_self; cases this
  | l :: L, m :: M, hl, hm, h => by
    obtain ⟨a1, a2⟩ := List.pairwise_cons.1 hl
    obtain ⟨b1, b2⟩ := List.pairwise_cons.1 hm
    have e : l = m := by
      rcases List.mem_cons.1 ((h l).1 List.mem_cons_self) with e | e
      · exact e
      · rcases List.mem_cons.1 ((h m).2 List.mem_cons_self) with d | d
        · exact d.symm
        · have := a1 m d; have := b1 l e; omega
    subst e
    rw [up_ext a2 b2 fun i => ?_]
    constructor
    · intro hi
      rcases List.mem_cons.1 ((h i).1 (List.mem_cons_of_mem _ hi)) with e | e
      · subst e; have := a1 i hi; omega
      · exact e
    · intro hi
      rcases List.mem_cons.1 ((h i).2 (List.mem_cons_of_mem _ hi)) with e | e
      · subst e; have := b1 i hi; omega
      · exact e
/-- A rising list of the free is what is told. -/
theorem fr_is {I : List Int} {L : List Nat} (h : L.Pairwise (· < ·)) (hm : ∀ i, i ∈ L ↔ i < 1024 ∧ I[i]? = some 1) : frL I = L.map fun i : Nat => (i : Int) := by
  unfold frL frK
  rw [up_ext ((List.pairwise_lt_range (n := 1024)).filter _) h fun i => ?_]
  rw [hm, List.mem_filter, List.mem_range, decide_eq_true_eq]
def awI (x y : Int) : List Int := ((List.replicate 1024 0).set 8 x).set 16 y
theorem awI_get (x y : Int) (i : Nat) : (awI x y)[i]? = if i = 16 then some y else if i = 8 then some x else if i < 1024 then some 0 else none := by
  unfold awI
  rw [List.getElem?_set, List.getElem?_set, List.getElem?_replicate]
  simp only [List.length_set, List.length_replicate]
  by_cases h1 : i = 16
  · subst h1; simp
  · rw [if_neg (fun e => h1 e.symm), if_neg h1]
    by_cases h2 : i = 8
    · subst h2; simp
    · rw [if_neg (fun e => h2 e.symm), if_neg h2]
theorem awF11 : frL (awI 1 1) = [8, 16] := fr_is (L := [8, 16]) (by simp) fun i => by
  rw [awI_get]
  by_cases h1 : i = 16
  · subst h1; simp
  · by_cases h2 : i = 8
    · subst h2; simp
    · simp only [h1, h2, if_false]; split <;> simp [h1, h2]
theorem awF21 : frL (awI 2 1) = [16] := fr_is (L := [16]) (by simp) fun i => by
  rw [awI_get]
  by_cases h1 : i = 16
  · subst h1; simp
  · by_cases h2 : i = 8
    · subst h2; simp
    · simp only [h1, h2, if_false]; split <;> simp [h1]
def aw0 : Pk := newP 3 0
def aw1 : Pk := ⟨3, 0, (List.replicate 1024 0).set 8 1, 0, 0⟩
def aw2 : Pk := ⟨3, 0, awI 1 1, 0, 0⟩
def aw3 : Pk := ⟨3, 0, awI 1 1, 1, 0⟩
def aw4 : Pk := ⟨3, 0, awI 2 1, 1, 0⟩
def aw7 : Pk := ⟨3, 0, awI 2 2, 0, 0⟩
theorem awN : nwB 3 0 = true := by decide
theorem awG1 : maE aw0 8 = 0 ∧ grS aw0 8 = aw1 := by
  have e : maE aw0 8 = 0 := by
    unfold maE aw0 newP szI
    rw [if_neg (by decide), if_neg (by decide), if_neg]
    show ¬ (List.replicate 1024 (0 : Int))[8]? ≠ some 0
    rw [List.getElem?_replicate]; simp
  exact ⟨e, by unfold grS; rw [if_pos e]; rfl⟩
theorem awG2 : maE aw1 16 = 0 ∧ grS aw1 16 = aw2 := by
  have e : maE aw1 16 = 0 := by
    unfold maE aw1 szI
    rw [if_neg (by decide), if_neg (by decide), if_neg]
    show ¬ ((List.replicate 1024 (0 : Int)).set 8 1)[16]? ≠ some 0
    rw [List.getElem?_set, List.getElem?_replicate]; simp
  exact ⟨e, by unfold grS; rw [if_pos e]; rfl⟩
theorem awP : prE aw2 1 = 0 ∧ prS aw2 1 = aw3 := by
  have e : prE aw2 1 = 0 := by
    unfold prE
    rw [show aw2.I = awI 1 1 from rfl, awF11]
    decide
  exact ⟨e, by unfold prS; rw [if_pos e]; rfl⟩
theorem awT1 : taE aw3 false = 0 ∧ taV aw3 false = 8 ∧ taS aw3 false = aw4 := by
  have e : taE aw3 false = 0 := by
    unfold taE
    rw [show aw3.I = awI 1 1 from rfl, awF11]
    decide
  refine ⟨e, ?_, ?_⟩
  · unfold taV; rw [if_pos e, show aw3.I = awI 1 1 from rfl, awF11]; rfl
  · unfold taS; rw [if_pos e, show aw3.I = awI 1 1 from rfl, awF11]
    show (⟨3, 0, (awI 1 1).set 8 2, 1, 0⟩ : Pk) = ⟨3, 0, awI 2 1, 1, 0⟩
    congr 1
theorem awT2 : taE aw4 false = 9 ∧ taV aw4 false = 0 ∧ taS aw4 false = aw4 := by
  have e : taE aw4 false = 9 := by
    unfold taE
    rw [show aw4.I = awI 2 1 from rfl, awF21]
    decide
  exact ⟨e, by unfold taV; rw [e]; rfl, by unfold taS; rw [e]; rfl⟩
theorem awS : shE aw4 = 12 ∧ shV aw4 = 0 ∧ shS aw4 = aw4 := by
  have e : shE aw4 = 12 := by
    unfold shE
    rw [show aw4.I = awI 2 1 from rfl, awF21]
    decide
  exact ⟨e, by unfold shV; rw [e]; rfl, by unfold shS; rw [e]; rfl⟩
theorem awT4 : taE aw4 true = 0 ∧ taV aw4 true = 16 ∧ taS aw4 true = aw7 := by
  have e : taE aw4 true = 0 := by
    unfold taE
    rw [show aw4.I = awI 2 1 from rfl, awF21]
    decide
  refine ⟨e, ?_, ?_⟩
  · unfold taV; rw [if_pos e, show aw4.I = awI 2 1 from rfl, awF21]; rfl
  · unfold taS; rw [if_pos e, show aw4.I = awI 2 1 from rfl, awF21]
    show (⟨3, 0, (awI 2 1).set 16 2, 0, 0⟩ : Pk) = ⟨3, 0, awI 2 2, 0, 0⟩
    congr 1
theorem awC : ((aw7.I.count 1 : Nat) : Int) + ((aw7.I.count 2 : Nat) : Int) = 2 := by
  show (((((List.replicate 1024 (0 : Int)).set 8 2).set 16 2).count 1 : Nat) : Int) + (((((List.replicate 1024 (0 : Int)).set 8 2).set 16 2).count 2 : Nat) : Int) = 2
  have h1 : (List.replicate 1024 (0 : Int))[8]? = some 0 := by rw [List.getElem?_replicate]; simp
  have h2 : ((List.replicate 1024 (0 : Int)).set 8 2)[16]? = some 0 := by rw [List.getElem?_set, List.getElem?_replicate]; simp
  rw [count_set h2, count_set h2, count_set h1, count_set h1, List.count_replicate, List.count_replicate]
  decide
theorem awO0 : POk aw0 := newP_ok awN
theorem awO1 : POk aw1 := by have := awO0.grow 8; rwa [awG1.2] at this
theorem awO2 : POk aw2 := by have := awO1.grow 16; rwa [awG2.2] at this
theorem awO3 : POk aw3 := by have := awO2.promise 1; rwa [awP.2] at this
theorem awO4 : POk aw4 := by have := awO3.take false; rwa [awT1.2.2] at this
theorem awO7 : POk aw7 := by have := awO4.take true; rwa [awT4.2.2] at this
set_option maxRecDepth 100000 in
set_option maxHeartbeats 2000000 in
theorem awake_any (I : PoI) (w : World) : Calls Try.prog 11 #[] w fun e w' => e = .returned (.bool true) ∧ Below w.heap.size w w' := by
  have hc := I.new awN w
  have HF : Hid (Fits 8 ∧ Fits 16 ∧ Fits 1) := ⟨by unfold Fits; omega, by unfold Fits; omega, by unfold Fits; omega⟩
  go_enter Try.func11, Try.ntmps11
  go_wp2_with fail
  refine hc.mono ?_
  rintro e w1 ⟨s, X1, rfl, h1, hb1⟩
  have HB1 := Lib.hid hb1
  have H1 := Lib.hid h1
  have hc := I.grow h1 awO0 8 HF.out.1
  rw [show newP 3 0 = aw0 from rfl, awG1.1, awG1.2] at hc
  clear h1 hb1
  go_wp2_with fail
  refine hc.mono ?_
  rintro e w2 ⟨rfl, hd⟩
  have HB2 := Lib.hid (HB1.out.trans (I.down H1.out hd))
  obtain ⟨X2, h2, -, -⟩ := hd
  have H2 := Lib.hid h2
  have hc := I.grow h2 awO1 16 HF.out.2.1
  rw [awG2.1, awG2.2] at hc
  clear h2
  go_wp2_with fail
  refine hc.mono ?_
  rintro e w3 ⟨rfl, hd⟩
  have HB3 := Lib.hid (HB2.out.trans (I.down H2.out hd))
  obtain ⟨X3, h3, -, -⟩ := hd
  have H3 := Lib.hid h3
  have hc := I.promise h3 awO2 1 HF.out.2.2
  rw [awP.1, awP.2] at hc
  clear h3
  go_wp2_with fail
  refine hc.mono ?_
  rintro e w4 ⟨rfl, hd⟩
  have HB4 := Lib.hid (HB3.out.trans (I.down H3.out hd))
  obtain ⟨X4, h4, -, -⟩ := hd
  have H4 := Lib.hid h4
  have hc := I.take h4 awO3 false
  rw [awT1.1, awT1.2.1, awT1.2.2] at hc
  clear h4
  go_wp2_with fail
  refine hc.mono ?_
  rintro e w5 ⟨rfl, hd⟩
  have HB5 := Lib.hid (HB4.out.trans (I.down H4.out hd))
  obtain ⟨X5, h5, -, -⟩ := hd
  have H5 := Lib.hid h5
  have hc := I.take h5 awO4 false
  rw [awT2.1, awT2.2.1, awT2.2.2] at hc
  clear h5
  go_wp2_with fail
  refine hc.mono ?_
  rintro e w6 ⟨rfl, hd⟩
  have HB6 := Lib.hid (HB5.out.trans (I.down H5.out hd))
  obtain ⟨X6, h6, -, -⟩ := hd
  have H6 := Lib.hid h6
  have hc := I.shrink h6 awO4
  rw [awS.1, awS.2.1, awS.2.2] at hc
  clear h6
  go_wp2_with fail
  refine hc.mono ?_
  rintro e w7 ⟨rfl, hd⟩
  have HB7 := Lib.hid (HB6.out.trans (I.down H6.out hd))
  obtain ⟨X7, h7, -, -⟩ := hd
  have H7 := Lib.hid h7
  have hc := I.take h7 awO4 true
  rw [awT4.1, awT4.2.1, awT4.2.2] at hc
  clear h7
  go_wp2_with fail
  refine hc.mono ?_
  rintro e w8 ⟨rfl, hd⟩
  have HB8 := Lib.hid (HB7.out.trans (I.down H7.out hd))
  obtain ⟨X8, h8, -, -⟩ := hd
  have H8 := Lib.hid h8
  have hc := I.total h8 awO7
  rw [awC] at hc
  clear h8
  go_wp2_with fail
  refine hc.mono ?_
  rintro e w9 ⟨rfl, hb9⟩
  have HB9 := Lib.hid (HB8.out.trans (hb9.mono HB8.out.size))
  clear hc hb9
  go_wp2_with fail
  go_ret
  exact ⟨rfl, HB9.out⟩
end Go.Proofs.Ytllepijlebbjbaa
