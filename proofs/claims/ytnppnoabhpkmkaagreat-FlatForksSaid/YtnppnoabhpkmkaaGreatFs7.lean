/- Spaces: what FlatForks wants, without the program. -/
import Derived.Test.YtnppnoabhpkmkaaGreatFs5
namespace Go.Proofs.YtnppnoabhpkmkaaGreat
section
variable {F : Fl} {s a b v : Int}
def fkG (F : Fl) (s : Int) : Fl := ⟨F.L ++ [cpS (sp F s)], F.O⟩
theorem stF_fork : stF F ⟨7, s, 0, 0, 0, 0, 0, 0, 0⟩ = if isS F s = false then noF F 11 else addF F (cpS (sp F s)) := by
  unfold stF
  dsimp only
  rw [if_neg (by decide), if_neg (by decide)]
  split
  · rfl
  · rw [if_pos rfl]
/-- A fork that has no error. -/
theorem fork_ok (e : (stF F ⟨7, s, 0, 0, 0, 0, 0, 0, 0⟩).1 = 0) : isS F s = true ∧ F.L.length ≤ 15 ∧ stF F ⟨7, s, 0, 0, 0, 0, 0, 0, 0⟩ = (0, (F.L.length : Int), fkG F s) := by
  rw [stF_fork] at e ⊢
  cases c : isS F s with
  | false => rw [if_pos c] at e; exact absurd e (by show ¬ (11 : Int) = 0; decide)
  | true =>
    rw [if_neg (by rw [c]; decide)] at e
    rw [if_neg (show ¬ (true = false) by decide)]
    unfold addF at e ⊢
    by_cases d : 15 < F.L.length
    · rw [if_pos d] at e; exact absurd e (by show ¬ (13 : Int) = 0; decide)
    · rw [if_neg d]
      exact ⟨rfl, by omega, rfl⟩
theorem fk_len : (fkG F s).L.length = F.L.length + 1 := by unfold fkG; rw [List.length_append]; rfl
theorem fk_sp (h0 : 0 ≤ a) (hl : a < F.L.length) : sp (fkG F s) a = sp F a := sp_app h0 hl
theorem fk_new : sp (fkG F s) (F.L.length : Int) = cpS (sp F s) := sp_new
theorem fk_isN : isS (fkG F s) (F.L.length : Int) = true := by
  rw [isS_lt (by omega) (by rw [fk_len]; omega), fk_new]; rfl
theorem fk_isS (h : isS F s = true) : isS (fkG F s) s = true := by
  obtain ⟨h0, hl, hg⟩ := isS_get h
  rw [isS_lt h0 (by rw [fk_len]; omega), fk_sp h0 hl, hg]; rfl
/-- The copy reads as what it is of. -/
theorem fk_read (c3 : isS F s = true) (e : wdE (fkG F s) (F.L.length : Int) b = 0) : wdE (fkG F s) s b = 0 ∧ wdV (fkG F s) (F.L.length : Int) b = wdV (fkG F s) s b := by
  obtain ⟨h0, hl, hg⟩ := isS_get c3
  unfold wdE at e
  rw [if_pos fk_isN, fk_new] at e
  obtain ⟨q1, q2⟩ := copy_reads (G := fkG F s) (F := fkG F s) e rfl
  unfold wdE wdV
  rw [if_pos (fk_isS c3), fk_sp h0 hl, if_pos ⟨fk_isN, by rw [fk_new]; exact e⟩, if_pos ⟨fk_isS c3, q1⟩, fk_new]
  exact ⟨q1, q2⟩
theorem celE_at {S S' : Sp} (h : (S.P (a / 64)).h = (S'.P (a / 64)).h) : celE 10 4 S a = celE 10 4 S' a := by unfold celE; rw [h]
/-- Behind a store into the one. -/
theorem fk_store (hF : FlOk (fkG F s)) (c3 : isS F s = true) (ce : celE 10 4 (sp F s) a = 0) :
    (wdE (celS (fkG F s) s a v) (F.L.length : Int) a ≠ 0 → 1 < szO ((sp F s).P (a / 64)).h) ∧
    (wdE (celS (fkG F s) s a v) (F.L.length : Int) a = 0 → shr ((sp F s).P (a / 64)).h → wdV (celS (fkG F s) s a v) (F.L.length : Int) a = v) ∧
    (wdE (celS (fkG F s) s a v) (F.L.length : Int) a = 0 → ¬ shr ((sp F s).P (a / 64)).h → wdV (celS (fkG F s) s a v) (F.L.length : Int) a = celV F (sp F s) a) := by
  obtain ⟨h0, hl, hg⟩ := isS_get c3
  have hl' : s < (fkG F s).L.length := by rw [fk_len]; omega
  have hE : wdE (celS (fkG F s) s a v) (F.L.length : Int) a = celE 10 4 (cpS (sp F s)) a := by
    rw [store_err (fk_isS c3)]
    unfold wdE
    rw [if_pos fk_isN, fk_new]
  have hj : (0 : Int) ≤ (F.L.length : Int) := by omega
  obtain ⟨i1, i2⟩ := store_is (j := (F.L.length : Int)) (a := a) (v := v) (fk_isS c3)
  have hV : celE 10 4 (cpS (sp F s)) a = 0 → wdV (celS (fkG F s) s a v) (F.L.length : Int) a = celV (celS (fkG F s) s a v) (sp (celS (fkG F s) s a v) (F.L.length : Int)) a := fun e => by
    unfold wdV
    rw [if_pos ⟨by rw [i1]; exact fk_isN, by rw [celE_P (i2 hj), fk_new]; exact e⟩]
  have hp : celE 10 4 (cpS (sp F s)) a = 0 → cpP (sp F s).P (a / 64) = (sp F s).P (a / 64) := fun e => by
    rcases cpP_or (sp F s).P (a / 64) with q | q
    · exact q
    · exact absurd (show (cpP (sp F s).P (a / 64)).h = 0 by rw [q]; rfl) (celE_ok e).2.2.2
  have hst := celV_store hF (i := s) (j := (F.L.length : Int)) (a := a) (b := a) v h0 hl' hj
  rw [hE]
  refine ⟨fun e => ?_, fun e hs => ?_, fun e hs => ?_⟩
  · refine Classical.byContradiction fun hc => e ?_
    rw [← ce]
    refine celE_at ?_
    show (cpP (sp F s).P (a / 64)).h = _
    unfold cpP
    rw [if_neg (fun q => hc q.1)]
  · rw [hV e]
    refine hst.1 (Or.inl ?_)
    rw [fk_new, fk_sp h0 hl]
    show shr _ ∧ shr (cpP (sp F s).P (a / 64)).h ∧ _ = (cpP (sp F s).P (a / 64)).o ∧ _ = (cpP (sp F s).P (a / 64)).x * 8 + _
    rw [hp e]
    exact ⟨hs, hs, rfl, rfl⟩
  · rw [hV e, hst.2, fk_new]
    · exact (copy_reads (G := fkG F s) (F := F) e rfl).2
    · intro q
      rcases q with ⟨q, _⟩ | ⟨_, _, q, _⟩
      · rw [fk_sp h0 hl] at q; exact hs q
      · omega
end
end Go.Proofs.YtnppnoabhpkmkaaGreat
