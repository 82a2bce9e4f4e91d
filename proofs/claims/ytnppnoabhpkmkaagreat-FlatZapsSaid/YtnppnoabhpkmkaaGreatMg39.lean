/- The program's spaces: their calls as one structure. -/
import Derived.Test.YtnppnoabhpkmkaaGreatMg24
import Derived.Test.YtnppnoabhpkmkaaGreatMg38
namespace Go.Proofs.YtnppnoabhpkmkaaGreat
open Go.RowKit
def theFo (B : Nat) (w : World) (s : Nat) (X : Nat → Prop) (F : Fl) : Prop := ∃ T : PfT, T.s = s ∧ X = MineP T ∧ PfAt B w T F
/-- Rows of other types are none of the spaces'. -/
theorem PfAt.ty {B : Nat} {w : World} {T : PfT} {F : Fl} (h : PfAt B w T F) {k : Nat} (hk : MineP T k) {t : TypeId} {vs : List Value} (r : Lrow w k t vs) : t ∈ FlatX := by
  have one : ∀ {t' : TypeId} {us : List Value}, Lrow w k t' us → t' ∈ FlatX → t ∈ FlatX := fun {t'} us r' ht => by
    by_cases e : t = t'
    · rw [e]; exact ht
    · exact absurd rfl (r.apart r' e)
  rcases hk with rfl | e | ⟨i, a, hi, hk⟩ | hk
  · exact one h.top (by decide)
  · obtain ⟨us, r2, _⟩ := h.ls.block e
    exact one r2 (by decide)
  · have hp := (h.sps i a hi).2
    rcases hk with rfl | rfl | rfl | rfl
    · exact one hp.top (by decide)
    · exact one hp.ars.top (by decide)
    · exact absurd rfl (hp.own.apart r)
    · exact absurd rfl (hp.obj.apart r)
  · obtain ⟨i, hi, rfl⟩ := List.getElem_of_mem hk
    exact absurd rfl ((h.obs i hi).1.apart r)
theorem word_all {B : Nat} {w : World} {T : PfT} {F : Fl} (h : PfAt B w T F) (ok : FlOk F) (hL : F.O.length ≤ 1000) (i : Int) {a : Int} (ha : Fits a) :
    Calls Tryz.prog 14 #[.pointer (some ⟨T.s, 0, none⟩), .int .i64 i, .int .i64 a] w fun e w' => e = .returned (.tuple #[.int .u64 (wdV F i a), .int .i64 (wdE F i a)]) ∧ Below w.heap.size w w' := by
  unfold wdV wdE
  cases hI : isS F i with
  | false =>
    rw [if_neg (by simp), if_neg (by simp)]
    exact word_no h hI a
  | true =>
    obtain ⟨j, s, rfl, hs⟩ := isS_yes h hI
    have hw := word_pr h ok hL hs ha
    rw [if_pos rfl]
    by_cases c : celE 10 4 (sp F j) a = 0
    · rw [if_pos ⟨rfl, c⟩]; rw [if_pos c] at hw; exact hw
    · rw [if_neg (fun e => c e.2)]; rw [if_neg c] at hw; exact hw
def theI : FlI where
  Fo := theFo
  keep h hs hk ha := by
    obtain ⟨T, rfl, rfl, h⟩ := h
    exact ⟨T, rfl, rfl, h.keep hs (fun k e => hk k e (h.lt k e)) ha⟩
  lo h k e := by
    obtain ⟨T, rfl, rfl, h⟩ := h
    exact ⟨h.low k e, h.lt k e⟩
  lw h := by
    obtain ⟨T, rfl, rfl, h⟩ := h
    exact h.lw
  ty h k e t vs r := by
    obtain ⟨T, rfl, rfl, h⟩ := h
    exact h.ty e r
  new w := (new_f w).mono fun e w' k => by
    obtain ⟨T, e1, k1, k2, _⟩ := k
    exact ⟨T.s, MineP T, e1, ⟨T, rfl, rfl, k1⟩, k2⟩
  do_ h ok hL r hr := by
    obtain ⟨T, rfl, rfl, h⟩ := h
    obtain ⟨k, i, a, n, hw, p, t, c, v⟩ := r
    obtain ⟨q1, q2, q3, q4, q5, q6, q7, q8, q9⟩ := hr
    refine (any_do h ok (by omega) k i a n hw p t c v ‹_› ‹_› ‹_›).mono fun e w' d => ⟨d.1, ?_⟩
    obtain ⟨T', d0, d1, d2, d3⟩ := d.2
    exact ⟨MineP T', ⟨T', d0, rfl, d1⟩, d2, d3⟩
  word h ok hL i a hi ha := by
    obtain ⟨T, rfl, rfl, h⟩ := h
    exact word_all h ok (by omega) i ha
  areas h ok i hi := by
    obtain ⟨T, rfl, rfl, h⟩ := h
    unfold arsF
    cases hI : isS _ i with
    | false => exact areas_no h hI
    | true =>
      obtain ⟨j, s, rfl, hs⟩ := isS_yes h hI
      exact areas_yes h hs
  spaces h ok := by
    obtain ⟨T, rfl, rfl, h⟩ := h
    exact spaces_f h
end Go.Proofs.YtnppnoabhpkmkaaGreat
