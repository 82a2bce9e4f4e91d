/- Frames. -/
import Derived.Test.YtgpbbmcadifdhaaS2
import Derived.Test.YtgpbbmcadifdhaaSv
namespace Go.Proofs.Ytgpbbmcadifdhaa
open Go.RowKit Go.Maps Go.Sort Go.Shelf

/-- Numbers that a call told. -/
def ToldI (l : List Int) (w : World) (e : Ending) (w' : World) : Prop := ∃ A c, e = .returned (.slice A l.length c) ∧ EI.Own w.heap.size w' (.slice A l.length c) l ∧ Below w.heap.size w w'
theorem sorts9 (m : Nat) : AnyZI.SortsIn Try.prog Try.sortedA_ren Fence.wide m :=
  ⟨fun blk off cap ss W hH hblk hsz => callsIn_wide.2 (AnyM.slices_Sort_int Try.sortA blk off cap ss W hH hblk hsz),
   fun p cap W => callsIn_wide.2 (AnyM.slices_Sort_int_none Try.sortA p cap W)⟩
theorem encZ_cells (l : List Int) : l.map encZ = EI.cells l := by
  induction l with
  | nil => rfl
  | cons x r ih => rw [List.map_cons, ih, Enc.cells_cons]; rfl
set_option maxHeartbeats 2000000 in
theorem frames_any {B : Nat} {w : World} {T : Rm} {L : List On} (h : RmIs B w T L) (hL : L.length ≤ 200) :
    Calls Try.prog 12 #[.pointer (some ⟨T.s, 0, none⟩)] w (ToldI (frs L) w) := by
  obtain ⟨D0, hown, hD⟩ := h.map
  obtain ⟨k1, k2, k3, k4⟩ := keys_nodup hown
  have hsz : Maps.size D0 ≤ 200 := by
    obtain ⟨es, clock, e1, e2, e3, e4⟩ := hown
    have : es.size = Go.Maps.size D0 := by rw [e4]; simp [Go.Maps.size, length_sorted]
    omega
  have hmem : ∀ f, f ∈ intKeys D0 ↔ sps L f ≠ [] := fun f => by
    constructor
    · intro hf
      have hfit := k2 f hf
      have h1 := (hD f hfit).1
      rw [(k3 f).1 hf] at h1
      exact (h.isS f hfit).1 h1.symm
    · intro hne
      have hfit := okF_fits (has_frame h.good hne)
      rw [k3 f, (hD f hfit).1]
      exact (h.isS f hfit).2 hne
  have hgood := h.good.up
  have hc0 := h.c0
  clear h hD k2 k3 k4
  refine (callsIn_wide (n := 6)).1 ?_
  have hbl := hown.lt
  have hseq : SeqGives Fence.wide 2 Try.prog 39 #[.pointer (some ⟨w.heap.size, 0, none⟩)] encZ (fun ss => ss.Perm (intKeys D0)) (Maps.size D0) (w.alloc (.cells #[.map (some T.b)] 49)) :=
    AnyZI.keys_gives (ρ := Try.keysA_ren) { Try.keysA with } Fence.wide _ trivial rfl (by omega) w.heap.size T.b L.length D0 _ (by simp) (by simp) (by
      obtain ⟨es, clock, hb, Ft, hs, hD⟩ := hown
      exact ⟨es, clock, (Below.heap_alloc _ _ T.b hbl).trans hb, Ft, hs, hD⟩)
  have cK : ∀ mb W, CallsIn Fence.wide 5 Try.prog 28 #[.map mb] W fun e w' => e = .returned (.func (.func 39) #[] #[.pointer (some ⟨W.heap.size, 0, none⟩)]) ∧ w' = W.alloc (.cells #[.map mb] 49) := fun mb W => AnyZI.keys_in Try.keysA Fence.wide 5 trivial rfl mb W
  have cS := AnyZI.sorted_in Try.sortedA Fence.wide 5 trivial trivial trivial trivial rfl (by omega) (sorts9 _) (enters_of Try.func38 (by kernel_rfl) rfl) 39 #[.pointer (some ⟨w.heap.size, 0, none⟩)] trivial (enters_of Try.func39 (by kernel_rfl) rfl) _ _ (by unfold maxLen; omega) (by omega) _ hseq
  change CallsIn _ _ Try.prog 27 _ _ _ at cS
  have hfK : Fence.wide.fn 28 := trivial
  have hfS : Fence.wide.fn 27 := trivial
  have HM := Lib.hid hmem
  have HN := Lib.hid k1
  have HG := Lib.hid hgood
  clear hmem k1 hgood hsz hbl hown
  refine callsIn_of_wp Try.func12 rfl trivial ?_ rfl
  simp only [Try.ntmps12, List.size_toArray, List.length_cons, List.length_nil, Nat.reduceAdd, Nat.reduceSub, Array.replicate_succ, Array.replicate_zero, List.push_toArray, List.append_toArray, List.nil_append, List.cons_append]
  gi_wp2_with (first
    | (gi_at_call 28; refine (cK _ _).mono ?_; rintro e w' ⟨rfl, rfl⟩)
    | (gi_at_call 27; refine cS.mono ?_; rintro e w' ⟨v, ss, rfl, hS, hrow, hnil, hb⟩))
  go_ret
  have hss : ss.mergeSort (fun x y => decide (x ≤ y)) = frs L := frs_sorted HG.out (hS.symm.nodup HN.out) (fun f => (hS.mem_iff).trans (HM.out f))
  have hln : ss.length = (frs L).length := by rw [← hss, List.length_mergeSort]
  have hown : EI.Own w.heap.size w' v (frs L) := by
    have h0 := ownsRow_base_a hrow (show w.heap.size ≤ _ by simp)
    rw [hss, hln, encZ_cells] at h0
    exact h0
  obtain ⟨A, c, rfl⟩ := hown.form
  exact ⟨A, c, rfl, hown, ((Below.refl _ w).alloc (Nat.le_refl _) _).trans (hb.mono (by simp))⟩
end Go.Proofs.Ytgpbbmcadifdhaa
