/- The contracts of package pick's calls. -/
import Derived.Test.YtgkliffhdibghaaTb
namespace Go.Proofs.Ytgkliffhdibghaa
open Go.RowKit

section
variable {w w' w'' : World} {B q m n i : Nat} {iv iv' iv'' : Value} {L L' N : List It} {M M' : Int → Option Int}
theorem Que.drew (h : Que B w q m iv L M) : Que B w.drew q m iv L M := h.drewN 1
theorem Qs.call (h : Qs B w q m iv N) (hb : Below w.heap.size w w') : Qs B w' q m iv N := by
  obtain ⟨L, M, h1, h2⟩ := h
  exact ⟨L, M, h1.call hb, h2⟩
/-- An item has been laid anew, in its place. -/
theorem que_set {g c k : Nat} {rest : List Value} {x : It} (h : Que B w q m (.slice (some ⟨g, 0, none⟩) L.length c) L M) (hh : Heap L L.length) (hk : k < L.length) (hx : x.1 = (at' L k).1) (hfx : (0 ≤ x.1 ∧ x.1 ≤ 1023) ∧ Fits x.2)
    (hr : Lrow w g 55 (pcells L ++ rest)) :
    Que B ((w.setCell ⟨g, k * 2, none⟩ (.int .i64 x.1)).setCell ⟨g, k * 2 + 1, none⟩ (.int .i64 x.2)) q m (.slice (some ⟨g, 0, none⟩) (L.set k x).length c) (L.set k x) M ∧ DownI (L.set k x) (L.set k x).length k k ∧
      Foot (Mine q m (.slice (some ⟨g, 0, none⟩) L.length c)) w ((w.setCell ⟨g, k * 2, none⟩ (.int .i64 x.1)).setCell ⟨g, k * 2 + 1, none⟩ (.int .i64 x.2)) := by
  have hr2 := (hr.set_ (k * 2) (.int .i64 x.1)).set_ (k * 2 + 1) (.int .i64 x.2)
  have hl := pcells_length L
  rw [List.set_append_left _ _ (by omega), List.set_append_left _ _ (by rw [List.length_set]; omega), ← pcells_set] at hr2
  have hg := grown_set' (grown_set w g (k * 2) (.int .i64 x.1)) (k * 2 + 1) (.int .i64 x.2)
  obtain ⟨h1, h2⟩ := h.lay.row rfl hr hr2 hg (List.length_set)
  have e : Value.slice (some (⟨g, 0, none⟩ : Addr)) L.length c = Value.slice (some ⟨g, 0, none⟩) (L.set k x).length c := by rw [List.length_set]
  rw [e] at h1
  refine ⟨h1.que (by rw [List.length_set]) (h.idx.set_ hx) (fun y hy => ?_) (by rw [List.length_set]; exact h.len), ?_, h2⟩
  · rcases List.mem_or_eq_of_mem_set hy with hy | rfl
    · exact h.fit y hy
    · exact hfx
  · rw [List.length_set]
    refine hh.fix hk _ fun j hj hjk => ?_
    unfold at'
    rw [List.getD_eq_getElem?_getD, List.getElem?_set_ne (Ne.symm hjk), ← List.getD_eq_getElem?_getD]
end
/-- What putting comes to. -/
def PutTo (B : Nat) (w : World) (q m : Nat) (iv : Value) (N : List It) (f v : Int) (e : Ending) (w' : World) : Prop :=
  e = .returned (.tuple #[]) ∧ ∃ iv', Qs B w' q m iv' (putL N f v) ∧ Grew w w' q m iv iv'
set_option maxHeartbeats 2000000 in
theorem put_any {B : Nat} {w : World} {q m : Nat} {iv : Value} {N : List It} (h : Qs B w q m iv N) {f v : Int} (hf : 0 ≤ f ∧ f ≤ 1023) (hv : Fits v) (hl : N.length < 5000) :
    Calls Try.prog 23 #[.pointer (some ⟨q, 0, none⟩), .agg #[.int .i64 f, .int .i64 v]] w (PutTo B w q m iv N f v) := by
  obtain ⟨L, M, hq, hh, hp⟩ := h
  obtain ⟨W, hW⟩ : ∃ W, W = w.alloc (.cells #[.int .i64 f, .int .i64 v] 55) := ⟨_, rfl⟩
  obtain ⟨b0, hb0⟩ : ∃ b0, b0 = w.heap.size := ⟨_, rfl⟩
  have hX : Lrow W b0 55 [.int .i64 f, .int .i64 v] := by rw [hW, hb0]; exact Lrow.new w _ _
  have hqW : Que B W q m iv L M := by rw [hW]; exact hq.alloc _
  have hgW : Grew w W q m iv iv := by rw [hW]; exact Grew.of_below ((Below.refl _ _).alloc (Nat.le_refl _) _)
  have hlL : L.length < 5000 := by rw [hp.length_eq]; exact hl
  obtain ⟨u, hr, hu⟩ := (hqW.lay.drew).map.look (f := f) (fits_fr hf)
  have hk1 := hqW.c1
  have hx0 : W.cell? ⟨b0, 0, none⟩ = some (.int .i64 f) := hX.cell 0
  have hx1 : W.cell? ⟨b0, 1, none⟩ = some (.int .i64 v) := hX.cell 1
  have hfB : frB f = true := by simp [frB, hf]
  have HF := Lib.hid (And.intro hf hv)
  have HW := Lib.hid hW
  have HB := Lib.hid hb0
  have HQ := Lib.hid (And.intro hqW (And.intro hh hp))
  have HG := Lib.hid hgW
  have HFB := Lib.hid hfB
  have HL := Lib.hid hlL
  cases hM : M f with
  | none =>
    rw [hM] at hr
    simp only [Option.isSome_none] at hr
    have HM := Lib.hid hM
    clear hM hu hfB hlL hl hgW hqW hX hb0 hW hq hh hf hv
    go_enter Try.func23, Try.ntmps23
    go_wp2_with fail
    rw [← HW.out, ← HB.out]
    go_region
    all_goals go_wp2_with fail
    all_goals
      refine (hpush_any (HQ.out.1.drewN 1) HQ.out.2.1 HF.out.1 HF.out.2 HM.out HL.out).mono ?_
      rintro e w3 ⟨rfl, iv', h1, h2⟩
      go_wp2
      go_end0
      have hno : hasF N f = false := (HQ.out.1.idx.none_iff HQ.out.2.2 f).1 HM.out
      refine ⟨rfl, iv', ?_, HG.out.trans ((Grew.of_below (below_dN (Below.refl _ _) 1)).trans h2)⟩
      rw [putL_new HFB.out hno]
      exact h1.perm (HQ.out.2.2.append_right _)
  | some kk =>
    obtain ⟨k, rfl, hkl, hke⟩ := hqW.idx.of f kk hM
    rw [hM] at hr
    simp only [Option.isSome_some] at hr
    obtain rfl := hu k hM
    obtain ⟨A, c, hiv⟩ := own_form hqW.own
    subst hiv
    obtain ⟨g, hA, hc, hcm, hgl, hB, hfz, hit⟩ := hqW.items (by omega)
    subst hA
    obtain ⟨a1, a2⟩ := hit k hkl
    have za1 := hfz (k * 2)
    have za2 := hfz (k * 2 + 1)
    have hk0 := hqW.c0
    have k0 : (0 : Int) ≤ k := by omega
    obtain ⟨rest, hrow, -⟩ := own_row hqW.own rfl
    obtain ⟨hq2, hd2, hf2⟩ := que_set (x := (f, v)) hqW hh hkl hke.symm ⟨hf, hv⟩ hrow
    have HZ := Lib.hid (And.intro hq2.drew.drew (And.intro hd2 (hf2.drewN 2)))
    have hset := Lib.hid (map_set (w := v) hqW.idx.dst hkl hke)
    have hyes := Lib.hid (show hasF N f = true by rw [← hasF_perm hp f]; exact hasF_iff.2 ⟨_, at_mem hkl, hke⟩)
    have HKL := Lib.hid hkl
    obtain ⟨n, hn⟩ : ∃ n, n = L.length := ⟨_, rfl⟩
    rw [← hn] at hk0 hkl
    have kl : (k : Int) < n := by omega
    have HN := Lib.hid hn
    clear hM hu hfB hlL hl hgW hqW hX hb0 hW hq hh hf hv hn hit hfz hrow hq2 hd2 hf2 hke hc hcm hB hgl hp
    go_enter Try.func23, Try.ntmps23
    go_wp2_with fail
    rw [← HW.out, ← HB.out]
    go_region
    all_goals go_wp2_with fail
    all_goals go_region
    all_goals go_wp2_with fail
    refine (fix_any HZ.out.1 (i := k) (by rw [List.length_set]; exact HKL.out) HZ.out.2.1).mono ?_
    rintro e w3 ⟨rfl, h1, h2⟩
    go_wp2
    go_end0
    have e3 : Value.slice (some (⟨g, 0, none⟩ : Addr)) (L.set k (f, v)).length c = Value.slice (some ⟨g, 0, none⟩) L.length c := by rw [List.length_set]
    rw [e3] at h1 h2
    refine ⟨rfl, _, ?_, HG.out.trans ((Grew.of_foot HZ.out.2.2).trans h2)⟩
    rw [putL_in HFB.out hyes.out]
    refine h1.perm ?_
    rw [← hset.out]
    exact HQ.out.2.2.map _
end Go.Proofs.Ytgkliffhdibghaa
