/- Both sides; what must come at any rate; the calls as a list. -/
import Derived.Test.YtgpbbmcadifdhaaT0
import Derived.Test.YtgpbbmcadifdhaaT1
import Derived.Test.YtgpbbmcadifdhaaS9
import Derived.Test.YtgpbbmcadifdhaaS3
namespace Go.Proofs.Ytgpbbmcadifdhaa
open Go.RowKit

/-- The program's object and the reference, both over L. -/
structure St (B : Nat) (w : World) (T : Rm) (xa : Nat) (xv : Value) (L : List On) : Prop where
  t : RmIs B w T L
  r : Rx B w xa xv L
section
variable {w w' : World} {B xa : Nat} {T T' : Rm} {xv : Value} {L L' : List On}
theorem St.call (h : St B w T xa xv L) (hb : Below w.heap.size w w') : St B w' T xa xv L := ⟨h.t.call hb, h.r.call hb⟩
/-- The program has made its call. -/
theorem St.half (h : St B w T xa xv L) (c : Chg B w T T' L' w') : RmIs B w' T' L' ∧ Rx B w' xa xv L ∧ Below B w w' ∧ ∀ {g : Nat} {t : TypeId} {vs : List Value}, Lrow w g t vs → t ≠ 51 → t ≠ 27 → Lrow w' g t vs := by
  refine ⟨c.is, h.r.keep c.foot.size fun k hk hl => c.foot.keep k hl ?_, c.foot.below h.r.lw h.t.lo, fun r h1 h2 => c.foot.row r (h.t.other r h1 h2)⟩
  rcases hk with rfl | e
  · exact h.t.other h.r.top (by decide) (by decide)
  · obtain ⟨vs, r, _⟩ := h.r.own.block e
    exact h.t.other r (by decide) (by decide)
/-- The reference has made its call. -/
theorem St.whole (hT : RmIs B w T L') (hR : Rx B w xa xv L) {r : Int} {e : Ending} (d : DidX B w xa xv L' r e w') : e = .returned (.int .i64 r) ∧ ∃ xv', St B w' T xa xv' L' ∧ Below B w w' ∧
    ∀ {g : Nat} {t : TypeId} {vs : List Value}, Lrow w g t vs → t ≠ 65 → Lrow w' g t vs := by
  obtain ⟨e1, v, hR', hF, ho⟩ := d
  refine ⟨e1, v, ⟨hT.keep fun k hk => hF.keep k (hT.lt k hk) ?_, hR'⟩, hF.below hR.lw (fun b hb => by rw [hb]; exact hR.lo), fun r h1 => hF.row r (fun e => r.apart hR.top h1 e)⟩
  rintro rfl
  exact hT.other hR.top (by decide) (by decide) hk
end
/-- What a call makes of the list. -/
def doL (L : List On) (l : Ac) : List On := if l.k = 0 ∨ l.k = 1 ∨ l.k = 2 then adL L l.f (l.s, l.p) else if l.k = 3 then deL L l.f (l.s, l.p) else moL L l.f l.t
theorem doL_len (L : List On) (h : Good L) (l : Ac) : (doL L l).length ≤ L.length + 1 := by
  unfold doL
  split
  · exact add_len _ _
  · split
    · exact Nat.le_succ_of_le (del_le _ _ _)
    · rw [(h.move _ _).2]; exact Nat.le_succ _
theorem doL_good {L : List On} (h : Good L) {l : Ac} (ok : IsAc l) : Good (doL L l) := by
  unfold doL
  split
  · exact h.add _ ok.s
  · split
    · exact h.del _ _
    · exact (h.move _ _).1
/-- What calls make. -/
def mdL (M : List Ac) : List On := M.foldl doL []
theorem mdL_snoc (M : List Ac) (l : Ac) : mdL (M ++ [l]) = doL (mdL M) l := by unfold mdL; rw [List.foldl_append]; rfl
/-- Calls as they lie. -/
def Lsa (w : World) (b : Nat) (A : Option Addr) (M : List Ac) : Prop := 0 < M.length → ∃ a, A = some a ∧ ∀ i (h : i < M.length), IsAc M[i] ∧ (a.add (i * 5)).block < b ∧ AcAt w (a.add (i * 5)) M[i]
theorem Lsa.below {w w' : World} {b : Nat} {A : Option Addr} {M : List Ac} (h : Lsa w b A M) (hb : Below b w w') : Lsa w' b A M := fun h0 => by
  obtain ⟨a, e, hc⟩ := h h0
  exact ⟨a, e, fun i hi => ⟨(hc i hi).1, (hc i hi).2.1, (hc i hi).2.2.below hb (hc i hi).2.1⟩⟩
theorem Acs.list {w : World} {b n : Nat} {A : Option Addr} (h : Acs w b A n) : ∃ M : List Ac, M.length = n ∧ Lsa w b A M := by
  rcases Nat.eq_zero_or_pos n with rfl | hn
  · exact ⟨[], rfl, fun h0 => absurd h0 (by simp)⟩
  · obtain ⟨a, e, hlt, hc⟩ := h hn
    refine ⟨List.ofFn fun i : Fin n => Classical.choose (hc i i.2), List.length_ofFn, fun _ => ⟨a, e, fun i hi => ?_⟩⟩
    rw [List.getElem_ofFn]
    have := Classical.choose_spec (hc i (by simpa using hi))
    exact ⟨this.1, by rw [add_blk]; exact hlt, this.2⟩
theorem mdL_good {M : List Ac} (h : ∀ l ∈ M, IsAc l) : Good (mdL M) ∧ (mdL M).length ≤ M.length := by
  have : ∀ (M : List Ac) (L : List On), (∀ l ∈ M, IsAc l) → Good L → Good (M.foldl doL L) ∧ (M.foldl doL L).length ≤ L.length + M.length := by
    intro M
    induction M with
    | nil => intro L _ hL; exact ⟨hL, Nat.le_refl _⟩
    | cons l r ih =>
      intro L hM hL
      have k := ih (doL L l) (fun x hx => hM x (List.mem_cons_of_mem _ hx)) (doL_good hL (hM l (List.mem_cons_self ..)))
      have := doL_len L hL l
      simp only [List.foldl_cons, List.length_cons]
      exact ⟨k.1, by omega⟩
  have k := this M [] h Good.nil
  exact ⟨k.1, by have := k.2; rw [List.length_nil, Nat.zero_add] at this; exact this⟩
theorem Chg.down {B : Nat} {w w' : World} {T T' : Rm} {L N : List On} (c : Chg B w T T' N w') (h : RmIs B w T L) (hB : B ≤ w.heap.size) : Below B w w' := c.foot.below hB h.lo
set_option maxRecDepth 100000 in
set_option maxHeartbeats 2000000 in
theorem awake_any (w : World) : Calls Try.prog 8 #[] w fun e w' => e = .returned (.bool true) ∧ Below w.heap.size w w' := by
  have hnew := new_any w
  go_enter Try.func8, Try.ntmps8
  go_wp2_with fail
  refine hnew.mono ?_
  rintro e w1 ⟨T1, rfl, hT1, hb1⟩
  have h1 := add_any (f := 5) (x := 0) (y := 1) hT1 hb1.size (by decide) (by unfold Fits; omega)
  rw [show adE [] 5 (0, 1) = 0 by decide, show adL [] 5 (0, 1) = [(5, 0, 1)] by decide] at h1
  have HB1 := Lib.hid hb1
  have HT1 := Lib.hid hT1
  clear hnew hb1 hT1
  go_wp2_with fail
  refine h1.mono ?_
  rintro e w2 ⟨rfl, T2, hc⟩
  have HB2 : Hid (Below w.heap.size w w2) := HB1.out.trans (hc.down HT1.out HB1.out.size)
  have hT2 := hc.is
  have hs2 := hc.s
  have h2 := add_any (f := 5) (x := 1) (y := 1) hT2 HB2.out.size (by decide) (by unfold Fits; omega)
  rw [show adE [(5, 0, 1)] 5 (1, 1) = 0 by decide, show adL [(5, 0, 1)] 5 (1, 1) = [(5, 0, 1), (5, 1, 1)] by decide, hs2] at h2
  have HS2 := Lib.hid hs2
  have HT2 := Lib.hid hT2
  clear h1 hc hT2 hs2
  go_wp2_with fail
  refine h2.mono ?_
  rintro e w3 ⟨rfl, T3, hc⟩
  have HB3 : Hid (Below w.heap.size w w3) := HB2.out.trans (hc.down HT2.out HB2.out.size)
  have hT3 := hc.is
  have hs3 : T3.s = T1.s := hc.s.trans HS2.out
  have h3 := count_any (f := 5) hT3 (by unfold Fits; omega)
  rw [show ((sps [(5, 0, 1), (5, 1, 1)] 5).length : Int) = 2 by decide, hs3] at h3
  have h4 := mov_any hT3 (by decide) (a := 5) (b := 6) (by unfold Fits; omega) (by unfold Fits; omega)
  rw [show moE [(5, 0, 1), (5, 1, 1)] 5 6 = 0 by decide, show moL [(5, 0, 1), (5, 1, 1)] 5 6 = [(6, 0, 1), (6, 1, 1)] by decide, hs3] at h4
  have HS3 := Lib.hid hs3
  have HT3 := Lib.hid hT3
  clear h2 hc hT3 hs3
  go_wp2_with fail
  refine h3.mono ?_
  rintro e w3' ⟨rfl, rfl⟩
  go_wp2_with fail
  refine h4.mono ?_
  rintro e w4 ⟨rfl, T4, hc⟩
  have HB4 : Hid (Below w.heap.size w w4) := HB3.out.trans (hc.down HT3.out HB3.out.size)
  have hT4 := hc.is
  have hs4 : T4.s = T1.s := hc.s.trans HS3.out
  have h5 := frames_any hT4 (by decide)
  rw [show frs [(6, 0, 1), (6, 1, 1)] = [6] by decide, hs4] at h5
  clear h3 h4 hc hT4 hs4
  go_wp2_with fail
  refine h5.mono ?_
  rintro e w5 ⟨A5, c5, rfl, ho5, hb5⟩
  have HB5 : Hid (Below w.heap.size w w5) := HB4.out.trans (hb5.mono HB4.out.size)
  have hbn := below_new w5 (.cells #[.int .i64 6] 3)
  have hl : EI.Ls (w5.alloc (.cells #[.int .i64 6] 3)) A5 [6] := ho5.ls.call hbn
  have hm : EI.Ls (w5.alloc (.cells #[.int .i64 6] 3)) (some ⟨w5.heap.size, 0, none⟩) [6] := fun _ => ⟨w5.heap.size, rfl, by simp, fun j hj i hi => by
    have hj0 : j = 0 := by simpa using hj
    have hi0 : i = 0 := by change i < 1 at hi; omega
    subst hj0 hi0
    exact (Lrow.new w5 3 [.int .i64 6]).cell 0⟩
  have h6 := numbers_any (c := c5) (c' := 1) hl hm (by decide) (by decide)
  have HBN : Hid (Below w.heap.size w (w5.alloc (.cells #[.int .i64 6] 3))) := HB5.out.trans (hbn.mono HB5.out.size)
  clear h5 ho5 hb5 hbn hl hm
  go_wp2_with fail
  refine h6.mono ?_
  rintro e w6 ⟨rfl, hb6⟩
  have HB6 : Hid (Below w.heap.size w w6) := HBN.out.trans (hb6.mono HBN.out.size)
  clear h6 hb6
  go_wp2
  go_ret
  exact ⟨rfl, HB6.out⟩
end Go.Proofs.Ytgpbbmcadifdhaa
