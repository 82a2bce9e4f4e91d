/- The contracts of package pick's First, Pop and New. -/
import Derived.Test.YtgkliffhdibghaaTd
namespace Go.Proofs.Ytgkliffhdibghaa
open Go.RowKit

/-- An item has been taken out, and is told. -/
def Took (B : Nat) (w : World) (q m : Nat) (iv : Value) (L : List It) (x : It) (e : Ending) (w' : World) : Prop :=
  e = .returned (.agg #[.int .i64 x.1, .int .i64 x.2]) ∧ ∃ iv' L', Qs B w' q m iv' L' ∧ L.Perm (L' ++ [x]) ∧ Grew w w' q m iv iv'
section
variable {w : World} {B q m : Nat} {iv : Value} {L : List It} {M : Int → Option Int}
set_option maxHeartbeats 1000000 in
theorem take_any (h : Que B w q m iv L M) (hh : Heap L L.length) (hl : 0 < L.length) :
    Calls Try.prog 27 #[.pointer (some ⟨q, 0, none⟩)] w (Took B w q m iv L (at' L 0)) := by
  have hb0 : Below w.heap.size w (w.alloc (.cells #[.int .i64 0, .int .i64 0] 55)) := (Below.refl _ _).alloc (Nat.le_refl _) _
  have HP := Lib.hid (hpop_any (h.alloc (.cells #[.int .i64 0, .int .i64 0] 55)) hh hl)
  have HG := Lib.hid (Grew.of_below (q := q) (m := m) (iv := iv) hb0)
  have HQ := Lib.hid (h.alloc (.cells #[.int .i64 0, .int .i64 0] 55))
  have hcl : Lrow (w.alloc (.cells #[.int .i64 0, .int .i64 0] 55)) w.heap.size 55 [.int .i64 0, .int .i64 0] := Lrow.new w _ _
  have hnm : ¬ Mine q m iv w.heap.size := fun e => by have := h.lt _ e; omega
  have HC := Lib.hid (And.intro hcl hnm)
  clear h hh hl hb0 hcl hnm
  unfold Took
  generalize at' L 0 = x at *
  go_enter Try.func27, Try.ntmps27
  go_wp2_with fail
  refine Calls.mono HP.out ?_
  rintro e w1 ⟨rfl, iv', L', h1, h2, h3⟩
  have hr1 := h3.foot.row HC.out.1 HC.out.2
  have hlt := hr1.lt
  have hc0 := hr1.cell 0
  have hc1 := hr1.cell 1
  have hz0 := hr1.frozen 0
  have hz1 := hr1.frozen 1
  have hta := assert_item w1 (.agg #[.int .i64 x.1, .int .i64 x.2])
  have HH := Lib.hid (And.intro h1 (And.intro h2 (HG.out.trans h3)))
  have hnr : ¬ Mine q m iv' w.heap.size := fun e => by
    rcases e with e | e | e
    · exact HC.out.2 (Or.inl e)
    · exact HC.out.2 (Or.inr (Or.inl e))
    · rcases h3.at_ with e2 | ⟨g, e2, hg⟩
      · exact HC.out.2 (Or.inr (Or.inr (e2 ▸ e)))
      · rw [e2] at e; injection e with e; simp at hg; omega
  have HNR := Lib.hid hnr
  clear h1 h2 h3 hnr
  go_wp2
  refine bodyPost_ret (v := .agg #[.int .i64 x.1, .int .i64 x.2]) (by simp [results, Try.results27, go_sem, hlt, hc0, hc1]) rfl ⟨rfl, iv', L', ?_, HH.out.2.1, ?_⟩
  · have hf : Foot (fun k => k = w.heap.size) w1 ((w1.setCell ⟨w.heap.size, 0, none⟩ (.int .i64 x.1)).setCell ⟨w.heap.size, 1, none⟩ (.int .i64 x.2)) := Foot.grown (grown_set' (grown_set w1 w.heap.size 0 _) 1 _) rfl
    exact (HH.out.1.foot hf (fun k hk e => HNR.out (e ▸ hk))).call ((Below.refl _ _).alloc (Nat.le_refl _) _)
  · have hf : Foot (fun k => k = w.heap.size) w1 ((w1.setCell ⟨w.heap.size, 0, none⟩ (.int .i64 x.1)).setCell ⟨w.heap.size, 1, none⟩ (.int .i64 x.2)) := Foot.grown (grown_set' (grown_set w1 w.heap.size 0 _) 1 _) rfl
    exact ⟨(HH.out.2.2.foot.trans hf (fun b e hb => by omega)).trans (Foot.of_below (X := fun _ => False) ((Below.refl _ _).alloc (Nat.le_refl _) _)) (fun _ h _ => h.elim), HH.out.2.2.at_⟩
/-- What tells an item: the numbers of the first, or that there is none. -/
theorem tell_nil (w : World) (fv : Value) : Calls Try.prog 26 #[.pointer none, fv] w fun e w' => e = .returned (.tuple #[.int .i64 0, .int .i64 0, .int .i64 1]) ∧ w = w' := by
  go_enter Try.func26, Try.ntmps26
  go_wp2
  go_ret3
  exact ⟨rfl, rfl⟩
theorem tell_none {A : Option Addr} {c : Nat} (hc : w.cell? ⟨q, 0, none⟩ = some (.slice A 0 c)) (fv : Value) : Calls Try.prog 26 #[.pointer (some ⟨q, 0, none⟩), fv] w fun e w' => e = .returned (.tuple #[.int .i64 0, .int .i64 0, .int .i64 6]) ∧ w = w' := by
  go_enter Try.func26, Try.ntmps26
  go_wp2
  go_ret3
  exact ⟨rfl, rfl⟩
set_option maxHeartbeats 1000000 in
theorem tell_first {A : Option Addr} {n c : Nat} {x : It} (hn : 0 < n) (hc : w.cell? ⟨q, 0, none⟩ = some (.slice A n c)) (hF : Calls Try.prog 28 #[.pointer (some ⟨q, 0, none⟩)] w (Told x w)) :
    Calls Try.prog 26 #[.pointer (some ⟨q, 0, none⟩), .func (.func 28) #[.pointer (some ⟨q, 0, none⟩)] #[]] w fun e w' => e = .returned (.tuple #[.int .i64 x.1, .int .i64 x.2, .int .i64 0]) ∧ Below w.heap.size w w' := by
  have HF := Lib.hid hF
  have n0 : ((n : Int) == 0) = false := by simpa using (by omega : ¬ (n : Int) = 0)
  clear hF
  go_enter Try.func26, Try.ntmps26
  go_wp2_with fail
  refine Calls.mono HF.out ?_
  rintro e w1 ⟨rfl, hb⟩
  go_wp2_with fail
  go_quiet (fail)
  go_wp2
  go_ret3
  exact ⟨rfl, below_dN (hb.trans ((Below.refl _ _).alloc hb.size _)) _⟩
set_option maxHeartbeats 1000000 in
theorem tell_take {A : Option Addr} {n c : Nat} {x : It} (hn : 0 < n) (hc : w.cell? ⟨q, 0, none⟩ = some (.slice A n c)) (hF : Calls Try.prog 27 #[.pointer (some ⟨q, 0, none⟩)] w (Took B w q m iv L x)) :
    Calls Try.prog 26 #[.pointer (some ⟨q, 0, none⟩), .func (.func 27) #[.pointer (some ⟨q, 0, none⟩)] #[]] w fun e w' => e = .returned (.tuple #[.int .i64 x.1, .int .i64 x.2, .int .i64 0]) ∧ ∃ iv' L', Qs B w' q m iv' L' ∧ L.Perm (L' ++ [x]) ∧ Grew w w' q m iv iv' := by
  have HF := Lib.hid hF
  have n0 : ((n : Int) == 0) = false := by simpa using (by omega : ¬ (n : Int) = 0)
  clear hF
  go_enter Try.func26, Try.ntmps26
  go_wp2_with fail
  refine Calls.mono HF.out ?_
  rintro e w1 ⟨rfl, iv', L', h1, h2, h3⟩
  go_wp2_with fail
  go_quiet (fail)
  go_wp2
  go_ret3
  have hb : Below w1.heap.size w1 ((w1.alloc (.cells #[.int .i64 x.1, .int .i64 x.2] 55)).drewN nq) := below_dN ((Below.refl _ _).alloc (Nat.le_refl _) _) _
  exact ⟨rfl, iv', L', h1.call hb, h2, h3.trans (Grew.of_below hb)⟩
variable {p : Nat} {N : List It}
theorem noE_pos (h : 0 < N.length) : noE N = 0 := by unfold noE; rw [if_neg (by omega)]
theorem nil_of (h : ¬ 0 < N.length) : N = [] := List.length_eq_zero_iff.1 (by omega)
set_option maxHeartbeats 1000000 in
theorem pickFirst_any (h : PickAt B w p q m iv N) :
    Calls Try.prog 17 #[.pointer (some ⟨p, 0, none⟩)] w fun e w' => e = .returned (.tuple #[.int .i64 (lst N).1, .int .i64 (lst N).2, .int .i64 (noE N)]) ∧ Below w.heap.size w w' := by
  have hc := h.c0
  obtain ⟨A, c, -, hc2⟩ := h.qs.len
  obtain ⟨L, M, hq, hh, hp⟩ := h.qs
  by_cases hN : 0 < N.length
  · have hLl : 0 < L.length := by rw [hp.length_eq]; exact hN
    have hF := first_any hq hLl
    rw [hh.first hLl hp] at hF
    have HT := Lib.hid (tell_first hN hc2 hF)
    rw [noE_pos hN]
    generalize lst N = x at *
    clear h hq hh hp hLl hF hN hc2
    go_enter Try.func17, Try.ntmps17
    go_wp2_with (first | (go_at_call 22; refine (lower_some hc).mono ?_; rintro e w' ⟨rfl, rfl⟩) | (go_at_call 26; refine Calls.mono HT.out ?_; rintro e w1 ⟨rfl, hb⟩))
    go_ret3
    exact ⟨rfl, hb⟩
  · obtain rfl := nil_of hN
    clear h hq hh hp hN
    go_enter Try.func17, Try.ntmps17
    go_wp2_with (first | (go_at_call 22; refine (lower_some hc).mono ?_; rintro e w' ⟨rfl, rfl⟩) | (go_at_call 26; refine (tell_none hc2 _).mono ?_; rintro e w1 ⟨rfl, rfl⟩))
    go_ret3
    exact ⟨rfl, Below.refl _ _⟩
set_option maxHeartbeats 1000000 in
theorem pickPop_any (h : PickAt B w p q m iv N) :
    Calls Try.prog 15 #[.pointer (some ⟨p, 0, none⟩)] w (Did B w p q m iv (dropL N (lst N).1) (.tuple #[.int .i64 (lst N).1, .int .i64 (lst N).2, .int .i64 (noE N)])) := by
  have hc := h.c0
  have H := Lib.hid h
  obtain ⟨A, c, -, hc2⟩ := h.qs.len
  obtain ⟨L, M, hq, hh, hp⟩ := h.qs
  by_cases hN : 0 < N.length
  · have hLl : 0 < L.length := by rw [hp.length_eq]; exact hN
    have hF := take_any hq hh hLl
    rw [hh.first hLl hp] at hF
    have HT := Lib.hid (tell_take hN hc2 hF)
    have HK := Lib.hid (And.intro hp hq.idx.dst)
    rw [noE_pos hN]
    obtain ⟨x, hx⟩ : ∃ x, x = lst N := ⟨_, rfl⟩
    rw [← hx] at HT ⊢
    clear h hq hh hp hLl hF hN hc2 hx
    go_enter Try.func15, Try.ntmps15
    go_wp2_with (first | (go_at_call 22; refine (lower_some hc).mono ?_; rintro e w' ⟨rfl, rfl⟩) | (go_at_call 26; refine Calls.mono HT.out ?_; rintro e w1 ⟨rfl, iv', L', h1, h2, h3⟩))
    go_ret3
    have hpp := dropL_of (N := N) (L := L') (x := x) (HK.out.2.perm HK.out.1) (HK.out.1.symm.trans h2)
    exact did_of H.out (h1.perm hpp.symm) h3
  · obtain rfl := nil_of hN
    clear h hq hh hp hN
    go_enter Try.func15, Try.ntmps15
    go_wp2_with (first | (go_at_call 22; refine (lower_some hc).mono ?_; rintro e w' ⟨rfl, rfl⟩) | (go_at_call 26; refine (tell_none hc2 _).mono ?_; rintro e w1 ⟨rfl, rfl⟩))
    go_ret3
    exact did_of H.out H.out.qs (Grew.of_below (Below.refl _ _))
end
/-- One without frames has been made. -/
def Made (w : World) (e : Ending) (w' : World) : Prop :=
  ∃ p q m iv, e = .returned (.pointer (some ⟨p, 0, none⟩)) ∧ PickAt w.heap.size w' p q m iv [] ∧ Below w.heap.size w w'
theorem made_of (w : World) : PickAt w.heap.size (((w.alloc (.map #[] 0)).alloc (.cells #[.slice none 0 0, .map (some w.heap.size), .func (.func 21) #[] #[]] 58)).alloc (.cells #[.pointer (some ⟨w.heap.size + 1, 0, none⟩)] 60)) (w.heap.size + 2) (w.heap.size + 1) w.heap.size (.slice none 0 0) [] := by
  have h1 := MapIs.new w
  have h2 : Lrow ((w.alloc (.map #[] 0)).alloc (.cells #[.slice none 0 0, .map (some w.heap.size), .func (.func 21) #[] #[]] 58)) (w.heap.size + 1) 58 [.slice none 0 0, .map (some w.heap.size), .func (.func 21) #[] #[]] := by
    have := Lrow.new (w.alloc (.map #[] 0)) 58 [.slice none 0 0, .map (some w.heap.size), .func (.func 21) #[] #[]]
    simpa using this
  have hq : Que w.heap.size ((w.alloc (.map #[] 0)).alloc (.cells #[.slice none 0 0, .map (some w.heap.size), .func (.func 21) #[] #[]] 58)) (w.heap.size + 1) w.heap.size (.slice none 0 0) [] (fun _ => none) :=
    ⟨h2, ⟨rfl, Or.inl ⟨rfl, rfl⟩⟩, h1.heap (Below.heap_alloc _ _ _ (by simp)), idx_nil, (fun x hx => (by cases hx)), (by simp), (by omega), Nat.le_refl _⟩
  refine ⟨?_, ⟨[], _, hq.alloc _, heap_nil, List.Perm.refl _⟩, (by omega)⟩
  have := Lrow.new ((w.alloc (.map #[] 0)).alloc (.cells #[.slice none 0 0, .map (some w.heap.size), .func (.func 21) #[] #[]] 58)) 60 [.pointer (some ⟨w.heap.size + 1, 0, none⟩)]
  simpa using this
theorem new_any (w : World) : Calls Try.prog 9 #[] w (Made w) := by
  have hmm := @run_makeMap Try.prog
  go_enter Try.func9, Try.ntmps9
  go_wp2
  go_ret
  exact ⟨_, _, _, _, rfl, made_of w, (((Below.refl _ _).alloc (Nat.le_refl _) _).alloc (by simp) _).alloc (by simp; omega) _⟩
end Go.Proofs.Ytgkliffhdibghaa
