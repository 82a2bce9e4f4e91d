/- The contracts of package heap's calls, over the queue: Remove, Pop. -/
import Derived.Test.YtgkliffhdibghaaTa
namespace Go.Proofs.Ytgkliffhdibghaa
open Go.RowKit

/-- An item has been taken out. -/
def Gone (B : Nat) (w : World) (q m : Nat) (iv : Value) (L : List It) (x : It) (e : Ending) (w' : World) : Prop :=
  e = .returned (.iface 55 (.agg #[.int .i64 x.1, .int .i64 x.2])) ∧ ∃ iv' L', Qs B w' q m iv' L' ∧ L.Perm (L' ++ [x]) ∧ Grew w w' q m iv iv'
section
variable {w w1 w2 : World} {B q m n i : Nat} {iv : Value} {L L2 : List It}
theorem gone_of {x : It} {e : Ending} {w' : World} (hn : L2.length = n + 1) (hh : Heap L2 n) (hp : L2.Perm L) (hx : at' L2 n = x) (hg : Grew w w1 q m iv iv) (h : Popped B w1 q m iv L2 n e w') : Gone B w q m iv L x e w' := by
  obtain ⟨rfl, iv', M', h1, h2, h3⟩ := h
  refine ⟨by rw [hx], iv', L2.take n, ⟨_, _, h1, heap_take hh (by omega), List.Perm.refl _⟩, ?_, hg.trans ⟨h2, Or.inl h3⟩⟩
  rw [← hx, snoc_at L2 hn]
  exact hp.symm
end
set_option maxHeartbeats 2000000 in
theorem remove_any {B : Nat} {w : World} {q m : Nat} {iv : Value} {L : List It} {M : Int → Option Int} (h : Que B w q m iv L M) (hh : Heap L L.length) {i : Nat} (hi : i < L.length) :
    Calls Try.prog 25 #[.iface 50 (.pointer (some ⟨q, 0, none⟩)), .int .i64 i] w (Gone B w q m iv L (at' L i)) := by
  have hml := fun w1 => meth_len w1 ⟨q, 0, none⟩
  have hms := fun w1 => meth_swap w1 ⟨q, 0, none⟩
  have hmp := fun w1 => meth_pop w1 ⟨q, 0, none⟩
  obtain ⟨A, c, hv⟩ := own_form h.own
  subst hv
  have hc := h.c0
  obtain ⟨n, hn⟩ : ∃ n, L.length = n + 1 := ⟨L.length - 1, by omega⟩
  rw [hn] at hc
  have n0 : (0 : Int) ≤ n := by omega
  have n5 : (n : Int) ≤ 5000 := by have := h.len; omega
  have HN := Lib.hid hn
  have HQ := Lib.hid h
  have HI := Lib.hid hi
  have HH := Lib.hid hh
  by_cases e : i = n
  · subst e
    clear h hn hi hh
    go_enter Try.func25, Try.ntmps25
    go_wp2_with fail
    refine (len_some hc).mono ?_
    rintro e w2 ⟨rfl, rfl⟩
    clear hc
    go_wp2_with fail
    refine (pop_any HQ.out HN.out).mono ?_
    intro e w3 hp
    have hg := gone_of HN.out (HH.out.less (by rw [HN.out]; omega)) (List.Perm.refl _) rfl (Grew.of_below (Below.refl _ _)) hp
    obtain ⟨rfl, hg2⟩ := hg
    have HG := Lib.hid hg2
    clear hp hg2
    go_wp2
    go_ret
    exact ⟨rfl, HG.out⟩
  · have hne : ((n : Int) == i) = false := by simpa using (by omega : ¬ (n : Int) = i)
    have hin : i < n := by omega
    have hsw := swp_at L i n
    have HS := Lib.hid (fun k => hsw k hi (by omega))
    have HD := Lib.hid ((hh.less (m := n) (by omega)).fix (i := i) hin (swp L i n) (fun k hk hki => by rw [hsw k hi (by omega), if_neg (by omega), if_neg hki]))
    have HIN := Lib.hid hin
    clear h hn hi hh hsw hin e
    go_enter Try.func25, Try.ntmps25
    go_wp2_with fail
    refine (len_some hc).mono ?_
    rintro e w2 ⟨rfl, rfl⟩
    clear hc
    go_wp2_with fail
    refine (swap_any HQ.out HI.out (by rw [HN.out]; omega)).mono ?_
    rintro e w3 ⟨rfl, M3, hq3, hf3⟩
    have HQ3 := Lib.hid hq3
    have HF3 := Lib.hid hf3
    have HL3 := Lib.hid (swp_length L i n)
    clear hq3 hf3
    go_wp2_with fail
    refine (down_any HQ3.out (n := n) (by rw [HL3.out, HN.out]; omega) (Nat.le_of_lt HIN.out) HD.out).mono ?_
    rintro e w4 ⟨L4, M4, g1, g2, g3, g4, g5⟩
    have hl4 : L4.length = n + 1 := by rw [g2.length_eq, HL3.out, HN.out]
    have hp4 : L4.Perm L := g2.trans (swp_perm _ _ _ HI.out (by rw [HN.out]; omega))
    have hx4 : at' L4 n = at' L i := by rw [g3 n (Nat.le_refl _), HS.out, if_pos rfl]
    have hg4 : Grew w w4 q m (.slice A L.length c) (.slice A L.length c) := (Grew.of_foot HF3.out).trans (Grew.of_foot g4)
    rcases g5 with ⟨rfl, g5⟩ | ⟨rfl, g5⟩
    · have HZ := Lib.hid (And.intro g1 (And.intro hl4 (And.intro g5 (And.intro hp4 (And.intro hx4 hg4)))))
      clear g1 g2 g3 g4 g5 hl4 hp4 hx4 hg4
      go_wp2_with fail
      refine (pop_any HZ.out.1 HZ.out.2.1).mono ?_
      intro e w5 hp
      obtain ⟨rfl, hg2⟩ := gone_of HZ.out.2.1 HZ.out.2.2.1 HZ.out.2.2.2.1 HZ.out.2.2.2.2.1 HZ.out.2.2.2.2.2 hp
      have HG := Lib.hid hg2
      clear hp hg2
      go_wp2
      go_ret
      exact ⟨rfl, HG.out⟩
    · have HZ := Lib.hid (And.intro g1 (And.intro hl4 (And.intro g5 (And.intro hp4 (And.intro hx4 hg4)))))
      clear g1 g2 g3 g4 g5 hl4 hp4 hx4 hg4
      go_wp2_with fail
      refine (up_any HZ.out.1 (n := n) (by rw [HZ.out.2.1]; omega) HIN.out HZ.out.2.2.1).mono ?_
      rintro e w5 ⟨rfl, L5, M5, k1, k2, k3, k4, k5⟩
      have HY := Lib.hid (And.intro k1 (And.intro k2 (And.intro k3 (And.intro k4 k5))))
      clear k1 k2 k3 k4 k5
      go_wp2_with fail
      refine (pop_any HY.out.1 (n := n) (by rw [HY.out.2.1.length_eq, HZ.out.2.1])).mono ?_
      intro e w6 hp
      obtain ⟨rfl, hg2⟩ := gone_of (by rw [HY.out.2.1.length_eq, HZ.out.2.1]) HY.out.2.2.1 (HY.out.2.1.trans HZ.out.2.2.2.1) (by rw [HY.out.2.2.2.1 n (Nat.le_refl _), HZ.out.2.2.2.2.1]) (HZ.out.2.2.2.2.2.trans (Grew.of_foot HY.out.2.2.2.2)) hp
      have HG := Lib.hid hg2
      clear hp hg2
      go_wp2
      go_ret
      exact ⟨rfl, HG.out⟩
set_option maxHeartbeats 2000000 in
theorem hpop_any {B : Nat} {w : World} {q m : Nat} {iv : Value} {L : List It} {M : Int → Option Int} (h : Que B w q m iv L M) (hh : Heap L L.length) (hi : 0 < L.length) :
    Calls Try.prog 34 #[.iface 50 (.pointer (some ⟨q, 0, none⟩))] w (Gone B w q m iv L (at' L 0)) := by
  have hml := fun w1 => meth_len w1 ⟨q, 0, none⟩
  have hms := fun w1 => meth_swap w1 ⟨q, 0, none⟩
  have hmp := fun w1 => meth_pop w1 ⟨q, 0, none⟩
  obtain ⟨A, c, hv⟩ := own_form h.own
  subst hv
  have hc := h.c0
  obtain ⟨n, hn⟩ : ∃ n, L.length = n + 1 := ⟨L.length - 1, by omega⟩
  rw [hn] at hc
  have n0 : (0 : Int) ≤ n := by omega
  have n5 : (n : Int) ≤ 5000 := by have := h.len; omega
  have HN := Lib.hid hn
  have HQ := Lib.hid h
  have HI := Lib.hid hi
  have hsw := swp_at L 0 n
  have HS := Lib.hid (fun k => hsw k hi (by omega))
  have HD : Hid (DownI (swp L 0 n) n 0 0) := by
    by_cases e : n = 0
    · subst e; exact ⟨fun k k0 kn => by omega, fun h0 => by omega⟩
    · exact (hh.less (m := n) (by omega)).fix (i := 0) (by omega) (swp L 0 n) (fun k hk hki => by rw [hsw k hi (by omega), if_neg (by omega), if_neg hki])
  clear h hn hi hh hsw
  go_enter Try.func34, Try.ntmps34
  go_wp2_with fail
  refine (len_some hc).mono ?_
  rintro e w2 ⟨rfl, rfl⟩
  clear hc
  go_wp2_with fail
  refine (swap_any HQ.out (i := 0) HI.out (by rw [HN.out]; omega)).mono ?_
  rintro e w3 ⟨rfl, M3, hq3, hf3⟩
  have HQ3 := Lib.hid hq3
  have HF3 := Lib.hid hf3
  have HL3 := Lib.hid (swp_length L 0 n)
  clear hq3 hf3
  go_wp2_with fail
  refine (down_any HQ3.out (n := n) (i0 := 0) (by rw [HL3.out, HN.out]; omega) (Nat.zero_le _) HD.out).mono ?_
  rintro e w4 ⟨L4, M4, g1, g2, g3, g4, g5⟩
  have hl4 : L4.length = n + 1 := by rw [g2.length_eq, HL3.out, HN.out]
  have hp4 : L4.Perm L := g2.trans (swp_perm _ _ _ HI.out (by rw [HN.out]; omega))
  have hx4 : at' L4 n = at' L 0 := by rw [g3 n (Nat.le_refl _), HS.out, if_pos rfl]
  have hg4 : Grew w w4 q m (.slice A L.length c) (.slice A L.length c) := (Grew.of_foot HF3.out).trans (Grew.of_foot g4)
  have hh4 : Heap L4 n := by
    rcases g5 with ⟨_, g5⟩ | ⟨_, g5⟩
    · exact g5
    · exact g5.done (Or.inl rfl)
  have he : ∃ b, e = .returned (.bool b) := by
    rcases g5 with ⟨g5, _⟩ | ⟨g5, _⟩
    · exact ⟨_, g5⟩
    · exact ⟨_, g5⟩
  obtain ⟨b, rfl⟩ := he
  have HZ := Lib.hid (And.intro g1 (And.intro hl4 (And.intro hh4 (And.intro hp4 (And.intro hx4 hg4)))))
  clear g1 g2 g3 g4 g5 hl4 hp4 hx4 hg4 hh4
  go_wp2_with fail
  refine (pop_any HZ.out.1 HZ.out.2.1).mono ?_
  intro e w5 hp
  obtain ⟨rfl, hg2⟩ := gone_of HZ.out.2.1 HZ.out.2.2.1 HZ.out.2.2.2.1 HZ.out.2.2.2.2.1 HZ.out.2.2.2.2.2 hp
  have HG := Lib.hid hg2
  clear hp hg2
  go_wp2
  go_ret
  exact ⟨rfl, HG.out⟩
end Go.Proofs.Ytgkliffhdibghaa
