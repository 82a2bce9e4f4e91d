/- The program's objects: Set, Change. -/
import Derived.Test.YtnpacdbkmpchnaaM4
namespace Go.Proofs.Ytnpacdbkmpchnaa
open Go.RowKit
section
variable {w w' : World} {B : Nat} {T : ObT} {H H' : List Int} {L L' : List Og}
theorem keep_of {w w' : World} {b : Nat} (h : w.grownBy w' (some b)) : ∀ k, k < w.heap.size → k ≠ b → w'.heap[k]? = w.heap[k]? := fun k hk hne => h.block k hk (by intro e; injection e with e; exact hne e)
theorem seL_noO {i p f : Int} (c : seE H L i p f ≠ 0) : seL H L i p f = L := if_neg c
theorem ObAt.setP (h : ObAt B w T H L) (hG : Good H L) {i p f : Int} (c : seE H L i p f = 0) (hl : L.length ≤ 1000) {q : Nat × Nat} (e : T.A i = some q) :
    ∃ w2 w3, (Instr.mapUpdate 65 (.map (some q.2)) (.int .i64 p) (.int .i64 f)).run Try.prog w = .ok () w2 ∧ (Instr.mapUpdate 62 (.map (some T.bw)) (.int .i64 f) (.agg #[.int .i64 i, .int .i64 p])).run Try.prog w2 = .ok () w3 ∧
      (∀ k, k < w.heap.size → k ≠ q.2 → w2.heap[k]? = w.heap[k]?) ∧ DidM B w T H (seL H L i p f) w3 := by
  obtain ⟨-, -, -, -, p0, p1, f0, f1⟩ := seE_ok c
  have hF := h.fra i q e
  have hq := h.apo i q e
  obtain ⟨w2, r2, g2, s2, m2⟩ := hF.put (by omega) (f := p) (.int .i64 f) (by unfold FitM; omega)
  have k2 := keep_of g2
  obtain ⟨w3, r3, g3, s3, m3⟩ := (h.own.heap (k2 _ h.own.lt hq.2.symm)).put (by omega) (f := f) (.agg #[.int .i64 i, .int .i64 p]) (by unfold FitM; omega)
  have k3 := keep_of g3
  rw [s2] at k3
  have nr : ∀ {g t vs}, Lrow w g t vs → Lrow w3 g t vs := fun {g t vs} r => ((k3 _ r.lt (h.own.apart r)).trans (k2 _ r.lt (hF.apart r))).trans r
  refine ⟨w2, w3, r2, r3, k2, T, rfl, ObAt.of (n := H.length) (nr h.top) ((h.obj.heap (k2 _ h.obj.lt hq.1.symm)).heap (k3 _ h.obj.lt h.apb)) (m3.eq fun g _ => ?_) h.isA (fun j r ej => nr (h.row j r ej)) (fun j r ej => ?_) h.ap1 h.ap2 h.apo h.apb h.lo h.loq, ?_, fun _ e => Or.inl e⟩
  · rw [sayW_set hG c]
    by_cases d : g = f
    · subst d; rw [if_pos rfl, updM_same]
    · rw [if_neg d, updM_other _ _ d]
  · by_cases d : j = i
    · subst d
      rw [e] at ej
      injection ej with ej
      subst ej
      refine ⟨_, (m2.heap (k3 _ hF.lt hq.2)).eq fun g _ => ?_⟩
      rw [sayF_set hG c]
      by_cases d : g = p
      · subst d; rw [if_pos ⟨rfl, rfl⟩, updM_same]
      · rw [if_neg (fun k => d k.2), updM_other _ _ d]
    · have r' := h.fra j r ej
      refine ⟨_, ((r'.heap (k2 _ r'.lt (fun k => d (h.ap2 j i r q ej e k)))).heap (k3 _ r'.lt (h.apo j r ej).2)).eq fun g _ => ?_⟩
      rw [sayF_set hG c, if_neg (fun k => d k.1)]
  · exact (Foot.grown (X := MineO T) g2 (Or.inr (Or.inr (Or.inr ⟨i, q, e, Or.inr rfl⟩)))).trans (Foot.grown (X := MineO T) g3 (Or.inr (Or.inr (Or.inl rfl)))) fun _ e _ => e
set_option maxHeartbeats 1000000 in
set_option maxRecDepth 100000 in
theorem set_o (h : ObAt B w T H L) (hb : Bnd 200 H L) {i p f : Int} (hi : Fits i) (hp : Fits p) (hf : Fits f) : Calls Try.prog 15 #[.pointer (some ⟨T.s, 0, none⟩), .int .i64 i, .int .i64 p, .int .i64 f] w fun e w' => e = .returned (.int .i64 (seE H L i p f)) ∧ DidM B w T H (seL H L i p f) w' := by
  have HD0 : Hid (∀ w', Below w.heap.size w w' → DidM B w T H L w') := fun w' hb => h.did hb
  by_cases c : isB H i = true
  · obtain ⟨q, e⟩ := h.here c
    have cF := find_yes h hi e
    have cP := isPage_o p
    have cG := isFrame_o f
    by_cases c1 : 0 ≤ p ∧ p ≤ 4095
    · by_cases c2 : 0 ≤ f ∧ f ≤ 1023
      · have rg : rgB p f = false := by unfold rgB; simp; omega
        have cH := has_o h e hp
        have cO := owned_o h hf
        rw [decide_eq_true c1] at cP
        rw [decide_eq_true c2] at cG
        by_cases c3 : frE L i p = 0
        · have e7 : seE H L i p f = 7 := by unfold seE; rw [if_neg (by rw [c]; decide), if_neg (by rw [rg]; decide), if_pos (Or.inl c3)]
          rw [seL_noO (by rw [e7]; decide), e7]
          rw [decide_eq_true c3] at cH
          clear h hb c c1 c2 rg c3 e7 cO e hi hp hf
          go_enter Try.func15, Try.ntmps15
          go_wp2_with (first | (go_at_call 25; (with_reducible refine cF.mono ?_); rintro e w1 ⟨rfl, rfl⟩) | (go_at_call 29; (with_reducible refine (cP _).mono ?_); rintro e w1 ⟨rfl, rfl⟩) | (go_at_call 30; (with_reducible refine (cG _).mono ?_); rintro e w1 ⟨rfl, rfl⟩) | (go_at_call 28; (with_reducible refine cH.mono ?_); rintro e w1 ⟨rfl, rfl⟩))
          go_ret
          exact ⟨rfl, HD0.out _ (Below.refl _ _)⟩
        · rw [decide_eq_false c3] at cH
          by_cases c4 : owE L f = 0
          · have e7 : seE H L i p f = 7 := by unfold seE; rw [if_neg (by rw [c]; decide), if_neg (by rw [rg]; decide), if_pos (Or.inr (owE_of.1 c4))]
            rw [seL_noO (by rw [e7]; decide), e7]
            rw [decide_eq_true c4] at cO
            clear h hb c c1 c2 rg c3 c4 e7 e hi hp hf
            go_enter Try.func15, Try.ntmps15
            go_wp2_with (first | (go_at_call 25; (with_reducible refine cF.mono ?_); rintro e w1 ⟨rfl, rfl⟩) | (go_at_call 29; (with_reducible refine (cP _).mono ?_); rintro e w1 ⟨rfl, rfl⟩) | (go_at_call 30; (with_reducible refine (cG _).mono ?_); rintro e w1 ⟨rfl, rfl⟩) | (go_at_call 28; (with_reducible refine cH.mono ?_); rintro e w1 ⟨rfl, rfl⟩) | (go_at_call 27; (with_reducible refine cO.mono ?_); rintro e w1 ⟨rfl, hb1⟩))
            go_ret
            exact ⟨rfl, HD0.out _ hb1⟩
          · have e0 : seE H L i p f = 0 := by
              unfold seE
              rw [if_neg (by rw [c]; decide), if_neg (by rw [rg]; decide), if_neg]
              rintro (k | k)
              · exact c3 k
              · exact c4 (owE_of.2 k)
            rw [decide_eq_false c4] at cO
            have hk : Hid (∀ w1, Below w.heap.size w w1 → ∃ w2 w3, (Instr.mapUpdate 65 (.map (some q.2)) (.int .i64 p) (.int .i64 f)).run Try.prog w1 = .ok () w2 ∧ (Instr.mapUpdate 62 (.map (some T.bw)) (.int .i64 f) (.agg #[.int .i64 i, .int .i64 p])).run Try.prog w2 = .ok () w3 ∧
                w1.cell? ⟨q.1, 1, none⟩ = some (.map (some q.2)) ∧ w2.cell? ⟨T.s, 2, none⟩ = some (.map (some T.bw)) ∧ DidM B w T H (seL H L i p f) w3) := fun w1 hb1 => by
              have h1 := h.call hb1
              obtain ⟨w2, w3, r2, r3, k2, hd⟩ := h1.setP hb.good e0 (by have := hb.ll; omega) e
              exact ⟨w2, w3, r2, r3, (h1.row i q e).cell 1, (World.cell?_of_block (a := ⟨T.s, 2, none⟩) (k2 _ h1.top.lt ((h1.fra i q e).apart h1.top))).trans h1.c2, hd.pre hb1⟩
            rw [e0]
            clear h hb c c1 c2 rg c3 c4 e0 e hi hp hf HD0
            go_enter Try.func15, Try.ntmps15
            go_wp2_with (first | (go_at_call 25; (with_reducible refine cF.mono ?_); rintro e w1 ⟨rfl, rfl⟩) | (go_at_call 29; (with_reducible refine (cP _).mono ?_); rintro e w1 ⟨rfl, rfl⟩) | (go_at_call 30; (with_reducible refine (cG _).mono ?_); rintro e w1 ⟨rfl, rfl⟩) | (go_at_call 28; (with_reducible refine cH.mono ?_); rintro e w1 ⟨rfl, rfl⟩) | (go_at_call 27; (with_reducible refine cO.mono ?_); rintro e w1 ⟨rfl, hb1⟩; obtain ⟨w2, w3, r2, r3, d1, d2, hd⟩ := hk.out w1 hb1; have HE := Lib.hid hd; clear hd))
            go_ret
            exact ⟨rfl, HE.out⟩
      · have e3 : seE H L i p f = 3 := by unfold seE; rw [if_neg (by rw [c]; decide), if_pos (by unfold rgB; simp; omega)]
        rw [seL_noO (by rw [e3]; decide), e3]
        rw [decide_eq_true c1] at cP
        rw [decide_eq_false c2] at cG
        clear h hb c c1 c2 e3 e hi hp hf
        go_enter Try.func15, Try.ntmps15
        go_wp2_with (first | (go_at_call 25; (with_reducible refine cF.mono ?_); rintro e w1 ⟨rfl, rfl⟩) | (go_at_call 29; (with_reducible refine (cP _).mono ?_); rintro e w1 ⟨rfl, rfl⟩) | (go_at_call 30; (with_reducible refine (cG _).mono ?_); rintro e w1 ⟨rfl, rfl⟩))
        go_ret
        exact ⟨rfl, HD0.out _ (Below.refl _ _)⟩
    · have e3 : seE H L i p f = 3 := by unfold seE; rw [if_neg (by rw [c]; decide), if_pos (by unfold rgB; simp; omega)]
      rw [seL_noO (by rw [e3]; decide), e3]
      rw [decide_eq_false c1] at cP
      clear h hb c c1 e3 e hi hp hf cG
      go_enter Try.func15, Try.ntmps15
      go_wp2_with (first | (go_at_call 25; (with_reducible refine cF.mono ?_); rintro e w1 ⟨rfl, rfl⟩) | (go_at_call 29; (with_reducible refine (cP _).mono ?_); rintro e w1 ⟨rfl, rfl⟩))
      go_ret
      exact ⟨rfl, HD0.out _ (Below.refl _ _)⟩
  · have c' : isB H i = false := by simpa using c
    have cF := find_no h hi (h.gone c')
    have e6 : seE H L i p f = 6 := by unfold seE; rw [if_pos c']
    rw [seL_noO (by rw [e6]; decide), e6]
    clear h hb c c' e6 hi hp hf
    go_enter Try.func15, Try.ntmps15
    go_wp2_with (go_at_call 25; (with_reducible refine cF.mono ?_); rintro e w1 ⟨rfl, rfl⟩)
    go_ret
    exact ⟨rfl, HD0.out _ (Below.refl _ _)⟩
end
end Go.Proofs.Ytnpacdbkmpchnaa
