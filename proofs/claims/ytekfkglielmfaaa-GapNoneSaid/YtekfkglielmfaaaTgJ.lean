/- The program's tree: meets. -/
import Derived.Test.YtekfkglielmfaaaTgI
namespace Go.Proofs.Ytekfkglielmfaaa
open Go.RowKit
/-- The way down to the node at o. -/
def MtV (w : World) (a b : Int) (o : Option Addr) : Nd → Value → Prop
  | .nil, v => v = .pointer none ∧ o = none
  | .node l s r, v => ∃ (g : Nat) (x y : Option Addr), v = .pointer (some ⟨g, 0, none⟩) ∧ w.cell? ⟨g, 0, none⟩ = some (.int .i64 s.1) ∧ w.cell? ⟨g, 1, none⟩ = some (.int .i64 s.2) ∧ w.cell? ⟨g, 2, none⟩ = some (.pointer x) ∧ w.cell? ⟨g, 3, none⟩ = some (.pointer y) ∧
      (if b < (s.1 : Int) then MtV w a b o l (.pointer x) else if (s.2 : Int) ≤ a then MtV w a b o r (.pointer y) else o = some ⟨g, 0, none⟩)
theorem mtv_ex {w : World} (a b : Int) : ∀ {T : Nd} {v : Value}, NdAt w T v → ∃ o, NdAt w (T.mt a b) (.pointer o) ∧ MtV w a b o T v
  | .nil, v, h => ⟨none, rfl, h, rfl⟩
  | .node l s r, v, h => by
    obtain ⟨g, rfl⟩ := h.open_
    obtain ⟨ol, or, nl, nr, c0, c1, c2, c3, -⟩ := h.cells
    by_cases k1 : b < (s.1 : Int)
    · obtain ⟨o, h1, h2⟩ := mtv_ex a b nl
      exact ⟨o, by rw [Nd.mt, if_pos k1]; exact h1, g, ol, or, rfl, c0, c1, c2, c3, by rw [if_pos k1]; exact h2⟩
    · by_cases k2 : (s.2 : Int) ≤ a
      · obtain ⟨o, h1, h2⟩ := mtv_ex a b nr
        exact ⟨o, by rw [Nd.mt, if_neg k1, if_pos k2]; exact h1, g, ol, or, rfl, c0, c1, c2, c3, by rw [if_neg k1, if_pos k2]; exact h2⟩
      · exact ⟨some ⟨g, 0, none⟩, by rw [Nd.mt, if_neg k1, if_neg k2]; exact h, g, ol, or, rfl, c0, c1, c2, c3, by rw [if_neg k1, if_neg k2]⟩
theorem MtV.call {w w' : World} {a b : Int} {o : Option Addr} (hb : Below w.heap.size w w') : ∀ {T : Nd} {v : Value}, MtV w a b o T v → MtV w' a b o T v
  | .nil, _, h => h
  | .node l s r, v, ⟨g, x, y, e, c0, c1, c2, c3, h⟩ => by
    refine ⟨g, x, y, e, keep_cell hb c0, keep_cell hb c1, keep_cell hb c2, keep_cell hb c3, ?_⟩
    split
    · rename_i k; rw [if_pos k] at h; exact MtV.call hb h
    · rename_i k; rw [if_neg k] at h
      split
      · rename_i k2; rw [if_pos k2] at h; exact MtV.call hb h
      · rename_i k2; rw [if_neg k2] at h; exact h
section
variable {w w' W W' : World} {T l r : Nd} {s : Nat × Nat} {v x y : Value} {p : Nat}
set_option maxHeartbeats 4000000 in
theorem meets_v {a b : Int} {o : Option Addr} (h : MtV w a b o T v) : Calls Try.prog 30 #[v, .int .i64 a, .int .i64 b] w fun e w' => e = .returned (.pointer o) ∧ w' = w := by
  obtain ⟨u, rfl⟩ : ∃ u, v = .pointer u := by
    cases T with
    | nil => exact ⟨_, h.1⟩
    | node l s r => obtain ⟨g, x, y, e, -⟩ := h; exact ⟨_, e⟩
  have H0 : Hid (∃ T' : Nd, T'.ht < T.ht + 1 ∧ MtV w a b o T' (.pointer u)) := ⟨T, Nat.lt_succ_self _, h⟩
  generalize T.ht + 1 = N at H0
  clear h
  go_enter Try.func30, Try.ntmps30
  go_wp2
  go_step3
  go_wp2
  go_step3
  go_wp2
  go_loopg [0] N (fun k v0 wr => ∃ (u : Option Addr), v0 = .pointer u ∧ (∃ T' : Nd, T'.ht < k ∧ MtV w a b o T' (.pointer u)) ∧ wr = w)
  case atStart => exact ⟨u, rfl, H0.out, rfl⟩
  case round =>
    obtain ⟨u, rfl, ⟨T', hT, hn⟩, rfl⟩ := hrel
    cases T' with
    | nil =>
      obtain ⟨hu, ho⟩ := hn
      obtain rfl : u = none := by simpa using hu
      subst ho
      clear hu hT H0
      go_wp2_with fail
      try rw [Exit.noGoto_ret]
      go_ret
      exact ⟨rfl, rfl⟩
    | node l s r =>
      obtain ⟨b0, ol, or, hb0, c0, c1, c2, c3, hif⟩ := hn
      obtain rfl : u = some ⟨b0, 0, none⟩ := by simpa using hb0
      rw [Nd.ht_node] at hT
      by_cases k1 : b < (s.1 : Int)
      · rw [if_pos k1] at hif
        have HK : Hid (l.ht < gk - 1 ∧ gk - 1 < gk ∧ MtV wr a b o l (.pointer ol)) := ⟨by omega, by omega, hif⟩
        clear hif hT H0 hb0
        go_wp2_with fail
        go_roundg (gk - 1)
        case measure => exact HK.out.2.1
        case rel => exact ⟨ol, rfl, ⟨l, HK.out.1, HK.out.2.2⟩, rfl⟩
      · rw [if_neg k1] at hif
        by_cases k2 : (s.2 : Int) ≤ a
        · rw [if_pos k2] at hif
          have k3 : a ≥ (s.2 : Int) := k2
          have HK : Hid (r.ht < gk - 1 ∧ gk - 1 < gk ∧ MtV wr a b o r (.pointer or)) := ⟨by omega, by omega, hif⟩
          clear hif hT H0 hb0
          go_wp2_with fail
          go_roundg (gk - 1)
          case measure => exact HK.out.2.1
          case rel => exact ⟨or, rfl, ⟨r, HK.out.1, HK.out.2.2⟩, rfl⟩
        · rw [if_neg k2] at hif
          have k3 : ¬ a ≥ (s.2 : Int) := k2
          subst hif
          clear hT H0 hb0
          go_wp2_with fail
          try rw [Exit.noGoto_ret]
          go_ret
          exact ⟨rfl, rfl⟩
/-- What is met is known ahead. -/
theorem meets_w (h : NdAt w T v) (a b : Int) : ∃ o, NdAt w (T.mt a b) (.pointer o) ∧ ∀ W, Below w.heap.size w W → Calls Try.prog 30 #[v, .int .i64 a, .int .i64 b] W fun e w' => e = .returned (.pointer o) ∧ w' = W := by
  obtain ⟨o, h1, h2⟩ := mtv_ex a b h
  exact ⟨o, h1, fun W hb => meets_v (h2.call hb)⟩
end
end Go.Proofs.Ytekfkglielmfaaa
