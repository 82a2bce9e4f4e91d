/- Turning a node; without the program. -/
import Derived.Test.YtekfkglielmfaaaTgC
namespace Go.Proofs.Ytekfkglielmfaaa
theorem OkS.mid {A M B : List (Nat × Nat)} (h : OkS (A ++ (M ++ B))) : OkS M := h.right.left
/-- What level and joined make of two sides. -/
structure LvOk (l : Nd) (s : Nat × Nat) (r T : Nd) : Prop where
  L : T.L = l.L ++ s :: r.L
  bal : T.bal
  lo : l.ht ≤ T.ht ∧ r.ht ≤ T.ht
  hi : T.ht ≤ l.ht + 1 ∨ T.ht ≤ r.ht + 1
  ex : l.ht ≤ r.ht + 1 → r.ht ≤ l.ht + 1 → T.ht = 1 + max l.ht r.ht
theorem lv_made {l r : Nd} {s : Nat × Nat} (bl : l.bal) (br : r.bal) (h1 : ¬ r.ht + 1 < l.ht) (h2 : ¬ l.ht + 1 < r.ht) : LvOk l s r (.node l s r) :=
  ⟨rfl, ⟨bl, br, by omega, by omega⟩, by rw [Nd.ht_node]; omega, by rw [Nd.ht_node]; omega, fun _ _ => rfl⟩
theorem lv_ld {ll a b r : Nd} {ls m s : Nat × Nat} (bl : (Nd.node ll ls (.node a m b)).bal) (br : r.bal) (h1 : r.ht + 1 < (Nd.node ll ls (.node a m b)).ht) (h2 : (Nd.node ll ls (.node a m b)).ht ≤ r.ht + 2) (h3 : ll.ht < (Nd.node a m b).ht) :
    LvOk (.node ll ls (.node a m b)) s r (.node (.node ll ls a) m (.node b s r)) := by
  simp only [Nd.bal_node, Nd.ht_node] at *
  refine ⟨by simp [Nd.L_node], ?_, ?_, ?_, ?_⟩
  · simp only [Nd.bal_node, Nd.ht_node]
    refine ⟨⟨?_, ?_, ?_, ?_⟩, ⟨?_, ?_, ?_, ?_⟩, ?_, ?_⟩ <;> first | omega | simp [*]
  · simp only [Nd.ht_node]; omega
  · simp only [Nd.ht_node]; omega
  · simp only [Nd.ht_node]; omega
theorem lv_ls {ll lr r : Nd} {ls s : Nat × Nat} (bl : (Nd.node ll ls lr).bal) (br : r.bal) (h1 : r.ht + 1 < (Nd.node ll ls lr).ht) (h2 : (Nd.node ll ls lr).ht ≤ r.ht + 2) (h3 : ¬ ll.ht < lr.ht) :
    LvOk (.node ll ls lr) s r (.node ll ls (.node lr s r)) := by
  simp only [Nd.bal_node, Nd.ht_node] at *
  refine ⟨by simp [Nd.L_node], ?_, ?_, ?_, ?_⟩
  · simp only [Nd.bal_node, Nd.ht_node]
    refine ⟨?_, ⟨?_, ?_, ?_, ?_⟩, ?_, ?_⟩ <;> first | omega | simp [*]
  · simp only [Nd.ht_node]; omega
  · simp only [Nd.ht_node]; omega
  · simp only [Nd.ht_node]; omega
theorem lv_rd {l a b rr : Nd} {s m rs : Nat × Nat} (bl : l.bal) (br : (Nd.node (.node a m b) rs rr).bal) (h1 : l.ht + 1 < (Nd.node (.node a m b) rs rr).ht) (h2 : (Nd.node (.node a m b) rs rr).ht ≤ l.ht + 2) (h3 : rr.ht < (Nd.node a m b).ht) :
    LvOk l s (.node (.node a m b) rs rr) (.node (.node l s a) m (.node b rs rr)) := by
  simp only [Nd.bal_node, Nd.ht_node] at *
  refine ⟨by simp [Nd.L_node], ?_, ?_, ?_, ?_⟩
  · simp only [Nd.bal_node, Nd.ht_node]
    refine ⟨⟨?_, ?_, ?_, ?_⟩, ⟨?_, ?_, ?_, ?_⟩, ?_, ?_⟩ <;> first | omega | simp [*]
  · simp only [Nd.ht_node]; omega
  · simp only [Nd.ht_node]; omega
  · simp only [Nd.ht_node]; omega
theorem lv_rs {l rl rr : Nd} {s rs : Nat × Nat} (bl : l.bal) (br : (Nd.node rl rs rr).bal) (h1 : l.ht + 1 < (Nd.node rl rs rr).ht) (h2 : (Nd.node rl rs rr).ht ≤ l.ht + 2) (h3 : ¬ rr.ht < rl.ht) :
    LvOk l s (.node rl rs rr) (.node (.node l s rl) rs rr) := by
  simp only [Nd.bal_node, Nd.ht_node] at *
  refine ⟨by simp [Nd.L_node], ?_, ?_, ?_, ?_⟩
  · simp only [Nd.bal_node, Nd.ht_node]
    refine ⟨⟨?_, ?_, ?_, ?_⟩, ?_, ?_, ?_⟩ <;> first | omega | simp [*]
  · simp only [Nd.ht_node]; omega
  · simp only [Nd.ht_node]; omega
  · simp only [Nd.ht_node]; omega
/-- The right side has been joined with more, the left one stays: level puts it right. -/
theorem jn_right {ll lr r T T' : Nd} {ls s : Nat × Nat} (bl : (Nd.node ll ls lr).bal) (h1 : r.ht + 1 < (Nd.node ll ls lr).ht) (h : LvOk lr s r T) (h' : LvOk ll ls T T') : LvOk (.node ll ls lr) s r T' := by
  obtain ⟨a1, a2, a3, a4, a5⟩ := h
  obtain ⟨b1, b2, b3, b4, b5⟩ := h'
  simp only [Nd.bal_node, Nd.ht_node] at *
  refine ⟨by rw [b1, a1]; simp [Nd.L_node], b2, ?_, ?_, ?_⟩ <;> simp only [Nd.ht_node] <;> omega
theorem jn_left {l rl rr T T' : Nd} {s rs : Nat × Nat} (br : (Nd.node rl rs rr).bal) (h1 : l.ht + 1 < (Nd.node rl rs rr).ht) (h : LvOk l s rl T) (h' : LvOk T rs rr T') : LvOk l s (.node rl rs rr) T' := by
  obtain ⟨a1, a2, a3, a4, a5⟩ := h
  obtain ⟨b1, b2, b3, b4, b5⟩ := h'
  simp only [Nd.bal_node, Nd.ht_node] at *
  refine ⟨by rw [b1, a1]; simp [Nd.L_node], b2, ?_, ?_, ?_⟩ <;> simp only [Nd.ht_node] <;> omega
end Go.Proofs.Ytekfkglielmfaaa
