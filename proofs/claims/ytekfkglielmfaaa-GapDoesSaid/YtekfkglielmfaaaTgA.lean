/- The tree, without the program: what it says, its heights, its gaps. -/
import Derived.Test.YtekfkglielmfaaaTrA
namespace Go.Proofs.Ytekfkglielmfaaa
/-- A tree: of each node its two sides and its stretch. -/
inductive Nd where
  | nil : Nd
  | node (l : Nd) (s : Nat × Nat) (r : Nd) : Nd
namespace Nd
def L : Nd → List (Nat × Nat)
  | .nil => []
  | .node l s r => l.L ++ s :: r.L
def ht : Nd → Nat
  | .nil => 0
  | .node l _ r => 1 + max l.ht r.ht
def isN : Nd → Bool
  | .nil => true
  | .node _ _ _ => false
/-- Where the first begins, where the last ends. -/
def fi : Nd → Nat
  | .nil => 0
  | .node l s _ => if l.isN = true then s.1 else l.fi
def la : Nd → Nat
  | .nil => 0
  | .node _ s r => if r.isN = true then s.2 else r.la
/-- What room is told of a side. -/
def rmC (n : Bool) (f g l a b : Int) : Int := if n = true then b - a else max (max (f - a) g) (b - l)
def gp : Nd → Int
  | .nil => 0
  | .node l s r => max (rmC l.isN l.fi l.gp l.la (if l.isN = true then s.1 else l.fi : Nat) s.1) (rmC r.isN r.fi r.gp r.la s.2 (if r.isN = true then s.2 else r.la : Nat))
def rm (n : Nd) (a b : Int) : Int := rmC n.isN n.fi n.gp n.la a b
/-- The greatest gap of the pages from a on, ahead of b. -/
def rr : Nd → Int → Int → Int
  | .nil, a, b => b - a
  | .node l s r, a, b => max (l.rr a s.1) (r.rr s.2 b)
def bal : Nd → Prop
  | .nil => True
  | .node l _ r => l.bal ∧ r.bal ∧ l.ht ≤ r.ht + 1 ∧ r.ht ≤ l.ht + 1
theorem L_nil : Nd.nil.L = [] := rfl
theorem L_node (l : Nd) (s : Nat × Nat) (r : Nd) : (Nd.node l s r).L = l.L ++ s :: r.L := rfl
theorem ht_node (l : Nd) (s : Nat × Nat) (r : Nd) : (Nd.node l s r).ht = 1 + max l.ht r.ht := rfl
theorem gp_node (l : Nd) (s : Nat × Nat) (r : Nd) : (Nd.node l s r).gp = max (l.rm (Nd.node l s r).fi s.1) (r.rm s.2 (Nd.node l s r).la) := rfl
theorem bal_node {l : Nd} {s : Nat × Nat} {r : Nd} : (Nd.node l s r).bal ↔ l.bal ∧ r.bal ∧ l.ht ≤ r.ht + 1 ∧ r.ht ≤ l.ht + 1 := Iff.rfl
theorem ht_le : ∀ T : Nd, T.ht ≤ T.L.length
  | .nil => Nat.le_refl _
  | .node l s r => by
    have h1 := ht_le l
    have h2 := ht_le r
    rw [ht_node, L_node, List.length_append, List.length_cons]
    omega
theorem ht_zero {T : Nd} (h : T.ht = 0) : T = .nil := by
  cases T with
  | nil => rfl
  | node l s r => rw [ht_node] at h; omega
/-- A tree of some height has not too many stretches. -/
theorem len_le : ∀ T : Nd, T.L.length + 1 ≤ 2 ^ T.ht
  | .nil => Nat.le_refl _
  | .node l s r => by
    have h1 := len_le l
    have h2 := len_le r
    have e1 : 2 ^ l.ht ≤ 2 ^ max l.ht r.ht := Nat.pow_le_pow_right (by omega) (Nat.le_max_left _ _)
    have e2 : 2 ^ r.ht ≤ 2 ^ max l.ht r.ht := Nat.pow_le_pow_right (by omega) (Nat.le_max_right _ _)
    rw [ht_node, L_node, List.length_append, List.length_cons, Nat.add_comm 1, Nat.pow_succ]
    omega
end Nd
/-- How many stretches a tree of some height has at least. -/
def fbS : Nat → Nat
  | 0 => 0
  | 1 => 1
  | k + 2 => fbS (k + 1) + fbS k + 1
theorem fbS_two (k : Nat) : fbS (k + 2) = fbS (k + 1) + fbS k + 1 := rfl
theorem fbS_up : ∀ k, fbS k ≤ fbS (k + 1)
  | 0 => by decide
  | k + 1 => by rw [fbS_two]; omega
theorem Nd.fb_le : ∀ (T : Nd), T.bal → fbS T.ht ≤ T.L.length
  | .nil, _ => Nat.le_refl _
  | .node l s r, h => by
    obtain ⟨bl, br, h1, h2⟩ := h
    have i1 := Nd.fb_le l bl
    have i2 := Nd.fb_le r br
    rw [Nd.ht_node, Nd.L_node, List.length_append, List.length_cons]
    by_cases c : r.ht ≤ l.ht
    · rw [Nat.max_eq_left c]
      by_cases c0 : l.ht = 0
      · rw [c0]; show 1 ≤ _; omega
      · obtain ⟨k, hk⟩ : ∃ k, l.ht = k + 1 := ⟨l.ht - 1, by omega⟩
        rw [hk] at i1 ⊢
        rw [Nat.add_comm 1, fbS_two]
        have : fbS k ≤ fbS r.ht := by
          by_cases c1 : r.ht = k
          · rw [c1]; exact Nat.le_refl _
          · have : r.ht = k + 1 := by omega
            rw [this]; exact fbS_up k
        omega
    · have c' : l.ht + 1 = r.ht := by omega
      rw [Nat.max_eq_right (by omega), ← c', Nat.add_comm 1, fbS_two]
      rw [← c'] at i2
      omega
/-- Rising stretches are not too many. -/
theorem OkS.lower : ∀ {L : List (Nat × Nat)} {b : Nat}, OkS L → (∀ x ∈ L, b ≤ x.1) → b ≤ 4096 → L.length + b ≤ 4096
  | [], b, _, _, hb => by simpa using hb
  | y :: r, b, h, hl, hb => by
    have hr : OkS r := ⟨(List.pairwise_cons.1 h.up).2, fun x hx => h.in_ x (List.mem_cons_of_mem _ hx)⟩
    have hy := h.in_ y List.mem_cons_self
    have := OkS.lower hr (b := b + 1) (fun x hx => by
      have h1 := (List.pairwise_cons.1 h.up).1 x hx
      have h2 := hl y List.mem_cons_self
      omega) (by have := hl y List.mem_cons_self; omega)
    rw [List.length_cons]
    omega
theorem OkS.len {L : List (Nat × Nat)} (h : OkS L) : L.length ≤ 4095 := by
  have := h.lower (b := 1) (fun x hx => (h.in_ x hx).1) (by omega)
  omega
theorem OkS.left {L M : List (Nat × Nat)} (h : OkS (L ++ M)) : OkS L := ⟨(List.pairwise_append.1 h.up).1, fun x hx => h.in_ x (List.mem_append_left _ hx)⟩
theorem OkS.right {L M : List (Nat × Nat)} (h : OkS (L ++ M)) : OkS M := ⟨(List.pairwise_append.1 h.up).2.1, fun x hx => h.in_ x (List.mem_append_right _ hx)⟩
theorem OkS.between {L M : List (Nat × Nat)} (h : OkS (L ++ M)) : ∀ x ∈ L, ∀ y ∈ M, x.2 ≤ y.1 := (List.pairwise_append.1 h.up).2.2
theorem OkS.tail {x : Nat × Nat} {M : List (Nat × Nat)} (h : OkS (x :: M)) : OkS M := ⟨(List.pairwise_cons.1 h.up).2, fun y hy => h.in_ y (List.mem_cons_of_mem _ hy)⟩
theorem OkS.join {L M : List (Nat × Nat)} (h : OkS L) (k : OkS M) (hb : ∀ x ∈ L, ∀ y ∈ M, x.2 ≤ y.1) : OkS (L ++ M) :=
  ⟨List.pairwise_append.2 ⟨h.up, k.up, hb⟩, fun x hx => (List.mem_append.1 hx).elim (h.in_ x) (k.in_ x)⟩
/-- A node's parts. -/
theorem OkS.nd {l : Nd} {s : Nat × Nat} {r : Nd} (h : OkS (Nd.node l s r).L) : OkS l.L ∧ OkS r.L ∧ (1 ≤ s.1 ∧ s.1 < s.2 ∧ s.2 ≤ 4096) ∧ (∀ x ∈ l.L, x.2 ≤ s.1) ∧ ∀ x ∈ r.L, s.2 ≤ x.1 := by
  rw [Nd.L_node] at h
  have hr := h.right
  exact ⟨h.left, hr.tail, hr.in_ s List.mem_cons_self, fun x hx => h.between x hx s List.mem_cons_self, fun x hx => (List.pairwise_cons.1 hr.up).1 x hx⟩
namespace Nd
theorem fi_mem : ∀ {T : Nd}, T.isN = false → ∃ x ∈ T.L, T.fi = x.1
  | .nil, h => by cases h
  | .node l s r, _ => by
    show ∃ x ∈ l.L ++ s :: r.L, (if l.isN = true then s.1 else l.fi) = x.1
    cases hl : l.isN with
    | true => exact ⟨s, by simp, by simp⟩
    | false =>
      obtain ⟨x, hx, e⟩ := fi_mem hl
      exact ⟨x, List.mem_append_left _ hx, by simp [e]⟩
theorem la_mem : ∀ {T : Nd}, T.isN = false → ∃ x ∈ T.L, T.la = x.2
  | .nil, h => by cases h
  | .node l s r, _ => by
    show ∃ x ∈ l.L ++ s :: r.L, (if r.isN = true then s.2 else r.la) = x.2
    cases hr : r.isN with
    | true => exact ⟨s, by simp, by simp⟩
    | false =>
      obtain ⟨x, hx, e⟩ := la_mem hr
      exact ⟨x, by simp [hx], by simp [e]⟩
theorem fi_le {T : Nd} (h : OkS T.L) : T.fi ≤ 4096 := by
  cases hn : T.isN with
  | true => cases T with
    | nil => exact Nat.zero_le _
    | node _ _ _ => cases hn
  | false =>
    obtain ⟨x, hx, e⟩ := fi_mem hn
    have := h.in_ x hx
    omega
theorem la_le {T : Nd} (h : OkS T.L) : T.la ≤ 4096 := by
  cases hn : T.isN with
  | true => cases T with
    | nil => exact Nat.zero_le _
    | node _ _ _ => cases hn
  | false =>
    obtain ⟨x, hx, e⟩ := la_mem hn
    have := h.in_ x hx
    omega
theorem rmC_bd {n : Bool} {f g l a b M : Int} (h1 : -M ≤ b - a ∧ b - a ≤ M) (h2 : -M ≤ f - a ∧ f - a ≤ M) (h3 : -M ≤ b - l ∧ b - l ≤ M) (h4 : -M ≤ g ∧ g ≤ M) : -M ≤ rmC n f g l a b ∧ rmC n f g l a b ≤ M := by
  unfold rmC
  split <;> omega
theorem gp_bd : ∀ {T : Nd}, OkS T.L → -4096 ≤ T.gp ∧ T.gp ≤ 4096
  | .nil, _ => by show -4096 ≤ (0 : Int) ∧ (0 : Int) ≤ 4096; omega
  | .node l s r, h => by
    obtain ⟨hl, hr, hs, -, -⟩ := h.nd
    have g1 := gp_bd hl
    have g2 := gp_bd hr
    have f0 := fi_le h
    have l0 := la_le h
    have f1 := fi_le hl
    have f2 := fi_le hr
    have l1 := la_le hl
    have l2 := la_le hr
    rw [gp_node]
    have a1 := rmC_bd (n := l.isN) (f := l.fi) (g := l.gp) (l := l.la) (a := (Nd.node l s r).fi) (b := s.1) (M := 4096) (by omega) (by omega) (by omega) g1
    have a2 := rmC_bd (n := r.isN) (f := r.fi) (g := r.gp) (l := r.la) (a := s.2) (b := (Nd.node l s r).la) (M := 4096) (by omega) (by omega) (by omega) g2
    unfold rm
    omega
/-- Gaps from the ends of a stretch on. -/
theorem rm_is : ∀ {T : Nd} {a b : Int}, OkS T.L → (∀ x ∈ T.L, a ≤ (x.1 : Int)) → (∀ x ∈ T.L, (x.2 : Int) ≤ b) → T.rm a b = T.rr a b
  | .nil, a, b, _, _, _ => rfl
  | .node l s r, a, b, h, ha, hb => by
    obtain ⟨hl, hr, hs, h1, h2⟩ := h.nd
    have sa : a ≤ (s.1 : Int) := ha s (by rw [L_node]; simp)
    have sb : (s.2 : Int) ≤ b := hb s (by rw [L_node]; simp)
    have i1 := rm_is (a := a) (b := s.1) hl (fun x hx => ha x (by rw [L_node]; simp [hx])) (fun x hx => by have := h1 x hx; omega)
    have i2 := rm_is (a := s.2) (b := b) hr (fun x hx => by have := h2 x hx; omega) (fun x hx => hb x (by rw [L_node]; simp [hx]))
    have hL : max (((if l.isN = true then s.1 else l.fi : Nat) : Int) - a) (l.rm (if l.isN = true then s.1 else l.fi : Nat) s.1) = l.rm a s.1 := by
      cases hn : l.isN with
      | true =>
        cases l with
        | nil => simp only [rm, rmC, isN, if_true]; omega
        | node _ _ _ => cases hn
      | false =>
        obtain ⟨x, hx, e⟩ := fi_mem hn
        have h3 := ha x (by rw [L_node]; simp [hx])
        simp only [rm, rmC, hn, Bool.false_eq_true, if_false]
        omega
    have hR : max (r.rm s.2 (if r.isN = true then s.2 else r.la : Nat)) (b - ((if r.isN = true then s.2 else r.la : Nat) : Int)) = r.rm s.2 b := by
      cases hn : r.isN with
      | true =>
        cases r with
        | nil => simp only [rm, rmC, isN, if_true]; omega
        | node _ _ _ => cases hn
      | false =>
        obtain ⟨x, hx, e⟩ := la_mem hn
        have h3 := hb x (by rw [L_node]; simp [hx])
        simp only [rm, rmC, hn, Bool.false_eq_true, if_false]
        omega
    show _ = max (l.rr a s.1) (r.rr s.2 b)
    rw [← i1, ← i2, ← hL, ← hR]
    show max (max (((if l.isN = true then s.1 else l.fi : Nat) : Int) - a) (max (l.rm (if l.isN = true then s.1 else l.fi : Nat) s.1) (r.rm s.2 (if r.isN = true then s.2 else r.la : Nat)))) (b - ((if r.isN = true then s.2 else r.la : Nat) : Int)) = _
    generalize (((if l.isN = true then s.1 else l.fi : Nat) : Int) - a) = z1
    generalize (b - ((if r.isN = true then s.2 else r.la : Nat) : Int)) = z2
    generalize l.rm (if l.isN = true then s.1 else l.fi : Nat) s.1 = z3
    generalize r.rm s.2 (if r.isN = true then s.2 else r.la : Nat) = z4
    omega
end Nd
end Go.Proofs.Ytekfkglielmfaaa
