/- Calls of the library that package kinds makes over numbers: Index, Contains. -/
import Derived.Test.YtklhcgekagimkaaGreatMg05
import Derived.Test.YtklhcgekagimkaaGreatMg06
import Derived.Test.YtklhcgekagimkaaGreatMg03
namespace Go.Proofs.YtklhcgekagimkaaGreat
open Go.RowKit

section
variable {w : World} {g o n c : Nat} {f : Nat → Int}
theorem index_any (hc : ∀ j, j < n → w.cell? ⟨g, o + j, none⟩ = some (.int .i64 (f j))) (hn : n ≤ 4096) (v : Int) :
    Calls Tryz.prog 130 #[.slice (some ⟨g, o, none⟩) n c, .int .i64 v] w fun e w' => ∃ r : Int, e = .returned (.int .i64 r) ∧ w = w' ∧ decide (0 ≤ r) = (List.range n).any fun j => f j == v := by
  have HC := Lib.hid hc
  clear hc
  go_enter Tryz.func130, Tryz.ntmps130
  go_wp2
  go_loop [8] (fun s => ∃ i : Nat, i ≤ n ∧ s = .int .i64 i ∧ ∀ j, j < i → ¬ f j = v) (fun s => n - (intOf s).toNat)
  case atStart => exact ⟨0, Nat.zero_le _, rfl, fun j hj => by omega⟩
  case round =>
    obtain ⟨i, hi, rfl, hq⟩ := hrel
    have HQ := Lib.hid hq
    clear hq
    by_cases hlt : i < n
    · have hci := HC.out i hlt
      obtain ⟨u, hu⟩ : ∃ u, u = f i := ⟨_, rfl⟩
      rw [← hu] at hci
      by_cases hv : v = u
      · have HR : Hid (decide (0 ≤ (i : Int)) = (List.range n).any fun j => f j == v) := by
          show _ = _
          rw [decide_eq_true (by omega)]
          exact (List.any_eq_true.2 ⟨i, List.mem_range.2 hlt, by rw [← hu, hv]; simp⟩).symm
        have hb : (v == u) = true := by simp [hv]
        clear hu hv
        go_wp2
        go_ret
        exact ⟨_, rfl, rfl, HR.out⟩
      · have HQ2 : Hid (∀ j, j < i + 1 → ¬ f j = v) := fun j hj => by
          rcases Nat.lt_or_ge j i with g | g
          · exact HQ.out j g
          · obtain rfl : j = i := by omega
            intro e; rw [← hu] at e; exact hv e.symm
        have hb : (v == u) = false := by simpa using hv
        clear hu hv
        go_wp2
        go_round
        case rel => exact ⟨i + 1, by omega, by go_num, HQ2.out⟩
        case measure => simp [intOf]; omega
    · obtain rfl : i = n := by omega
      have HR : Hid (decide ((0 : Int) ≤ -1) = (List.range i).any fun j => f j == v) := by
        show _ = _
        rw [decide_eq_false (by omega)]
        refine (List.any_eq_false.2 fun j hj => ?_).symm
        have := HQ.out j (List.mem_range.1 hj)
        simpa using this
      go_wp2
      go_ret
      exact ⟨_, rfl, rfl, HR.out⟩
theorem contains_any (hc : ∀ j, j < n → w.cell? ⟨g, o + j, none⟩ = some (.int .i64 (f j))) (hn : n ≤ 4096) (v : Int) :
    Calls Tryz.prog 112 #[.slice (some ⟨g, o, none⟩) n c, .int .i64 v] w fun e w' => e = .returned (.bool ((List.range n).any fun j => f j == v)) ∧ w = w' := by
  have hI := index_any (c := c) hc hn v
  generalize (List.range n).any (fun j => f j == v) = r at hI ⊢
  clear hc
  go_enter Tryz.func112, Tryz.ntmps112
  go_wp2_with fail
  refine hI.mono ?_
  rintro e w' ⟨z, rfl, rfl, hz⟩
  go_wp2
  go_ret
  exact ⟨rfl, rfl⟩
end
end Go.Proofs.YtklhcgekagimkaaGreat
/- Package kinds, laid ahead: plain mathematics of the pieces of free frames and of the search among them. -/
namespace Go.Proofs.YtklhcgekagimkaaGreat

/-- The kind of a frame: S lists the kinds of the sections. -/
def knd (S : List Nat) (f : Nat) : Nat := S.getD (f / 8) 0
/-- Does a block hold a frame of an isolated section? -/
def iso (S : List Nat) (x : Nat × Nat) : Bool := (List.range (2 ^ x.2)).any fun i => knd S (x.1 + i) == 3
/-- The pieces of one greatest free block. -/
def pcs1 (S : List Nat) (x : Nat × Nat) : List (Nat × Nat) := if x.2 ≤ 3 ∨ iso S x = false then [x] else (List.range (2 ^ (x.2 - 3))).map fun i => (x.1 + i * 8, 3)
def pcs (F : List Bool) (S : List Nat) : List (Nat × Nat) := (bk F).flatMap (pcs1 S)
/-- Every piece is a free block within a greatest one. -/
theorem pcs1_in {S : List Nat} {x y : Nat × Nat} (hx : x.1 % 2 ^ x.2 = 0) (h : y ∈ pcs1 S x) : y.2 ≤ x.2 ∧ y.1 % 2 ^ y.2 = 0 ∧ x.1 ≤ y.1 ∧ y.1 + 2 ^ y.2 ≤ x.1 + 2 ^ x.2 := by
  unfold pcs1 at h
  split at h
  · rw [List.mem_singleton.1 h]
    exact ⟨Nat.le_refl _, hx, Nat.le_refl _, Nat.le_refl _⟩
  · rename_i hc
    have h3 : 3 < x.2 := by omega
    obtain ⟨i, hi, rfl⟩ := List.mem_map.1 h
    have hi' := List.mem_range.1 hi
    obtain ⟨d, hd⟩ : ∃ d, x.2 = d + 3 := ⟨x.2 - 3, by omega⟩
    rw [hd, show d + 3 - 3 = d by omega] at hi'
    have hp : 2 ^ x.2 = 2 ^ d * 8 := by rw [hd, Nat.pow_add]
    have h8 : x.1 % 8 = 0 := by
      rw [hp] at hx
      exact Nat.mod_eq_zero_of_dvd (Nat.dvd_trans (Nat.dvd_mul_left 8 (2 ^ d)) (Nat.dvd_of_mod_eq_zero hx))
    refine ⟨by show 3 ≤ x.2; omega, ?_, by show x.1 ≤ x.1 + i * 8; omega, ?_⟩
    · show (x.1 + i * 8) % 8 = 0; omega
    · show x.1 + i * 8 + 8 ≤ x.1 + 2 ^ x.2
      rw [hp]; omega
theorem pcs_fre {F : List Bool} {S : List Nat} {y : Nat × Nat} (h : y ∈ pcs F S) : y.2 ≤ 8 ∧ Fre F y.1 y.2 ∧ y.1 + 2 ^ y.2 ≤ F.length := by
  obtain ⟨x, hx, hy⟩ := List.mem_flatMap.1 h
  have hm : Mx F x.1 x.2 := bk_mem.1 (show (x.1, x.2) ∈ bk F from hx)
  obtain ⟨h1, h2, h3, h4⟩ := pcs1_in hm.2.1.1 hy
  have hl := mx_lt hm
  have := hm.1
  exact ⟨by omega, hm.2.1.in_ h2 h3 h4, by omega⟩
theorem pcs1_rise (S : List Nat) (x : Nat × Nat) : Rise (pcs1 S x) := by
  unfold pcs1 Rise
  split
  · simp
  · rw [List.pairwise_map]
    exact List.Pairwise.imp (fun {i j} (h : i < j) => by show x.1 + i * 8 + 8 ≤ x.1 + j * 8; omega) List.pairwise_lt_range
/-- The pieces lie one behind the other. -/
theorem pcs_rise (F : List Bool) (S : List Nat) : Rise (pcs F S) := by
  unfold pcs Rise
  rw [List.pairwise_flatMap]
  refine ⟨fun x _ => pcs1_rise S x, ?_⟩
  have hm : ∀ x ∈ bk F, x.1 % 2 ^ x.2 = 0 := fun x hx => (bk_mem.1 (show (x.1, x.2) ∈ bk F from hx)).2.1.1
  refine List.Pairwise.imp_of_mem (fun {x y} hx hy h u hu v hv => ?_) (bk_rise F)
  have h1 := pcs1_in (hm x hx) hu
  have h2 := pcs1_in (hm y hy) hv
  omega
theorem same_section {a k f : Nat} (hk : k ≤ 3) (ha : a % 2 ^ k = 0) (h1 : a ≤ f) (h2 : f < a + 2 ^ k) : f / 8 = a / 8 := by
  have h : k = 0 ∨ k = 1 ∨ k = 2 ∨ k = 3 := by omega
  rcases h with rfl | rfl | rfl | rfl <;> simp only [Nat.reducePow] at ha h2 <;> omega
/-- All frames of a piece are of an isolated section, or none is. -/
theorem pcs1_kind {S : List Nat} {x y : Nat × Nat} (hx : x.1 % 2 ^ x.2 = 0) (h : y ∈ pcs1 S x) {f : Nat} (h1 : y.1 ≤ f) (h2 : f < y.1 + 2 ^ y.2) : knd S f = 3 ↔ knd S y.1 = 3 := by
  have hy := (pcs1_in hx h).2.1
  unfold pcs1 at h
  split at h
  · rename_i hc
    have e := List.mem_singleton.1 h
    subst e
    rcases hc with c | c
    · unfold knd; rw [same_section c hx h1 h2]
    · have hn : ∀ i, i < 2 ^ y.2 → knd S (y.1 + i) ≠ 3 := fun i hi he => by
        have : iso S y = true := List.any_eq_true.2 ⟨i, List.mem_range.2 hi, by simpa using he⟩
        rw [c] at this; cases this
      have g1 := hn (f - y.1) (by omega)
      rw [show y.1 + (f - y.1) = f by omega] at g1
      have g2 := hn 0 (two_pos _)
      exact ⟨fun g => absurd g g1, fun g => absurd g g2⟩
  · obtain ⟨i, hi, e⟩ := List.mem_map.1 h
    have h3 : y.2 = 3 := by rw [← e]
    unfold knd; rw [same_section (k := y.2) (by omega) hy h1 h2]
/-- Each frame of a block lies in one of its pieces. -/
theorem pcs1_cover {S : List Nat} {x : Nat × Nat} {f : Nat} (h1 : x.1 ≤ f) (h2 : f < x.1 + 2 ^ x.2) : ∃ y ∈ pcs1 S x, y.1 ≤ f ∧ f < y.1 + 2 ^ y.2 := by
  unfold pcs1
  split
  · exact ⟨x, by simp, h1, h2⟩
  · rename_i hc
    obtain ⟨d, hd⟩ : ∃ d, x.2 = d + 3 := ⟨x.2 - 3, by omega⟩
    have hp : 2 ^ x.2 = 2 ^ d * 8 := by rw [hd, Nat.pow_add]
    refine ⟨(x.1 + (f - x.1) / 8 * 8, 3), List.mem_map.2 ⟨(f - x.1) / 8, List.mem_range.2 ?_, rfl⟩, ?_, ?_⟩
    · rw [hd, show d + 3 - 3 = d by omega]; omega
    · show x.1 + (f - x.1) / 8 * 8 ≤ f; omega
    · show f < x.1 + (f - x.1) / 8 * 8 + 8; omega
theorem pcs_kind {F : List Bool} {S : List Nat} {y : Nat × Nat} (h : y ∈ pcs F S) {f : Nat} (h1 : y.1 ≤ f) (h2 : f < y.1 + 2 ^ y.2) : knd S f = 3 ↔ knd S y.1 = 3 := by
  obtain ⟨x, hx, hy⟩ := List.mem_flatMap.1 h
  exact pcs1_kind (bk_mem.1 (show (x.1, x.2) ∈ bk F from hx)).2.1.1 hy h1 h2
theorem pcs_cover {F : List Bool} (S : List Nat) {f : Nat} (h : F[f]? = some true) : ∃ y ∈ pcs F S, y.1 ≤ f ∧ f < y.1 + 2 ^ y.2 := by
  obtain ⟨b, j, hm, _, h1, h2⟩ := mx_anc 8 f 0 (by omega) (⟨by simp [Nat.mod_one], fun i h1 h2 => by
    rw [Nat.pow_zero] at h2
    obtain rfl : i = f := by omega
    exact h⟩ : Fre F f 0)
  rw [Nat.pow_zero] at h2
  obtain ⟨y, hy, g1, g2⟩ := pcs1_cover (S := S) (x := (b, j)) (f := f) h1 (by show f < b + 2 ^ j; omega)
  exact ⟨y, List.mem_flatMap.2 ⟨(b, j), bk_mem.2 hm, hy⟩, g1, g2⟩
/-- The best piece of a kind and of an order at least, as the reference's search keeps it. -/
def fnd1 (S : List Nat) (o kd : Nat) (great : Bool) (b : Option (Nat × Nat)) (x : Nat × Nat) : Option (Nat × Nat) :=
  if x.2 < o ∨ knd S x.1 ≠ kd then b else match b with
    | none => some x
    | some y => if great = true ∧ y.2 < x.2 ∨ great = false ∧ x.2 < y.2 then some x else some y
def fnd (S : List Nat) (o kd : Nat) (great : Bool) (l : List (Nat × Nat)) : Option (Nat × Nat) := l.foldl (fnd1 S o kd great) none
theorem fnd_snoc (S : List Nat) (o kd : Nat) (great : Bool) (l : List (Nat × Nat)) (x : Nat × Nat) : fnd S o kd great (l ++ [x]) = fnd1 S o kd great (fnd S o kd great l) x := by
  unfold fnd; rw [List.foldl_append]; rfl
/-- Is x no worse than y: of the least (greatest) order, of these the one that comes first. -/
def better (great : Bool) (x y : Nat × Nat) : Prop := if great = true then y.2 < x.2 ∨ (y.2 = x.2 ∧ x.1 ≤ y.1) else x.2 < y.2 ∨ (x.2 = y.2 ∧ x.1 ≤ y.1)
theorem fnd_spec (S : List Nat) (o kd : Nat) (great : Bool) (l : List (Nat × Nat)) : l.Pairwise (fun x y => x.1 < y.1) →
    (fnd S o kd great l = none → ∀ x ∈ l, x.2 < o ∨ knd S x.1 ≠ kd) ∧
    ∀ b, fnd S o kd great l = some b → b ∈ l ∧ o ≤ b.2 ∧ knd S b.1 = kd ∧ ∀ x ∈ l, o ≤ x.2 → knd S x.1 = kd → better great b x := by
  induction l using rev_ind with
  | h0 => intro _; exact ⟨fun _ x hx => by (cases hx), fun b h => by (unfold fnd at h; cases h)⟩
  | h1 l z ih =>
    intro hp
    rw [List.pairwise_append] at hp
    obtain ⟨h1, h2⟩ := ih hp.1
    have hz : ∀ x ∈ l, x.1 < z.1 := fun x hx => hp.2.2 x hx z (List.mem_singleton.2 rfl)
    rw [fnd_snoc]
    unfold fnd1
    split
    · rename_i hc
      refine ⟨fun hn x hx => ?_, fun b hb => ?_⟩
      · rcases List.mem_append.1 hx with g | g
        · exact h1 hn x g
        · rw [List.mem_singleton.1 g]; exact hc
      · obtain ⟨k1, k2, k3, k4⟩ := h2 b hb
        refine ⟨List.mem_append_left _ k1, k2, k3, fun x hx ho hk => ?_⟩
        rcases List.mem_append.1 hx with g | g
        · exact k4 x g ho hk
        · rw [List.mem_singleton.1 g] at ho hk
          rcases hc with c | c
          · omega
          · exact absurd hk c
    · rename_i hc
      have ho : o ≤ z.2 := by omega
      have hk : knd S z.1 = kd := Decidable.byContradiction fun h => hc (Or.inr h)
      cases hf : fnd S o kd great l with
      | none =>
        refine ⟨fun hn => by (simp at hn), fun b hb => ?_⟩
        simp only [Option.some.injEq] at hb
        subst hb
        refine ⟨by simp, ho, hk, fun x hx ho' hk' => ?_⟩
        rcases List.mem_append.1 hx with g | g
        · rcases h1 hf x g with c | c
          · omega
          · exact absurd hk' c
        · rw [List.mem_singleton.1 g]
          unfold better
          split
          · exact Or.inr ⟨rfl, Nat.le_refl _⟩
          · exact Or.inr ⟨rfl, Nat.le_refl _⟩
      | some y =>
        obtain ⟨k1, k2, k3, k4⟩ := h2 y hf
        have hyz := hz y k1
        refine ⟨fun hn => by (simp only at hn; split at hn <;> cases hn), fun b hb => ?_⟩
        simp only at hb
        split at hb
        · rename_i hcc
          simp only [Option.some.injEq] at hb
          subst hb
          refine ⟨by simp, ho, hk, fun x hx ho' hk' => ?_⟩
          rcases List.mem_append.1 hx with g | g
          · have := k4 x g ho' hk'
            unfold better at this ⊢
            cases great with
            | true => simp only [if_true] at this ⊢; rcases hcc with ⟨_, c⟩ | ⟨c, _⟩ <;> first | omega | cases c
            | false => simp only [Bool.false_eq_true, if_false] at this ⊢; rcases hcc with ⟨c, _⟩ | ⟨_, c⟩ <;> first | omega | cases c
          · rw [List.mem_singleton.1 g]
            unfold better
            split
            · exact Or.inr ⟨rfl, Nat.le_refl _⟩
            · exact Or.inr ⟨rfl, Nat.le_refl _⟩
        · rename_i hcc
          simp only [Option.some.injEq] at hb
          subst hb
          refine ⟨List.mem_append_left _ k1, k2, k3, fun x hx ho' hk' => ?_⟩
          rcases List.mem_append.1 hx with g | g
          · exact k4 x g ho' hk'
          · rw [List.mem_singleton.1 g]
            unfold better
            cases great with
            | true => simp only [if_true]; have : ¬ y.2 < z.2 := fun c => hcc (Or.inl ⟨rfl, c⟩); omega
            | false => simp only [Bool.false_eq_true, if_false]; have : ¬ z.2 < y.2 := fun c => hcc (Or.inr ⟨rfl, c⟩); omega
end Go.Proofs.YtklhcgekagimkaaGreat
