/- The contracts of package geo on lists of blocks: lists put together, the cut of a stretch. -/
import Derived.Test.YtbieecclnjpnpaaGd
namespace Go.Proofs.Ytbieecclnjpnpaa
open Go.RowKit

/-- A list of blocks that is handed on: its value, what it reads as. -/
def Part (w : World) (p : Value × List (Nat × Nat)) : Prop :=
  (∃ base, w.ownsRow base 41 2 p.1 p.2.length (bcells p.2)) ∧ (p.1 = .slice none 0 0 ↔ p.2.length = 0)
theorem Part.call {w w' : World} {p : Value × List (Nat × Nat)} (h : Part w p) (hb : Below w.heap.size w w') : Part w' p := by
  obtain ⟨⟨base, ho⟩, hn⟩ := h
  refine ⟨⟨base, ho.1, ?_⟩, hn⟩
  rcases ho.2 with h0 | ⟨g, cap, cur, e, h1, h2, h3⟩
  · exact Or.inl h0
  · exact Or.inr ⟨g, cap, cur, e, h1, (hb.block g (Array.getElem?_eq_some_iff.1 h2).1).trans h2, h3⟩
def cat (ps : List (Value × List (Nat × Nat))) : List (Nat × Nat) := ps.flatMap (·.2)
theorem cat_snoc (ps : List (Value × List (Nat × Nat))) (p : Value × List (Nat × Nat)) : cat (ps ++ [p]) = cat ps ++ p.2 := by simp [cat]
theorem cat_take (ps : List (Value × List (Nat × Nat))) (j : Nat) (hj : j < ps.length) : cat (ps.take (j + 1)) = cat (ps.take j) ++ (ps.getD j (.slice none 0 0, [])).2 := by
  rw [take_snoc ps (.slice none 0 0, []) j hj, cat_snoc]
theorem cat_len (ps : List (Value × List (Nat × Nat))) (j : Nat) : (cat (ps.take j)).length ≤ (cat ps).length := by
  conv => rhs; rw [← List.take_append_drop j ps]
  simp only [cat, List.flatMap_append, List.length_append]
  omega
/-- A part that is none, or lies in a block. -/
theorem Part.split {w : World} {p : Value × List (Nat × Nat)} (h : Part w p) : (p.1 = .slice none 0 0 ∧ p.2 = []) ∨
    ∃ g c, p.1 = .slice (some ⟨g, 0, none⟩) p.2.length c ∧ 0 < p.2.length ∧ ∀ i u, (bcells p.2)[i]? = some u → w.cell? ((⟨g, 0, none⟩ : Addr).add i) = some u := by
  obtain ⟨⟨base, ho⟩, hn⟩ := h
  by_cases h0 : p.2.length = 0
  · exact Or.inl ⟨hn.2 h0, List.length_eq_zero_iff.1 h0⟩
  · obtain ⟨g, cap, hv, _, _⟩ := ho.form (by omega)
    exact Or.inr ⟨g, cap, hv, by omega, fun i u hu => ho.cells (by rw [hv]; rfl) i u hu⟩
set_option maxHeartbeats 400000 in
theorem joined_any (ps : List (Value × List (Nat × Nat))) (n g : Nat) (w : World) (hn : ps.length = n) (hn4 : n ≤ 3) (hc : ∀ j, j < n → w.cell? ⟨g, j, none⟩ = some (ps.getD j (.slice none 0 0, [])).1) (hlt : g < w.heap.size)
    (hp : ∀ p ∈ ps, Part w p) (h4 : (cat ps).length ≤ 4096) : Calls Try.prog 30 #[.slice (some ⟨g, 0, none⟩) n n] w (SomeBlks w (cat ps)) := by
  obtain ⟨i0, hi0, hz0, hz1, hz2⟩ := info_parts info_block
  have HN := Lib.hid hn
  have HC := Lib.hid hc
  have HP := Lib.hid hp
  have H4 := Lib.hid h4
  clear hn hc hp h4
  go_enter Try.func30, Try.ntmps30
  go_wp2
  go_loopw [3, 8] (fun v i wr => ∃ j : Nat, j ≤ n ∧ i = .int .i64 j ∧ wr.ownsRow w.heap.size 41 2 v (cat (ps.take j)).length (bcells (cat (ps.take j))) ∧ (v = .slice none 0 0 ↔ (cat (ps.take j)).length = 0) ∧ Below w.heap.size w wr) (fun _ i _ => n - (intOf i).toNat)
  case atStart => exact ⟨0, Nat.zero_le _, rfl, World.ownsRow_nil _ _ _ _, by simp [cat], Below.refl _ _⟩
  case round =>
    obtain ⟨j, hj, rfl, hown, hnil, hb⟩ := hrel
    by_cases hlt2 : j < n
    · have hl : j < ps.length := by rw [HN.out]; exact hlt2
      have hP := (HP.out _ (getD_mem ps (.slice none 0 0, []) j hl)).call hb
      have hc := (hb.cell (p := ⟨g, j, none⟩) hlt).trans (HC.out j hlt2)
      have ht := cat_take ps j hl
      have hlen := cat_len ps (j + 1)
      rw [ht, List.length_append] at hlen
      have hlen2 := Nat.le_trans hlen H4.out
      have HT := Lib.hid ht
      obtain ⟨x, ex⟩ : ∃ x, x = ps.getD j (.slice none 0 0, []) := ⟨_, rfl⟩
      obtain ⟨M, eM⟩ : ∃ M, M = cat (ps.take j) := ⟨_, rfl⟩
      rw [← ex] at hP hc HT hlen2
      rw [← eM] at hown hnil HT hlen2
      have hsz := hb.size
      have HN1 := Lib.hid hnil
      have HB := Lib.hid hb
      clear ht hlen ex eM hl hnil hb
      obtain ⟨y, L⟩ := x
      simp only at hP hc HT hlen2
      have HPart := Lib.hid hP
      rcases hP.split with ⟨e1, e2⟩ | ⟨g2, c2, e1, e2, e3⟩
      · simp only at e1 e2
        subst e1 e2
        clear hP
        go_wp2_with (at_builtin; refine wpList_append_own_none rfl _ _ 38 rfl w.heap.size 41 i0 2 Try.underlying38 hi0 _ M.length (bcells M) rfl hown rfl ?_)
        have HO := Lib.hid hown
        clear hown i0 hi0 hz0 hz1 hz2
        go_wp2
        go_roundw
        case rel => exact ⟨j + 1, by omega, by go_num, by rw [HT.out, List.append_nil]; exact HO.out, by rw [HT.out, List.append_nil]; exact HN1.out, HB.out⟩
        case measure => simp [intOf]; omega
      · simp only at e1 e2 e3
        subst e1
        clear hP
        go_wp2_with (at_builtin; refine wpList_append_own _ rfl _ _ 38 rfl w.heap.size 41 i0 (.agg #[.int .i64 0, .int .i64 0]) 2 16 Try.underlying38 hi0 hz0 hz1 hz2 rfl (by decide) _ M.length (bcells M) rfl hown ⟨g2, 0, none⟩ L.length c2 (bcells L) rfl (bcells_length L) e3 (bcells_one L) (by unfold maxLen; omega) (by omega) hsz ?_; intro v' w2 hown2 hgr hn2)
        have HO := Lib.hid hown2
        have HB3 := Lib.hid (own_below HB.out hsz hown hgr)
        have HN2 : Hid (v' = .slice none 0 0 ↔ M.length + L.length = 0) := hn2.trans ⟨fun h => by have := h.2; omega, fun h => by omega⟩
        clear hown hown2 hgr hn2 HB HN1 hsz e3
        clear i0 hi0 hz0 hz1 hz2
        go_wp2
        go_roundw
        case rel => exact ⟨j + 1, by omega, by go_num, by rw [HT.out, List.length_append, bcells_append]; exact HO.out, by rw [HT.out, List.length_append]; exact HN2.out, HB3.out⟩
        case measure => simp [intOf]; omega
    · have hje : ps.take j = ps := List.take_of_length_le (by rw [HN.out]; omega)
      rw [hje] at hown hnil
      have HO := Lib.hid hown
      have HN1 := Lib.hid hnil
      have HB := Lib.hid hb
      clear hown hnil hb hje
      go_wp2
      go_ret
      exact ⟨_, rfl, HO.out, HN1.out, HB.out⟩
theorem part_of {w w' : World} {L : List (Nat × Nat)} {v : Value} (h : w'.ownsRow w.heap.size 41 2 v L.length (bcells L)) (hn : v = .slice none 0 0 ↔ L.length = 0) : Part w' (v, L) := ⟨⟨_, h⟩, hn⟩

theorem own_slice {w : World} {base n size : Nat} {t : TypeId} {v : Value} {xs : List Value} (h : w.ownsRow base t size v n xs) : ∃ A c, v = .slice A n c := by
  rcases h.2 with ⟨rfl, rfl⟩ | ⟨g, cap, cur, rfl, _⟩
  · exact ⟨_, _, rfl⟩
  · exact ⟨_, _, rfl⟩
theorem dn_nat {a k : Nat} (hk : k ≤ 8) : dnI a k = (a / 2 ^ k * 2 ^ k : Nat) := by
  have ho : ordB k = true := by simp only [ordB, decide_eq_true_eq]; omega
  have hd := Nat.div_add_mod a (2 ^ k)
  simp only [dnI, ho, if_true, Int.toNat_natCast]
  have e : ((a : Int) % 2 ^ k) = ((a % 2 ^ k : Nat) : Int) := by simp
  rw [e, Nat.mul_comm]
  omega
theorem cut0_any (a n b : Nat) (hb : b = a + n) (hb4 : b ≤ 4096) (w : World) : Calls Try.prog 27 #[.int .i64 a, .int .i64 b, .int .i64 0] w (SomeBlks w (gr a n 0)) := by
  have hr := row0_any a n b (by omega) hb4 w
  rw [gr_row]
  clear hb
  go_enter Try.func27, Try.ntmps27
  go_wp2_with fail
  refine hr.mono ?_
  rintro e w' ⟨v, rfl, h1, h2, h3⟩
  have H1 := Lib.hid h1
  have H2 := Lib.hid h2
  have H3 := Lib.hid h3
  clear h1 h2 h3
  go_wp2_with fail
  go_ret
  exact ⟨v, rfl, H1.out, H2.out, H3.out⟩

theorem up3_any (a : Nat) (ha : a ≤ 4096) (w : World) : Calls Try.prog 29 #[.int .i64 a, .int .i64 3] w fun e w' => e = .returned (.int .i64 ((a + 7) / 8 * 8 : Nat)) ∧ w = w' := by
  have hd := fun w => down_any (o := 3) ((a : Int) + 8 - 1) (by omega) (by omega) w
  have e : dnI ((a : Int) + 8 - 1) 3 = ((a + 7) / 8 * 8 : Nat) := by
    have h := dn_nat (a := a + 7) (k := 3) (by omega)
    rw [show ((a + 7 : Nat) : Int) = (a : Int) + 8 - 1 by omega] at h
    exact h
  simp only [e] at hd
  clear e
  go_enter Try.func29, Try.ntmps29
  go_wp2_with fail
  refine (hd _).mono ?_
  rintro e w' ⟨rfl, rfl⟩
  go_wp2_with fail
  go_ret
  exact ⟨rfl, rfl⟩
theorem dn3_any (b : Nat) (hb : b ≤ 4096) (w : World) : Calls Try.prog 15 #[.int .i64 b, .int .i64 3] w fun e w' => e = .returned (.int .i64 (b / 8 * 8 : Nat)) ∧ w = w' := by
  have hd := down_any (o := 3) (b : Int) (by omega) (by omega) w
  have h := dn_nat (a := b) (k := 3) (by omega)
  rw [show dnI (b : Int) 3 = (b / 8 * 8 : Nat) from h] at hd
  exact hd
set_option maxHeartbeats 1000000 in
theorem cut3_any (a n b : Nat) (hb : b = a + n) (hb4 : b ≤ 4096) (w : World) : Calls Try.prog 27 #[.int .i64 a, .int .i64 b, .int .i64 3] w (SomeBlks w (gr a n 3)) := by
  have ha : a ≤ 4096 := by omega
  have hf : (a + 7) / 8 * 8 < a + 8 := by omega
  have hf2 : a ≤ (a + 7) / 8 * 8 := by omega
  have hl : b / 8 * 8 ≤ b := by omega
  by_cases hc : (a + 7) / 8 * 8 < b / 8 * 8
  · have HG := Lib.hid (gr3_cut n a n (Nat.le_refl _) (by rw [← hb]; exact hc))
    have HL := Lib.hid (gr_len n a n 3 (Nat.le_refl _))
    have c1 := fun w => cut0_any a ((a + 7) / 8 * 8 - a) ((a + 7) / 8 * 8) (by omega) (by omega) w
    have c2 := fun w => row3_any ((a + 7) / 8 * 8) (b / 8 - (a + 7) / 8) (b / 8 * 8) (by omega) (by omega) w
    have c3 := fun w => cut0_any (b / 8 * 8) (b - b / 8 * 8) b (by omega) hb4 w
    rw [← hb] at HG
    have hn : n ≤ 4096 := by omega
    obtain ⟨f, ef⟩ : ∃ f, f = (a + 7) / 8 * 8 := ⟨_, rfl⟩
    obtain ⟨l, el⟩ : ∃ l, l = b / 8 * 8 := ⟨_, rfl⟩
    have u1 := fun w => up3_any a ha w
    have u2 := fun w => dn3_any b hb4 w
    obtain ⟨M, eM⟩ : ∃ M, M = rowL ((a + 7) / 8 * 8) (b / 8 - (a + 7) / 8) 3 := ⟨_, rfl⟩
    rw [← eM] at HG
    simp only [← eM] at c2
    clear eM
    simp only [← ef, ← el] at c1 c2 c3 u1 u2 HG hc hf hf2 hl
    obtain ⟨L1, eL1⟩ : ∃ L, L = gr a (f - a) 0 := ⟨_, rfl⟩
    obtain ⟨L3, eL3⟩ : ∃ L, L = gr l (b - l) 0 := ⟨_, rfl⟩
    simp only [← eL1] at c1 HG
    simp only [← eL3] at c3 HG
    clear ef el eL1 eL3 hb
    go_enter Try.func27, Try.ntmps27
    go_wp2_with fail
    refine (u1 _).mono ?_
    rintro e w' ⟨rfl, rfl⟩
    go_wp2_with fail
    refine (u2 _).mono ?_
    rintro e w' ⟨rfl, rfl⟩
    go_wp2_with fail
    refine (c1 _).mono ?_
    rintro e w1 ⟨v1, rfl, o1, n1, b1⟩
    obtain ⟨A1, d1, rfl⟩ := own_slice o1
    have P1 := Lib.hid (part_of o1 n1)
    have B1 := Lib.hid b1
    clear o1 n1 b1
    go_wp2_with fail
    refine (c2 _).mono ?_
    rintro e w2 ⟨v2, rfl, o2, n2, b2⟩
    obtain ⟨A2, d2, rfl⟩ := own_slice o2
    have P2 := Lib.hid (part_of o2 n2)
    have Q1 := Lib.hid (P1.out.call b2)
    have B2 := Lib.hid (B1.out.trans (b2.mono B1.out.size))
    clear o2 n2 b2 P1 B1
    go_wp2_with fail
    refine (c3 _).mono ?_
    rintro e w3 ⟨v3, rfl, o3, n3, b3⟩
    obtain ⟨A3, d3, rfl⟩ := own_slice o3
    have P3 := Lib.hid (part_of o3 n3)
    have R1 := Lib.hid (Q1.out.call b3)
    have R2 := Lib.hid (P2.out.call b3)
    have B3 := Lib.hid (B2.out.trans (b3.mono B2.out.size))
    clear o3 n3 b3 P2 Q1 B2
    go_wp2_with fail
    have J := joined_any [(.slice A1 L1.length d1, L1), (.slice A2 M.length d2, M), (.slice A3 L3.length d3, L3)] 3 w3.heap.size (w3.alloc (.cells #[.slice A1 L1.length d1, .slice A2 M.length d2, .slice A3 L3.length d3] 38)) rfl (Nat.le_refl _) (fun j hj => by
      rw [(Row.new w3 _ _).cell]
      have : j = 0 ∨ j = 1 ∨ j = 2 := by omega
      rcases this with rfl | rfl | rfl <;> rfl) (by simp) (by
      intro p hp
      have hb := (Below.refl w3.heap.size w3).alloc (Nat.le_refl _) (.cells #[.slice A1 L1.length d1, .slice A2 M.length d2, .slice A3 L3.length d3] 38)
      simp only [List.mem_cons, List.not_mem_nil, or_false] at hp
      rcases hp with rfl | rfl | rfl
      · exact R1.out.call hb
      · exact R2.out.call hb
      · exact P3.out.call hb) (by have := HL.out; rw [HG.out] at this; simp [cat] at this ⊢; omega)
    refine J.mono ?_
    rintro e w4 ⟨v4, rfl, o4, n4, b4⟩
    have HC : cat [(.slice A1 L1.length d1, L1), (.slice A2 M.length d2, M), (.slice A3 L3.length d3, L3)] = gr a n 3 := by rw [HG.out]; simp [cat]
    rw [HC] at o4 n4
    have z3 := B3.out.size
    have P4 : Hid (w4.ownsRow w.heap.size 41 2 v4 (gr a n 3).length (bcells (gr a n 3))) := by
      refine ⟨o4.1, ?_⟩
      rcases o4.2 with h0 | ⟨g, cap, cur, e, h1, h2⟩
      · exact Or.inl h0
      · exact Or.inr ⟨g, cap, cur, e, by simp at h1; omega, h2⟩
    have N4 := Lib.hid n4
    have B4 := Lib.hid ((B3.out.alloc z3 (.cells #[.slice A1 L1.length d1, .slice A2 M.length d2, .slice A3 L3.length d3] 38)).trans (b4.mono (by simp; omega)))
    clear o4 n4 b4 J HC R1 R2 P3 B3 z3
    go_wp2_with fail
    go_ret
    exact ⟨v4, rfl, P4.out, N4.out, B4.out⟩
  · have HG := Lib.hid (gr3_low n a n (Nat.le_refl _) (by rw [← hb]; omega))
    have c1 := fun w => cut0_any a n b hb hb4 w
    have hc' : b / 8 * 8 ≤ (a + 7) / 8 * 8 := by omega
    rw [HG.out]
    obtain ⟨f, ef⟩ : ∃ f, f = (a + 7) / 8 * 8 := ⟨_, rfl⟩
    obtain ⟨l, el⟩ : ∃ l, l = b / 8 * 8 := ⟨_, rfl⟩
    have u1 := fun w => up3_any a ha w
    have u2 := fun w => dn3_any b hb4 w
    simp only [← ef, ← el] at u1 u2 hc'
    clear ef el hc hf hf2 hl hb HG
    go_enter Try.func27, Try.ntmps27
    go_wp2_with fail
    refine (u1 _).mono ?_
    rintro e w' ⟨rfl, rfl⟩
    go_wp2_with fail
    refine (u2 _).mono ?_
    rintro e w' ⟨rfl, rfl⟩
    go_wp2_with fail
    refine (c1 _).mono ?_
    rintro e w1 ⟨v1, rfl, o1, n1, b1⟩
    have H1 := Lib.hid o1
    have H2 := Lib.hid n1
    have H3 := Lib.hid b1
    clear o1 n1 b1
    go_wp2_with fail
    go_ret
    exact ⟨v1, rfl, H1.out, H2.out, H3.out⟩

theorem up6_any (a : Nat) (ha : a ≤ 4096) (w : World) : Calls Try.prog 29 #[.int .i64 a, .int .i64 6] w fun e w' => e = .returned (.int .i64 ((a + 63) / 64 * 64 : Nat)) ∧ w = w' := by
  have hd := fun w => down_any (o := 6) ((a : Int) + 64 - 1) (by omega) (by omega) w
  have e : dnI ((a : Int) + 64 - 1) 6 = ((a + 63) / 64 * 64 : Nat) := by
    have h := dn_nat (a := a + 63) (k := 6) (by omega)
    rw [show ((a + 63 : Nat) : Int) = (a : Int) + 64 - 1 by omega] at h
    exact h
  simp only [e] at hd
  clear e
  go_enter Try.func29, Try.ntmps29
  go_wp2_with fail
  refine (hd _).mono ?_
  rintro e w' ⟨rfl, rfl⟩
  go_wp2_with fail
  go_ret
  exact ⟨rfl, rfl⟩
theorem dn6_any (b : Nat) (hb : b ≤ 4096) (w : World) : Calls Try.prog 15 #[.int .i64 b, .int .i64 6] w fun e w' => e = .returned (.int .i64 (b / 64 * 64 : Nat)) ∧ w = w' := by
  have hd := down_any (o := 6) (b : Int) (by omega) (by omega) w
  have h := dn_nat (a := b) (k := 6) (by omega)
  rw [show dnI (b : Int) 6 = (b / 64 * 64 : Nat) from h] at hd
  exact hd
set_option maxHeartbeats 1000000 in
theorem cut6_any (a n b : Nat) (hb : b = a + n) (hb4 : b ≤ 4096) (w : World) : Calls Try.prog 27 #[.int .i64 a, .int .i64 b, .int .i64 6] w (SomeBlks w (gr a n 6)) := by
  have ha : a ≤ 4096 := by omega
  have hf : (a + 63) / 64 * 64 < a + 64 := by omega
  have hf2 : a ≤ (a + 63) / 64 * 64 := by omega
  have hl : b / 64 * 64 ≤ b := by omega
  by_cases hc : (a + 63) / 64 * 64 < b / 64 * 64
  · have HG := Lib.hid (gr6_cut n a n (Nat.le_refl _) (by rw [← hb]; exact hc))
    have HL := Lib.hid (gr_len n a n 6 (Nat.le_refl _))
    have c1 := fun w => cut3_any a ((a + 63) / 64 * 64 - a) ((a + 63) / 64 * 64) (by omega) (by omega) w
    have c2 := fun w => row6_any ((a + 63) / 64 * 64) (b / 64 - (a + 63) / 64) (b / 64 * 64) (by omega) (by omega) w
    have c3 := fun w => cut3_any (b / 64 * 64) (b - b / 64 * 64) b (by omega) hb4 w
    rw [← hb] at HG
    have hn : n ≤ 4096 := by omega
    obtain ⟨f, ef⟩ : ∃ f, f = (a + 63) / 64 * 64 := ⟨_, rfl⟩
    obtain ⟨l, el⟩ : ∃ l, l = b / 64 * 64 := ⟨_, rfl⟩
    have u1 := fun w => up6_any a ha w
    have u2 := fun w => dn6_any b hb4 w
    obtain ⟨M, eM⟩ : ∃ M, M = rowL ((a + 63) / 64 * 64) (b / 64 - (a + 63) / 64) 6 := ⟨_, rfl⟩
    rw [← eM] at HG
    simp only [← eM] at c2
    clear eM
    simp only [← ef, ← el] at c1 c2 c3 u1 u2 HG hc hf hf2 hl
    obtain ⟨L1, eL1⟩ : ∃ L, L = gr a (f - a) 3 := ⟨_, rfl⟩
    obtain ⟨L3, eL3⟩ : ∃ L, L = gr l (b - l) 3 := ⟨_, rfl⟩
    simp only [← eL1] at c1 HG
    simp only [← eL3] at c3 HG
    clear ef el eL1 eL3 hb
    go_enter Try.func27, Try.ntmps27
    go_wp2_with fail
    refine (u1 _).mono ?_
    rintro e w' ⟨rfl, rfl⟩
    go_wp2_with fail
    refine (u2 _).mono ?_
    rintro e w' ⟨rfl, rfl⟩
    go_wp2_with fail
    refine (c1 _).mono ?_
    rintro e w1 ⟨v1, rfl, o1, n1, b1⟩
    obtain ⟨A1, d1, rfl⟩ := own_slice o1
    have P1 := Lib.hid (part_of o1 n1)
    have B1 := Lib.hid b1
    clear o1 n1 b1
    go_wp2_with fail
    refine (c2 _).mono ?_
    rintro e w2 ⟨v2, rfl, o2, n2, b2⟩
    obtain ⟨A2, d2, rfl⟩ := own_slice o2
    have P2 := Lib.hid (part_of o2 n2)
    have Q1 := Lib.hid (P1.out.call b2)
    have B2 := Lib.hid (B1.out.trans (b2.mono B1.out.size))
    clear o2 n2 b2 P1 B1
    go_wp2_with fail
    refine (c3 _).mono ?_
    rintro e w3 ⟨v3, rfl, o3, n3, b3⟩
    obtain ⟨A3, d3, rfl⟩ := own_slice o3
    have P3 := Lib.hid (part_of o3 n3)
    have R1 := Lib.hid (Q1.out.call b3)
    have R2 := Lib.hid (P2.out.call b3)
    have B3 := Lib.hid (B2.out.trans (b3.mono B2.out.size))
    clear o3 n3 b3 P2 Q1 B2
    go_wp2_with fail
    have J := joined_any [(.slice A1 L1.length d1, L1), (.slice A2 M.length d2, M), (.slice A3 L3.length d3, L3)] 3 w3.heap.size (w3.alloc (.cells #[.slice A1 L1.length d1, .slice A2 M.length d2, .slice A3 L3.length d3] 38)) rfl (Nat.le_refl _) (fun j hj => by
      rw [(Row.new w3 _ _).cell]
      have : j = 0 ∨ j = 1 ∨ j = 2 := by omega
      rcases this with rfl | rfl | rfl <;> rfl) (by simp) (by
      intro p hp
      have hb := (Below.refl w3.heap.size w3).alloc (Nat.le_refl _) (.cells #[.slice A1 L1.length d1, .slice A2 M.length d2, .slice A3 L3.length d3] 38)
      simp only [List.mem_cons, List.not_mem_nil, or_false] at hp
      rcases hp with rfl | rfl | rfl
      · exact R1.out.call hb
      · exact R2.out.call hb
      · exact P3.out.call hb) (by have := HL.out; rw [HG.out] at this; simp [cat] at this ⊢; omega)
    refine J.mono ?_
    rintro e w4 ⟨v4, rfl, o4, n4, b4⟩
    have HC : cat [(.slice A1 L1.length d1, L1), (.slice A2 M.length d2, M), (.slice A3 L3.length d3, L3)] = gr a n 6 := by rw [HG.out]; simp [cat]
    rw [HC] at o4 n4
    have z3 := B3.out.size
    have P4 : Hid (w4.ownsRow w.heap.size 41 2 v4 (gr a n 6).length (bcells (gr a n 6))) := by
      refine ⟨o4.1, ?_⟩
      rcases o4.2 with h0 | ⟨g, cap, cur, e, h1, h2⟩
      · exact Or.inl h0
      · exact Or.inr ⟨g, cap, cur, e, by simp at h1; omega, h2⟩
    have N4 := Lib.hid n4
    have B4 := Lib.hid ((B3.out.alloc z3 (.cells #[.slice A1 L1.length d1, .slice A2 M.length d2, .slice A3 L3.length d3] 38)).trans (b4.mono (by simp; omega)))
    clear o4 n4 b4 J HC R1 R2 P3 B3 z3
    go_wp2_with fail
    go_ret
    exact ⟨v4, rfl, P4.out, N4.out, B4.out⟩
  · have HG := Lib.hid (gr6_low n a n (Nat.le_refl _) (by rw [← hb]; omega))
    have c1 := fun w => cut3_any a n b hb hb4 w
    have hc' : b / 64 * 64 ≤ (a + 63) / 64 * 64 := by omega
    rw [HG.out]
    obtain ⟨f, ef⟩ : ∃ f, f = (a + 63) / 64 * 64 := ⟨_, rfl⟩
    obtain ⟨l, el⟩ : ∃ l, l = b / 64 * 64 := ⟨_, rfl⟩
    have u1 := fun w => up6_any a ha w
    have u2 := fun w => dn6_any b hb4 w
    simp only [← ef, ← el] at u1 u2 hc'
    clear ef el hc hf hf2 hl hb HG
    go_enter Try.func27, Try.ntmps27
    go_wp2_with fail
    refine (u1 _).mono ?_
    rintro e w' ⟨rfl, rfl⟩
    go_wp2_with fail
    refine (u2 _).mono ?_
    rintro e w' ⟨rfl, rfl⟩
    go_wp2_with fail
    refine (c1 _).mono ?_
    rintro e w1 ⟨v1, rfl, o1, n1, b1⟩
    have H1 := Lib.hid o1
    have H2 := Lib.hid n1
    have H3 := Lib.hid b1
    clear o1 n1 b1
    go_wp2_with fail
    go_ret
    exact ⟨v1, rfl, H1.out, H2.out, H3.out⟩
end Go.Proofs.Ytbieecclnjpnpaa
