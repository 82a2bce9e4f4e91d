/- Plain facts of package table, without the program: one word of a table below turns; what becomes of the tables and of the walks. -/
import Derived.Test.YtnlimecbbockoaaMg03
namespace Go.Proofs.Ytnlimecbbockoaa
open Go.RowKit

/-- A list of lists, with one of them apart. -/
theorem flat_split : ∀ (n i : Nat) (f g : Nat → List Int), i < n → (∀ k, k < n → k ≠ i → f k = g k) →
    ∃ R, ((List.range n).flatMap f).Perm (f i ++ R) ∧ ((List.range n).flatMap g).Perm (g i ++ R) ∧ ∀ k, k < n → k ≠ i → ∀ u ∈ f k, u ∈ R := by
  intro n
  induction n with
  | zero => intro i f g h; exact absurd h (Nat.not_lt_zero _)
  | succ n ih =>
    intro i f g hi h
    simp only [List.range_succ, List.flatMap_append, List.flatMap_cons, List.flatMap_nil, List.append_nil]
    by_cases hin : i = n
    · subst hin
      refine ⟨(List.range i).flatMap f, List.perm_append_comm, ?_, fun k hk hne u hu => ?_⟩
      · rw [flat_congr (f := f) (g := g) fun k hk => h k (by omega) (by omega)]
        exact List.perm_append_comm
      · rw [List.mem_flatMap]
        exact ⟨k, List.mem_range.2 (by omega), hu⟩
    · obtain ⟨R, p1, p2, hm⟩ := ih i f g (by omega) fun k hk hne => h k (by omega) hne
      refine ⟨R ++ f n, ?_, ?_, fun k hk hne u hu => ?_⟩
      · rw [← List.append_assoc]; exact p1.append_right _
      · rw [← h n (by omega) (fun e => hin e.symm), ← List.append_assoc]; exact p2.append_right _
      · by_cases hkn : k = n
        · subst hkn; exact List.mem_append.2 (Or.inr hu)
        · exact List.mem_append.2 (Or.inl (hm k (by omega) hne u hu))
/-- The table of a level on a page's way. -/
def nod (ws : List Int) (p : Int) : Nat → Int → Nat → Option Int
  | 0, t, v => if v = 0 then some t else none
  | l + 1, t, v => if v = l + 1 then some t else if say (FF ws) ((l + 1 : Nat) : Int) (wd ws t (dg p (l + 1))) = 2 then nod ws p l (unF (wd ws t (dg p (l + 1)))) v else none
theorem nod_here (ws : List Int) (p : Int) (l : Nat) (t : Int) : nod ws p l t l = some t := by cases l <;> simp [nod]
theorem nod_down {ws : List Int} {p : Int} {l : Nat} {t u : Int} {v : Nat} (h : nod ws p (l + 1) t v = some u) (hv : v ≠ l + 1) : say (FF ws) ((l + 1 : Nat) : Int) (wd ws t (dg p (l + 1))) = 2 ∧ nod ws p l (unF (wd ws t (dg p (l + 1)))) v = some u := by
  unfold nod at h
  rw [if_neg hv] at h
  split at h
  · rename_i hs; exact ⟨hs, h⟩
  · cases h
theorem nod_mem {ws : List Int} {p : Int} : ∀ (l : Nat) (t : Int) (v : Nat) (u : Int), nod ws p l t v = some u → v ≤ l ∧ u ∈ tabs ws l t := by
  intro l
  induction l with
  | zero =>
    intro t v u h
    unfold nod at h
    split at h
    · rename_i hv; injection h with h; subst h hv; exact ⟨Nat.le_refl _, tabs_head ..⟩
    · cases h
  | succ l ih =>
    intro t v u h
    by_cases hv : v = l + 1
    · subst hv; rw [nod_here] at h; injection h with h; subst h; exact ⟨Nat.le_refl _, tabs_head ..⟩
    · obtain ⟨hs, h⟩ := nod_down h hv
      obtain ⟨i, hi, hi8⟩ := dg_nat p (l + 1)
      have := ih _ v u h
      refine ⟨by omega, mem_tabs.2 (Or.inr ⟨i, hi8, ?_⟩)⟩
      rw [← hi]
      simp only [subt, if_pos hs]
      exact this.2
/-- One word has turned. -/
structure One (ws ws' : List Int) (u : Int) (i : Nat) (y : Int) : Prop where
  len : ws'.length = ws.length
  at_ : wd ws' u (i : Int) = y
  else_ : ∀ (t : Int) (k : Nat), k < 8 → ¬ (t = u ∧ k = i) → wd ws' t (k : Int) = wd ws t (k : Int)
theorem One.same {ws ws' : List Int} {u y : Int} {i : Nat} (h : One ws ws' u i y) {S : List Int} (hu : u ∉ S) : SameOn ws ws' S := ⟨h.len, fun t ht k hk => h.else_ t k hk (by rintro ⟨rfl, _⟩; exact hu ht)⟩
theorem One.ff {ws ws' : List Int} {u y : Int} {i : Nat} (h : One ws ws' u i y) : FF ws' = FF ws := by unfold FF; rw [h.len]
section
variable {ws ws' : List Int} {p u y : Int} {i v : Nat}
/-- The tables: those below the old entry go, those below the new one come. -/
theorem tabs_one (h : One ws ws' u i y) (hi : dg p v = (i : Int)) (hi8 : i < 8) : ∀ (l : Nat) (t : Int), nod ws p l t v = some u → (tabs ws l t).Nodup →
    ∃ R, (tabs ws l t).Perm (subt ws v (wd ws u (i : Int)) ++ R) ∧ (tabs ws' l t).Perm (subt ws' v y ++ R) := by
  intro l
  induction l with
  | zero =>
    intro t hn hd
    have hv : v = 0 := by have := (nod_mem 0 t v u hn).1; omega
    subst hv
    exact ⟨tabs ws 0 t, by simp [subt], by simp [subt, tabs]⟩
  | succ l ih =>
    intro t hn hd
    rw [tabs_eq] at hd
    by_cases hv : v = l + 1
    · subst hv
      rw [nod_here] at hn
      injection hn with hn
      subst hn
      have hnd := List.nodup_cons.1 hd
      obtain ⟨R, p1, p2, hm⟩ := flat_split 8 i (fun k => subt ws (l + 1) (wd ws t (k : Int))) (fun k => subt ws' (l + 1) (wd ws' t (k : Int))) hi8 (fun k hk hne => by
        show subt ws (l + 1) (wd ws t (k : Int)) = subt ws' (l + 1) (wd ws' t (k : Int))
        rw [h.else_ t k hk (fun e => hne e.2)]
        refine (subt_same (l + 1) _ (h.same fun hu => hnd.1 ?_) h.len).symm
        exact List.mem_flatMap.2 ⟨k, List.mem_range.2 hk, hu⟩)
      refine ⟨t :: R, ?_, ?_⟩
      · rw [tabs_eq]; exact (p1.cons t).trans List.perm_middle.symm
      · rw [tabs_eq]
        have p2' := p2
        simp only [h.at_] at p2'
        exact (p2'.cons t).trans List.perm_middle.symm
    · obtain ⟨hs, hn'⟩ := nod_down hn hv
      obtain ⟨k0, hk0, hk8⟩ := dg_nat p (l + 1)
      rw [hk0] at hs hn'
      have hum := (nod_mem l _ v u hn').2
      have hnd := List.nodup_cons.1 hd
      have hsub : subt ws (l + 1) (wd ws t (k0 : Int)) = tabs ws l (unF (wd ws t (k0 : Int))) := by simp only [subt, if_pos hs]
      have hum2 : u ∈ (List.range 8).flatMap fun k : Nat => subt ws (l + 1) (wd ws t (k : Int)) := List.mem_flatMap.2 ⟨k0, List.mem_range.2 hk8, by rw [hsub]; exact hum⟩
      have htu : t ≠ u := by rintro rfl; exact hnd.1 hum2
      have hwt : ∀ k : Nat, k < 8 → wd ws' t (k : Int) = wd ws t (k : Int) := fun k hk => h.else_ t k hk (fun e => htu e.1)
      -- apart from the way nothing turns
      obtain ⟨R1, q1, -, hm⟩ := flat_split 8 k0 (fun k => subt ws (l + 1) (wd ws t (k : Int))) (fun k => subt ws (l + 1) (wd ws t (k : Int))) hk8 (fun _ _ _ => rfl)
      have hnd2 := q1.nodup_iff.1 hnd.2
      rw [List.nodup_append] at hnd2
      obtain ⟨R, p1, p2, -⟩ := flat_split 8 k0 (fun k => subt ws (l + 1) (wd ws t (k : Int))) (fun k => subt ws' (l + 1) (wd ws' t (k : Int))) hk8 (fun k hk hne => by
        show subt ws (l + 1) (wd ws t (k : Int)) = subt ws' (l + 1) (wd ws' t (k : Int))
        rw [hwt k hk]
        refine (subt_same (l + 1) _ (h.same fun hu => ?_) h.len).symm
        exact hnd2.2.2 u (by show u ∈ subt ws (l + 1) (wd ws t (k0 : Int)); rw [hsub]; exact hum) u (hm k hk hne u hu) rfl)
      obtain ⟨R0, r1, r2⟩ := ih _ hn' (by have := hnd2.1; simp only [hsub] at this; exact this)
      have e1 : subt ws' (l + 1) (wd ws' t (k0 : Int)) = tabs ws' l (unF (wd ws t (k0 : Int))) := by
        rw [hwt k0 hk8]; simp only [subt, h.ff, if_pos hs]
      simp only [hsub] at p1
      simp only [e1] at p2
      refine ⟨t :: (R0 ++ R), ?_, ?_⟩
      · rw [tabs_eq]
        refine ((p1.trans (r1.append_right R)).cons t).trans ?_
        rw [List.append_assoc]
        exact List.perm_middle.symm
      · rw [tabs_eq]
        refine ((p2.trans (r2.append_right R)).cons t).trans ?_
        rw [List.append_assoc]
        exact List.perm_middle.symm
end
end Go.Proofs.Ytnlimecbbockoaa
/- Plain facts of package table, without the program: what becomes of the walks, of the order and of the leaves when one word turns. -/
namespace Go.Proofs.Ytnlimecbbockoaa
open Go.RowKit
theorem div_up {p q : Int} {v : Nat} (h : q / 8 ^ v = p / 8 ^ v) (k : Nat) (hk : v ≤ k) : q / 8 ^ k = p / 8 ^ k := by
  obtain ⟨j, rfl⟩ : ∃ j, k = v + j := ⟨k - v, by omega⟩
  rw [Int.pow_add, ← Int.ediv_ediv_of_nonneg (Int.pow_nonneg (by omega)), ← Int.ediv_ediv_of_nonneg (Int.pow_nonneg (by omega)), h]
theorem div_digit (p : Int) (v : Nat) : p / 8 ^ v = 8 * (p / 8 ^ (v + 1)) + dg p v := by
  unfold dg
  rw [Int.pow_succ, ← Int.ediv_ediv_of_nonneg (Int.pow_nonneg (by omega))]
  omega
section
variable {ws ws' : List Int} {p u y : Int} {i v : Nat}
/-- A table that is passed on the way is another one than the last. -/
theorem nod_facts {l : Nat} {t : Int} (hd : (tabs ws (l + 1) t).Nodup) (hn : nod ws p (l + 1) t v = some u) (hv : v ≠ l + 1) :
    ∃ k0 : Nat, k0 < 8 ∧ dg p (l + 1) = (k0 : Int) ∧ say (FF ws) ((l + 1 : Nat) : Int) (wd ws t (k0 : Int)) = 2 ∧ nod ws p l (unF (wd ws t (k0 : Int))) v = some u ∧ t ≠ u ∧ (tabs ws l (unF (wd ws t (k0 : Int)))).Nodup ∧
      ∀ k : Nat, k < 8 → k ≠ k0 → u ∉ subt ws (l + 1) (wd ws t (k : Int)) := by
  rw [tabs_eq] at hd
  obtain ⟨hs, hn'⟩ := nod_down hn hv
  obtain ⟨k0, hk0, hk8⟩ := dg_nat p (l + 1)
  rw [hk0] at hs hn'
  have hum := (nod_mem l _ v u hn').2
  have hnd := List.nodup_cons.1 hd
  have hsub : subt ws (l + 1) (wd ws t (k0 : Int)) = tabs ws l (unF (wd ws t (k0 : Int))) := by simp only [subt, if_pos hs]
  have hum2 : u ∈ (List.range 8).flatMap fun k : Nat => subt ws (l + 1) (wd ws t (k : Int)) := List.mem_flatMap.2 ⟨k0, List.mem_range.2 hk8, by rw [hsub]; exact hum⟩
  obtain ⟨R1, q1, -, hm⟩ := flat_split 8 k0 (fun k => subt ws (l + 1) (wd ws t (k : Int))) (fun k => subt ws (l + 1) (wd ws t (k : Int))) hk8 (fun _ _ _ => rfl)
  have hnd2 := q1.nodup_iff.1 hnd.2
  rw [List.nodup_append] at hnd2
  refine ⟨k0, hk8, hk0, hs, hn', by rintro rfl; exact hnd.1 hum2, ?_, fun k hk hne hu => ?_⟩
  · have := hnd2.1; simp only [hsub] at this; exact this
  · exact hnd2.2.2 u (by show u ∈ subt ws (l + 1) (wd ws t (k0 : Int)); rw [hsub]; exact hum) u (hm k hk hne u hu) rfl
/-- A table is not below its own entries. -/
theorem self_out {l : Nat} {t : Int} (hd : (tabs ws l t).Nodup) (k : Nat) (hk : k < 8) : t ∉ subt ws l (wd ws t (k : Int)) := fun hu => by
  rw [tabs_eq] at hd
  exact (List.nodup_cons.1 hd).1 (List.mem_flatMap.2 ⟨k, List.mem_range.2 hk, hu⟩)
theorem wk_step_same (h : One ws ws' u i y) {l : Nat} {t q : Int} {k : Nat} (hk : dg q l = (k : Int)) (hw : wd ws' t (k : Int) = wd ws t (k : Int)) (hu : u ∉ subt ws l (wd ws t (k : Int))) : wk ws' q l t = wk ws q l t := by
  cases l with
  | zero => unfold wk; rw [hk, hw, h.len]
  | succ l =>
    rw [wk_succ, wk_succ, hk, hw, h.len]
    split
    · rename_i hs
      rw [wk_tabs q l _ (h.same fun hx => hu ?_)]
      simp only [subt]
      rw [if_pos (show say (FF ws) ((l + 1 : Nat) : Int) (wd ws t k) = 2 from hs)]
      exact hx
    · rfl
/-- Walks of other pages go as they went. -/
theorem wk_off (h : One ws ws' u i y) (hi : dg p v = (i : Int)) : ∀ (l : Nat) (t q : Int), nod ws p l t v = some u → (tabs ws l t).Nodup → q / 8 ^ (l + 1) = p / 8 ^ (l + 1) → q / 8 ^ v ≠ p / 8 ^ v → wk ws' q l t = wk ws q l t := by
  intro l
  induction l with
  | zero =>
    intro t q hn hd hq hne
    have hv : v = 0 := by have := (nod_mem 0 t v u hn).1; omega
    subst hv
    obtain ⟨k, hk, hk8⟩ := dg_nat q 0
    refine wk_step_same h hk (h.else_ t k hk8 ?_) (self_out hd k hk8 |> fun _ => by simp [subt])
    rintro ⟨-, rfl⟩
    apply hne
    rw [div_digit q 0, div_digit p 0, hq, hk, hi]
  | succ l ih =>
    intro t q hn hd hq hne
    obtain ⟨k, hk, hk8⟩ := dg_nat q (l + 1)
    by_cases hv : v = l + 1
    · subst hv
      rw [nod_here] at hn
      injection hn with hn
      subst hn
      refine wk_step_same h hk (h.else_ t k hk8 ?_) (self_out hd k hk8)
      rintro ⟨-, rfl⟩
      apply hne
      rw [div_digit q (l + 1), div_digit p (l + 1), hq, hk, hi]
    · obtain ⟨k0, hk08, hk0, hs, hn', htu, hd', hoff⟩ := nod_facts hd hn hv
      have hw : wd ws' t (k : Int) = wd ws t (k : Int) := h.else_ t k hk8 fun e => htu e.1
      by_cases hkk : k = k0
      · subst hkk
        have hq' : q / 8 ^ (l + 1) = p / 8 ^ (l + 1) := by rw [div_digit q (l + 1), div_digit p (l + 1), hq, hk, hk0]
        rw [wk_succ, wk_succ, hk, hw, h.len]
        rw [if_pos (show say ((ws.length : Int) / 8) ((l + 1 : Nat) : Int) (wd ws t k) = 2 from hs), if_pos (show say ((ws.length : Int) / 8) ((l + 1 : Nat) : Int) (wd ws t k) = 2 from hs), ih _ q hn' hd' hq' hne]
      · exact wk_step_same h hk hw (hoff k hk8 hkk)
/-- Walks of the block's pages come to the table as they did. -/
theorem wk_on_ (h : One ws ws' u i y) : ∀ (l : Nat) (t q : Int), nod ws p l t v = some u → (tabs ws l t).Nodup → q / 8 ^ v = p / 8 ^ v → ∃ ts, wk ws q l t = app ts (wk ws q v u) ∧ wk ws' q l t = app ts (wk ws' q v u) := by
  intro l
  induction l with
  | zero =>
    intro t q hn hd hq
    have hv : v = 0 := by have := (nod_mem 0 t v u hn).1; omega
    subst hv
    rw [nod_here] at hn
    injection hn with hn
    subst hn
    exact ⟨[], (app_nil _).symm, (app_nil _).symm⟩
  | succ l ih =>
    intro t q hn hd hq
    by_cases hv : v = l + 1
    · subst hv
      rw [nod_here] at hn
      injection hn with hn
      subst hn
      exact ⟨[], (app_nil _).symm, (app_nil _).symm⟩
    · have hvl := (nod_mem (l + 1) t v u hn).1
      obtain ⟨k0, hk08, hk0, hs, hn', htu, hd', hoff⟩ := nod_facts hd hn hv
      have hk : dg q (l + 1) = (k0 : Int) := by rw [← hk0]; exact dg_same (v := v) hq (l + 1) hvl
      have hw : wd ws' t (k0 : Int) = wd ws t (k0 : Int) := h.else_ t k0 hk08 fun e => htu e.1
      obtain ⟨ts, e1, e2⟩ := ih _ q hn' hd' hq
      refine ⟨t :: ts, ?_, ?_⟩
      · rw [wk_on (by rw [hk]; exact hs), hk, e1, app_app]; rfl
      · rw [wk_on (by rw [hk, hw, h.len]; exact hs), hk, hw, e2, app_app]; rfl
/-- All is in order still. -/
theorem good_one (h : One ws ws' u i y) (hv0 : say (FF ws) (v : Int) y ≠ 0) (hy : ∀ m, v = m + 1 → say (FF ws) (v : Int) y = 2 → Good ws' m (unF y)) :
    ∀ (l : Nat) (t : Int), nod ws p l t v = some u → (tabs ws l t).Nodup → Good ws l t → Good ws' l t := by
  intro l
  induction l with
  | zero =>
    intro t hn hd hg
    have hv : v = 0 := by have := (nod_mem 0 t v u hn).1; omega
    subst hv
    rw [nod_here] at hn
    injection hn with hn
    subst hn
    refine ⟨by rw [h.ff]; exact hg.1, fun k hk => ?_⟩
    rw [h.ff]
    by_cases hki : k = i
    · subst hki; rw [h.at_]; exact hv0
    · rw [h.else_ t k hk fun e => hki e.2]; exact hg.2 k hk
  | succ l ih =>
    intro t hn hd hg
    by_cases hv : v = l + 1
    · subst hv
      rw [nod_here] at hn
      injection hn with hn
      subst hn
      refine ⟨by rw [h.ff]; exact hg.1, fun k hk => ?_⟩
      rw [h.ff]
      by_cases hki : k = i
      · subst hki; rw [h.at_]; exact ⟨hv0, fun hs => hy l rfl hs⟩
      · rw [h.else_ t k hk fun e => hki e.2]
        refine ⟨(hg.2 k hk).1, fun hs => good_same l _ (h.same fun hu => self_out hd k hk ?_) ((hg.2 k hk).2 hs)⟩
        simp only [subt, if_pos hs]
        exact hu
    · obtain ⟨k0, hk08, hk0, hs0, hn', htu, hd', hoff⟩ := nod_facts hd hn hv
      refine ⟨by rw [h.ff]; exact hg.1, fun k hk => ?_⟩
      rw [h.ff, h.else_ t k hk fun e => htu e.1]
      refine ⟨(hg.2 k hk).1, fun hs => ?_⟩
      by_cases hkk : k = k0
      · subst hkk; exact ih _ hn' hd' ((hg.2 k hk).2 hs)
      · refine good_same l _ (h.same fun hu => hoff k hk hkk ?_) ((hg.2 k hk).2 hs)
        simp only [subt, if_pos hs]
        exact hu
end
/-- The leaves below a table that stands for the pages from b on: page, level, word. -/
def lvs (ws : List Int) : Nat → Int → Int → List (Int × Nat × Int)
  | 0, t, b => (List.range 8).flatMap fun i : Nat => if say (FF ws) 0 (wd ws t (i : Int)) = 3 then [(b + i, 0, wd ws t (i : Int))] else []
  | l + 1, t, b => (List.range 8).flatMap fun i : Nat => if say (FF ws) ((l + 1 : Nat) : Int) (wd ws t (i : Int)) = 3 then [(b + i * 8 ^ (l + 1), l + 1, wd ws t (i : Int))]
    else if say (FF ws) ((l + 1 : Nat) : Int) (wd ws t (i : Int)) = 2 then lvs ws l (unF (wd ws t (i : Int))) (b + i * 8 ^ (l + 1)) else []
theorem flat_congr' {α : Type} {n : Nat} {f g : Nat → List α} (h : ∀ i, i < n → f i = g i) : (List.range n).flatMap f = (List.range n).flatMap g := by
  induction n with
  | zero => rfl
  | succ n ih =>
    rw [List.range_succ, List.flatMap_append, List.flatMap_append, ih fun i hi => h i (by omega)]
    simp [h n (by omega)]
/-- They hang on the words of the tables alone. -/
theorem lvs_same {ws ws' : List Int} : ∀ (l : Nat) (t b : Int), SameOn ws ws' (tabs ws l t) → lvs ws' l t b = lvs ws l t b := by
  intro l
  induction l with
  | zero =>
    intro t b h
    have hF : FF ws' = FF ws := by unfold FF; rw [h.1]
    unfold lvs
    refine flat_congr' fun i hi => ?_
    rw [hF, h.2 t (tabs_head ws 0 t) i hi]
  | succ l ih =>
    intro t b h
    have hF : FF ws' = FF ws := by unfold FF; rw [h.1]
    unfold lvs
    refine flat_congr' fun i hi => ?_
    rw [hF, h.2 t (tabs_head ws (l + 1) t) i hi]
    split
    · rfl
    · split
      · rename_i hs
        refine ih _ _ (h.sub fun u hu => mem_tabs.2 (Or.inr ⟨i, hi, ?_⟩))
        simp only [subt, if_pos hs]
        exact hu
      · rfl
end Go.Proofs.Ytnlimecbbockoaa
