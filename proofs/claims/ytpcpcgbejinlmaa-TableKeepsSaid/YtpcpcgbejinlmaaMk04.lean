/- Plain facts of package table, without the program: one word of a table below turns; what becomes of the tables and of the walks. -/
import Derived.Test.YtpcpcgbejinlmaaMk03
namespace Go.Proofs.Ytpcpcgbejinlmaa
open Go.RowKit
theorem flat_split : ∀ (n i : Nat) (f g : Nat → List Int), i < n → (∀ k, k < n → k ≠ i → f k = g k) →
    ∃ R, ((List.range n).flatMap f).Perm (f i ++ R) ∧ ((List.range n).flatMap g).Perm (g i ++ R) ∧ ∀ k, k < n → k ≠ i → ∀ u ∈ f k, u ∈ R := by
  intro n
  induction n with
  | zero => intro i f g h; exact absurd h (Nat.not_lt_zero _)
  | succ n ih =>
    intro i f g hi h
    simp only [List.range_succ, List.flatMap_append, List.flatMap_cons, List.flatMap_nil, List.append_nil]
    by_cases hin : i = n
    · subst hin
      refine ⟨(List.range i).flatMap f, List.perm_append_comm, ?_, fun k hk hne u hu => ?_⟩
      · rw [flat_congr (f := f) (g := g) fun k hk => h k (by omega) (by omega)]
        exact List.perm_append_comm
      · rw [List.mem_flatMap]
        exact ⟨k, List.mem_range.2 (by omega), hu⟩
    · obtain ⟨R, p1, p2, hm⟩ := ih i f g (by omega) fun k hk hne => h k (by omega) hne
      refine ⟨R ++ f n, ?_, ?_, fun k hk hne u hu => ?_⟩
      · rw [← List.append_assoc]; exact p1.append_right _
      · rw [← h n (by omega) (fun e => hin e.symm), ← List.append_assoc]; exact p2.append_right _
      · by_cases hkn : k = n
        · subst hkn; exact List.mem_append.2 (Or.inr hu)
        · exact List.mem_append.2 (Or.inl (hm k (by omega) hne u hu))
def nod (ws : List Int) (p : Int) : Nat → Int → Nat → Option Int
  | 0, t, v => if v = 0 then some t else none
  | l + 1, t, v => if v = l + 1 then some t else if say (FF ws) ((l + 1 : Nat) : Int) (wd ws t (dg p (l + 1))) = 2 then nod ws p l (unF (wd ws t (dg p (l + 1)))) v else none
theorem nod_here (ws : List Int) (p : Int) (l : Nat) (t : Int) : nod ws p l t l = some t := by cases l <;> simp [nod]
theorem nod_down {ws : List Int} {p : Int} {l : Nat} {t u : Int} {v : Nat} (h : nod ws p (l + 1) t v = some u) (hv : v ≠ l + 1) : say (FF ws) ((l + 1 : Nat) : Int) (wd ws t (dg p (l + 1))) = 2 ∧ nod ws p l (unF (wd ws t (dg p (l + 1)))) v = some u := by
  unfold nod at h
  rw [if_neg hv] at h
  split at h
  · rename_i hs; exact ⟨hs, h⟩
  · cases h
theorem nod_mem {ws : List Int} {p : Int} : ∀ (l : Nat) (t : Int) (v : Nat) (u : Int), nod ws p l t v = some u → v ≤ l ∧ u ∈ tabs ws l t := by
  intro l
  induction l with
  | zero =>
    intro t v u h
    unfold nod at h
    split at h
    · rename_i hv; injection h with h; subst h hv; exact ⟨Nat.le_refl _, tabs_head ..⟩
    · cases h
  | succ l ih =>
    intro t v u h
    by_cases hv : v = l + 1
    · subst hv; rw [nod_here] at h; injection h with h; subst h; exact ⟨Nat.le_refl _, tabs_head ..⟩
    · obtain ⟨hs, h⟩ := nod_down h hv
      obtain ⟨i, hi, hi8⟩ := dg_nat p (l + 1)
      have := ih _ v u h
      refine ⟨by omega, mem_tabs.2 (Or.inr ⟨i, hi8, ?_⟩)⟩
      rw [← hi]
      simp only [subt, if_pos hs]
      exact this.2
structure One (ws ws' : List Int) (u : Int) (i : Nat) (y : Int) : Prop where
  len : ws'.length = ws.length
  at_ : wd ws' u (i : Int) = y
  else_ : ∀ (t : Int) (k : Nat), k < 8 → ¬ (t = u ∧ k = i) → wd ws' t (k : Int) = wd ws t (k : Int)
theorem One.same {ws ws' : List Int} {u y : Int} {i : Nat} (h : One ws ws' u i y) {S : List Int} (hu : u ∉ S) : SameOn ws ws' S := ⟨h.len, fun t ht k hk => h.else_ t k hk (by rintro ⟨rfl, _⟩; exact hu ht)⟩
theorem One.ff {ws ws' : List Int} {u y : Int} {i : Nat} (h : One ws ws' u i y) : FF ws' = FF ws := by unfold FF; rw [h.len]
section
variable {ws ws' : List Int} {p u y : Int} {i v : Nat}
theorem tabs_one (h : One ws ws' u i y) (hi : dg p v = (i : Int)) (hi8 : i < 8) : ∀ (l : Nat) (t : Int), nod ws p l t v = some u → (tabs ws l t).Nodup →
    ∃ R, (tabs ws l t).Perm (subt ws v (wd ws u (i : Int)) ++ R) ∧ (tabs ws' l t).Perm (subt ws' v y ++ R) := by
  intro l
  induction l with
  | zero =>
    intro t hn hd
    have hv : v = 0 := by have := (nod_mem 0 t v u hn).1; omega
    subst hv
    exact ⟨tabs ws 0 t, by simp [subt], by simp [subt, tabs]⟩
  | succ l ih =>
    intro t hn hd
    rw [tabs_eq] at hd
    by_cases hv : v = l + 1
    · subst hv
      rw [nod_here] at hn
      injection hn with hn
      subst hn
      have hnd := List.nodup_cons.1 hd
      obtain ⟨R, p1, p2, hm⟩ := flat_split 8 i (fun k => subt ws (l + 1) (wd ws t (k : Int))) (fun k => subt ws' (l + 1) (wd ws' t (k : Int))) hi8 (fun k hk hne => by
        show subt ws (l + 1) (wd ws t (k : Int)) = subt ws' (l + 1) (wd ws' t (k : Int))
        rw [h.else_ t k hk (fun e => hne e.2)]
        refine (subt_same (l + 1) _ (h.same fun hu => hnd.1 ?_) h.len).symm
        exact List.mem_flatMap.2 ⟨k, List.mem_range.2 hk, hu⟩)
      refine ⟨t :: R, ?_, ?_⟩
      · rw [tabs_eq]; exact (p1.cons t).trans List.perm_middle.symm
      · rw [tabs_eq]
        have p2' := p2
        simp only [h.at_] at p2'
        exact (p2'.cons t).trans List.perm_middle.symm
    · obtain ⟨hs, hn'⟩ := nod_down hn hv
      obtain ⟨k0, hk0, hk8⟩ := dg_nat p (l + 1)
      rw [hk0] at hs hn'
      have hum := (nod_mem l _ v u hn').2
      have hnd := List.nodup_cons.1 hd
      have hsub : subt ws (l + 1) (wd ws t (k0 : Int)) = tabs ws l (unF (wd ws t (k0 : Int))) := by simp only [subt, if_pos hs]
      have hum2 : u ∈ (List.range 8).flatMap fun k : Nat => subt ws (l + 1) (wd ws t (k : Int)) := List.mem_flatMap.2 ⟨k0, List.mem_range.2 hk8, by rw [hsub]; exact hum⟩
      have htu : t ≠ u := by rintro rfl; exact hnd.1 hum2
      have hwt : ∀ k : Nat, k < 8 → wd ws' t (k : Int) = wd ws t (k : Int) := fun k hk => h.else_ t k hk (fun e => htu e.1)
      -- apart from the way nothing turns
      obtain ⟨R1, q1, -, hm⟩ := flat_split 8 k0 (fun k => subt ws (l + 1) (wd ws t (k : Int))) (fun k => subt ws (l + 1) (wd ws t (k : Int))) hk8 (fun _ _ _ => rfl)
      have hnd2 := q1.nodup_iff.1 hnd.2
      rw [List.nodup_append] at hnd2
      obtain ⟨R, p1, p2, -⟩ := flat_split 8 k0 (fun k => subt ws (l + 1) (wd ws t (k : Int))) (fun k => subt ws' (l + 1) (wd ws' t (k : Int))) hk8 (fun k hk hne => by
        show subt ws (l + 1) (wd ws t (k : Int)) = subt ws' (l + 1) (wd ws' t (k : Int))
        rw [hwt k hk]
        refine (subt_same (l + 1) _ (h.same fun hu => ?_) h.len).symm
        exact hnd2.2.2 u (by show u ∈ subt ws (l + 1) (wd ws t (k0 : Int)); rw [hsub]; exact hum) u (hm k hk hne u hu) rfl)
      obtain ⟨R0, r1, r2⟩ := ih _ hn' (by have := hnd2.1; simp only [hsub] at this; exact this)
      have e1 : subt ws' (l + 1) (wd ws' t (k0 : Int)) = tabs ws' l (unF (wd ws t (k0 : Int))) := by
        rw [hwt k0 hk8]; simp only [subt, h.ff, if_pos hs]
      simp only [hsub] at p1
      simp only [e1] at p2
      refine ⟨t :: (R0 ++ R), ?_, ?_⟩
      · rw [tabs_eq]
        refine ((p1.trans (r1.append_right R)).cons t).trans ?_
        rw [List.append_assoc]
        exact List.perm_middle.symm
      · rw [tabs_eq]
        refine ((p2.trans (r2.append_right R)).cons t).trans ?_
        rw [List.append_assoc]
        exact List.perm_middle.symm
end
end Go.Proofs.Ytpcpcgbejinlmaa
/- Plain facts of package table, without the program: what becomes of the walks, of the order and of the leaves when one word turns. -/
namespace Go.Proofs.Ytpcpcgbejinlmaa
open Go.RowKit
theorem div_digit (p : Int) (v : Nat) : p / 8 ^ v = 8 * (p / 8 ^ (v + 1)) + dg p v := by
  unfold dg
  rw [Int.pow_succ, ← Int.ediv_ediv_of_nonneg (Int.pow_nonneg (by omega))]
  omega
section
variable {ws ws' : List Int} {p u y : Int} {i v : Nat}
theorem nod_facts {l : Nat} {t : Int} (hd : (tabs ws (l + 1) t).Nodup) (hn : nod ws p (l + 1) t v = some u) (hv : v ≠ l + 1) :
    ∃ k0 : Nat, k0 < 8 ∧ dg p (l + 1) = (k0 : Int) ∧ say (FF ws) ((l + 1 : Nat) : Int) (wd ws t (k0 : Int)) = 2 ∧ nod ws p l (unF (wd ws t (k0 : Int))) v = some u ∧ t ≠ u ∧ (tabs ws l (unF (wd ws t (k0 : Int)))).Nodup ∧
      ∀ k : Nat, k < 8 → k ≠ k0 → u ∉ subt ws (l + 1) (wd ws t (k : Int)) := by
  rw [tabs_eq] at hd
  obtain ⟨hs, hn'⟩ := nod_down hn hv
  obtain ⟨k0, hk0, hk8⟩ := dg_nat p (l + 1)
  rw [hk0] at hs hn'
  have hum := (nod_mem l _ v u hn').2
  have hnd := List.nodup_cons.1 hd
  have hsub : subt ws (l + 1) (wd ws t (k0 : Int)) = tabs ws l (unF (wd ws t (k0 : Int))) := by simp only [subt, if_pos hs]
  have hum2 : u ∈ (List.range 8).flatMap fun k : Nat => subt ws (l + 1) (wd ws t (k : Int)) := List.mem_flatMap.2 ⟨k0, List.mem_range.2 hk8, by rw [hsub]; exact hum⟩
  obtain ⟨R1, q1, -, hm⟩ := flat_split 8 k0 (fun k => subt ws (l + 1) (wd ws t (k : Int))) (fun k => subt ws (l + 1) (wd ws t (k : Int))) hk8 (fun _ _ _ => rfl)
  have hnd2 := q1.nodup_iff.1 hnd.2
  rw [List.nodup_append] at hnd2
  refine ⟨k0, hk8, hk0, hs, hn', by rintro rfl; exact hnd.1 hum2, ?_, fun k hk hne hu => ?_⟩
  · have := hnd2.1; simp only [hsub] at this; exact this
  · exact hnd2.2.2 u (by show u ∈ subt ws (l + 1) (wd ws t (k0 : Int)); rw [hsub]; exact hum) u (hm k hk hne u hu) rfl
theorem self_out {l : Nat} {t : Int} (hd : (tabs ws l t).Nodup) (k : Nat) (hk : k < 8) : t ∉ subt ws l (wd ws t (k : Int)) := fun hu => by
  rw [tabs_eq] at hd
  exact (List.nodup_cons.1 hd).1 (List.mem_flatMap.2 ⟨k, List.mem_range.2 hk, hu⟩)
theorem wk_step_same (h : One ws ws' u i y) {l : Nat} {t q : Int} {k : Nat} (hk : dg q l = (k : Int)) (hw : wd ws' t (k : Int) = wd ws t (k : Int)) (hu : u ∉ subt ws l (wd ws t (k : Int))) : wk ws' q l t = wk ws q l t := by
  cases l with
  | zero => unfold wk; rw [hk, hw, h.len]
  | succ l =>
    rw [wk_succ, wk_succ, hk, hw, h.len]
    split
    · rename_i hs
      rw [wk_tabs q l _ (h.same fun hx => hu ?_)]
      simp only [subt]
      rw [if_pos (show say (FF ws) ((l + 1 : Nat) : Int) (wd ws t k) = 2 from hs)]
      exact hx
    · rfl
theorem wk_off (h : One ws ws' u i y) (hi : dg p v = (i : Int)) : ∀ (l : Nat) (t q : Int), nod ws p l t v = some u → (tabs ws l t).Nodup → q / 8 ^ (l + 1) = p / 8 ^ (l + 1) → q / 8 ^ v ≠ p / 8 ^ v → wk ws' q l t = wk ws q l t := by
  intro l
  induction l with
  | zero =>
    intro t q hn hd hq hne
    have hv : v = 0 := by have := (nod_mem 0 t v u hn).1; omega
    subst hv
    obtain ⟨k, hk, hk8⟩ := dg_nat q 0
    refine wk_step_same h hk (h.else_ t k hk8 ?_) (self_out hd k hk8 |> fun _ => by simp [subt])
    rintro ⟨-, rfl⟩
    apply hne
    rw [div_digit q 0, div_digit p 0, hq, hk, hi]
  | succ l ih =>
    intro t q hn hd hq hne
    obtain ⟨k, hk, hk8⟩ := dg_nat q (l + 1)
    by_cases hv : v = l + 1
    · subst hv
      rw [nod_here] at hn
      injection hn with hn
      subst hn
      refine wk_step_same h hk (h.else_ t k hk8 ?_) (self_out hd k hk8)
      rintro ⟨-, rfl⟩
      apply hne
      rw [div_digit q (l + 1), div_digit p (l + 1), hq, hk, hi]
    · obtain ⟨k0, hk08, hk0, hs, hn', htu, hd', hoff⟩ := nod_facts hd hn hv
      have hw : wd ws' t (k : Int) = wd ws t (k : Int) := h.else_ t k hk8 fun e => htu e.1
      by_cases hkk : k = k0
      · subst hkk
        have hq' : q / 8 ^ (l + 1) = p / 8 ^ (l + 1) := by rw [div_digit q (l + 1), div_digit p (l + 1), hq, hk, hk0]
        rw [wk_succ, wk_succ, hk, hw, h.len]
        rw [if_pos (show say ((ws.length : Int) / 8) ((l + 1 : Nat) : Int) (wd ws t k) = 2 from hs), if_pos (show say ((ws.length : Int) / 8) ((l + 1 : Nat) : Int) (wd ws t k) = 2 from hs), ih _ q hn' hd' hq' hne]
      · exact wk_step_same h hk hw (hoff k hk8 hkk)
theorem wk_on_ (h : One ws ws' u i y) : ∀ (l : Nat) (t q : Int), nod ws p l t v = some u → (tabs ws l t).Nodup → q / 8 ^ v = p / 8 ^ v → ∃ ts, wk ws q l t = app ts (wk ws q v u) ∧ wk ws' q l t = app ts (wk ws' q v u) := by
  intro l
  induction l with
  | zero =>
    intro t q hn hd hq
    have hv : v = 0 := by have := (nod_mem 0 t v u hn).1; omega
    subst hv
    rw [nod_here] at hn
    injection hn with hn
    subst hn
    exact ⟨[], (app_nil _).symm, (app_nil _).symm⟩
  | succ l ih =>
    intro t q hn hd hq
    by_cases hv : v = l + 1
    · subst hv
      rw [nod_here] at hn
      injection hn with hn
      subst hn
      exact ⟨[], (app_nil _).symm, (app_nil _).symm⟩
    · have hvl := (nod_mem (l + 1) t v u hn).1
      obtain ⟨k0, hk08, hk0, hs, hn', htu, hd', hoff⟩ := nod_facts hd hn hv
      have hk : dg q (l + 1) = (k0 : Int) := by rw [← hk0]; exact dg_same (v := v) hq (l + 1) hvl
      have hw : wd ws' t (k0 : Int) = wd ws t (k0 : Int) := h.else_ t k0 hk08 fun e => htu e.1
      obtain ⟨ts, e1, e2⟩ := ih _ q hn' hd' hq
      refine ⟨t :: ts, ?_, ?_⟩
      · rw [wk_on (by rw [hk]; exact hs), hk, e1, app_app]; rfl
      · rw [wk_on (by rw [hk, hw, h.len]; exact hs), hk, hw, e2, app_app]; rfl
theorem good_one (h : One ws ws' u i y) (hv0 : say (FF ws) (v : Int) y ≠ 0) (hy : ∀ m, v = m + 1 → say (FF ws) (v : Int) y = 2 → Good ws' m (unF y)) :
    ∀ (l : Nat) (t : Int), nod ws p l t v = some u → (tabs ws l t).Nodup → Good ws l t → Good ws' l t := by
  intro l
  induction l with
  | zero =>
    intro t hn hd hg
    have hv : v = 0 := by have := (nod_mem 0 t v u hn).1; omega
    subst hv
    rw [nod_here] at hn
    injection hn with hn
    subst hn
    refine ⟨by rw [h.ff]; exact hg.1, fun k hk => ?_⟩
    rw [h.ff]
    by_cases hki : k = i
    · subst hki; rw [h.at_]; exact hv0
    · rw [h.else_ t k hk fun e => hki e.2]; exact hg.2 k hk
  | succ l ih =>
    intro t hn hd hg
    by_cases hv : v = l + 1
    · subst hv
      rw [nod_here] at hn
      injection hn with hn
      subst hn
      refine ⟨by rw [h.ff]; exact hg.1, fun k hk => ?_⟩
      rw [h.ff]
      by_cases hki : k = i
      · subst hki; rw [h.at_]; exact ⟨hv0, fun hs => hy l rfl hs⟩
      · rw [h.else_ t k hk fun e => hki e.2]
        refine ⟨(hg.2 k hk).1, fun hs => good_same l _ (h.same fun hu => self_out hd k hk ?_) ((hg.2 k hk).2 hs)⟩
        simp only [subt, if_pos hs]
        exact hu
    · obtain ⟨k0, hk08, hk0, hs0, hn', htu, hd', hoff⟩ := nod_facts hd hn hv
      refine ⟨by rw [h.ff]; exact hg.1, fun k hk => ?_⟩
      rw [h.ff, h.else_ t k hk fun e => htu e.1]
      refine ⟨(hg.2 k hk).1, fun hs => ?_⟩
      by_cases hkk : k = k0
      · subst hkk; exact ih _ hn' hd' ((hg.2 k hk).2 hs)
      · refine good_same l _ (h.same fun hu => hoff k hk hkk ?_) ((hg.2 k hk).2 hs)
        simp only [subt, if_pos hs]
        exact hu
end
def lvs (ws : List Int) : Nat → Int → Int → List (Int × Nat × Int)
  | 0, t, b => (List.range 8).flatMap fun i : Nat => if say (FF ws) 0 (wd ws t (i : Int)) = 3 then [(b + i, 0, wd ws t (i : Int))] else []
  | l + 1, t, b => (List.range 8).flatMap fun i : Nat => if say (FF ws) ((l + 1 : Nat) : Int) (wd ws t (i : Int)) = 3 then [(b + i * 8 ^ (l + 1), l + 1, wd ws t (i : Int))]
    else if say (FF ws) ((l + 1 : Nat) : Int) (wd ws t (i : Int)) = 2 then lvs ws l (unF (wd ws t (i : Int))) (b + i * 8 ^ (l + 1)) else []
theorem flat_congr' {α : Type} {n : Nat} {f g : Nat → List α} (h : ∀ i, i < n → f i = g i) : (List.range n).flatMap f = (List.range n).flatMap g := by
  induction n with
  | zero => rfl
  | succ n ih =>
    rw [List.range_succ, List.flatMap_append, List.flatMap_append, ih fun i hi => h i (by omega)]
    simp [h n (by omega)]
end Go.Proofs.Ytpcpcgbejinlmaa
/- Plain facts of package table, without the program: words and entries; a huge leaf's eight parts, and walks through them. -/
namespace Go.Proofs.Ytpcpcgbejinlmaa
open Go.RowKit
theorem word_says (f : Int) (p w h k u d : Bool) (hc : chkI f p w h k u d = 0) : unOK (wordI f p w h k u d) = true ∧ unF (wordI f p w h k u d) = f ∧ unB (wordI f p w h k u d) 0 = p ∧ unB (wordI f p w h k u d) 1 = w ∧ unB (wordI f p w h k u d) 7 = h ∧ unB (wordI f p w h k u d) 9 = k ∧ unB (wordI f p w h k u d) 5 = u ∧ unB (wordI f p w h k u d) 6 = d := by
  have ho := word_ok f p w h k u d hc
  obtain ⟨a0, a1, a2, a3, a4, a5, a6⟩ := word_bits f p w h k u d
  refine ⟨ho, ?_, ?_, ?_, ?_, ?_, ?_, ?_⟩
  · unfold unF; rw [ho]; exact a0
  · unfold unB; rw [ho, a1]; rfl
  · unfold unB; rw [ho, a2]; rfl
  · unfold unB; rw [ho, a3]; rfl
  · unfold unB; rw [ho, a4]; rfl
  · unfold unB; rw [ho, a5]; rfl
  · unfold unB; rw [ho, a6]; rfl
theorem leaf_says {F l x : Int} (h : say F l x = 3) : unOK x = true ∧ (unB x 9 = true → l ≤ 0) ∧ (unB x 7 = true → l ≠ 0 ∧ l ≠ 3) ∧ noB (unF x) (unB x 0) (unB x 1) (unB x 7) (unB x 9) (unB x 5) (unB x 6) = false ∧ evB (unF x) (od l (unB x 7)) = true
    ∧ unF x ≤ F - 2 ^ (od l (unB x 7)).toNat ∧ (l = 0 ∨ unB x 7 = true) := by
  unfold say sayB at h
  split at h
  · omega
  rename_i h1
  split at h
  · omega
  rename_i h2
  split at h
  · omega
  rename_i h3
  split at h
  · omega
  rename_i h4
  split at h
  · omega
  rename_i h5
  split at h
  · rename_i h6
    simp only [Bool.not_eq_false, Bool.not_eq_true, not_or, Int.not_lt] at h1 h4 h5
    exact ⟨h1, fun k => Int.not_lt.1 fun g => h2 ⟨k, g⟩, fun k => ⟨fun e => h3 ⟨k, Or.inl e⟩, fun e => h3 ⟨k, Or.inr e⟩⟩, h4, h5.1, h5.2, h6⟩
  · omega
theorem say_leaf_of {F l x : Int} (h1 : unOK x = true) (h2 : unB x 9 = true → l ≤ 0) (h3 : unB x 7 = true → l ≠ 0 ∧ l ≠ 3) (h4 : noB (unF x) (unB x 0) (unB x 1) (unB x 7) (unB x 9) (unB x 5) (unB x 6) = false) (h5 : evB (unF x) (od l (unB x 7)) = true)
    (h6 : unF x ≤ F - 2 ^ (od l (unB x 7)).toNat) (h7 : l = 0 ∨ unB x 7 = true) : say F l x = 3 := by
  unfold say sayB
  rw [if_neg (by simp [h1]), if_neg (fun k => by have := h2 k.1; omega), if_neg (fun k => by have := h3 k.1; rcases k.2 with e | e; exact this.1 e; exact this.2 e), if_neg (by simp [h4]), if_neg (by simp [h5]; omega), if_pos h7]
def partW (x : Int) (v : Nat) (k : Nat) : Int := wordI (unF x + k * 8 ^ v) (unB x 0) (unB x 1) (decide (0 < v)) (unB x 9) (unB x 5) (unB x 6)
theorem huge_leaf {F x : Int} {v : Nat} (hv : v = 0 ∨ v = 1) (h : say F ((v + 1 : Nat) : Int) x = 3) : unB x 0 = true ∧ unB x 9 = false ∧ unB x 7 = true ∧ unF x % 8 ^ (v + 1) = 0 ∧ 0 ≤ unF x ∧ unF x + 8 ^ (v + 1) ≤ F := by
  obtain ⟨h1, h2, h3, h4, h5, h6, h7⟩ := leaf_says h
  have hh : unB x 7 = true := by
    rcases h7 with e | e
    · omega
    · exact e
  have hk : unB x 9 = false := by
    cases e : unB x 9
    · rfl
    · have := h2 e; omega
  have hp : unB x 0 = true := by
    rcases kinds h1 with ⟨_, _, _, e, _⟩ | ⟨e, _⟩ | ⟨_, e, _⟩
    · rw [hh] at e; cases e
    · exact e
    · rw [hk] at e; cases e
  have hf := un_frame x
  rw [hh] at h5 h6
  refine ⟨hp, hk, hh, ?_, hf.1, ?_⟩
  · rcases hv with rfl | rfl
    · simp [od, evB, ordB] at h5 ⊢; omega
    · simp [od, evB, ordB] at h5 ⊢; omega
  · rcases hv with rfl | rfl
    · simp [od] at h6 ⊢; omega
    · simp [od] at h6 ⊢; omega
theorem part_says {F x : Int} {v k : Nat} (hv : v = 0 ∨ v = 1) (hF : F ≤ 1024) (h : say F ((v + 1 : Nat) : Int) x = 3) (hk : k < 8) :
    chkI (unF x + k * 8 ^ v) (unB x 0) (unB x 1) (decide (0 < v)) (unB x 9) (unB x 5) (unB x 6) = 0 ∧ say F (v : Int) (partW x v k) = 3 ∧ unF (partW x v k) = unF x + k * 8 ^ v ∧ unB (partW x v k) 0 = true ∧ unB (partW x v k) 1 = unB x 1 ∧ unB (partW x v k) 7 = decide (0 < v) ∧ unB (partW x v k) 9 = false
      ∧ unB (partW x v k) 5 = unB x 5 ∧ unB (partW x v k) 6 = unB x 6 := by
  obtain ⟨hp, hk9, hh, hev, hf0, hf1⟩ := huge_leaf hv h
  have hb : (k : Int) * 8 ^ v ≤ 56 ∧ 0 ≤ (k : Int) * 8 ^ v ∧ (k : Int) * 8 ^ v + 8 ^ v ≤ 8 ^ (v + 1) ∧ (v = 0 ∨ (unF x + k * 8 ^ v) % 8 = 0) := by
    rcases hv with rfl | rfl
    · simp; omega
    · simp at hev ⊢; omega
  have hc : chkI (unF x + k * 8 ^ v) (unB x 0) (unB x 1) (decide (0 < v)) (unB x 9) (unB x 5) (unB x 6) = 0 := by
    unfold chkI
    rw [if_neg (by omega), if_neg (by have : (8 : Int) ^ v ≤ 8 := by rcases hv with rfl | rfl <;> simp
                                      omega), hp, hk9]
    rfl
  obtain ⟨s0, s1, s2, s3, s4, s5, s6, s7⟩ := word_says _ _ _ _ _ _ _ hc
  refine ⟨hc, ?_, s1, by rw [← hp]; exact s2, s3, s4, by rw [← hk9]; exact s5, s6, s7⟩
  have e0 : unB (partW x v k) 0 = true := s2.trans hp
  have e9 : unB (partW x v k) 9 = false := s5.trans hk9
  have e1 : unF (partW x v k) = unF x + k * 8 ^ v := s1
  have e7 : unB (partW x v k) 7 = decide (0 < v) := s4
  refine say_leaf_of s0 (by rw [e9]; simp) (by rw [e7]; rcases hv with rfl | rfl <;> simp) (by simp [noB, e0]) ?_ ?_ (by rw [e7]; rcases hv with rfl | rfl <;> simp)
  · rw [e7, e1]
    rcases hv with rfl | rfl
    · simp [od, evB, ordB]
    · simp [od, evB, ordB] at hb ⊢; omega
  · rw [e7, e1]
    rcases hv with rfl | rfl
    · simp [od] at hb hf1 ⊢; omega
    · simp [od] at hb hf1 ⊢; omega
end Go.Proofs.Ytpcpcgbejinlmaa
/- Plain facts of package table, without the program: the tables that a walk reads, one behind the other; one word of the last of them turns; two trees and a bag. -/
namespace Go.Proofs.Ytpcpcgbejinlmaa
open Go.RowKit
theorem app_ts {ts : List Int} {r : Fd} (h : r.er ≠ 5) : (app ts r).ts = ts ++ r.ts ∧ (app ts r).er = r.er ∧ (app ts r).lv = r.lv ∧ (app ts r).x = r.x := by unfold app; rw [if_neg h]; exact ⟨rfl, rfl, rfl, rfl⟩
theorem app_er {ts : List Int} {r : Fd} : (app ts r).er = r.er := by unfold app; split <;> rfl
theorem fin_ts {s : Int} {l : Nat} {x t i : Int} (h : (fin s l x t i).er ≠ 5) : (fin s l x t i).ts = [t] := by
  unfold fin at h ⊢
  split
  · rfl
  · split
    · rfl
    · rename_i h1 h2; rw [if_neg h1, if_neg h2] at h; exact absurd rfl h
section
variable {ws : List Int} {p : Int}
theorem nod_ts : ∀ (l : Nat) (t : Int), (wk ws p l t).er ≠ 5 → ∀ (k : Nat) (u : Int), (wk ws p l t).ts[k]? = some u → k ≤ l ∧ nod ws p l t (l - k) = some u := by
  intro l
  induction l with
  | zero =>
    intro t h k u hk
    unfold wk at h hk
    rw [fin_ts h] at hk
    match k with
    | 0 => injection hk with hk; subst hk; exact ⟨Nat.le_refl _, nod_here ..⟩
    | k + 1 => cases hk
  | succ l ih =>
    intro t h k u hk
    by_cases hs : say ((ws.length : Int) / 8) ((l + 1 : Nat) : Int) (wd ws t (dg p (l + 1))) = 2
    · rw [wk_on hs] at h hk
      have h5 : (wk ws p l (unF (wd ws t (dg p (l + 1))))).er ≠ 5 := by rwa [app_er] at h
      rw [(app_ts h5).1] at hk
      match k with
      | 0 => injection hk with hk; subst hk; exact ⟨Nat.zero_le _, nod_here ..⟩
      | k + 1 =>
        have hk' : (wk ws p l (unF (wd ws t (dg p (l + 1))))).ts[k]? = some u := hk
        obtain ⟨a, b⟩ := ih _ h5 k u hk'
        refine ⟨by omega, ?_⟩
        unfold nod
        rw [if_neg (by omega), if_pos (show say (FF ws) ((l + 1 : Nat) : Int) (wd ws t (dg p (l + 1))) = 2 from hs), show l + 1 - (k + 1) = l - k by omega]
        exact b
    · rw [wk_stop hs] at h hk
      rw [fin_ts h] at hk
      match k with
      | 0 => injection hk with hk; subst hk; exact ⟨Nat.zero_le _, nod_here ..⟩
      | k + 1 => cases hk
theorem ts_link : ∀ (l : Nat) (t : Int), (wk ws p l t).er ≠ 5 → ∀ (k : Nat) (u u' : Int), (wk ws p l t).ts[k]? = some u → (wk ws p l t).ts[k + 1]? = some u' → k < l ∧ say (FF ws) ((l - k : Nat) : Int) (wd ws u (dg p (l - k))) = 2 ∧ unF (wd ws u (dg p (l - k))) = u' := by
  intro l
  induction l with
  | zero =>
    intro t h k u u' hk hk'
    unfold wk at h hk'
    rw [fin_ts h] at hk'
    cases hk'
  | succ l ih =>
    intro t h k u u' hk hk'
    by_cases hs : say ((ws.length : Int) / 8) ((l + 1 : Nat) : Int) (wd ws t (dg p (l + 1))) = 2
    · rw [wk_on hs] at h hk hk'
      have h5 : (wk ws p l (unF (wd ws t (dg p (l + 1))))).er ≠ 5 := by rwa [app_er] at h
      rw [(app_ts h5).1] at hk hk'
      match k with
      | 0 =>
        injection hk with hk; subst hk
        obtain ⟨ts, ht⟩ := (wk_fine ws p l (unF (wd ws t (dg p (l + 1))))).head h5
        have hk2 : (wk ws p l (unF (wd ws t (dg p (l + 1))))).ts[0]? = some u' := hk'
        rw [ht] at hk2
        injection hk2 with hk2
        exact ⟨by omega, hs, hk2⟩
      | k + 1 =>
        have a : (wk ws p l (unF (wd ws t (dg p (l + 1))))).ts[k]? = some u := hk
        have b : (wk ws p l (unF (wd ws t (dg p (l + 1))))).ts[k + 1]? = some u' := hk'
        obtain ⟨c1, c2, c3⟩ := ih _ h5 k u u' a b
        rw [show l + 1 - (k + 1) = l - k by omega]
        exact ⟨by omega, c2, c3⟩
    · rw [wk_stop hs] at h hk'
      rw [fin_ts h] at hk'
      cases hk'
theorem ts_end : ∀ (l : Nat) (t : Int), (wk ws p l t).er ≠ 5 → ∀ u, (wk ws p l t).ts[(wk ws p l t).ts.length - 1]? = some u →
    ((wk ws p l t).er = 6 → say (FF ws) ((l + 1 - (wk ws p l t).ts.length : Nat) : Int) (wd ws u (dg p (l + 1 - (wk ws p l t).ts.length))) = 1) ∧
    ((wk ws p l t).er = 0 → (wk ws p l t).lv = l + 1 - (wk ws p l t).ts.length ∧ say (FF ws) ((wk ws p l t).lv : Int) (wd ws u (dg p (wk ws p l t).lv)) = 3 ∧ (wk ws p l t).x = wd ws u (dg p (wk ws p l t).lv)) := by
  have hfin : ∀ (l : Nat) (t : Int), say ((ws.length : Int) / 8) (l : Int) (wd ws t (dg p l)) ≠ 2 → (wk ws p l t).er ≠ 5 → ∀ u, (wk ws p l t).ts[(wk ws p l t).ts.length - 1]? = some u →
    ((wk ws p l t).er = 6 → say (FF ws) ((l + 1 - (wk ws p l t).ts.length : Nat) : Int) (wd ws u (dg p (l + 1 - (wk ws p l t).ts.length))) = 1) ∧
    ((wk ws p l t).er = 0 → (wk ws p l t).lv = l + 1 - (wk ws p l t).ts.length ∧ say (FF ws) ((wk ws p l t).lv : Int) (wd ws u (dg p (wk ws p l t).lv)) = 3 ∧ (wk ws p l t).x = wd ws u (dg p (wk ws p l t).lv)) := by
    intro l t hs h u hu
    rw [wk_stop hs] at h hu ⊢
    have hts := fin_ts h
    rw [hts] at hu ⊢
    injection hu with hu
    subst hu
    unfold fin at h ⊢
    by_cases h1 : say ((ws.length : Int) / 8) (l : Int) (wd ws t (dg p l)) = 1
    · rw [if_pos h1]
      refine ⟨fun _ => ?_, (fun e => by cases e)⟩
      show say (FF ws) ((l + 1 - 1 : Nat) : Int) (wd ws t (dg p (l + 1 - 1))) = 1
      rw [Nat.add_sub_cancel]; exact h1
    · rw [if_neg h1] at h ⊢
      by_cases h3 : say ((ws.length : Int) / 8) (l : Int) (wd ws t (dg p l)) = 3
      · rw [if_pos h3]
        exact ⟨(fun e => by cases e), fun _ => ⟨by show l = l + 1 - 1; omega, h3, rfl⟩⟩
      · rw [if_neg h3] at h; exact absurd rfl h
  intro l
  induction l with
  | zero =>
    intro t h u hu
    refine hfin 0 t ?_ h u hu
    intro e
    exact (say_further e).1 rfl
  | succ l ih =>
    intro t h u hu
    by_cases hs : say ((ws.length : Int) / 8) ((l + 1 : Nat) : Int) (wd ws t (dg p (l + 1))) = 2
    · rw [wk_on hs] at h hu ⊢
      have h5 : (wk ws p l (unF (wd ws t (dg p (l + 1))))).er ≠ 5 := by rwa [app_er] at h
      obtain ⟨a1, a2, a3, a4⟩ := app_ts (ts := [t]) h5
      obtain ⟨ts, ht⟩ := (wk_fine ws p l (unF (wd ws t (dg p (l + 1))))).head h5
      have hlen : 1 ≤ (wk ws p l (unF (wd ws t (dg p (l + 1))))).ts.length := by rw [ht]; simp
      rw [a1] at hu
      have hu' : (wk ws p l (unF (wd ws t (dg p (l + 1))))).ts[(wk ws p l (unF (wd ws t (dg p (l + 1))))).ts.length - 1]? = some u := by
        rw [List.length_append, List.length_singleton, List.getElem?_append_right (by simp; omega)] at hu
        rw [← hu]; congr 1; simp only [List.length_singleton]; omega
      obtain ⟨b1, b2⟩ := ih _ h5 u hu'
      rw [a1, a2, a3, a4, List.length_append, List.length_singleton, show l + 1 + 1 - (1 + (wk ws p l (unF (wd ws t (dg p (l + 1))))).ts.length) = l + 1 - (wk ws p l (unF (wd ws t (dg p (l + 1))))).ts.length by omega]
      exact ⟨b1, b2⟩
    · exact hfin (l + 1) t hs h u hu
end
theorem wd_set {ws : List Int} {t i v : Int} {a b : Nat} (hi : inT ws.length t i = true) (ha : t = a) (hb : i = b) : One ws (ptL ws t i 0 v) t b v := by
  subst ha hb
  obtain ⟨a', b', e1, e2, ha', hb'⟩ := inT_nat hi
  obtain rfl : a = a' := by omega
  obtain rfl : b = b' := by omega
  have hp : ptL ws (a : Int) (b : Int) 0 v = ws.set (8 * a + b) v := by
    unfold ptL
    rw [if_pos ⟨hi, rfl⟩]
    congr 1
  have hlen : (8 * a + b) < ws.length := by omega
  rw [hp]
  refine ⟨List.length_set, ?_, fun t k hk hne => ?_⟩
  · unfold wd
    rw [List.length_set, if_pos hi, show (8 * (a : Int) + (b : Int)).toNat = 8 * a + b by omega, List.getD_eq_getElem?_getD, List.getElem?_set]
    simp [hlen]
  · unfold wd
    rw [List.length_set]
    split
    · rename_i ht
      obtain ⟨x, y, ex, ey, hx, hy⟩ := inT_nat ht
      subst ex
      obtain rfl : k = y := by omega
      rw [show (8 * (x : Int) + (k : Int)).toNat = 8 * x + k by omega, List.getD_eq_getElem?_getD, List.getD_eq_getElem?_getD, List.getElem?_set, if_neg]
      intro e
      exact hne ⟨by congr 1; omega, by omega⟩
    · rfl
theorem perm_mid {L S R Q : List Int} : (L ++ ((S ++ R) ++ Q)).Perm (S ++ (L ++ (R ++ Q))) := by
  rw [List.append_assoc S R Q, ← List.append_assoc L S, ← List.append_assoc S L]
  exact List.perm_append_comm.append_right _
structure Inv (ws L : List Int) (r q : Int) : Prop where
  len : ws.length = 4096
  gr : Good ws 3 r
  gq : Good ws 3 q
  nd : (L ++ (tabs ws 3 r ++ tabs ws 3 q)).Nodup
  fr : ∀ f ∈ L, 0 ≤ f ∧ f < 512
theorem Inv.ff {ws L : List Int} {r q : Int} (h : Inv ws L r q) : FF ws = 512 := by unfold FF; rw [h.len]; rfl
theorem Inv.swap {ws L : List Int} {r q : Int} (h : Inv ws L r q) : Inv ws L q r :=
  ⟨h.len, h.gq, h.gr, (List.Perm.append_left L List.perm_append_comm).nodup_iff.1 h.nd, h.fr⟩
def allF (ws L : List Int) (r q : Int) : List Int := L ++ (tabs ws 3 r ++ tabs ws 3 q)
section
variable {ws ws' L L' : List Int} {p r q u y : Int} {i v : Nat}
theorem Inv.parts (h : Inv ws L r q) : L.Nodup ∧ (tabs ws 3 r).Nodup ∧ (tabs ws 3 q).Nodup ∧ (∀ f ∈ L, f ∉ tabs ws 3 r ∧ f ∉ tabs ws 3 q) ∧ ∀ f ∈ tabs ws 3 r, f ∉ tabs ws 3 q := by
  have h1 := List.nodup_append.1 h.nd
  have h2 := List.nodup_append.1 h1.2.1
  refine ⟨h1.1, h2.1, h2.2.1, fun f hf => ⟨fun e => h1.2.2 f hf f (List.mem_append.2 (Or.inl e)) rfl, fun e => h1.2.2 f hf f (List.mem_append.2 (Or.inr e)) rfl⟩, fun f hf e => h2.2.2 f hf f e rfl⟩
theorem Inv.one (h : Inv ws L r q) (hn : nod ws p 3 r v = some u) (hi : dg p v = (i : Int)) (hi8 : i < 8) (ho : One ws ws' u i y) (hv0 : say (FF ws) (v : Int) y ≠ 0) (hy : ∀ m, v = m + 1 → say (FF ws) (v : Int) y = 2 → Good ws' m (unF y))
    (hP : ∀ R, (subt ws v (wd ws u (i : Int)) ++ (L ++ R)).Perm (subt ws' v y ++ (L' ++ R))) (hfr : ∀ f ∈ L', 0 ≤ f ∧ f < 512) :
    Inv ws' L' r q ∧ (allF ws L r q).Perm (allF ws' L' r q) ∧ SameOn ws ws' (tabs ws 3 q) := by
  obtain ⟨n1, n2, n3, n4, n5⟩ := h.parts
  have hu := (nod_mem 3 r v u hn).2
  have hq : SameOn ws ws' (tabs ws 3 q) := ho.same (n5 u hu)
  have hg := good_one ho hv0 hy 3 r hn n2 h.gr
  obtain ⟨R, p1, p2⟩ := tabs_one ho hi hi8 3 r hn n2
  have hqt := tabs_same 3 q hq
  have hperm : (allF ws L r q).Perm (allF ws' L' r q) := by
    unfold allF
    rw [hqt]
    have a1 : (L ++ (tabs ws 3 r ++ tabs ws 3 q)).Perm (subt ws v (wd ws u (i : Int)) ++ (L ++ (R ++ tabs ws 3 q))) := by
      exact (List.Perm.append_left L (p1.append_right _)).trans perm_mid
    have a2 : (L' ++ (tabs ws' 3 r ++ tabs ws 3 q)).Perm (subt ws' v y ++ (L' ++ (R ++ tabs ws 3 q))) := by
      exact (List.Perm.append_left L' (p2.append_right _)).trans perm_mid
    exact (a1.trans (hP _)).trans a2.symm
  refine ⟨⟨by rw [ho.len]; exact h.len, hg, good_same 3 q hq h.gq, (show (allF ws' L' r q).Nodup from hperm.nodup_iff.1 h.nd), hfr⟩, hperm, hq⟩
theorem Inv.apart (h : Inv ws L r q) (hr : SameOn ws ws' (tabs ws 3 r)) (hq : SameOn ws ws' (tabs ws 3 q)) : Inv ws' L r q ∧ allF ws' L r q = allF ws L r q := by
  have e1 := tabs_same 3 r hr
  have e2 := tabs_same 3 q hq
  refine ⟨⟨by rw [hr.1]; exact h.len, good_same 3 r hr h.gr, good_same 3 q hq h.gq, by rw [e1, e2]; exact h.nd, h.fr⟩, by unfold allF; rw [e1, e2]⟩
theorem Inv.inT (h : Inv ws L r q) {t : Int} (ht : t ∈ tabs ws 3 r) {k : Nat} (hk : k < 8) : inT ws.length t (k : Int) = true := by
  have := tabs_frames 3 r h.gr t ht
  rw [h.ff] at this
  rw [inT_iff, h.len]
  omega
end
theorem subt_leaf {ws : List Int} {v : Nat} {x : Int} (h : say (FF ws) (v : Int) x ≠ 2) : subt ws v x = [] := by
  cases v with
  | zero => rfl
  | succ v => simp only [subt]; rw [if_neg h]
theorem say_zero (F l : Int) : say F l 0 = 1 := by
  have h : unOK 0 = true := by decide
  have hb : ∀ b, unB 0 b = false := fun b => by unfold unB; simp [onB]
  have hf : unF 0 = 0 := by decide
  unfold say sayB
  rw [h, hf]
  simp [hb, noB]
theorem link_says {F l f : Int} (hl : l = 1 ∨ l = 2 ∨ l = 3) (h0 : 0 ≤ f) (h1 : f < F) (hF : F ≤ 1024) : say F l (wordI f true false false false false false) = 2 ∧ unF (wordI f true false false false false false) = f := by
  have hc : chkI f true false false false false false = 0 := by
    unfold chkI; rw [if_neg (by omega), if_neg (by omega)]; rfl
  obtain ⟨s0, s1, s2, s3, s4, s5, s6, s7⟩ := word_says _ _ _ _ _ _ _ hc
  refine ⟨?_, s1⟩
  unfold say sayB
  rw [s0, s1, s2, s3, s4, s5, s6, s7]
  rw [if_neg (by simp), if_neg (by simp), if_neg (by simp), if_neg (by simp [noB]), if_neg (by simp [od, evB, ordB]; omega), if_neg (by simp; omega)]
theorem tabs_zero {ws : List Int} {t : Int} (h : ∀ i : Nat, i < 8 → wd ws t (i : Int) = 0) : ∀ l, tabs ws l t = [t] ∧ (0 ≤ t → t < FF ws → Good ws l t) := by
  intro l
  refine ⟨?_, fun h0 h1 => ?_⟩
  · rw [tabs_eq, flat_nil 8 _ fun i hi => by rw [h i hi]; exact subt_leaf (by rw [say_zero]; decide)]
  · cases l with
    | zero => exact ⟨⟨h0, h1⟩, fun i hi => by rw [h i hi, say_zero]; decide⟩
    | succ l => exact ⟨⟨h0, h1⟩, fun i hi => by rw [h i hi, say_zero]; exact ⟨by decide, fun e => by cases e⟩⟩
end Go.Proofs.Ytpcpcgbejinlmaa
